/-
  A region that draws its order and holds guarded operations whose guards are known; each theorem names its conditions.
  A region that draws its order, in short: the operations that only read and work out values by one theorem, what they read checked by a Bool; each theorem names its conditions.
  Boxes of two cells that a call has made, later on; each theorem names its conditions.
  Small facts for regions that draw their order and leave the boxes that they read as they are; each theorem names its conditions.
-/
import Derived.Test.YtpfhnedklihdoaaGreatDoorJAN
import Derived.Test.YtpfhnedklihdoaaGreatDoorJAB
namespace Go.Proofs.YtpfhnedklihdoaaGreatDoor
open Go.ChangeShapes Go.WideShapes Go.ChangeAt Go.RowKit
set_option linter.unusedVariables false

section
variable {ops : Array Oper} {acts : List Nat} {av : Nat → Option Nat} {val0 : Nat → Value} {Wd : Nat → (Nat → Value) → World → Prop} {a0 : Act} {Q : Exit → Act → World → Prop}
theorem yl_of {a : Act} {j d : Nat} {v : Bool} (hd : dstOf ops j = some d) (hs : d < a.tmps.size) (he : a.eval (.tmp d) = .bool v) : yielded ops a.tmps j = some v := by
  have h1 : a.tmps.getD d undef = .bool v := he
  rw [Array.getD_eq_getD_getElem?, Array.getElem?_eq_getElem hs] at h1
  simp only [Option.getD_some] at h1
  unfold yielded
  unfold dstOf at hd
  rw [hd]
  simp only [Option.bind_some, Array.getElem?_eq_getElem hs, h1]
theorem wanted_of {o : Oper} {j : Nat} {b v : Bool} {a : Act} (hg : o.guard = some (j, b)) (hy : yielded ops a.tmps j = some v) : Region.wanted o (yielded ops a.tmps) = (v == b) := by
  unfold Region.wanted
  rw [hg]
  simp [hy]
/-- Its guard itself was not wanted. -/
theorem wanted_un {o : Oper} {j d : Nat} {b : Bool} {a : Act} (hg : o.guard = some (j, b)) (hd : dstOf ops j = some d) (hs : d < a.tmps.size) (he : a.eval (.tmp d) = undef) : Region.wanted o (yielded ops a.tmps) = false := by
  have h1 : a.tmps.getD d undef = undef := he
  rw [Array.getD_eq_getD_getElem?, Array.getElem?_eq_getElem hs] at h1
  simp only [Option.getD_some] at h1
  have hy : yielded ops a.tmps j = none := by
    unfold yielded
    unfold dstOf at hd
    rw [hd]
    simp only [Option.bind_some, Array.getElem?_eq_getElem hs, h1]
    rfl
  unfold Region.wanted
  rw [hg]
  simp [hy]
/-- A guarded operation that is wanted and leaves the world alone. -/
theorem st_pureW {γ : Nat → Value} {listed : Array Bool} {a : Act} {w : World} {i d : Nat} {o : Oper} (hF : FrI ops (valG av val0 γ) a0 listed a) (hC : Clo ops listed) (hW : Wd (phase listed acts) γ w) (ho : ops[i]? = some o) (h2 : ∀ e ∈ o.after, Region.binds .any e = true → listed.getD e.on false = true)
    (hna : i ∉ acts) (hd : o.dst = some d) (hw : Region.wanted o (yielded ops a.tmps) = true) (hav : av d = none) (hrun : (execOp a.eval o).run Tryz.prog w = .ok (.value (val0 d)) w) : wpOp Tryz.prog ops Q i (fun a' w' => InvG ops acts av val0 Wd a0 (listed.setIfInBounds i true) a' w') a w := by
  have hi := hF.lt ho
  unfold wpOp
  rw [ho]
  simp only [hw, if_true]
  refine Or.inl ?_
  unfold Oper.wp
  rw [hrun]
  have e : valG av val0 γ d = val0 d := by unfold valG; rw [hav]
  refine ⟨γ, ?_, hC.set hi ho h2, by rw [phase_ne hi acts hna]; exact hW⟩
  have := hF.put ho hd
  rw [e] at this
  exact this
theorem st_callW {γ : Nat → Value} {listed : Array Bool} {a : Act} {w : World} {i d : Nat} {o : Oper} {f : FuncId} {args : Array Value} (hF : FrI ops (valG av val0 γ) a0 listed a) (hC : Clo ops listed) (hW : Wd (phase listed acts) γ w) (ho : ops[i]? = some o) (h2 : ∀ e ∈ o.after, Region.binds .any e = true → listed.getD e.on false = true)
    (hna : i ∉ acts) (hd : o.dst = some d) (hw : Region.wanted o (yielded ops a.tmps) = true) (hav : av d = none) (hrun : (execOp a.eval o).run Tryz.prog w = .ok (.enter f args) w) (hc : Calls Tryz.prog f args w fun e w' => e = .returned (val0 d) ∧ Kp w w') (hk : ∀ w', Kp w w' → Wd (phase listed acts) γ w') :
    wpOp Tryz.prog ops Q i (fun a' w' => InvG ops acts av val0 Wd a0 (listed.setIfInBounds i true) a' w') a w := by
  have hi := hF.lt ho
  unfold wpOp
  rw [ho]
  simp only [hw, if_true]
  refine Or.inl ?_
  unfold Oper.wp
  rw [hrun]
  have e : valG av val0 γ d = val0 d := by unfold valG; rw [hav]
  refine Calls.mono hc ?_
  rintro e' w' ⟨rfl, hkk⟩
  refine ⟨γ, ?_, hC.set hi ho h2, by rw [phase_ne hi acts hna]; exact hk w' hkk⟩
  have := hF.put ho hd
  rw [e] at this
  exact this
/-- A guarded operation that is not wanted. -/
theorem st_skipW {γ : Nat → Value} {listed : Array Bool} {a : Act} {w : World} {i d : Nat} {o : Oper} (hF : FrI ops (valG av val0 γ) a0 listed a) (hC : Clo ops listed) (hW : Wd (phase listed acts) γ w) (ho : ops[i]? = some o) (h2 : ∀ e ∈ o.after, Region.binds .any e = true → listed.getD e.on false = true)
    (hna : i ∉ acts) (hd : o.dst = some d) (hw : Region.wanted o (yielded ops a.tmps) = false) (hav : av d = none) (hv : val0 d = undef) : wpOp Tryz.prog ops Q i (fun a' w' => InvG ops acts av val0 Wd a0 (listed.setIfInBounds i true) a' w') a w := by
  have hi := hF.lt ho
  unfold wpOp
  rw [ho]
  simp only [hw, Bool.false_eq_true, if_false]
  have e : valG av val0 γ d = undef := by unfold valG; rw [hav]; exact hv
  refine ⟨γ, ?_, hC.set hi ho h2, by rw [phase_ne hi acts hna]; exact hW⟩
  have := hF.put ho hd
  rw [e] at this
  exact this
end
end Go.Proofs.YtpfhnedklihdoaaGreatDoor
namespace Go.Proofs.YtpfhnedklihdoaaGreatDoor
open Go.ChangeShapes Go.WideShapes Go.ChangeAt Go.RowKit
set_option linter.unusedVariables false

/-- What an operation reads. -/
def readsOf : Op → Option (List Operand)
  | .move x => some [x]
  | .assign x => some [x]
  | .nilCheck x => some [x]
  | .pick c a b => some [c, a, b]
  | .build _ ps => some (ps.toList.map (·.2))
  | .load _ a => some [a]
  | .binOp _ _ x y _ => some [x, y]
  | .unOp _ _ x => some [x]
  | .fieldAddr _ x _ => some [x]
  | .indexAddr _ x ix => some [x, ix]
  | .extract t _ => some [t]
  | .call c => match c.callee with
    | .builtin _ => some c.args.toList
    | _ => none
  | _ => none
theorem map_same {α β : Type} {f g : α → β} {l : Array α} (h : ∀ x ∈ l.toList, f x = g x) : l.map f = l.map g := by
  apply Array.ext'
  rw [Array.toList_map, Array.toList_map]
  exact List.map_congr_left h
theorem exec_same {ρ ρ' : Operand → Value} {o : Oper} {l : List Operand} (h : readsOf o.op = some l) (he : ∀ x ∈ l, ρ x = ρ' x) : execOp ρ o = execOp ρ' o := by
  unfold execOp
  cases ho : o.op <;> rw [ho] at h <;> simp only [readsOf, Option.some.injEq, reduceCtorEq] at h
  case build t ps =>
    subst h
    have e : ps.map (fun (p : Nat × Operand) => (p.1, ρ p.2)) = ps.map (fun (p : Nat × Operand) => (p.1, ρ' p.2)) := map_same fun x hx => by rw [he x.2 (List.mem_map.2 ⟨x, hx, rfl⟩)]
    show (do let x ← Instr.build t (ps.map (fun (p : Nat × Operand) => (p.1, ρ p.2))); pure (Next.value x) : Sem Next) = _
    rw [e]
  case call c =>
    cases hc : c.callee <;> rw [hc] at h <;> simp only [Option.some.injEq, reduceCtorEq] at h
    subst h
    have e : c.args.map ρ = c.args.map ρ' := map_same he
    simp only [resolve, hc, e]
  all_goals
    subst h
    simp only [List.mem_cons, List.not_mem_nil, or_false, forall_eq_or_imp, forall_eq] at he
    simp only [he]
/-- The values that operands stand for. -/
def envR (v : Nat → Value) : Operand → Value
  | .tmp n => v n
  | .const c => c
  | .global g => .pointer (some ⟨g, 0, none⟩)
  | .func f => .func (.func f) #[] #[]
/-- The value of an operand is known when operation i comes up. -/
def srcB (ops : Array Oper) (av : Nat → Option Nat) (ini : List Nat) (nt i : Nat) : Operand → Bool
  | .tmp n => decide (n < nt) && ((List.range ops.size).any (fun j => waitsB ops i j && decide (dstOf ops j = some n)) || (decide (n ∈ ini) && (av n).isNone && (List.range ops.size).all (fun j => dstOf ops j != some n)))
  | _ => true
def tri (o : Oper) : Option Nat × Op × Option (Nat × Bool) := (o.dst, o.op, o.guard)
section
variable {ops : Array Oper} {acts : List Nat} {av : Nat → Option Nat} {val0 : Nat → Value} {Wd : Nat → (Nat → Value) → World → Prop} {a0 : Act} {Q : Exit → Act → World → Prop} {L : List (Option Nat × Op × Option (Nat × Bool))} {ini : List Nat} {nt : Nat}
theorem fieldsL (hL : ops.toList.map tri = L) {i : Nat} {o : Oper} {x : Option Nat} {y : Op} {z : Option (Nat × Bool)} (h : L[i]? = some (x, y, z)) (ho : ops[i]? = some o) : o.dst = x ∧ o.op = y ∧ o.guard = z := by
  rw [← hL, List.getElem?_map, Array.getElem?_toList, ho] at h
  simp only [Option.map_some, Option.some.injEq, tri, Prod.mk.injEq] at h
  exact h
theorem dstL (hL : ops.toList.map tri = L) {i d : Nat} (h : (L[i]?).bind (·.1) = some d) : dstOf ops i = some d := by
  rw [← hL, List.getElem?_map, Array.getElem?_toList] at h
  unfold dstOf
  cases ho : ops[i]? with
  | none => rw [ho] at h; cases h
  | some o => rw [ho] at h; exact h
theorem known {γ : Nat → Value} {listed : Array Bool} {a : Act} {i : Nat} {o : Oper} (hF : FrI ops (valG av val0 γ) a0 listed a) (ho : ops[i]? = some o) (h2 : ∀ e ∈ o.after, Region.binds .any e = true → listed.getD e.on false = true)
    (hI : ∀ n ∈ ini, a0.eval (.tmp n) = val0 n) (hs : a0.tmps.size = nt) {x : Operand} (h : srcB ops av ini nt i x = true) : a.eval x = envR (valG av val0 γ) x := by
  cases x with
  | tmp n =>
    simp only [srcB, Bool.and_eq_true, Bool.or_eq_true, decide_eq_true_eq, List.any_eq_true] at h
    obtain ⟨hn, ⟨j, _, hw, hd⟩ | ⟨⟨hm, hv⟩, hno⟩⟩ := h
    · exact slotG hF ho h2 hw hd (by rw [hs]; exact hn)
    · rw [hF.eval0 hno, hI n hm]
      show val0 n = valG av val0 γ n
      unfold valG
      rw [Option.isNone_iff_eq_none.1 hv]
  | const c => rfl
  | global g => rfl
  | func f => rfl
def injK (ops : Array Oper) (av : Nat → Option Nat) (i k : Nat) : Bool := (List.range ops.size).all (fun j => decide (j = i) || !(match dstOf ops j with | some d => decide (av d = some k) | none => false))
theorem injG {listed : Array Bool} {i k : Nat} (h : injK ops av i k = true) (hu : listed.getD i false = false) : ∀ d, got ops listed d → av d ≠ some k := by
  rintro d ⟨j, h1, h2⟩ h3
  have hlt : j < ops.size := by
    rcases Nat.lt_or_ge j ops.size with h4 | h4
    · exact h4
    · unfold dstOf at h2; rw [Array.getElem?_eq_none h4] at h2; cases h2
  have h5 := List.all_eq_true.1 h j (List.mem_range.2 hlt)
  rw [h2] at h5
  simp only [h3, decide_true, Bool.not_true, Bool.or_false, decide_eq_true_eq] at h5
  subst h5
  rw [hu] at h1
  cases h1
/-- What is checked of an operation that only reads. -/
def plainB (ops : Array Oper) (acts : List Nat) (av : Nat → Option Nat) (ini : List Nat) (nt i d : Nat) (y : Op) : Bool :=
  decide (i ∉ acts) && (av d).isNone && match readsOf y with | some l => l.all (srcB ops av ini nt i) | none => false
theorem plain_run {γ : Nat → Value} {listed : Array Bool} {a : Act} {i d : Nat} {o : Oper} {y : Op} (hF : FrI ops (valG av val0 γ) a0 listed a) (ho : ops[i]? = some o) (h2 : ∀ e ∈ o.after, Region.binds .any e = true → listed.getD e.on false = true)
    (hI : ∀ n ∈ ini, a0.eval (.tmp n) = val0 n) (hs : a0.tmps.size = nt) (hop : o.op = y) (hk : plainB ops acts av ini nt i d y = true) : i ∉ acts ∧ av d = none ∧ execOp a.eval o = execOp (envR (valG av val0 γ)) o := by
  unfold plainB at hk
  simp only [Bool.and_eq_true, decide_eq_true_eq] at hk
  obtain ⟨⟨h3, h4⟩, h5⟩ := hk
  refine ⟨h3, Option.isNone_iff_eq_none.1 h4, ?_⟩
  cases hr : readsOf y with
  | none => rw [hr] at h5; cases h5
  | some l =>
    rw [hr] at h5
    rw [← hop] at hr
    exact exec_same hr fun x hx => known hF ho h2 hI hs (List.all_eq_true.1 h5 x hx)
/-- An operation that only reads. -/
theorem st_plain (hL : ops.toList.map tri = L) (hI : ∀ n ∈ ini, a0.eval (.tmp n) = val0 n) (hs : a0.tmps.size = nt) {i d : Nat} {y : Op} (hl : L[i]? = some (some d, y, none)) (hk : plainB ops acts av ini nt i d y = true)
    (hx : ∀ γ w n (o : Oper), Wd n γ w → o.op = y → (execOp (envR (valG av val0 γ)) o).run Tryz.prog w = .ok (.value (val0 d)) w) : StepG ops acts av val0 Wd a0 Q i := by
  intro γ listed a w o hF hC hW h1 ho h2
  obtain ⟨hd, hop, hg⟩ := fieldsL hL hl ho
  obtain ⟨h3, h4, h5⟩ := plain_run hF ho h2 hI hs hop hk
  exact st_pureG hF hC hW ho h2 h3 hd hg h4 (by rw [h5]; exact hx γ w _ o hW hop)
/-- A guarded one that is wanted. -/
theorem st_plainW (hL : ops.toList.map tri = L) (hI : ∀ n ∈ ini, a0.eval (.tmp n) = val0 n) (hs : a0.tmps.size = nt) {i d gj gs : Nat} {gb : Bool} {y : Op} (hl : L[i]? = some (some d, y, some (gj, gb))) (hj : (L[gj]?).bind (·.1) = some gs) (hv : val0 gs = .bool gb) (hk : ((av gs).isNone && srcB ops av ini nt i (.tmp gs) && plainB ops acts av ini nt i d y) = true)
    (hx : ∀ γ w n (o : Oper), Wd n γ w → o.op = y → (execOp (envR (valG av val0 γ)) o).run Tryz.prog w = .ok (.value (val0 d)) w) : StepG ops acts av val0 Wd a0 Q i := by
  intro γ listed a w o hF hC hW h1 ho h2
  obtain ⟨hd, hop, hg⟩ := fieldsL hL hl ho
  simp only [Bool.and_eq_true] at hk
  obtain ⟨⟨k1, k2⟩, k3⟩ := hk
  obtain ⟨h3, h4, h5⟩ := plain_run hF ho h2 hI hs hop k3
  have eg : a.eval (.tmp gs) = .bool gb := by
    rw [known hF ho h2 hI hs k2]
    show valG av val0 γ gs = _
    unfold valG
    rw [Option.isNone_iff_eq_none.1 k1]
    exact hv
  have hlt : gs < nt := by
    simp only [srcB, Bool.and_eq_true, decide_eq_true_eq] at k2
    exact k2.1
  have hw := wanted_of (ops := ops) hg (yl_of (dstL hL hj) (by rw [hF.tsize, hs]; exact hlt) eg)
  exact st_pureW hF hC hW ho h2 h3 hd (hw.trans (by simp)) h4 (by rw [h5]; exact hx γ w _ o hW hop)
/-- A guarded one that is not wanted. -/
theorem st_plainS (hL : ops.toList.map tri = L) (hI : ∀ n ∈ ini, a0.eval (.tmp n) = val0 n) (hs : a0.tmps.size = nt) {i d gj gs : Nat} {gb : Bool} {y : Op} (hl : L[i]? = some (some d, y, some (gj, gb))) (hj : (L[gj]?).bind (·.1) = some gs) (hv : val0 gs = .bool !gb ∨ val0 gs = undef) (hk : (decide (i ∉ acts) && (av d).isNone && (av gs).isNone && srcB ops av ini nt i (.tmp gs)) = true) (hu : val0 d = undef) : StepG ops acts av val0 Wd a0 Q i := by
  intro γ listed a w o hF hC hW h1 ho h2
  obtain ⟨hd, hop, hg⟩ := fieldsL hL hl ho
  simp only [Bool.and_eq_true, decide_eq_true_eq] at hk
  obtain ⟨⟨⟨h3, h4⟩, k1⟩, k2⟩ := hk
  have eg : a.eval (.tmp gs) = val0 gs := by
    rw [known hF ho h2 hI hs k2]
    show valG av val0 γ gs = _
    unfold valG
    rw [Option.isNone_iff_eq_none.1 k1]
  have hlt : gs < a.tmps.size := by
    simp only [srcB, Bool.and_eq_true, decide_eq_true_eq] at k2
    rw [hF.tsize, hs]
    exact k2.1
  have hw : Region.wanted o (yielded ops a.tmps) = false := by
    rcases hv with hv | hv <;> rw [hv] at eg
    · have h := wanted_of (ops := ops) hg (yl_of (dstL hL hj) hlt eg)
      rw [h]
      cases gb <;> rfl
    · exact wanted_un (ops := ops) hg (dstL hL hj) hlt eg
  exact st_skipW hF hC hW ho h2 h3 hd hw (Option.isNone_iff_eq_none.1 h4) hu
/-! ### Ahead of an acting one -/
def afterOf (ops : Array Oper) (k : Nat) : List Nat := match ops[k]? with | some o => (o.after.toList.filter (fun e => Region.binds .any e)).map (·.on) | none => []
theorem after_waits {k j : Nat} (h : j ∈ afterOf ops k) : waitsB ops k j = true := by
  unfold afterOf at h
  unfold waitsB
  cases ho : ops[k]? with
  | none => rw [ho] at h; cases h
  | some o =>
    rw [ho] at h
    obtain ⟨e, he, rfl⟩ := List.mem_map.1 h
    obtain ⟨h1, h2⟩ := List.mem_filter.1 he
    show (o.after.any _) = true
    rw [Array.any_eq_true]
    obtain ⟨x, hx, hxe⟩ := List.getElem_of_mem h1
    refine ⟨x, by simpa using hx, ?_⟩
    have e1 : o.after[x]'(by simpa using hx) = e := by simpa using hxe
    rw [e1]
    simp [h2]
/-- What operations below k wait for, those of l among them. -/
def ancs (ops : Array Oper) : Nat → List Nat → List Nat
  | 0, l => l
  | k + 1, l => ancs ops k (if k ∈ l then l ++ afterOf ops k else l)
theorem ancs_listed {listed : Array Bool} (hC : Clo ops listed) : ∀ (k : Nat) (l : List Nat), (∀ j ∈ l, listed.getD j false = true) → ∀ j ∈ ancs ops k l, listed.getD j false = true
  | 0, _, h, j, hj => h j hj
  | k + 1, l, h, j, hj => by
    refine ancs_listed hC k _ ?_ j hj
    intro x hx
    by_cases hk : k ∈ l
    · rw [if_pos hk] at hx
      rcases List.mem_append.1 hx with h1 | h1
      · exact h x h1
      · exact hC k x (h k hk) (after_waits h1)
    · rw [if_neg hk] at hx
      exact h x hx
def aheadB (ops : Array Oper) (acts : List Nat) (m i : Nat) : Bool := match acts[m]? with | some x => decide (i ∈ ancs ops (x + 1) [x]) | none => false
theorem phase_leM {listed : Array Bool} {i m : Nat} (hC : Clo ops listed) (hu : listed.getD i false = false) (h : aheadB ops acts m i = true) : phase listed acts ≤ m := by
  unfold aheadB at h
  cases hm : acts[m]? with
  | none => rw [hm] at h; cases h
  | some x =>
    rw [hm] at h
    refine phase_at acts m x hm ?_
    cases hl : listed.getD x false with
    | false => rfl
    | true =>
      have := ancs_listed hC (x + 1) [x] (fun j hj => by rw [List.mem_singleton.1 hj]; exact hl) i (of_decide_eq_true h)
      rw [hu] at this
      cases this
/-- An operation that only reads, ahead of the acting one number m. -/
theorem st_plainM {m : Nat} (hL : ops.toList.map tri = L) (hI : ∀ n ∈ ini, a0.eval (.tmp n) = val0 n) (hs : a0.tmps.size = nt) {i d : Nat} {y : Op} (hl : L[i]? = some (some d, y, none)) (hk : (aheadB ops acts m i && plainB ops acts av ini nt i d y) = true)
    (hx : ∀ γ w n (o : Oper), n ≤ m → Wd n γ w → o.op = y → (execOp (envR (valG av val0 γ)) o).run Tryz.prog w = .ok (.value (val0 d)) w) : StepG ops acts av val0 Wd a0 Q i := by
  intro γ listed a w o hF hC hW h1 ho h2
  obtain ⟨hd, hop, hg⟩ := fieldsL hL hl ho
  rw [Bool.and_eq_true] at hk
  obtain ⟨h3, h4, h5⟩ := plain_run hF ho h2 hI hs hop hk.2
  exact st_pureG hF hC hW ho h2 h3 hd hg h4 (by rw [h5]; exact hx γ w _ o (phase_leM hC (unl (hF.lt ho) h1) hk.1) hW hop)
def callB (ops : Array Oper) (acts : List Nat) (av : Nat → Option Nat) (ini : List Nat) (nt i d : Nat) (args : Array Operand) : Bool :=
  decide (i ∉ acts) && (av d).isNone && args.toList.all (srcB ops av ini nt i)
theorem call_run {γ : Nat → Value} {listed : Array Bool} {a : Act} {w : World} {i d : Nat} {o : Oper} {f : FuncId} {args : Array Operand} {ts : Array TypeId} (hF : FrI ops (valG av val0 γ) a0 listed a) (ho : ops[i]? = some o) (h2 : ∀ e ∈ o.after, Region.binds .any e = true → listed.getD e.on false = true)
    (hI : ∀ n ∈ ini, a0.eval (.tmp n) = val0 n) (hs : a0.tmps.size = nt) (hop : o.op = .call { callee := .value (.func f), args := args, argTypes := ts }) (hk : callB ops acts av ini nt i d args = true) (hf : ∀ v w, (callFunc f v).run Tryz.prog w = .ok (.enter f v) w) :
    i ∉ acts ∧ av d = none ∧ (execOp a.eval o).run Tryz.prog w = .ok (.enter f (args.toList.map (envR (valG av val0 γ))).toArray) w := by
  unfold callB at hk
  simp only [Bool.and_eq_true, decide_eq_true_eq] at hk
  obtain ⟨⟨h3, h4⟩, h5⟩ := hk
  refine ⟨h3, Option.isNone_iff_eq_none.1 h4, ?_⟩
  have e : args.map a.eval = (args.toList.map (envR (valG av val0 γ))).toArray := by
    apply Array.ext'
    rw [Array.toList_map]
    exact List.map_congr_left fun x hx => known hF ho h2 hI hs (List.all_eq_true.1 h5 x hx)
  rw [← e]
  have ef : a.eval (.func f) = .func (.func f) #[] #[] := rfl
  generalize a.eval = ρ at ef ⊢
  unfold execOp
  rw [hop]
  simp [ef, hf, go_sem]
/-- A call that makes memory at most. -/
theorem st_callK (hL : ops.toList.map tri = L) (hI : ∀ n ∈ ini, a0.eval (.tmp n) = val0 n) (hs : a0.tmps.size = nt) {i d : Nat} {f : FuncId} {args : Array Operand} {ts : Array TypeId} (hl : L[i]? = some (some d, .call { callee := .value (.func f), args := args, argTypes := ts }, none)) (hk : callB ops acts av ini nt i d args = true) (hf : ∀ v w, (callFunc f v).run Tryz.prog w = .ok (.enter f v) w)
    (hx : ∀ γ w n, Wd n γ w → Calls Tryz.prog f (args.toList.map (envR (valG av val0 γ))).toArray w fun e w' => e = .returned (val0 d) ∧ Kp w w') (hp : ∀ γ w n w', Wd n γ w → Kp w w' → Wd n γ w') : StepG ops acts av val0 Wd a0 Q i := by
  intro γ listed a w o hF hC hW h1 ho h2
  obtain ⟨hd, hop, hg⟩ := fieldsL hL hl ho
  obtain ⟨h3, h4, h5⟩ := call_run (w := w) hF ho h2 hI hs hop hk hf
  exact st_callG hF hC hW ho h2 h3 hd hg h4 h5 (hx γ w _ hW) (fun w' => hp γ w _ w' hW)
/-- The same ahead of all acting ones. -/
theorem st_callZ (hL : ops.toList.map tri = L) (hI : ∀ n ∈ ini, a0.eval (.tmp n) = val0 n) (hs : a0.tmps.size = nt) {i d : Nat} {f : FuncId} {args : Array Operand} {ts : Array TypeId} (hl : L[i]? = some (some d, .call { callee := .value (.func f), args := args, argTypes := ts }, none)) (hk : (aheadB ops acts 0 i && callB ops acts av ini nt i d args) = true) (hf : ∀ v w, (callFunc f v).run Tryz.prog w = .ok (.enter f v) w)
    (hx : ∀ γ w, Wd 0 γ w → Calls Tryz.prog f (args.toList.map (envR (valG av val0 γ))).toArray w fun e w' => e = .returned (val0 d) ∧ Kp w w') (hp : ∀ γ w w', Wd 0 γ w → Kp w w' → Wd 0 γ w') : StepG ops acts av val0 Wd a0 Q i := by
  intro γ listed a w o hF hC hW h1 ho h2
  obtain ⟨hd, hop, hg⟩ := fieldsL hL hl ho
  rw [Bool.and_eq_true] at hk
  obtain ⟨h3, h4, h5⟩ := call_run (w := w) hF ho h2 hI hs hop hk.2 hf
  have hz : phase listed acts = 0 := Nat.le_zero.1 (phase_leM hC (unl (hF.lt ho) h1) hk.1)
  refine st_callG hF hC hW ho h2 h3 hd hg h4 h5 (hx γ w (by rw [hz] at hW; exact hW)) (fun w' hk' => ?_)
  rw [hz] at hW ⊢
  exact hp γ w w' hW hk'
theorem end_at {a b : Act} {w : World} (h : Q .normal a w) (e : b = a) : Q .normal b w := by rw [e]; exact h
end
end Go.Proofs.YtpfhnedklihdoaaGreatDoor
namespace Go.Proofs.YtpfhnedklihdoaaGreatDoor
open Go.ChangeShapes Go.WideShapes Go.ChangeAt Go.RowKit
set_option linter.unusedVariables false

/-- A box of two values made at the beginning, later on. -/
theorem box2 {x y : Value} {t : TypeId} (w wr : World) (k : Kp (w.alloc (.cells #[x, y] t)) wr) :
    wr.cell? ⟨w.heap.size, 0, none⟩ = some x ∧ wr.cell? ⟨w.heap.size, 1, none⟩ = some y ∧ (∀ o, wr.frozen? ⟨w.heap.size, o, none⟩ = false) ∧ w.heap.size < wr.heap.size := by
  have hs : w.heap.size < (w.alloc (.cells #[x, y] t)).heap.size := by simp
  refine ⟨(k.cells.1 _ _ hs).trans (by simp), (k.cells.1 _ _ hs).trans (by simp), fun o => (k.cells.2 _ _).trans (World.frozen?_alloc_at _ _ _ _ rfl), Nat.lt_of_lt_of_le hs k.size⟩
theorem zbox (w wr : World) (t : TypeId) (k : Kp (w.alloc (.cells #[.int .i64 0, .int .i64 0] t)) wr) :
    wr.cell? ⟨w.heap.size, 0, none⟩ = some (.int .i64 0) ∧ wr.cell? ⟨w.heap.size, 1, none⟩ = some (.int .i64 0) ∧ (∀ o, wr.frozen? ⟨w.heap.size, o, none⟩ = false) ∧ w.heap.size < wr.heap.size := box2 w wr k
/-- The same where nothing that was there is written. -/
theorem nbox2 {x y : Value} {t : TypeId} (w wr : World) (k : Nw (w.alloc (.cells #[x, y] t)) wr) :
    wr.cell? ⟨w.heap.size, 0, none⟩ = some x ∧ wr.cell? ⟨w.heap.size, 1, none⟩ = some y ∧ (∀ o, wr.frozen? ⟨w.heap.size, o, none⟩ = false) ∧ w.heap.size < wr.heap.size := by
  have hs : w.heap.size < (w.alloc (.cells #[x, y] t)).heap.size := by simp
  refine ⟨((bcell k).1 _ _ hs).trans (by simp), ((bcell k).1 _ _ hs).trans (by simp), fun o => ((bcell k).2 _ _ hs).trans (World.frozen?_alloc_at _ _ _ _ rfl), Nat.lt_of_lt_of_le hs (Below.size k)⟩
theorem kp_box {w wr : World} {o : Array Value} {t : TypeId} (k : Kp (w.alloc (.cells o t)) wr) : Kp w wr := Kp.trans ((Kp.refl w).alloc _ _) k
theorem nw_box {w wr : World} {o : Array Value} {t : TypeId} (k : Nw (w.alloc (.cells o t)) wr) : Nw w wr := Nw.trans ((Below.refl _ _).alloc (Nat.le_refl _) _) k
theorem set2 (w : World) (g : Nat) (x y : Value) {u v : Value} (h0 : w.cell? ⟨g, 0, none⟩ = some u) (h1 : w.cell? ⟨g, 1, none⟩ = some v) :
    ((w.setCell ⟨g, 0, none⟩ x).setCell ⟨g, 1, none⟩ y).cell? ⟨g, 0, none⟩ = some x ∧ ((w.setCell ⟨g, 0, none⟩ x).setCell ⟨g, 1, none⟩ y).cell? ⟨g, 1, none⟩ = some y := by
  refine ⟨?_, World.cell?_setCell_same _ ⟨g, 1, none⟩ _ ((World.cell?_setCell_other _ _ _ _ (fun h => by injection h; omega)).trans h1)⟩
  rw [World.cell?_setCell_other _ _ _ _ (fun h => by injection h; omega)]
  exact World.cell?_setCell_same w ⟨g, 0, none⟩ _ h0
end Go.Proofs.YtpfhnedklihdoaaGreatDoor
namespace Go.Proofs.YtpfhnedklihdoaaGreatDoor
open Go.ChangeShapes Go.WideShapes Go.ChangeAt Go.RowKit
set_option linter.unusedVariables false

theorem rq_at {W w : World} {b o : Nat} {v : Value} (k : Kp W w) (h : W.cell? ⟨b, o, none⟩ = some v) : w.cell? ⟨b, o, none⟩ = some v := (k.cells.1 _ _ (World.block_lt_of_cell? W ⟨b, o, none⟩ h)).trans h
theorem rq_set2 (w : World) (g : Nat) (x y : Value) {u v : Value} (h0 : w.cell? ⟨g, 0, none⟩ = some u) (h1 : w.cell? ⟨g, 1, none⟩ = some v) :
    ((w.setCell ⟨g, 0, none⟩ x).setCell ⟨g, 1, none⟩ y).cell? ⟨g, 0, none⟩ = some x ∧ ((w.setCell ⟨g, 0, none⟩ x).setCell ⟨g, 1, none⟩ y).cell? ⟨g, 1, none⟩ = some y := set2 w g x y h0 h1
theorem undrew {w w' : World} (h : Kp w.drew w') : Kp w w' := Kp.trans ((Kp.refl w).drew) h
end Go.Proofs.YtpfhnedklihdoaaGreatDoor

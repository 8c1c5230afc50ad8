/-
  A region that draws its order and holds guarded operations whose guards are known; each theorem names its conditions.
  A region that draws its order, in short: the operations that only read and work out values by one theorem, what they read checked by a Bool; each theorem names its conditions.
  The statement of l5Part that appends a class; each theorem names its conditions.
  A part read from a word by the specification; each theorem names its conditions.
-/
import Derived.Test.YtnkmdmmlpidcmaaGreatDoorJAG
import Derived.Deep.DeepCutAuto
namespace Go.Proofs.YtnkmdmmlpidcmaaGreatDoor
open Go.ChangeShapes Go.WideShapes Go.ChangeAt Go.RowKit
set_option linter.unusedVariables false

section
variable {ops : Array Oper} {acts : List Nat} {av : Nat → Option Nat} {val0 : Nat → Value} {Wd : Nat → (Nat → Value) → World → Prop} {a0 : Act} {Q : Exit → Act → World → Prop}
theorem yl_of {a : Act} {j d : Nat} {v : Bool} (hd : dstOf ops j = some d) (hs : d < a.tmps.size) (he : a.eval (.tmp d) = .bool v) : yielded ops a.tmps j = some v := by
  have h1 : a.tmps.getD d undef = .bool v := he
  rw [Array.getD_eq_getD_getElem?, Array.getElem?_eq_getElem hs] at h1
  simp only [Option.getD_some] at h1
  unfold yielded
  unfold dstOf at hd
  rw [hd]
  simp only [Option.bind_some, Array.getElem?_eq_getElem hs, h1]
theorem wanted_of {o : Oper} {j : Nat} {b v : Bool} {a : Act} (hg : o.guard = some (j, b)) (hy : yielded ops a.tmps j = some v) : Region.wanted o (yielded ops a.tmps) = (v == b) := by
  unfold Region.wanted
  rw [hg]
  simp [hy]
/-- Its guard itself was not wanted. -/
theorem wanted_un {o : Oper} {j d : Nat} {b : Bool} {a : Act} (hg : o.guard = some (j, b)) (hd : dstOf ops j = some d) (hs : d < a.tmps.size) (he : a.eval (.tmp d) = undef) : Region.wanted o (yielded ops a.tmps) = false := by
  have h1 : a.tmps.getD d undef = undef := he
  rw [Array.getD_eq_getD_getElem?, Array.getElem?_eq_getElem hs] at h1
  simp only [Option.getD_some] at h1
  have hy : yielded ops a.tmps j = none := by
    unfold yielded
    unfold dstOf at hd
    rw [hd]
    simp only [Option.bind_some, Array.getElem?_eq_getElem hs, h1]
    rfl
  unfold Region.wanted
  rw [hg]
  simp [hy]
/-- A guarded operation that is wanted and leaves the world alone. -/
theorem st_pureW {γ : Nat → Value} {listed : Array Bool} {a : Act} {w : World} {i d : Nat} {o : Oper} (hF : FrI ops (valG av val0 γ) a0 listed a) (hC : Clo ops listed) (hW : Wd (phase listed acts) γ w) (ho : ops[i]? = some o) (h2 : ∀ e ∈ o.after, Region.binds .any e = true → listed.getD e.on false = true)
    (hna : i ∉ acts) (hd : o.dst = some d) (hw : Region.wanted o (yielded ops a.tmps) = true) (hav : av d = none) (hrun : (execOp a.eval o).run Tryz.prog w = .ok (.value (val0 d)) w) : wpOp Tryz.prog ops Q i (fun a' w' => InvG ops acts av val0 Wd a0 (listed.setIfInBounds i true) a' w') a w := by
  have hi := hF.lt ho
  unfold wpOp
  rw [ho]
  simp only [hw, if_true]
  refine Or.inl ?_
  unfold Oper.wp
  rw [hrun]
  have e : valG av val0 γ d = val0 d := by unfold valG; rw [hav]
  refine ⟨γ, ?_, hC.set hi ho h2, by rw [phase_ne hi acts hna]; exact hW⟩
  have := hF.put ho hd
  rw [e] at this
  exact this
theorem st_callW {γ : Nat → Value} {listed : Array Bool} {a : Act} {w : World} {i d : Nat} {o : Oper} {f : FuncId} {args : Array Value} (hF : FrI ops (valG av val0 γ) a0 listed a) (hC : Clo ops listed) (hW : Wd (phase listed acts) γ w) (ho : ops[i]? = some o) (h2 : ∀ e ∈ o.after, Region.binds .any e = true → listed.getD e.on false = true)
    (hna : i ∉ acts) (hd : o.dst = some d) (hw : Region.wanted o (yielded ops a.tmps) = true) (hav : av d = none) (hrun : (execOp a.eval o).run Tryz.prog w = .ok (.enter f args) w) (hc : Calls Tryz.prog f args w fun e w' => e = .returned (val0 d) ∧ Kp w w') (hk : ∀ w', Kp w w' → Wd (phase listed acts) γ w') :
    wpOp Tryz.prog ops Q i (fun a' w' => InvG ops acts av val0 Wd a0 (listed.setIfInBounds i true) a' w') a w := by
  have hi := hF.lt ho
  unfold wpOp
  rw [ho]
  simp only [hw, if_true]
  refine Or.inl ?_
  unfold Oper.wp
  rw [hrun]
  have e : valG av val0 γ d = val0 d := by unfold valG; rw [hav]
  refine Calls.mono hc ?_
  rintro e' w' ⟨rfl, hkk⟩
  refine ⟨γ, ?_, hC.set hi ho h2, by rw [phase_ne hi acts hna]; exact hk w' hkk⟩
  have := hF.put ho hd
  rw [e] at this
  exact this
/-- A guarded operation that is not wanted. -/
theorem st_skipW {γ : Nat → Value} {listed : Array Bool} {a : Act} {w : World} {i d : Nat} {o : Oper} (hF : FrI ops (valG av val0 γ) a0 listed a) (hC : Clo ops listed) (hW : Wd (phase listed acts) γ w) (ho : ops[i]? = some o) (h2 : ∀ e ∈ o.after, Region.binds .any e = true → listed.getD e.on false = true)
    (hna : i ∉ acts) (hd : o.dst = some d) (hw : Region.wanted o (yielded ops a.tmps) = false) (hav : av d = none) (hv : val0 d = undef) : wpOp Tryz.prog ops Q i (fun a' w' => InvG ops acts av val0 Wd a0 (listed.setIfInBounds i true) a' w') a w := by
  have hi := hF.lt ho
  unfold wpOp
  rw [ho]
  simp only [hw, Bool.false_eq_true, if_false]
  have e : valG av val0 γ d = undef := by unfold valG; rw [hav]; exact hv
  refine ⟨γ, ?_, hC.set hi ho h2, by rw [phase_ne hi acts hna]; exact hW⟩
  have := hF.put ho hd
  rw [e] at this
  exact this
end
end Go.Proofs.YtnkmdmmlpidcmaaGreatDoor
namespace Go.Proofs.YtnkmdmmlpidcmaaGreatDoor
open Go.ChangeShapes Go.WideShapes Go.ChangeAt Go.RowKit
set_option linter.unusedVariables false

/-- What an operation reads. -/
def readsOf : Op → Option (List Operand)
  | .move x => some [x]
  | .assign x => some [x]
  | .nilCheck x => some [x]
  | .pick c a b => some [c, a, b]
  | .build _ ps => some (ps.toList.map (·.2))
  | .load _ a => some [a]
  | .binOp _ _ x y _ => some [x, y]
  | .unOp _ _ x => some [x]
  | .fieldAddr _ x _ => some [x]
  | .indexAddr _ x ix => some [x, ix]
  | .extract t _ => some [t]
  | .call c => match c.callee with
    | .builtin _ => some c.args.toList
    | _ => none
  | _ => none
theorem map_same {α β : Type} {f g : α → β} {l : Array α} (h : ∀ x ∈ l.toList, f x = g x) : l.map f = l.map g := by
  apply Array.ext'
  rw [Array.toList_map, Array.toList_map]
  exact List.map_congr_left h
theorem exec_same {ρ ρ' : Operand → Value} {o : Oper} {l : List Operand} (h : readsOf o.op = some l) (he : ∀ x ∈ l, ρ x = ρ' x) : execOp ρ o = execOp ρ' o := by
  unfold execOp
  cases ho : o.op <;> rw [ho] at h <;> simp only [readsOf, Option.some.injEq, reduceCtorEq] at h
  case build t ps =>
    subst h
    have e : ps.map (fun (p : Nat × Operand) => (p.1, ρ p.2)) = ps.map (fun (p : Nat × Operand) => (p.1, ρ' p.2)) := map_same fun x hx => by rw [he x.2 (List.mem_map.2 ⟨x, hx, rfl⟩)]
    show (do let x ← Instr.build t (ps.map (fun (p : Nat × Operand) => (p.1, ρ p.2))); pure (Next.value x) : Sem Next) = _
    rw [e]
  case call c =>
    cases hc : c.callee <;> rw [hc] at h <;> simp only [Option.some.injEq, reduceCtorEq] at h
    subst h
    have e : c.args.map ρ = c.args.map ρ' := map_same he
    simp only [resolve, hc, e]
  all_goals
    subst h
    simp only [List.mem_cons, List.not_mem_nil, or_false, forall_eq_or_imp, forall_eq] at he
    simp only [he]
/-- The values that operands stand for. -/
def envR (v : Nat → Value) : Operand → Value
  | .tmp n => v n
  | .const c => c
  | .global g => .pointer (some ⟨g, 0, none⟩)
  | .func f => .func (.func f) #[] #[]
/-- The value of an operand is known when operation i comes up. -/
def srcB (ops : Array Oper) (av : Nat → Option Nat) (ini : List Nat) (nt i : Nat) : Operand → Bool
  | .tmp n => decide (n < nt) && ((List.range ops.size).any (fun j => waitsB ops i j && decide (dstOf ops j = some n)) || (decide (n ∈ ini) && (av n).isNone && (List.range ops.size).all (fun j => dstOf ops j != some n)))
  | _ => true
def tri (o : Oper) : Option Nat × Op × Option (Nat × Bool) := (o.dst, o.op, o.guard)
section
variable {ops : Array Oper} {acts : List Nat} {av : Nat → Option Nat} {val0 : Nat → Value} {Wd : Nat → (Nat → Value) → World → Prop} {a0 : Act} {Q : Exit → Act → World → Prop} {L : List (Option Nat × Op × Option (Nat × Bool))} {ini : List Nat} {nt : Nat}
theorem fieldsL (hL : ops.toList.map tri = L) {i : Nat} {o : Oper} {x : Option Nat} {y : Op} {z : Option (Nat × Bool)} (h : L[i]? = some (x, y, z)) (ho : ops[i]? = some o) : o.dst = x ∧ o.op = y ∧ o.guard = z := by
  rw [← hL, List.getElem?_map, Array.getElem?_toList, ho] at h
  simp only [Option.map_some, Option.some.injEq, tri, Prod.mk.injEq] at h
  exact h
theorem dstL (hL : ops.toList.map tri = L) {i d : Nat} (h : (L[i]?).bind (·.1) = some d) : dstOf ops i = some d := by
  rw [← hL, List.getElem?_map, Array.getElem?_toList] at h
  unfold dstOf
  cases ho : ops[i]? with
  | none => rw [ho] at h; cases h
  | some o => rw [ho] at h; exact h
theorem known {γ : Nat → Value} {listed : Array Bool} {a : Act} {i : Nat} {o : Oper} (hF : FrI ops (valG av val0 γ) a0 listed a) (ho : ops[i]? = some o) (h2 : ∀ e ∈ o.after, Region.binds .any e = true → listed.getD e.on false = true)
    (hI : ∀ n ∈ ini, a0.eval (.tmp n) = val0 n) (hs : a0.tmps.size = nt) {x : Operand} (h : srcB ops av ini nt i x = true) : a.eval x = envR (valG av val0 γ) x := by
  cases x with
  | tmp n =>
    simp only [srcB, Bool.and_eq_true, Bool.or_eq_true, decide_eq_true_eq, List.any_eq_true] at h
    obtain ⟨hn, ⟨j, _, hw, hd⟩ | ⟨⟨hm, hv⟩, hno⟩⟩ := h
    · exact slotG hF ho h2 hw hd (by rw [hs]; exact hn)
    · rw [hF.eval0 hno, hI n hm]
      show val0 n = valG av val0 γ n
      unfold valG
      rw [Option.isNone_iff_eq_none.1 hv]
  | const c => rfl
  | global g => rfl
  | func f => rfl
def injK (ops : Array Oper) (av : Nat → Option Nat) (i k : Nat) : Bool := (List.range ops.size).all (fun j => decide (j = i) || !(match dstOf ops j with | some d => decide (av d = some k) | none => false))
theorem injG {listed : Array Bool} {i k : Nat} (h : injK ops av i k = true) (hu : listed.getD i false = false) : ∀ d, got ops listed d → av d ≠ some k := by
  rintro d ⟨j, h1, h2⟩ h3
  have hlt : j < ops.size := by
    rcases Nat.lt_or_ge j ops.size with h4 | h4
    · exact h4
    · unfold dstOf at h2; rw [Array.getElem?_eq_none h4] at h2; cases h2
  have h5 := List.all_eq_true.1 h j (List.mem_range.2 hlt)
  rw [h2] at h5
  simp only [h3, decide_true, Bool.not_true, Bool.or_false, decide_eq_true_eq] at h5
  subst h5
  rw [hu] at h1
  cases h1
/-- What is checked of an operation that only reads. -/
def plainB (ops : Array Oper) (acts : List Nat) (av : Nat → Option Nat) (ini : List Nat) (nt i d : Nat) (y : Op) : Bool :=
  decide (i ∉ acts) && (av d).isNone && match readsOf y with | some l => l.all (srcB ops av ini nt i) | none => false
theorem plain_run {γ : Nat → Value} {listed : Array Bool} {a : Act} {i d : Nat} {o : Oper} {y : Op} (hF : FrI ops (valG av val0 γ) a0 listed a) (ho : ops[i]? = some o) (h2 : ∀ e ∈ o.after, Region.binds .any e = true → listed.getD e.on false = true)
    (hI : ∀ n ∈ ini, a0.eval (.tmp n) = val0 n) (hs : a0.tmps.size = nt) (hop : o.op = y) (hk : plainB ops acts av ini nt i d y = true) : i ∉ acts ∧ av d = none ∧ execOp a.eval o = execOp (envR (valG av val0 γ)) o := by
  unfold plainB at hk
  simp only [Bool.and_eq_true, decide_eq_true_eq] at hk
  obtain ⟨⟨h3, h4⟩, h5⟩ := hk
  refine ⟨h3, Option.isNone_iff_eq_none.1 h4, ?_⟩
  cases hr : readsOf y with
  | none => rw [hr] at h5; cases h5
  | some l =>
    rw [hr] at h5
    rw [← hop] at hr
    exact exec_same hr fun x hx => known hF ho h2 hI hs (List.all_eq_true.1 h5 x hx)
/-- An operation that only reads. -/
theorem st_plain (hL : ops.toList.map tri = L) (hI : ∀ n ∈ ini, a0.eval (.tmp n) = val0 n) (hs : a0.tmps.size = nt) {i d : Nat} {y : Op} (hl : L[i]? = some (some d, y, none)) (hk : plainB ops acts av ini nt i d y = true)
    (hx : ∀ γ w n (o : Oper), Wd n γ w → o.op = y → (execOp (envR (valG av val0 γ)) o).run Tryz.prog w = .ok (.value (val0 d)) w) : StepG ops acts av val0 Wd a0 Q i := by
  intro γ listed a w o hF hC hW h1 ho h2
  obtain ⟨hd, hop, hg⟩ := fieldsL hL hl ho
  obtain ⟨h3, h4, h5⟩ := plain_run hF ho h2 hI hs hop hk
  exact st_pureG hF hC hW ho h2 h3 hd hg h4 (by rw [h5]; exact hx γ w _ o hW hop)
/-- A guarded one that is wanted. -/
theorem st_plainW (hL : ops.toList.map tri = L) (hI : ∀ n ∈ ini, a0.eval (.tmp n) = val0 n) (hs : a0.tmps.size = nt) {i d gj gs : Nat} {gb : Bool} {y : Op} (hl : L[i]? = some (some d, y, some (gj, gb))) (hj : (L[gj]?).bind (·.1) = some gs) (hv : val0 gs = .bool gb) (hk : ((av gs).isNone && srcB ops av ini nt i (.tmp gs) && plainB ops acts av ini nt i d y) = true)
    (hx : ∀ γ w n (o : Oper), Wd n γ w → o.op = y → (execOp (envR (valG av val0 γ)) o).run Tryz.prog w = .ok (.value (val0 d)) w) : StepG ops acts av val0 Wd a0 Q i := by
  intro γ listed a w o hF hC hW h1 ho h2
  obtain ⟨hd, hop, hg⟩ := fieldsL hL hl ho
  simp only [Bool.and_eq_true] at hk
  obtain ⟨⟨k1, k2⟩, k3⟩ := hk
  obtain ⟨h3, h4, h5⟩ := plain_run hF ho h2 hI hs hop k3
  have eg : a.eval (.tmp gs) = .bool gb := by
    rw [known hF ho h2 hI hs k2]
    show valG av val0 γ gs = _
    unfold valG
    rw [Option.isNone_iff_eq_none.1 k1]
    exact hv
  have hlt : gs < nt := by
    simp only [srcB, Bool.and_eq_true, decide_eq_true_eq] at k2
    exact k2.1
  have hw := wanted_of (ops := ops) hg (yl_of (dstL hL hj) (by rw [hF.tsize, hs]; exact hlt) eg)
  exact st_pureW hF hC hW ho h2 h3 hd (hw.trans (by simp)) h4 (by rw [h5]; exact hx γ w _ o hW hop)
/-- A guarded one that is not wanted. -/
theorem st_plainS (hL : ops.toList.map tri = L) (hI : ∀ n ∈ ini, a0.eval (.tmp n) = val0 n) (hs : a0.tmps.size = nt) {i d gj gs : Nat} {gb : Bool} {y : Op} (hl : L[i]? = some (some d, y, some (gj, gb))) (hj : (L[gj]?).bind (·.1) = some gs) (hv : val0 gs = .bool !gb ∨ val0 gs = undef) (hk : (decide (i ∉ acts) && (av d).isNone && (av gs).isNone && srcB ops av ini nt i (.tmp gs)) = true) (hu : val0 d = undef) : StepG ops acts av val0 Wd a0 Q i := by
  intro γ listed a w o hF hC hW h1 ho h2
  obtain ⟨hd, hop, hg⟩ := fieldsL hL hl ho
  simp only [Bool.and_eq_true, decide_eq_true_eq] at hk
  obtain ⟨⟨⟨h3, h4⟩, k1⟩, k2⟩ := hk
  have eg : a.eval (.tmp gs) = val0 gs := by
    rw [known hF ho h2 hI hs k2]
    show valG av val0 γ gs = _
    unfold valG
    rw [Option.isNone_iff_eq_none.1 k1]
  have hlt : gs < a.tmps.size := by
    simp only [srcB, Bool.and_eq_true, decide_eq_true_eq] at k2
    rw [hF.tsize, hs]
    exact k2.1
  have hw : Region.wanted o (yielded ops a.tmps) = false := by
    rcases hv with hv | hv <;> rw [hv] at eg
    · have h := wanted_of (ops := ops) hg (yl_of (dstL hL hj) hlt eg)
      rw [h]
      cases gb <;> rfl
    · exact wanted_un (ops := ops) hg (dstL hL hj) hlt eg
  exact st_skipW hF hC hW ho h2 h3 hd hw (Option.isNone_iff_eq_none.1 h4) hu
/-! ### Ahead of an acting one -/
def afterOf (ops : Array Oper) (k : Nat) : List Nat := match ops[k]? with | some o => (o.after.toList.filter (fun e => Region.binds .any e)).map (·.on) | none => []
theorem after_waits {k j : Nat} (h : j ∈ afterOf ops k) : waitsB ops k j = true := by
  unfold afterOf at h
  unfold waitsB
  cases ho : ops[k]? with
  | none => rw [ho] at h; cases h
  | some o =>
    rw [ho] at h
    obtain ⟨e, he, rfl⟩ := List.mem_map.1 h
    obtain ⟨h1, h2⟩ := List.mem_filter.1 he
    show (o.after.any _) = true
    rw [Array.any_eq_true]
    obtain ⟨x, hx, hxe⟩ := List.getElem_of_mem h1
    refine ⟨x, by simpa using hx, ?_⟩
    have e1 : o.after[x]'(by simpa using hx) = e := by simpa using hxe
    rw [e1]
    simp [h2]
/-- What operations below k wait for, those of l among them. -/
def ancs (ops : Array Oper) : Nat → List Nat → List Nat
  | 0, l => l
  | k + 1, l => ancs ops k (if k ∈ l then l ++ afterOf ops k else l)
theorem ancs_listed {listed : Array Bool} (hC : Clo ops listed) : ∀ (k : Nat) (l : List Nat), (∀ j ∈ l, listed.getD j false = true) → ∀ j ∈ ancs ops k l, listed.getD j false = true
  | 0, _, h, j, hj => h j hj
  | k + 1, l, h, j, hj => by
    refine ancs_listed hC k _ ?_ j hj
    intro x hx
    by_cases hk : k ∈ l
    · rw [if_pos hk] at hx
      rcases List.mem_append.1 hx with h1 | h1
      · exact h x h1
      · exact hC k x (h k hk) (after_waits h1)
    · rw [if_neg hk] at hx
      exact h x hx
def aheadB (ops : Array Oper) (acts : List Nat) (m i : Nat) : Bool := match acts[m]? with | some x => decide (i ∈ ancs ops (x + 1) [x]) | none => false
theorem phase_leM {listed : Array Bool} {i m : Nat} (hC : Clo ops listed) (hu : listed.getD i false = false) (h : aheadB ops acts m i = true) : phase listed acts ≤ m := by
  unfold aheadB at h
  cases hm : acts[m]? with
  | none => rw [hm] at h; cases h
  | some x =>
    rw [hm] at h
    refine phase_at acts m x hm ?_
    cases hl : listed.getD x false with
    | false => rfl
    | true =>
      have := ancs_listed hC (x + 1) [x] (fun j hj => by rw [List.mem_singleton.1 hj]; exact hl) i (of_decide_eq_true h)
      rw [hu] at this
      cases this
/-- An operation that only reads, ahead of the acting one number m. -/
theorem st_plainM {m : Nat} (hL : ops.toList.map tri = L) (hI : ∀ n ∈ ini, a0.eval (.tmp n) = val0 n) (hs : a0.tmps.size = nt) {i d : Nat} {y : Op} (hl : L[i]? = some (some d, y, none)) (hk : (aheadB ops acts m i && plainB ops acts av ini nt i d y) = true)
    (hx : ∀ γ w n (o : Oper), n ≤ m → Wd n γ w → o.op = y → (execOp (envR (valG av val0 γ)) o).run Tryz.prog w = .ok (.value (val0 d)) w) : StepG ops acts av val0 Wd a0 Q i := by
  intro γ listed a w o hF hC hW h1 ho h2
  obtain ⟨hd, hop, hg⟩ := fieldsL hL hl ho
  rw [Bool.and_eq_true] at hk
  obtain ⟨h3, h4, h5⟩ := plain_run hF ho h2 hI hs hop hk.2
  exact st_pureG hF hC hW ho h2 h3 hd hg h4 (by rw [h5]; exact hx γ w _ o (phase_leM hC (unl (hF.lt ho) h1) hk.1) hW hop)
def callB (ops : Array Oper) (acts : List Nat) (av : Nat → Option Nat) (ini : List Nat) (nt i d : Nat) (args : Array Operand) : Bool :=
  decide (i ∉ acts) && (av d).isNone && args.toList.all (srcB ops av ini nt i)
theorem call_run {γ : Nat → Value} {listed : Array Bool} {a : Act} {w : World} {i d : Nat} {o : Oper} {f : FuncId} {args : Array Operand} {ts : Array TypeId} (hF : FrI ops (valG av val0 γ) a0 listed a) (ho : ops[i]? = some o) (h2 : ∀ e ∈ o.after, Region.binds .any e = true → listed.getD e.on false = true)
    (hI : ∀ n ∈ ini, a0.eval (.tmp n) = val0 n) (hs : a0.tmps.size = nt) (hop : o.op = .call { callee := .value (.func f), args := args, argTypes := ts }) (hk : callB ops acts av ini nt i d args = true) (hf : ∀ v w, (callFunc f v).run Tryz.prog w = .ok (.enter f v) w) :
    i ∉ acts ∧ av d = none ∧ (execOp a.eval o).run Tryz.prog w = .ok (.enter f (args.toList.map (envR (valG av val0 γ))).toArray) w := by
  unfold callB at hk
  simp only [Bool.and_eq_true, decide_eq_true_eq] at hk
  obtain ⟨⟨h3, h4⟩, h5⟩ := hk
  refine ⟨h3, Option.isNone_iff_eq_none.1 h4, ?_⟩
  have e : args.map a.eval = (args.toList.map (envR (valG av val0 γ))).toArray := by
    apply Array.ext'
    rw [Array.toList_map]
    exact List.map_congr_left fun x hx => known hF ho h2 hI hs (List.all_eq_true.1 h5 x hx)
  rw [← e]
  have ef : a.eval (.func f) = .func (.func f) #[] #[] := rfl
  generalize a.eval = ρ at ef ⊢
  unfold execOp
  rw [hop]
  simp [ef, hf, go_sem]
/-- A call that makes memory at most. -/
theorem st_callK (hL : ops.toList.map tri = L) (hI : ∀ n ∈ ini, a0.eval (.tmp n) = val0 n) (hs : a0.tmps.size = nt) {i d : Nat} {f : FuncId} {args : Array Operand} {ts : Array TypeId} (hl : L[i]? = some (some d, .call { callee := .value (.func f), args := args, argTypes := ts }, none)) (hk : callB ops acts av ini nt i d args = true) (hf : ∀ v w, (callFunc f v).run Tryz.prog w = .ok (.enter f v) w)
    (hx : ∀ γ w n, Wd n γ w → Calls Tryz.prog f (args.toList.map (envR (valG av val0 γ))).toArray w fun e w' => e = .returned (val0 d) ∧ Kp w w') (hp : ∀ γ w n w', Wd n γ w → Kp w w' → Wd n γ w') : StepG ops acts av val0 Wd a0 Q i := by
  intro γ listed a w o hF hC hW h1 ho h2
  obtain ⟨hd, hop, hg⟩ := fieldsL hL hl ho
  obtain ⟨h3, h4, h5⟩ := call_run (w := w) hF ho h2 hI hs hop hk hf
  exact st_callG hF hC hW ho h2 h3 hd hg h4 h5 (hx γ w _ hW) (fun w' => hp γ w _ w' hW)
/-- The same ahead of all acting ones. -/
theorem st_callZ (hL : ops.toList.map tri = L) (hI : ∀ n ∈ ini, a0.eval (.tmp n) = val0 n) (hs : a0.tmps.size = nt) {i d : Nat} {f : FuncId} {args : Array Operand} {ts : Array TypeId} (hl : L[i]? = some (some d, .call { callee := .value (.func f), args := args, argTypes := ts }, none)) (hk : (aheadB ops acts 0 i && callB ops acts av ini nt i d args) = true) (hf : ∀ v w, (callFunc f v).run Tryz.prog w = .ok (.enter f v) w)
    (hx : ∀ γ w, Wd 0 γ w → Calls Tryz.prog f (args.toList.map (envR (valG av val0 γ))).toArray w fun e w' => e = .returned (val0 d) ∧ Kp w w') (hp : ∀ γ w w', Wd 0 γ w → Kp w w' → Wd 0 γ w') : StepG ops acts av val0 Wd a0 Q i := by
  intro γ listed a w o hF hC hW h1 ho h2
  obtain ⟨hd, hop, hg⟩ := fieldsL hL hl ho
  rw [Bool.and_eq_true] at hk
  obtain ⟨h3, h4, h5⟩ := call_run (w := w) hF ho h2 hI hs hop hk.2 hf
  have hz : phase listed acts = 0 := Nat.le_zero.1 (phase_leM hC (unl (hF.lt ho) h1) hk.1)
  refine st_callG hF hC hW ho h2 h3 hd hg h4 h5 (hx γ w (by rw [hz] at hW; exact hW)) (fun w' hk' => ?_)
  rw [hz] at hW ⊢
  exact hp γ w w' hW hk'
theorem end_at {a b : Act} {w : World} (h : Q .normal a w) (e : b = a) : Q .normal b w := by rw [e]; exact h
end
end Go.Proofs.YtnkmdmmlpidcmaaGreatDoor
namespace Go.Proofs.YtnkmdmmlpidcmaaGreatDoor
open Go.ChangeShapes Go.WideShapes Go.ChangeAt Go.RowKit
set_option linter.unusedVariables false

structure SP22 where
 bx : Nat
 p : ByteArray
 q : ByteArray
 va : Option Addr
 vc : Nat
 l : List ByteArray
 s : ByteArray
 k : Nat
 n : Nat
 W : World
 a0 : Act
structure SP22Ok (X : SP22) : Prop where
 cb : CvP X.bx X.W X.p X.q (.slice X.va X.l.length X.vc) X.l
 len : X.l.length ≤ 2000000
 w1 : IntKind.i64.wrap ((X.k : Int) + 1) = (X.k : Int) + 1
 w2 : IntKind.i64.wrap ((X.k : Int) + 1 + (X.n : Int)) = (X.k : Int) + 1 + (X.n : Int)
 hk : X.k + 1 + X.n ≤ X.s.size
 c1 : (0 : Int) ≤ (X.k : Int) + 1
 c2 : (X.k : Int) + 1 ≤ (X.k : Int) + 1 + (X.n : Int)
 c3 : (X.k : Int) + 1 + (X.n : Int) ≤ (X.s.size : Int)
 t1 : ((X.k : Int) + 1).toNat = X.k + 1
 t2 : ((X.k : Int) + 1 + (X.n : Int)).toNat = X.k + 1 + X.n
 e0 : X.a0.eval (.tmp 0) = .string X.s
 e4 : X.a0.eval (.tmp 4) = .pointer (some ⟨X.bx, 0, none⟩)
 e5 : X.a0.eval (.tmp 5) = .int .i64 (X.k : Int)
 e8 : X.a0.eval (.tmp 8) = .int .i64 (X.n : Int)
 sz : X.a0.tmps.size = 103
def SP22.val0 (X : SP22) : Nat → Value
 | 0 => .string X.s
 | 4 => .pointer (some ⟨X.bx, 0, none⟩)
 | 5 => .int .i64 (X.k : Int)
 | 8 => .int .i64 (X.n : Int)
 | 81 => .pointer (some ⟨X.bx, 2, none⟩)
 | 82 => .slice X.va X.l.length X.vc
 | 83 => .string X.s
 | 84 => .int .i64 (X.k : Int)
 | 85 => .int .i64 ((X.k : Int) + 1)
 | 86 => .int .i64 (X.k : Int)
 | 87 => .int .i64 ((X.k : Int) + 1)
 | 88 => .int .i64 (X.n : Int)
 | 89 => .int .i64 ((X.k : Int) + 1 + (X.n : Int))
 | 90 => .string (X.s.extract (X.k + 1) (X.k + 1 + X.n))
 | 93 => .pointer (some ⟨X.bx, 2, none⟩)
 | _ => undef
def SP22.av : Nat → Option Nat
 | 91 => some 0
 | 92 => some 1
 | _ => none
def SP22.acts : List Nat := [10, 11, 13]
/-- The world, by how many of the acting ones have come up. -/
def SP22.Wd (X : SP22) : Nat → (Nat → Value) → World → Prop
  | 0, _, w => Nw X.W w
  | 1, γ, w => ∃ w1, Nw X.W w1 ∧ γ 0 = .slice (some ⟨w1.heap.size, 0, none⟩) 1 1 ∧ w = w1.alloc (.cells #[.string (X.s.extract (X.k + 1) (X.k + 1 + X.n))] 9)
  | 2, γ, w => ∃ w1, Nw X.W w1 ∧ Txs w (X.bx + 1) (γ 1) (X.l ++ [X.s.extract (X.k + 1) (X.k + 1 + X.n)]) ∧ Ext (.slice X.va X.l.length X.vc) (γ 1) w1 w
  | _, γ, w => ∃ w1 w2, Nw X.W w1 ∧ Txs w2 (X.bx + 1) (γ 1) (X.l ++ [X.s.extract (X.k + 1) (X.k + 1 + X.n)]) ∧ Ext (.slice X.va X.l.length X.vc) (γ 1) w1 w2 ∧ w = w2.setCell ⟨X.bx, 2, none⟩ (γ 1)
theorem SP22.chain : chainG (opsOf 22 Tryz.f114) SP22.acts = true := by kernel_rfl
theorem SP22.nodup : SP22.acts.Nodup := by decide
def SP22.L : List (Option Nat × Op × Option (Nat × Bool)) := [
 (some 81, .fieldAddr 67 (.tmp 4) 2, none),
 (some 82, .load 65 (.tmp 81), none),
 (some 83, .move (.tmp 0), none),
 (some 84, .move (.tmp 5), none),
 (some 85, .binOp .add 3 (.tmp 84) (.const (.int .i64 1)) 3, none),
 (some 86, .move (.tmp 5), none),
 (some 87, .binOp .add 3 (.tmp 86) (.const (.int .i64 1)) 3, none),
 (some 88, .move (.tmp 8), none),
 (some 89, .binOp .add 3 (.tmp 87) (.tmp 88) 3, none),
 (some 90, .slice 9 (.tmp 83) (some (.tmp 85)) (some (.tmp 89)) none, none),
 (some 91, .buildSlice 65 1 #[(0, (.tmp 90))], none),
 (some 92, .call { callee := .builtin .append, args := #[(.tmp 82), (.tmp 91)], argTypes := #[65, 65] }, none),
 (some 93, .fieldAddr 67 (.tmp 4) 2, none),
 (none, .store 65 (.tmp 93) (.tmp 92), none)]
theorem SP22.isL : (opsOf 22 Tryz.f114).toList.map tri = SP22.L := by kernel_rfl
theorem SP22.ini {X : SP22} (ok : SP22Ok X) : ∀ n ∈ [0, 4, 5, 8], X.a0.eval (.tmp n) = X.val0 n := by
 simp only [List.forall_mem_cons]
 exact ⟨ok.e0, ok.e4, ok.e5, ok.e8, List.forall_mem_nil _⟩
abbrev SP22.St (X : SP22) (Q : Exit → Act → World → Prop) (i : Nat) : Prop := StepG (opsOf 22 Tryz.f114) SP22.acts SP22.av X.val0 X.Wd X.a0 Q i
theorem SP22.plain (X : SP22) (ok : SP22Ok X) {Q : Exit → Act → World → Prop} : ∀ i ∈ [0, 2, 3, 4, 5, 6, 7, 8, 12], SP22.St X Q i := by
 simp only [List.forall_mem_cons]
 refine ⟨?_, ?_, ?_, ?_, ?_, ?_, ?_, ?_, ?_, List.forall_mem_nil _⟩
 all_goals
  refine st_plain SP22.isL (SP22.ini ok) ok.sz rfl (by kernel_rfl) ?_
  intro γ w n o hW hop
  unfold execOp
  rw [hop]
  simp [envR, valG, SP22.av, SP22.val0, ok.w1, ok.w2, go_sem]
theorem SP22.s1 (X : SP22) (ok : SP22Ok X) {Q : Exit → Act → World → Prop} : SP22.St X Q 1 := by
 intro γ listed a w o hF hC hW h1 ho h2
 obtain ⟨hd, hop, hg⟩ := fieldsL SP22.isL (i := 1) rfl ho
 have e81 : a.eval (.tmp 81) = .pointer (some ⟨X.bx, 2, none⟩) := known hF ho h2 (SP22.ini ok) ok.sz (by kernel_rfl)
 have hph := phase_leG (acts := SP22.acts) (m := 1) (x := 11) hC (unl (hF.lt ho) h1) rfl [1] (by kernel_rfl) (by decide)
 have hWW := hW
 generalize phase listed SP22.acts = n at hph hWW
 have hk : Nw X.W w := by
  rcases (show n = 0 ∨ n = 1 by omega) with rfl | rfl
  ·exact hWW
  ·obtain ⟨w1, k1, _, rfl⟩ := hWW
   exact Nw.trans k1 ((Below.refl _ _).alloc (Nat.le_refl _) _)
 have hc := (ok.cb.nw hk).c2
 refine st_pureG hF hC hW ho h2 (by decide) hd hg rfl ?_
 show _ = Result.ok (Next.value (.slice X.va X.l.length X.vc)) w
 generalize a.eval = ρ at e81 ⊢
 unfold execOp
 rw [hop]
 simp [e81, hc, go_sem]
theorem SP22.s9 (X : SP22) (ok : SP22Ok X) {Q : Exit → Act → World → Prop} : SP22.St X Q 9 := by
 intro γ listed a w o hF hC hW h1 ho h2
 obtain ⟨hd, hop, hg⟩ := fieldsL SP22.isL (i := 9) rfl ho
 have e83 : a.eval (.tmp 83) = .string X.s := known hF ho h2 (SP22.ini ok) ok.sz (by kernel_rfl)
 have e85 : a.eval (.tmp 85) = .int .i64 ((X.k : Int) + 1) := known hF ho h2 (SP22.ini ok) ok.sz (by kernel_rfl)
 have e89 : a.eval (.tmp 89) = .int .i64 ((X.k : Int) + 1 + (X.n : Int)) := known hF ho h2 (SP22.ini ok) ok.sz (by kernel_rfl)
 refine st_pureG hF hC hW ho h2 (by decide) hd hg rfl ?_
 show _ = Result.ok (Next.value (.string (X.s.extract (X.k + 1) (X.k + 1 + X.n)))) w
 generalize a.eval = ρ at e83 e85 e89 ⊢
 unfold execOp
 rw [hop]
 simp [e83, e85, e89, ok.c1, ok.c2, ok.c3, ok.t1, ok.t2, go_sem]
theorem SP22.s10 (X : SP22) (ok : SP22Ok X) {Q : Exit → Act → World → Prop} : SP22.St X Q 10 := by
 intro γ listed a w o hF hC hW h1 ho h2
 obtain ⟨hd, hop, hg⟩ := fieldsL SP22.isL (i := 10) rfl ho
 have e90 : a.eval (.tmp 90) = .string (X.s.extract (X.k + 1) (X.k + 1 + X.n)) := known hF ho h2 (SP22.ini ok) ok.sz (by kernel_rfl)
 have hu := unl (hF.lt ho) h1
 refine st_actG (k := 0) SP22.chain SP22.nodup rfl hF hC hW h1 ho h2 (Or.inr ⟨91, hd, rfl⟩) (injG (by kernel_rfl) hu) hg ?_
 intro hW0 K hK
 have k0 : Nw X.W w := hW0
 have hr : (execOp a.eval o).run Tryz.prog w = .ok (.value (.slice (some ⟨w.heap.size, 0, none⟩) 1 1)) (w.alloc (.cells #[.string (X.s.extract (X.k + 1) (X.k + 1 + X.n))] 9)) := by
  generalize a.eval = ρ at e90 ⊢
  unfold execOp
  rw [hop]
  simp [e90, go_sem]
 unfold Oper.wp
 rw [hr]
 exact hK _ _ ⟨w, k0, rfl, rfl⟩
theorem SP22.s11 (X : SP22) (ok : SP22Ok X) {Q : Exit → Act → World → Prop} : SP22.St X Q 11 := by
 intro γ listed a w o hF hC hW h1 ho h2
 obtain ⟨hd, hop, hg⟩ := fieldsL SP22.isL (i := 11) rfl ho
 have e82 : a.eval (.tmp 82) = .slice X.va X.l.length X.vc := known hF ho h2 (SP22.ini ok) ok.sz (by kernel_rfl)
 have e91 : a.eval (.tmp 91) = γ 0 := known hF ho h2 (SP22.ini ok) ok.sz (by kernel_rfl)
 have hu := unl (hF.lt ho) h1
 refine st_actG (k := 1) SP22.chain SP22.nodup rfl hF hC hW h1 ho h2 (Or.inr ⟨92, hd, rfl⟩) (injG (by kernel_rfl) hu) hg ?_
 intro hW0 K hK
 obtain ⟨w1, k1, g0, rfl⟩ := hW0
 rw [g0] at e91
 have lb := ok.cb.nw k1
 have n1 : Nw w1 (w1.alloc (.cells #[.string (X.s.extract (X.k + 1) (X.k + 1 + X.n))] 9)) := (Below.refl _ _).alloc (Nat.le_refl _) _
 refine wpk_tx _ (.tmp 82) (.tmp 91) hop (X.bx + 1) (.slice X.va X.l.length X.vc) X.l (X.s.extract (X.k + 1) (X.k + 1 + X.n)) e82 (lb.own.nw n1) w1.heap.size e91 (by simp) (by have := ok.len; omega) (by have := lb.lt; simp; omega) ?_
 intro v' w' h3 h4
 exact hK _ _ ⟨w1, k1, h3, n1.ext h4⟩
theorem SP22.s13 (X : SP22) (ok : SP22Ok X) {Q : Exit → Act → World → Prop} : SP22.St X Q 13 := by
 intro γ listed a w o hF hC hW h1 ho h2
 obtain ⟨hd, hop, hg⟩ := fieldsL SP22.isL (i := 13) rfl ho
 have e93 : a.eval (.tmp 93) = .pointer (some ⟨X.bx, 2, none⟩) := known hF ho h2 (SP22.ini ok) ok.sz (by kernel_rfl)
 have e92 : a.eval (.tmp 92) = γ 1 := known hF ho h2 (SP22.ini ok) ok.sz (by kernel_rfl)
 have hu := unl (hF.lt ho) h1
 refine st_actG (k := 2) SP22.chain SP22.nodup rfl hF hC hW h1 ho h2 (Or.inl hd) (injG (by kernel_rfl) hu) hg ?_
 intro hW0 K hK
 obtain ⟨w1, k1, o1, x1⟩ := hW0
 obtain ⟨t0, tf⟩ := (ok.cb.nw k1).there x1
 obtain ⟨sa, sc, g1⟩ := o1.slice
 have hr : (execOp a.eval o).run Tryz.prog w = .ok .skip (w.setCell ⟨X.bx, 2, none⟩ (γ 1)) := by
  rw [g1] at e92 ⊢
  generalize a.eval = ρ at e92 e93 ⊢
  unfold execOp
  rw [hop]
  simp [e92, e93, t0, tf, go_sem]
 unfold Oper.wp
 rw [hr]
 exact hK _ _ ⟨w1, w, k1, o1, x1, rfl⟩
theorem SP22.size : (opsOf 22 Tryz.f114).size = 14 := by kernel_rfl
theorem SP22.rest (X : SP22) (ok : SP22Ok X) {Q : Exit → Act → World → Prop} : ∀ i ∈ [1, 9, 10, 11, 13], SP22.St X Q i := by
 simp only [List.forall_mem_cons]
 exact ⟨SP22.s1 X ok,
  SP22.s9 X ok,
  SP22.s10 X ok,
  SP22.s11 X ok,
  SP22.s13 X ok, List.forall_mem_nil _⟩
theorem SP22.steps (X : SP22) (ok : SP22Ok X) {Q : Exit → Act → World → Prop} (i : Nat) (hi : i < (opsOf 22 Tryz.f114).size) : SP22.St X Q i := by
 rw [SP22.size] at hi
 rcases (by decide : ∀ i, i < 14 → i ∈ [0, 2, 3, 4, 5, 6, 7, 8, 12] ∨ i ∈ [1, 9, 10, 11, 13]) i hi with h | h
 · exact SP22.plain X ok i h
 · exact SP22.rest X ok i h
/-- The region, whatever order comes up. -/
theorem SP22.run (X : SP22) (ok : SP22Ok X) {Q : Exit → Act → World → Prop} (w : World) (h0 : X.Wd 0 (fun _ => undef) w.drew) (hend : ∀ (γ : Nat → Value) w', X.Wd 3 γ w' → Q .normal (((((((((((((X.a0.put (some 81) (.pointer (some ⟨X.bx, 2, none⟩))).put (some 82) (.slice X.va X.l.length X.vc)).put (some 83) (.string X.s)).put (some 84) (.int .i64 (X.k : Int))).put (some 85) (.int .i64 ((X.k : Int) + 1))).put (some 86) (.int .i64 (X.k : Int))).put (some 87) (.int .i64 ((X.k : Int) + 1))).put (some 88) (.int .i64 (X.n : Int))).put (some 89) (.int .i64 ((X.k : Int) + 1 + (X.n : Int)))).put (some 90) (.string (X.s.extract (X.k + 1) (X.k + 1 + X.n)))).put (some 91) (γ 0)).put (some 92) (γ 1)).put (some 93) (.pointer (some ⟨X.bx, 2, none⟩))) w') : (Code.region 22 (opsOf 22 Tryz.f114) true).wp Tryz.prog Q X.a0 w := by
 refine reg_act (acts := SP22.acts) (av := SP22.av) (val0 := X.val0) (Wd := X.Wd) (by kernel_rfl) (by kernel_rfl) (by rw [SP22.size]; decide) (fun i hi => SP22.steps X ok i hi) _ h0 ?_
 intro γ w' h
 exact end_at (hend γ w' h) (by kernel_rfl)
end Go.Proofs.YtnkmdmmlpidcmaaGreatDoor
namespace Go.Proofs.YtnkmdmmlpidcmaaGreatDoor
open Go.ChangeShapes Go.WideShapes Go.ChangeAt Go.RowKit
set_option linter.unusedVariables false

theorem srunL (w : World) (s : ByteArray) (hs : s.size ≤ 1048576) : Calls Tryz.prog 105 #[.string s] w fun e w' => e = .returned (.int .i64 (runL s.data.toList : Nat)) ∧ w' = w := by
  refine (srun w s hs).mono ?_
  rintro e w' ⟨⟨n, h1, rfl⟩, rfl⟩
  exact ⟨by rw [lead_run h1], rfl⟩
theorem runL_le (l : List UInt8) : runL l ≤ l.length := by
  by_cases h : runL l = 0
  · rw [h]; exact Nat.zero_le _
  · exact (run_pos h).2.2
theorem clsS_fuel : ∀ (f g : Nat) (l : List UInt8) (acc : List (List UInt8)), l.length < f → l.length < g → clsS f l acc = clsS g l acc := by
  intro f
  induction f with
  | zero => intro g l acc h; omega
  | succ f ih =>
    intro g l acc h1 h2
    cases g with
    | zero => omega
    | succ g =>
      cases l with
      | nil => rfl
      | cons b t =>
        show (if b = 46 then (if runL t = 0 ∨ acc.length = 4 then none else clsS f (t.drop (runL t)) (acc ++ [t.take (runL t)])) else none) = (if b = 46 then (if runL t = 0 ∨ acc.length = 4 then none else clsS g (t.drop (runL t)) (acc ++ [t.take (runL t)])) else none)
        have hl : (t.drop (runL t)).length < f ∧ (t.drop (runL t)).length < g := by
          simp only [List.length_cons] at h1 h2
          rw [List.length_drop]
          omega
        rw [ih g _ _ hl.1 hl.2]
/-- Classes that are still to be read. -/
def clsR (l : List UInt8) (acc : List (List UInt8)) : Option (List (List UInt8)) := clsS (l.length + 1) l acc
theorem clsR_step (t : List UInt8) (acc : List (List UInt8)) (h1 : runL t ≠ 0) (h2 : acc.length ≠ 4) : clsR (46 :: t) acc = clsR (t.drop (runL t)) (acc ++ [t.take (runL t)]) := by
  unfold clsR
  show (if (46 : UInt8) = 46 then (if runL t = 0 ∨ acc.length = 4 then none else clsS _ (t.drop (runL t)) (acc ++ [t.take (runL t)])) else none) = _
  rw [if_pos rfl, if_neg (by omega)]
  exact clsS_fuel _ _ _ _ (by rw [List.length_drop, List.length_cons]; omega) (Nat.lt_succ_self _)
theorem clsR_bad (t : List UInt8) (acc : List (List UInt8)) (h : runL t = 0 ∨ acc.length = 4) : clsR (46 :: t) acc = none := by
  unfold clsR
  show (if (46 : UInt8) = 46 then (if runL t = 0 ∨ acc.length = 4 then none else clsS _ (t.drop (runL t)) (acc ++ [t.take (runL t)])) else none) = _
  rw [if_pos rfl, if_pos h]
theorem clsR_other (b : UInt8) (t : List UInt8) (acc : List (List UInt8)) (h : b ≠ 46) : clsR (b :: t) acc = none := by
  unfold clsR
  show (if b = 46 then _ else none) = none
  rw [if_neg h]
theorem clsR_nil (acc : List (List UInt8)) : clsR [] acc = some acc := rfl
/-- How far the type goes. -/
def tyN (l : List UInt8) : Nat := if l.head? = some 42 then 1 else runL l
theorem tyN_le (l : List UInt8) : tyN l ≤ l.length := by
  unfold tyN
  split
  · cases l with
    | nil => rename_i h; cases h
    | cons b t => simp
  · exact runL_le l
theorem tyS_N (l : List UInt8) : tyS l = (l.take (tyN l), l.drop (tyN l)) := by
  cases l with
  | nil => simp [tyS]
  | cons b t =>
    unfold tyN tyS
    by_cases h : b = 42
    · simp [h]
    · simp [h]
theorem prs_split {l : List UInt8} (h : l ≠ []) : prs l = match idS (l.drop (tyN l)) with
  | none => none
  | some (id, r) => match clsR r [] with
    | none => none
    | some cs => some ⟨l.take (tyN l), id, cs⟩ := by
  unfold prs clsR
  rw [if_neg h, tyS_N]
  rfl
theorem drop_at {l : List UInt8} {i : Nat} (h : i < l.length) : l.drop i = l[i] :: l.drop (i + 1) := List.drop_eq_getElem_cons h
theorem tail_list (s : ByteArray) (k : Nat) : (s.extract k s.size).data.toList = s.data.toList.drop k := by rw [ext_tail, bA_list]
theorem ext_mid (s : ByteArray) (a n : Nat) : s.extract a (a + n) = bA ((s.data.toList.drop a).take n) := by
  rw [ext_bA, List.drop_take, Nat.add_sub_cancel_left]
/-! ### The state -/
theorem CvP.off {b : Nat} {w : World} {p q : ByteArray} {v : Value} {l : List ByteArray} (h : CvP b w p q v l) (b2 o : Nat) (u : Value) (hne : b ≠ b2) (hv : v.ownBlock ≠ some b2) : CvP b (w.setCell ⟨b2, o, none⟩ u) p q v l := by
  have far : ∀ x, (w.setCell ⟨b2, o, none⟩ u).cell? ⟨b, x, none⟩ = w.cell? ⟨b, x, none⟩ := fun x => World.cell?_setCell_other _ _ _ _ (fun e => by injection e; omega)
  exact ⟨(far 0).trans h.c0, (far 1).trans h.c1, (far 2).trans h.c2, fun x => by rw [World.frozen?_setCell]; exact h.free x, Txs.far h.own _ _ _ hv⟩
theorem CvP.low {b B : Nat} {w w' : World} {p q : ByteArray} (h : CvP b w p q (.slice none 0 0) []) (k : Below B w w') (hb : b < B) : CvP b w' p q (.slice none 0 0) [] :=
  ⟨(Below.cell k (p := ⟨b, 0, none⟩) hb).trans h.c0, (Below.cell k (p := ⟨b, 1, none⟩) hb).trans h.c1, (Below.cell k (p := ⟨b, 2, none⟩) hb).trans h.c2, fun o => (Below.frozen k (p := ⟨b, o, none⟩) hb).trans (h.free o), Txs.nil _ _⟩
theorem CvP.ty {b : Nat} {w : World} {p q : ByteArray} {v : Value} {l : List ByteArray} (h : CvP b w p q v l) (p' : ByteArray) : CvP b (w.setCell ⟨b, 0, none⟩ (.string p')) p' q v l := by
  have far : ∀ x, x ≠ 0 → (w.setCell ⟨b, 0, none⟩ (.string p')).cell? ⟨b, x, none⟩ = w.cell? ⟨b, x, none⟩ := fun x hx => World.cell?_setCell_other _ _ _ _ (fun e => by injection e; omega)
  exact ⟨World.cell?_setCell_same w ⟨b, 0, none⟩ _ h.c0, (far 1 (by omega)).trans h.c1, (far 2 (by omega)).trans h.c2, fun x => by rw [World.frozen?_setCell]; exact h.free x, Txs.far h.own _ _ _ h.ne⟩
theorem CvP.id {b : Nat} {w : World} {p q : ByteArray} {v : Value} {l : List ByteArray} (h : CvP b w p q v l) (q' : ByteArray) : CvP b (w.setCell ⟨b, 1, none⟩ (.string q')) p q' v l := by
  have far : ∀ x, x ≠ 1 → (w.setCell ⟨b, 1, none⟩ (.string q')).cell? ⟨b, x, none⟩ = w.cell? ⟨b, x, none⟩ := fun x hx => World.cell?_setCell_other _ _ _ _ (fun e => by injection e; omega)
  exact ⟨(far 0 (by omega)).trans h.c0, World.cell?_setCell_same w ⟨b, 1, none⟩ _ h.c1, (far 2 (by omega)).trans h.c2, fun x => by rw [World.frozen?_setCell]; exact h.free x, Txs.far h.own _ _ _ h.ne⟩
structure PSt (w wx : World) (ty id : ByteArray) (v : Value) (cls : List ByteArray) : Prop where
  box : CvP (w.heap.size + 1) wx ty id v cls
  z : CvP w.heap.size wx ⟨#[]⟩ ⟨#[]⟩ (.slice none 0 0) []
  nw : Nw w wx
theorem PSt.ty {w wx : World} {ty id : ByteArray} {v : Value} {cls : List ByteArray} (h : PSt w wx ty id v cls) (ty' : ByteArray) : PSt w (wx.setCell ⟨w.heap.size + 1, 0, none⟩ (.string ty')) ty' id v cls :=
  ⟨h.box.ty ty', h.z.off _ _ _ (by omega) (by simp [Value.ownBlock]), h.nw.setCell (by simp) _⟩
theorem PSt.id {w wx : World} {ty id : ByteArray} {v : Value} {cls : List ByteArray} (h : PSt w wx ty id v cls) (id' : ByteArray) : PSt w (wx.setCell ⟨w.heap.size + 1, 1, none⟩ (.string id')) ty id' v cls :=
  ⟨h.box.id id', h.z.off _ _ _ (by omega) (by simp [Value.ownBlock]), h.nw.setCell (by simp) _⟩
theorem PSt.go {w wx wy : World} {ty id : ByteArray} {v : Value} {cls : List ByteArray} (h : PSt w wx ty id v cls) (k : Nw wx wy) : PSt w wy ty id v cls := ⟨h.box.nw k, h.z.nw k, Nw.trans h.nw k⟩
theorem PSt.put {w wx w' : World} {ty id : ByteArray} {v v' : Value} {cls cls' : List ByteArray} (h : PSt w wx ty id v cls) (k : Ext v v' wx w') (ho : Txs w' (w.heap.size + 1 + 1) v' cls') : PSt w (w'.setCell ⟨w.heap.size + 1, 2, none⟩ v') ty id v' cls' := by
  obtain ⟨h1, h2⟩ := h.box.put k ho
  exact ⟨h1, h.z.low h2 (Nat.lt_succ_self _), Below.trans h.nw (Below.mono h2 (by omega))⟩
theorem PSt.new (w : World) (t : TypeId) : PSt w ((w.alloc (.cells #[.string ⟨#[]⟩, .string ⟨#[]⟩, .slice none 0 0] t)).alloc (.cells #[.string ⟨#[]⟩, .string ⟨#[]⟩, .slice none 0 0] t)) ⟨#[]⟩ ⟨#[]⟩ (.slice none 0 0) [] := by
  have h1 := CvP.new w t ⟨#[]⟩ ⟨#[]⟩
  have h2 := CvP.new (w.alloc (.cells #[.string ⟨#[]⟩, .string ⟨#[]⟩, .slice none 0 0] t)) t ⟨#[]⟩ ⟨#[]⟩
  rw [World.size_alloc] at h2
  exact ⟨h2, h1.nw ((Below.refl _ _).alloc (Nat.le_refl _) _), (((Below.refl _ _).alloc (Nat.le_refl _) _).alloc (by simp) _)⟩
theorem PSt.done {w w9 : World} {ty id : ByteArray} {va : Option Addr} {vc : Nat} {D : List ByteArray} (h : PSt w w9 ty id (.slice va D.length vc) D) (u0 u1 u2 : Value) :
    RowM 1 EStr (((w9.setCell ⟨w.heap.size, 0, none⟩ u0).setCell ⟨w.heap.size, 1, none⟩ u1).setCell ⟨w.heap.size, 2, none⟩ u2) (.slice va D.length vc) D (iv w (((w9.setCell ⟨w.heap.size, 0, none⟩ u0).setCell ⟨w.heap.size, 1, none⟩ u1).setCell ⟨w.heap.size, 2, none⟩ u2)) := by
  have hne : (Value.slice va D.length vc).ownBlock ≠ some w.heap.size := fun e => by have := (World.ownsRow.lt h.box.own _ e).1; omega
  exact RowM.ofTxs (((h.box.own.far _ _ _ hne).far _ _ _ hne).far _ _ _ hne) (fun b h1 h2 => ⟨by omega, h2⟩)
end Go.Proofs.YtnkmdmmlpidcmaaGreatDoor

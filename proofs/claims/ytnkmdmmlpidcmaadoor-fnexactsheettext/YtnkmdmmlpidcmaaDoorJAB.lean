/-
  A region that draws its order, in short: the operations that only read and work out values by one theorem, what they read checked by a Bool; each theorem names its conditions.
  Rows of numbers in memory; each theorem names its conditions.
  Lists of bytes that lie in a block of their own, and what leaves them as they are; each theorem names its conditions.
  Small facts on new lists and on what is left as it was; each theorem names its conditions.
-/
import Derived.Test.YtnkmdmmlpidcmaaDoorJAA
import Derived.Deep.OwnRows
import Derived.Deep.QuietTactic
import Derived.BigQuiet
import Derived.ShutString
import Derived.ChangeOld
import Derived.Deep.RegionWith
import Derived.Deep.RegionHeld3
namespace Go.Proofs.YtnkmdmmlpidcmaaDoor
open Go.ChangeShapes Go.WideShapes Go.ChangeAt Go.RowKit
set_option linter.unusedVariables false

/-- What an operation reads. -/
def readsOf : Op → Option (List Operand)
  | .move x => some [x]
  | .assign x => some [x]
  | .nilCheck x => some [x]
  | .pick c a b => some [c, a, b]
  | .build _ ps => some (ps.toList.map (·.2))
  | .load _ a => some [a]
  | .binOp _ _ x y _ => some [x, y]
  | .unOp _ _ x => some [x]
  | .fieldAddr _ x _ => some [x]
  | .indexAddr _ x ix => some [x, ix]
  | .extract t _ => some [t]
  | .call c => match c.callee with
    | .builtin _ => some c.args.toList
    | _ => none
  | _ => none
theorem map_same {α β : Type} {f g : α → β} {l : Array α} (h : ∀ x ∈ l.toList, f x = g x) : l.map f = l.map g := by
  apply Array.ext'
  rw [Array.toList_map, Array.toList_map]
  exact List.map_congr_left h
theorem exec_same {ρ ρ' : Operand → Value} {o : Oper} {l : List Operand} (h : readsOf o.op = some l) (he : ∀ x ∈ l, ρ x = ρ' x) : execOp ρ o = execOp ρ' o := by
  unfold execOp
  cases ho : o.op <;> rw [ho] at h <;> simp only [readsOf, Option.some.injEq, reduceCtorEq] at h
  case build t ps =>
    subst h
    have e : ps.map (fun (p : Nat × Operand) => (p.1, ρ p.2)) = ps.map (fun (p : Nat × Operand) => (p.1, ρ' p.2)) := map_same fun x hx => by rw [he x.2 (List.mem_map.2 ⟨x, hx, rfl⟩)]
    show (do let x ← Instr.build t (ps.map (fun (p : Nat × Operand) => (p.1, ρ p.2))); pure (Next.value x) : Sem Next) = _
    rw [e]
  case call c =>
    cases hc : c.callee <;> rw [hc] at h <;> simp only [Option.some.injEq, reduceCtorEq] at h
    subst h
    have e : c.args.map ρ = c.args.map ρ' := map_same he
    simp only [resolve, hc, e]
  all_goals
    subst h
    simp only [List.mem_cons, List.not_mem_nil, or_false, forall_eq_or_imp, forall_eq] at he
    simp only [he]
/-- The values that operands stand for. -/
def envR (v : Nat → Value) : Operand → Value
  | .tmp n => v n
  | .const c => c
  | .global g => .pointer (some ⟨g, 0, none⟩)
  | .func f => .func (.func f) #[] #[]
/-- The value of an operand is known when operation i comes up. -/
def srcB (ops : Array Oper) (av : Nat → Option Nat) (ini : List Nat) (nt i : Nat) : Operand → Bool
  | .tmp n => decide (n < nt) && ((List.range ops.size).any (fun j => waitsB ops i j && decide (dstOf ops j = some n)) || (decide (n ∈ ini) && (av n).isNone && (List.range ops.size).all (fun j => dstOf ops j != some n)))
  | _ => true
def tri (o : Oper) : Option Nat × Op × Option (Nat × Bool) := (o.dst, o.op, o.guard)
section
variable {ops : Array Oper} {acts : List Nat} {av : Nat → Option Nat} {val0 : Nat → Value} {Wd : Nat → (Nat → Value) → World → Prop} {a0 : Act} {Q : Exit → Act → World → Prop} {L : List (Option Nat × Op × Option (Nat × Bool))} {ini : List Nat} {nt : Nat}
theorem fieldsL (hL : ops.toList.map tri = L) {i : Nat} {o : Oper} {x : Option Nat} {y : Op} {z : Option (Nat × Bool)} (h : L[i]? = some (x, y, z)) (ho : ops[i]? = some o) : o.dst = x ∧ o.op = y ∧ o.guard = z := by
  rw [← hL, List.getElem?_map, Array.getElem?_toList, ho] at h
  simp only [Option.map_some, Option.some.injEq, tri, Prod.mk.injEq] at h
  exact h
theorem dstL (hL : ops.toList.map tri = L) {i d : Nat} (h : (L[i]?).bind (·.1) = some d) : dstOf ops i = some d := by
  rw [← hL, List.getElem?_map, Array.getElem?_toList] at h
  unfold dstOf
  cases ho : ops[i]? with
  | none => rw [ho] at h; cases h
  | some o => rw [ho] at h; exact h
theorem known {γ : Nat → Value} {listed : Array Bool} {a : Act} {i : Nat} {o : Oper} (hF : FrI ops (valG av val0 γ) a0 listed a) (ho : ops[i]? = some o) (h2 : ∀ e ∈ o.after, Region.binds .any e = true → listed.getD e.on false = true)
    (hI : ∀ n ∈ ini, a0.eval (.tmp n) = val0 n) (hs : a0.tmps.size = nt) {x : Operand} (h : srcB ops av ini nt i x = true) : a.eval x = envR (valG av val0 γ) x := by
  cases x with
  | tmp n =>
    simp only [srcB, Bool.and_eq_true, Bool.or_eq_true, decide_eq_true_eq, List.any_eq_true] at h
    obtain ⟨hn, ⟨j, _, hw, hd⟩ | ⟨⟨hm, hv⟩, hno⟩⟩ := h
    · exact slotG hF ho h2 hw hd (by rw [hs]; exact hn)
    · rw [hF.eval0 hno, hI n hm]
      show val0 n = valG av val0 γ n
      unfold valG
      rw [Option.isNone_iff_eq_none.1 hv]
  | const c => rfl
  | global g => rfl
  | func f => rfl
def injK (ops : Array Oper) (av : Nat → Option Nat) (i k : Nat) : Bool := (List.range ops.size).all (fun j => decide (j = i) || !(match dstOf ops j with | some d => decide (av d = some k) | none => false))
theorem injG {listed : Array Bool} {i k : Nat} (h : injK ops av i k = true) (hu : listed.getD i false = false) : ∀ d, got ops listed d → av d ≠ some k := by
  rintro d ⟨j, h1, h2⟩ h3
  have hlt : j < ops.size := by
    rcases Nat.lt_or_ge j ops.size with h4 | h4
    · exact h4
    · unfold dstOf at h2; rw [Array.getElem?_eq_none h4] at h2; cases h2
  have h5 := List.all_eq_true.1 h j (List.mem_range.2 hlt)
  rw [h2] at h5
  simp only [h3, decide_true, Bool.not_true, Bool.or_false, decide_eq_true_eq] at h5
  subst h5
  rw [hu] at h1
  cases h1
/-- What is checked of an operation that only reads. -/
def plainB (ops : Array Oper) (acts : List Nat) (av : Nat → Option Nat) (ini : List Nat) (nt i d : Nat) (y : Op) : Bool :=
  decide (i ∉ acts) && (av d).isNone && match readsOf y with | some l => l.all (srcB ops av ini nt i) | none => false
theorem plain_run {γ : Nat → Value} {listed : Array Bool} {a : Act} {i d : Nat} {o : Oper} {y : Op} (hF : FrI ops (valG av val0 γ) a0 listed a) (ho : ops[i]? = some o) (h2 : ∀ e ∈ o.after, Region.binds .any e = true → listed.getD e.on false = true)
    (hI : ∀ n ∈ ini, a0.eval (.tmp n) = val0 n) (hs : a0.tmps.size = nt) (hop : o.op = y) (hk : plainB ops acts av ini nt i d y = true) : i ∉ acts ∧ av d = none ∧ execOp a.eval o = execOp (envR (valG av val0 γ)) o := by
  unfold plainB at hk
  simp only [Bool.and_eq_true, decide_eq_true_eq] at hk
  obtain ⟨⟨h3, h4⟩, h5⟩ := hk
  refine ⟨h3, Option.isNone_iff_eq_none.1 h4, ?_⟩
  cases hr : readsOf y with
  | none => rw [hr] at h5; cases h5
  | some l =>
    rw [hr] at h5
    rw [← hop] at hr
    exact exec_same hr fun x hx => known hF ho h2 hI hs (List.all_eq_true.1 h5 x hx)
/-- An operation that only reads. -/
theorem st_plain (hL : ops.toList.map tri = L) (hI : ∀ n ∈ ini, a0.eval (.tmp n) = val0 n) (hs : a0.tmps.size = nt) {i d : Nat} {y : Op} (hl : L[i]? = some (some d, y, none)) (hk : plainB ops acts av ini nt i d y = true)
    (hx : ∀ γ w n (o : Oper), Wd n γ w → o.op = y → (execOp (envR (valG av val0 γ)) o).run Tryd.prog w = .ok (.value (val0 d)) w) : StepG ops acts av val0 Wd a0 Q i := by
  intro γ listed a w o hF hC hW h1 ho h2
  obtain ⟨hd, hop, hg⟩ := fieldsL hL hl ho
  obtain ⟨h3, h4, h5⟩ := plain_run hF ho h2 hI hs hop hk
  exact st_pureG hF hC hW ho h2 h3 hd hg h4 (by rw [h5]; exact hx γ w _ o hW hop)
/-- A guarded one that is wanted. -/
theorem st_plainW (hL : ops.toList.map tri = L) (hI : ∀ n ∈ ini, a0.eval (.tmp n) = val0 n) (hs : a0.tmps.size = nt) {i d gj gs : Nat} {gb : Bool} {y : Op} (hl : L[i]? = some (some d, y, some (gj, gb))) (hj : (L[gj]?).bind (·.1) = some gs) (hv : val0 gs = .bool gb) (hk : ((av gs).isNone && srcB ops av ini nt i (.tmp gs) && plainB ops acts av ini nt i d y) = true)
    (hx : ∀ γ w n (o : Oper), Wd n γ w → o.op = y → (execOp (envR (valG av val0 γ)) o).run Tryd.prog w = .ok (.value (val0 d)) w) : StepG ops acts av val0 Wd a0 Q i := by
  intro γ listed a w o hF hC hW h1 ho h2
  obtain ⟨hd, hop, hg⟩ := fieldsL hL hl ho
  simp only [Bool.and_eq_true] at hk
  obtain ⟨⟨k1, k2⟩, k3⟩ := hk
  obtain ⟨h3, h4, h5⟩ := plain_run hF ho h2 hI hs hop k3
  have eg : a.eval (.tmp gs) = .bool gb := by
    rw [known hF ho h2 hI hs k2]
    show valG av val0 γ gs = _
    unfold valG
    rw [Option.isNone_iff_eq_none.1 k1]
    exact hv
  have hlt : gs < nt := by
    simp only [srcB, Bool.and_eq_true, decide_eq_true_eq] at k2
    exact k2.1
  have hw := wanted_of (ops := ops) hg (yl_of (dstL hL hj) (by rw [hF.tsize, hs]; exact hlt) eg)
  exact st_pureW hF hC hW ho h2 h3 hd (hw.trans (by simp)) h4 (by rw [h5]; exact hx γ w _ o hW hop)
/-- A guarded one that is not wanted. -/
theorem st_plainS (hL : ops.toList.map tri = L) (hI : ∀ n ∈ ini, a0.eval (.tmp n) = val0 n) (hs : a0.tmps.size = nt) {i d gj gs : Nat} {gb : Bool} {y : Op} (hl : L[i]? = some (some d, y, some (gj, gb))) (hj : (L[gj]?).bind (·.1) = some gs) (hv : val0 gs = .bool !gb ∨ val0 gs = undef) (hk : (decide (i ∉ acts) && (av d).isNone && (av gs).isNone && srcB ops av ini nt i (.tmp gs)) = true) (hu : val0 d = undef) : StepG ops acts av val0 Wd a0 Q i := by
  intro γ listed a w o hF hC hW h1 ho h2
  obtain ⟨hd, hop, hg⟩ := fieldsL hL hl ho
  simp only [Bool.and_eq_true, decide_eq_true_eq] at hk
  obtain ⟨⟨⟨h3, h4⟩, k1⟩, k2⟩ := hk
  have eg : a.eval (.tmp gs) = val0 gs := by
    rw [known hF ho h2 hI hs k2]
    show valG av val0 γ gs = _
    unfold valG
    rw [Option.isNone_iff_eq_none.1 k1]
  have hlt : gs < a.tmps.size := by
    simp only [srcB, Bool.and_eq_true, decide_eq_true_eq] at k2
    rw [hF.tsize, hs]
    exact k2.1
  have hw : Region.wanted o (yielded ops a.tmps) = false := by
    rcases hv with hv | hv <;> rw [hv] at eg
    · have h := wanted_of (ops := ops) hg (yl_of (dstL hL hj) hlt eg)
      rw [h]
      cases gb <;> rfl
    · exact wanted_un (ops := ops) hg (dstL hL hj) hlt eg
  exact st_skipW hF hC hW ho h2 h3 hd hw (Option.isNone_iff_eq_none.1 h4) hu
/-! ### Ahead of an acting one -/
def afterOf (ops : Array Oper) (k : Nat) : List Nat := match ops[k]? with | some o => (o.after.toList.filter (fun e => Region.binds .any e)).map (·.on) | none => []
theorem after_waits {k j : Nat} (h : j ∈ afterOf ops k) : waitsB ops k j = true := by
  unfold afterOf at h
  unfold waitsB
  cases ho : ops[k]? with
  | none => rw [ho] at h; cases h
  | some o =>
    rw [ho] at h
    obtain ⟨e, he, rfl⟩ := List.mem_map.1 h
    obtain ⟨h1, h2⟩ := List.mem_filter.1 he
    show (o.after.any _) = true
    rw [Array.any_eq_true]
    obtain ⟨x, hx, hxe⟩ := List.getElem_of_mem h1
    refine ⟨x, by simpa using hx, ?_⟩
    have e1 : o.after[x]'(by simpa using hx) = e := by simpa using hxe
    rw [e1]
    simp [h2]
/-- What operations below k wait for, those of l among them. -/
def ancs (ops : Array Oper) : Nat → List Nat → List Nat
  | 0, l => l
  | k + 1, l => ancs ops k (if k ∈ l then l ++ afterOf ops k else l)
theorem ancs_listed {listed : Array Bool} (hC : Clo ops listed) : ∀ (k : Nat) (l : List Nat), (∀ j ∈ l, listed.getD j false = true) → ∀ j ∈ ancs ops k l, listed.getD j false = true
  | 0, _, h, j, hj => h j hj
  | k + 1, l, h, j, hj => by
    refine ancs_listed hC k _ ?_ j hj
    intro x hx
    by_cases hk : k ∈ l
    · rw [if_pos hk] at hx
      rcases List.mem_append.1 hx with h1 | h1
      · exact h x h1
      · exact hC k x (h k hk) (after_waits h1)
    · rw [if_neg hk] at hx
      exact h x hx
def aheadB (ops : Array Oper) (acts : List Nat) (m i : Nat) : Bool := match acts[m]? with | some x => decide (i ∈ ancs ops (x + 1) [x]) | none => false
theorem phase_leM {listed : Array Bool} {i m : Nat} (hC : Clo ops listed) (hu : listed.getD i false = false) (h : aheadB ops acts m i = true) : phase listed acts ≤ m := by
  unfold aheadB at h
  cases hm : acts[m]? with
  | none => rw [hm] at h; cases h
  | some x =>
    rw [hm] at h
    refine phase_at acts m x hm ?_
    cases hl : listed.getD x false with
    | false => rfl
    | true =>
      have := ancs_listed hC (x + 1) [x] (fun j hj => by rw [List.mem_singleton.1 hj]; exact hl) i (of_decide_eq_true h)
      rw [hu] at this
      cases this
/-- An operation that only reads, ahead of the acting one number m. -/
theorem st_plainM {m : Nat} (hL : ops.toList.map tri = L) (hI : ∀ n ∈ ini, a0.eval (.tmp n) = val0 n) (hs : a0.tmps.size = nt) {i d : Nat} {y : Op} (hl : L[i]? = some (some d, y, none)) (hk : (aheadB ops acts m i && plainB ops acts av ini nt i d y) = true)
    (hx : ∀ γ w n (o : Oper), n ≤ m → Wd n γ w → o.op = y → (execOp (envR (valG av val0 γ)) o).run Tryd.prog w = .ok (.value (val0 d)) w) : StepG ops acts av val0 Wd a0 Q i := by
  intro γ listed a w o hF hC hW h1 ho h2
  obtain ⟨hd, hop, hg⟩ := fieldsL hL hl ho
  rw [Bool.and_eq_true] at hk
  obtain ⟨h3, h4, h5⟩ := plain_run hF ho h2 hI hs hop hk.2
  exact st_pureG hF hC hW ho h2 h3 hd hg h4 (by rw [h5]; exact hx γ w _ o (phase_leM hC (unl (hF.lt ho) h1) hk.1) hW hop)
def callB (ops : Array Oper) (acts : List Nat) (av : Nat → Option Nat) (ini : List Nat) (nt i d : Nat) (args : Array Operand) : Bool :=
  decide (i ∉ acts) && (av d).isNone && args.toList.all (srcB ops av ini nt i)
theorem call_run {γ : Nat → Value} {listed : Array Bool} {a : Act} {w : World} {i d : Nat} {o : Oper} {f : FuncId} {args : Array Operand} {ts : Array TypeId} (hF : FrI ops (valG av val0 γ) a0 listed a) (ho : ops[i]? = some o) (h2 : ∀ e ∈ o.after, Region.binds .any e = true → listed.getD e.on false = true)
    (hI : ∀ n ∈ ini, a0.eval (.tmp n) = val0 n) (hs : a0.tmps.size = nt) (hop : o.op = .call { callee := .value (.func f), args := args, argTypes := ts }) (hk : callB ops acts av ini nt i d args = true) (hf : ∀ v w, (callFunc f v).run Tryd.prog w = .ok (.enter f v) w) :
    i ∉ acts ∧ av d = none ∧ (execOp a.eval o).run Tryd.prog w = .ok (.enter f (args.toList.map (envR (valG av val0 γ))).toArray) w := by
  unfold callB at hk
  simp only [Bool.and_eq_true, decide_eq_true_eq] at hk
  obtain ⟨⟨h3, h4⟩, h5⟩ := hk
  refine ⟨h3, Option.isNone_iff_eq_none.1 h4, ?_⟩
  have e : args.map a.eval = (args.toList.map (envR (valG av val0 γ))).toArray := by
    apply Array.ext'
    rw [Array.toList_map]
    exact List.map_congr_left fun x hx => known hF ho h2 hI hs (List.all_eq_true.1 h5 x hx)
  rw [← e]
  have ef : a.eval (.func f) = .func (.func f) #[] #[] := rfl
  generalize a.eval = ρ at ef ⊢
  unfold execOp
  rw [hop]
  simp [ef, hf, go_sem]
/-- A call that makes memory at most. -/
theorem st_callK (hL : ops.toList.map tri = L) (hI : ∀ n ∈ ini, a0.eval (.tmp n) = val0 n) (hs : a0.tmps.size = nt) {i d : Nat} {f : FuncId} {args : Array Operand} {ts : Array TypeId} (hl : L[i]? = some (some d, .call { callee := .value (.func f), args := args, argTypes := ts }, none)) (hk : callB ops acts av ini nt i d args = true) (hf : ∀ v w, (callFunc f v).run Tryd.prog w = .ok (.enter f v) w)
    (hx : ∀ γ w n, Wd n γ w → Calls Tryd.prog f (args.toList.map (envR (valG av val0 γ))).toArray w fun e w' => e = .returned (val0 d) ∧ Kp w w') (hp : ∀ γ w n w', Wd n γ w → Kp w w' → Wd n γ w') : StepG ops acts av val0 Wd a0 Q i := by
  intro γ listed a w o hF hC hW h1 ho h2
  obtain ⟨hd, hop, hg⟩ := fieldsL hL hl ho
  obtain ⟨h3, h4, h5⟩ := call_run (w := w) hF ho h2 hI hs hop hk hf
  exact st_callG hF hC hW ho h2 h3 hd hg h4 h5 (hx γ w _ hW) (fun w' => hp γ w _ w' hW)
/-- The same ahead of all acting ones. -/
theorem st_callZ (hL : ops.toList.map tri = L) (hI : ∀ n ∈ ini, a0.eval (.tmp n) = val0 n) (hs : a0.tmps.size = nt) {i d : Nat} {f : FuncId} {args : Array Operand} {ts : Array TypeId} (hl : L[i]? = some (some d, .call { callee := .value (.func f), args := args, argTypes := ts }, none)) (hk : (aheadB ops acts 0 i && callB ops acts av ini nt i d args) = true) (hf : ∀ v w, (callFunc f v).run Tryd.prog w = .ok (.enter f v) w)
    (hx : ∀ γ w, Wd 0 γ w → Calls Tryd.prog f (args.toList.map (envR (valG av val0 γ))).toArray w fun e w' => e = .returned (val0 d) ∧ Kp w w') (hp : ∀ γ w w', Wd 0 γ w → Kp w w' → Wd 0 γ w') : StepG ops acts av val0 Wd a0 Q i := by
  intro γ listed a w o hF hC hW h1 ho h2
  obtain ⟨hd, hop, hg⟩ := fieldsL hL hl ho
  rw [Bool.and_eq_true] at hk
  obtain ⟨h3, h4, h5⟩ := call_run (w := w) hF ho h2 hI hs hop hk.2 hf
  have hz : phase listed acts = 0 := Nat.le_zero.1 (phase_leM hC (unl (hF.lt ho) h1) hk.1)
  refine st_callG hF hC hW ho h2 h3 hd hg h4 h5 (hx γ w (by rw [hz] at hW; exact hW)) (fun w' hk' => ?_)
  rw [hz] at hW ⊢
  exact hp γ w w' hW hk'
theorem end_at {a b : Act} {w : World} (h : Q .normal a w) (e : b = a) : Q .normal b w := by rw [e]; exact h
end
end Go.Proofs.YtnkmdmmlpidcmaaDoor
namespace Go.Proofs.YtnkmdmmlpidcmaaDoor
open Go.ChangeShapes Go.WideShapes Go.ChangeAt Go.RowKit
set_option linter.unusedVariables false


theorem Tryd.info5 : (Tryd.prog.info? 5).map (fun i => (i.zero, i.size, i.bytes)) = some (some (.int .u8 0), 1, 1) := by kernel_rfl
theorem Tryd.info3 : (Tryd.prog.info? 3).map (fun i => (i.zero, i.size, i.bytes)) = some (some (.int .i64 0), 1, 8) := by kernel_rfl

/-- The numbers zs of the kind k lie at a. -/
def Row (k : IntKind) (w : World) (a : Option Addr) (zs : List Int) : Prop :=
  zs = [] ∨ ∃ b off, a = some ⟨b, off, none⟩ ∧ b < w.heap.size ∧ ∀ i, i < zs.length → w.cell? ⟨b, off + i, none⟩ = some (.int k (zs.getD i 0))

def cellsOf (k : IntKind) (zs : List Int) : Array Value := (zs.map (Value.int k)).toArray
/-- A new list of which the first n numbers have been laid. -/
def part (k : IntKind) (zs : List Int) (n : Nat) : Array Value := ((zs.take n).map (Value.int k) ++ List.replicate (zs.length - n) (Value.int k 0)).toArray
theorem part_all (k : IntKind) (zs : List Int) : part k zs zs.length = cellsOf k zs := by simp [part, cellsOf]
theorem part_none (k : IntKind) (zs : List Int) : madeCells #[Value.int k 0] zs.length = part k zs 0 := by
  simp only [part, madeCells, List.take_zero, List.map_nil, List.nil_append, Nat.sub_zero]
  apply Array.ext_getElem?
  intro i
  simp [Nat.mod_one]
  by_cases h : i < zs.length <;> simp [h]
theorem part_at (k : IntKind) (zs : List Int) (n : Nat) (h : n < zs.length) : (part k zs n)[n]? = some (.int k 0) := by
  simp only [part, List.getElem?_toArray]
  rw [List.getElem?_append_right (by simp; omega)]
  rw [List.getElem?_replicate, if_pos (by simp; omega)]
theorem part_step (k : IntKind) (zs : List Int) (n : Nat) (h : n < zs.length) : (part k zs n).setIfInBounds n (.int k (zs.getD n 0)) = part k zs (n + 1) := by
  have e : zs.length - n = (zs.length - (n + 1)) + 1 := by omega
  have e2 : zs.getD n 0 = zs[n] := by simp [h]
  rw [e2]
  simp only [part, e, List.setIfInBounds_toArray, List.replicate_succ]
  congr 1
  rw [List.take_succ_eq_append_getElem h, List.map_append, List.set_append_right _ _ (by simp; omega)]
  simp [Nat.min_eq_left (Nat.le_of_lt h)]
theorem cellsOf_get (k : IntKind) (zs : List Int) (i : Nat) (h : i < zs.length) : (cellsOf k zs)[i]? = some (.int k (zs.getD i 0)) := by
  simp [cellsOf, h]
theorem row_new (k : IntKind) (w : World) (zs : List Int) (t : TypeId) : Row k (w.alloc (.cells (cellsOf k zs) t)) (some ⟨w.heap.size, 0, none⟩) zs := by
  refine Or.inr ⟨w.heap.size, 0, rfl, by simp, fun i hi => ?_⟩
  have := cellsOf_get k zs i hi
  simp [this]
theorem Row.keep {k : IntKind} {w w1 : World} {a : Option Addr} {zs : List Int} (h : Row k w a zs) (hk : Kp w w1) : Row k w1 a zs := by
  rcases h with h | ⟨b, off, rfl, hb, hc⟩
  · exact Or.inl h
  · exact Or.inr ⟨b, off, rfl, Nat.lt_of_lt_of_le hb hk.size, fun i hi => (hk.cells.1 _ _ hb).trans (hc i hi)⟩

end Go.Proofs.YtnkmdmmlpidcmaaDoor
namespace Go.Proofs.YtnkmdmmlpidcmaaDoor
open Go.ChangeShapes Go.WideShapes Go.ChangeAt Go.RowKit
set_option linter.unusedVariables false

/-- Nothing but the block B has changed. -/
structure Sel (B : Nat) (w w' : World) : Prop where
  os : w'.os = w.os
  tape : w'.tape = w.tape
  output : w'.output = w.output
  size : w'.heap.size = w.heap.size
  block : ∀ k, k ≠ B → w'.heap[k]? = w.heap[k]?
theorem Sel.refl (B : Nat) (w : World) : Sel B w w := ⟨rfl, rfl, rfl, rfl, fun _ _ => rfl⟩
theorem Sel.trans {B : Nat} {a b c : World} (h : Sel B a b) (k : Sel B b c) : Sel B a c :=
  ⟨k.os.trans h.os, k.tape.trans h.tape, k.output.trans h.output, k.size.trans h.size, fun i hi => (k.block i hi).trans (h.block i hi)⟩
theorem Sel.setCell {B : Nat} {a b : World} (h : Sel B a b) (o : Nat) (u : Value) : Sel B a (b.setCell ⟨B, o, none⟩ u) :=
  h.trans ⟨rfl, rfl, rfl, by simp [World.setCell], fun k hk => Below.heap_setCell _ _ _ _ (by simpa using hk)⟩
theorem Sel.below {B : Nat} {a b : World} (h : Sel B a b) : Below B a b := ⟨h.os, h.tape, h.output, by have := h.size; omega, fun k hk => h.block k (by omega)⟩

/-- The numbers zs lie in the block b, which may be written. -/
def At (w : World) (b : Nat) (zs : List Int) : Prop :=
  b < w.heap.size ∧ (∀ i, i < zs.length → w.cell? ⟨b, 0 + i, none⟩ = some (.int .u8 (zs.getD i 0))) ∧ ∀ o, w.frozen? ⟨b, o, none⟩ = false
/-- Nothing that was there is written. -/
def Nw (w w' : World) : Prop := Below w.heap.size w w'
theorem Nw.trans {a b c : World} (h : Nw a b) (k : Nw b c) : Nw a c := Below.trans h (Below.mono k (Below.size h))
theorem Kp.nw {a b : World} (h : Kp a b) : Nw a b := h.1
theorem At.nw {w w' : World} {b : Nat} {zs : List Int} (h : At w b zs) (k : Nw w w') : At w' b zs :=
  ⟨Nat.lt_of_lt_of_le h.1 (Below.size k), fun i hi => (Below.cell k (p := ⟨b, 0 + i, none⟩) h.1).trans (h.2.1 i hi), fun o => (Below.frozen k (p := ⟨b, o, none⟩) h.1).trans (h.2.2 o)⟩
theorem At.sel {w w' : World} {b B : Nat} {zs : List Int} (h : At w b zs) (k : Sel B w w') (hne : b ≠ B) : At w' b zs :=
  ⟨by rw [k.size]; exact h.1, fun i hi => (World.cell?_of_block (w := w) (a := ⟨b, 0 + i, none⟩) (k.block b hne)).trans (h.2.1 i hi), fun o => (World.frozen?_of_block (w := w) (a := ⟨b, o, none⟩) (k.block b hne)).trans (h.2.2 o)⟩
def ints (bs : List Nat) : List Int := bs.map (fun b : Nat => (b : Int))
theorem ints_len (bs : List Nat) : (ints bs).length = bs.length := by simp [ints]
theorem ints_get (bs : List Nat) (i : Nat) : (ints bs).getD i 0 = ((bs.getD i 0 : Nat) : Int) := by
  by_cases h : i < bs.length
  · simp [ints, h]
  · rw [List.getD_eq_getElem?_getD, List.getD_eq_getElem?_getD, List.getElem?_eq_none (by rw [ints_len]; omega), List.getElem?_eq_none (by omega)]; rfl
theorem At.alloc (w : World) (zs : List Int) (t : TypeId) : At (w.alloc (.cells (cellsOf .u8 zs) t)) w.heap.size zs := by
  refine ⟨by simp, fun i hi => ?_, fun o => World.frozen?_alloc_at _ _ _ _ rfl⟩
  have := cellsOf_get .u8 zs i hi
  simp [this]
theorem At.row {w : World} {b : Nat} {zs : List Int} (h : At w b zs) : Row .u8 w (some ⟨b, 0, none⟩) zs := Or.inr ⟨b, 0, rfl, h.1, h.2.1⟩
theorem Row.below {k : IntKind} {w w' : World} {a : Option Addr} {zs : List Int} (h : Row k w a zs) (hk : Below w.heap.size w w') : Row k w' a zs := by
  rcases h with h | ⟨b, off, rfl, hb, hc⟩
  · exact Or.inl h
  · exact Or.inr ⟨b, off, rfl, Nat.lt_of_lt_of_le hb hk.size, fun i hi => (hk.cell (p := ⟨b, off + i, none⟩) hb).trans (hc i hi)⟩

end Go.Proofs.YtnkmdmmlpidcmaaDoor
namespace Go.Proofs.YtnkmdmmlpidcmaaDoor
open Go.ChangeShapes Go.WideShapes Go.ChangeAt Go.RowKit
set_option linter.unusedVariables false

theorem Nw.drw {w w' : World} (h : Nw w.drew w') : Nw w w' := Nw.trans (show Nw w w.drew from (Below.refl _ _).drew) h
theorem bcell {W w1 : World} (hb : Nw W w1) : (∀ b o, b < W.heap.size → w1.cell? ⟨b, o, none⟩ = W.cell? ⟨b, o, none⟩) ∧ (∀ b o, b < W.heap.size → w1.frozen? ⟨b, o, none⟩ = W.frozen? ⟨b, o, none⟩) :=
  ⟨fun b o h => Below.cell hb (p := ⟨b, o, none⟩) h, fun b o h => Below.frozen hb (p := ⟨b, o, none⟩) h⟩
theorem run_mk (t e : TypeId) (z : Value) (size bytes : Nat) (ht : Tryd.prog.underlying t = some (.slice e)) (hinfo : (Tryd.prog.info? e).map (fun i => (i.zero, i.size, i.bytes)) = some (some z, size, bytes))
    (n : Nat) (hbytes : bytes * n ≤ 281474976710656) (h63 : n ≤ 9223372036854775807) (w : World) :
    (Instr.makeSlice t (.int .i64 (n : Int)) (.int .i64 (n : Int))).run Tryd.prog w = .ok (.slice (some ⟨w.heap.size, 0, none⟩) n n) (w.alloc (.cells (madeCells z.cells (n * size)) e)) := by
  obtain ⟨i, hi, hzz⟩ := Option.map_eq_some_iff.1 hinfo
  simp only [Prod.mk.injEq] at hzz
  obtain ⟨hz, hs, hb⟩ := hzz
  have hb' : (i.bytes : Int) * (n : Int) ≤ 281474976710656 := by
    have h : ((i.bytes * n : Nat) : Int) ≤ 281474976710656 := by rw [hb]; omega
    rwa [Int.natCast_mul] at h
  have hr := run_make (P := Tryd.prog) w t e i z ht hi hz .i64 .i64 n n (by omega) (Int.le_refl _) hb' (by omega)
  simpa [hs] using hr
theorem madeCells_get (z : Array Value) (n j : Nat) (h : j < n) : (madeCells z n)[j]? = some (z[j % z.size]!) := by
  simp [madeCells, h]
theorem addr_spot {W : World} {x : Addr} {v : Value} (h : W.cell? (x.add 0) = some v) : x = ⟨x.block, x.off, none⟩ := by
  obtain ⟨b, off, spot⟩ := x
  have hs := World.cell?_spot h
  simp [Addr.add] at hs
  subst hs; rfl
theorem add_at (b off i : Nat) : (⟨b, off, none⟩ : Addr).add i = ⟨b, off + i, none⟩ := by
  unfold Addr.add
  by_cases h0 : i = 0
  · subst h0; simp
  · simp [h0]
end Go.Proofs.YtnkmdmmlpidcmaaDoor

/-
  A region that draws its order and holds guarded operations w
-/
import Derived.Test.YtnkeljmecbohkaaGreatJAE
import Derived.Test.YtnkeljmecbohkaaGreatJAA
import Derived.Test.YtnkeljmecbohkaaGreatJAB
namespace Go.Proofs.YtnkeljmecbohkaaGreat
open Go.ChangeShapes Go.WideShapes Go.ChangeAt Go.RowKit
set_option linter.unusedVariables false
section
variable {ops : Array Oper} {acts : List Nat} {av : Nat → Option Nat} {val0 : Nat → Value} {Wd : Nat → (Nat → Value) → World → Prop} {a0 : Act} {Q : PQ}
theorem yl_of {a : Act} {j d : Nat} {v : Bool} (hd : dstOf ops j = some d) (hs : d < a.tmps.size) (he : a.eval (.tmp d) = .bool v) : yielded ops a.tmps j = some v := by
 have h1 : a.tmps.getD d undef = .bool v := he
 rw [Array.getD_eq_getD_getElem?, Array.getElem?_eq_getElem hs] at h1
 simp only [Option.getD_some] at h1
 unfold yielded
 unfold dstOf at hd
 rw [hd]
 simp only [Option.bind_some, Array.getElem?_eq_getElem hs, h1]
theorem wanted_of {o : Oper} {j : Nat} {b v : Bool} {a : Act} (hg : o.guard = some (j, b)) (hy : yielded ops a.tmps j = some v) : Region.wanted o (yielded ops a.tmps) = (v == b) := by
 unfold Region.wanted
 rw [hg]
 simp [hy]
theorem wanted_un {o : Oper} {j d : Nat} {b : Bool} {a : Act} (hg : o.guard = some (j, b)) (hd : dstOf ops j = some d) (hs : d < a.tmps.size) (he : a.eval (.tmp d) = undef) : Region.wanted o (yielded ops a.tmps) = false := by
 have h1 : a.tmps.getD d undef = undef := he
 rw [Array.getD_eq_getD_getElem?, Array.getElem?_eq_getElem hs] at h1
 simp only [Option.getD_some] at h1
 have hy : yielded ops a.tmps j = none := by
  unfold yielded
  unfold dstOf at hd
  rw [hd]
  simp only [Option.bind_some, Array.getElem?_eq_getElem hs, h1]
  rfl
 unfold Region.wanted
 rw [hg]
 simp [hy]
theorem st_pureW {γ : Nat → Value} {listed : Array Bool} {a : Act} {w : World} {i d : Nat} {o : Oper} (hF : FrI ops (valG av val0 γ) a0 listed a) (hC : Clo ops listed) (hW : Wd (phase listed acts) γ w) (ho : ops[i]? = some o) (h2 : ∀ e ∈ o.after, Region.binds .any e = true → listed.getD e.on false = true)
  (hna : i ∉ acts) (hd : o.dst = some d) (hw : Region.wanted o (yielded ops a.tmps) = true) (hav : av d = none) (hrun : (execOp a.eval o).run Tryz.prog w = .ok (.value (val0 d)) w) : wpOp Tryz.prog ops Q i (fun a' w' => InvG ops acts av val0 Wd a0 (listed.setIfInBounds i true) a' w') a w := by
 have hi := hF.lt ho
 unfold wpOp
 rw [ho]
 simp only [hw, if_true]
 refine Or.inl ?_
 unfold Oper.wp
 rw [hrun]
 have e : valG av val0 γ d = val0 d := by unfold valG; rw [hav]
 refine ⟨γ, ?_, hC.set hi ho h2, by rw [phase_ne hi acts hna]; exact hW⟩
 have := hF.put ho hd
 rw [e] at this
 exact this
theorem st_skipW {γ : Nat → Value} {listed : Array Bool} {a : Act} {w : World} {i d : Nat} {o : Oper} (hF : FrI ops (valG av val0 γ) a0 listed a) (hC : Clo ops listed) (hW : Wd (phase listed acts) γ w) (ho : ops[i]? = some o) (h2 : ∀ e ∈ o.after, Region.binds .any e = true → listed.getD e.on false = true)
  (hna : i ∉ acts) (hd : o.dst = some d) (hw : Region.wanted o (yielded ops a.tmps) = false) (hav : av d = none) (hv : val0 d = undef) : wpOp Tryz.prog ops Q i (fun a' w' => InvG ops acts av val0 Wd a0 (listed.setIfInBounds i true) a' w') a w := by
 have hi := hF.lt ho
 unfold wpOp
 rw [ho]
 simp only [hw, Bool.false_eq_true, if_false]
 have e : valG av val0 γ d = undef := by unfold valG; rw [hav]; exact hv
 refine ⟨γ, ?_, hC.set hi ho h2, by rw [phase_ne hi acts hna]; exact hW⟩
 have := hF.put ho hd
 rw [e] at this
 exact this
end
def readsOf : Op → Option (List Operand)
 | .move x => some [x]
 | .assign x => some [x]
 | .nilCheck x => some [x]
 | .pick c a b => some [c, a, b]
 | .build _ ps => some (ps.toList.map (·.2))
 | .load _ a => some [a]
 | .binOp _ _ x y _ => some [x, y]
 | .unOp _ _ x => some [x]
 | .fieldAddr _ x _ => some [x]
 | .indexAddr _ x ix => some [x, ix]
 | .extract t _ => some [t]
 | .call c => match c.callee with
  | .builtin _ => some c.args.toList
  | _ => none
 | _ => none
theorem map_same {α β : Type} {f g : α → β} {l : Array α} (h : ∀ x ∈ l.toList, f x = g x) : l.map f = l.map g := by
 apply Array.ext'
 rw [Array.toList_map, Array.toList_map]
 exact List.map_congr_left h
theorem exec_same {ρ ρ' : Operand → Value} {o : Oper} {l : List Operand} (h : readsOf o.op = some l) (he : ∀ x ∈ l, ρ x = ρ' x) : execOp ρ o = execOp ρ' o := by
 unfold execOp
 cases ho : o.op <;> rw [ho] at h <;> simp only [readsOf, Option.some.injEq, reduceCtorEq] at h
 case build t ps =>
  subst h
  have e : ps.map (fun (p : Nat × Operand) => (p.1, ρ p.2)) = ps.map (fun (p : Nat × Operand) => (p.1, ρ' p.2)) := map_same fun x hx => by rw [he x.2 (List.mem_map.2 ⟨x, hx, rfl⟩)]
  show (do let x ← Instr.build t (ps.map (fun (p : Nat × Operand) => (p.1, ρ p.2))); pure (Next.value x) : Sem Next) = _
  rw [e]
 case call c =>
  cases hc : c.callee <;> rw [hc] at h <;> simp only [Option.some.injEq, reduceCtorEq] at h
  subst h
  have e : c.args.map ρ = c.args.map ρ' := map_same he
  simp only [resolve, hc, e]
 all_goals
  subst h
  simp only [List.mem_cons, List.not_mem_nil, or_false, forall_eq_or_imp, forall_eq] at he
  simp only [he]
def envR (v : Nat → Value) : Operand → Value
 | .tmp n => v n
 | .const c => c
 | .global g => .pointer (some ⟨g, 0, none⟩)
 | .func f => .func (.func f) #[] #[]
def srcB (ops : Array Oper) (av : Nat → Option Nat) (ini : List Nat) (nt i : Nat) : Operand → Bool
 | .tmp n => decide (n < nt) && ((List.range ops.size).any (fun j => waitsB ops i j && decide (dstOf ops j = some n)) || (decide (n ∈ ini) && (av n).isNone && (List.range ops.size).all (fun j => dstOf ops j != some n)))
 | _ => true
def tri (o : Oper) : Option Nat × Op × Option (Nat × Bool) := (o.dst, o.op, o.guard)
section
variable {ops : Array Oper} {acts : List Nat} {av : Nat → Option Nat} {val0 : Nat → Value} {Wd : Nat → (Nat → Value) → World → Prop} {a0 : Act} {Q : PQ} {L : List (Option Nat × Op × Option (Nat × Bool))} {ini : List Nat} {nt : Nat}
theorem fieldsL (hL : ops.toList.map tri = L) {i : Nat} {o : Oper} {x : Option Nat} {y : Op} {z : Option (Nat × Bool)} (h : L[i]? = some (x, y, z)) (ho : ops[i]? = some o) : o.dst = x ∧ o.op = y ∧ o.guard = z := by
 rw [← hL, List.getElem?_map, Array.getElem?_toList, ho] at h
 simp only [Option.map_some, Option.some.injEq, tri, Prod.mk.injEq] at h
 exact h
theorem dstL (hL : ops.toList.map tri = L) {i d : Nat} (h : (L[i]?).bind (·.1) = some d) : dstOf ops i = some d := by
 rw [← hL, List.getElem?_map, Array.getElem?_toList] at h
 unfold dstOf
 cases ho : ops[i]? with
 | none => rw [ho] at h; cases h
 | some o => rw [ho] at h; exact h
theorem known {γ : Nat → Value} {listed : Array Bool} {a : Act} {i : Nat} {o : Oper} (hF : FrI ops (valG av val0 γ) a0 listed a) (ho : ops[i]? = some o) (h2 : ∀ e ∈ o.after, Region.binds .any e = true → listed.getD e.on false = true)
  (hI : ∀ n ∈ ini, a0.eval (.tmp n) = val0 n) (hs : a0.tmps.size = nt) {x : Operand} (h : srcB ops av ini nt i x = true) : a.eval x = envR (valG av val0 γ) x := by
 cases x with
 | tmp n =>
  simp only [srcB, Bool.and_eq_true, Bool.or_eq_true, decide_eq_true_eq, List.any_eq_true] at h
  obtain ⟨hn, ⟨j, _, hw, hd⟩ | ⟨⟨hm, hv⟩, hno⟩⟩ := h
  ·exact slotG hF ho h2 hw hd (by rw [hs]; exact hn)
  ·rw [hF.eval0 hno, hI n hm]
   show val0 n = valG av val0 γ n
   unfold valG
   rw [Option.isNone_iff_eq_none.1 hv]
 | const c => rfl
 | global g => rfl
 | func f => rfl
def injK (ops : Array Oper) (av : Nat → Option Nat) (i k : Nat) : Bool := (List.range ops.size).all (fun j => decide (j = i) || !(match dstOf ops j with | some d => decide (av d = some k) | none => false))
theorem injG {listed : Array Bool} {i k : Nat} (h : injK ops av i k = true) (hu : listed.getD i false = false) : ∀ d, got ops listed d → av d ≠ some k := by
 rintro d ⟨j, h1, h2⟩ h3
 have hlt : j < ops.size := by
  rcases Nat.lt_or_ge j ops.size with h4 | h4
  ·exact h4
  ·unfold dstOf at h2; rw [Array.getElem?_eq_none h4] at h2; cases h2
 have h5 := List.all_eq_true.1 h j (List.mem_range.2 hlt)
 rw [h2] at h5
 simp only [h3, decide_true, Bool.not_true, Bool.or_false, decide_eq_true_eq] at h5
 subst h5
 rw [hu] at h1
 cases h1
def plainB (ops : Array Oper) (acts : List Nat) (av : Nat → Option Nat) (ini : List Nat) (nt i d : Nat) (y : Op) : Bool :=
 decide (i ∉ acts) && (av d).isNone && match readsOf y with | some l => l.all (srcB ops av ini nt i) | none => false
theorem plain_run {γ : Nat → Value} {listed : Array Bool} {a : Act} {i d : Nat} {o : Oper} {y : Op} (hF : FrI ops (valG av val0 γ) a0 listed a) (ho : ops[i]? = some o) (h2 : ∀ e ∈ o.after, Region.binds .any e = true → listed.getD e.on false = true)
  (hI : ∀ n ∈ ini, a0.eval (.tmp n) = val0 n) (hs : a0.tmps.size = nt) (hop : o.op = y) (hk : plainB ops acts av ini nt i d y = true) : i ∉ acts ∧ av d = none ∧ execOp a.eval o = execOp (envR (valG av val0 γ)) o := by
 unfold plainB at hk
 simp only [Bool.and_eq_true, decide_eq_true_eq] at hk
 obtain ⟨⟨h3, h4⟩, h5⟩ := hk
 refine ⟨h3, Option.isNone_iff_eq_none.1 h4, ?_⟩
 cases hr : readsOf y with
 | none => rw [hr] at h5; cases h5
 | some l =>
  rw [hr] at h5
  rw [← hop] at hr
  exact exec_same hr fun x hx => known hF ho h2 hI hs (List.all_eq_true.1 h5 x hx)
theorem st_plain (hL : ops.toList.map tri = L) (hI : ∀ n ∈ ini, a0.eval (.tmp n) = val0 n) (hs : a0.tmps.size = nt) {i d : Nat} {y : Op} (hl : L[i]? = some (some d, y, none)) (hk : plainB ops acts av ini nt i d y = true)
  (hx : ∀ γ w n (o : Oper), Wd n γ w → o.op = y → (execOp (envR (valG av val0 γ)) o).run Tryz.prog w = .ok (.value (val0 d)) w) : StepG ops acts av val0 Wd a0 Q i := by
 intro γ listed a w o hF hC hW h1 ho h2
 obtain ⟨hd, hop, hg⟩ := fieldsL hL hl ho
 obtain ⟨h3, h4, h5⟩ := plain_run hF ho h2 hI hs hop hk
 exact st_pureG hF hC hW ho h2 h3 hd hg h4 (by rw [h5]; exact hx γ w _ o hW hop)
theorem st_plainW (hL : ops.toList.map tri = L) (hI : ∀ n ∈ ini, a0.eval (.tmp n) = val0 n) (hs : a0.tmps.size = nt) {i d gj gs : Nat} {gb : Bool} {y : Op} (hl : L[i]? = some (some d, y, some (gj, gb))) (hj : (L[gj]?).bind (·.1) = some gs) (hv : val0 gs = .bool gb) (hk : ((av gs).isNone && srcB ops av ini nt i (.tmp gs) && plainB ops acts av ini nt i d y) = true)
  (hx : ∀ γ w n (o : Oper), Wd n γ w → o.op = y → (execOp (envR (valG av val0 γ)) o).run Tryz.prog w = .ok (.value (val0 d)) w) : StepG ops acts av val0 Wd a0 Q i := by
 intro γ listed a w o hF hC hW h1 ho h2
 obtain ⟨hd, hop, hg⟩ := fieldsL hL hl ho
 simp only [Bool.and_eq_true] at hk
 obtain ⟨⟨k1, k2⟩, k3⟩ := hk
 obtain ⟨h3, h4, h5⟩ := plain_run hF ho h2 hI hs hop k3
 have eg : a.eval (.tmp gs) = .bool gb := by
  rw [known hF ho h2 hI hs k2]
  show valG av val0 γ gs = _
  unfold valG
  rw [Option.isNone_iff_eq_none.1 k1]
  exact hv
 have hlt : gs < nt := by
  simp only [srcB, Bool.and_eq_true, decide_eq_true_eq] at k2
  exact k2.1
 have hw := wanted_of (ops := ops) hg (yl_of (dstL hL hj) (by rw [hF.tsize, hs]; exact hlt) eg)
 exact st_pureW hF hC hW ho h2 h3 hd (hw.trans (by simp)) h4 (by rw [h5]; exact hx γ w _ o hW hop)
theorem st_plainS (hL : ops.toList.map tri = L) (hI : ∀ n ∈ ini, a0.eval (.tmp n) = val0 n) (hs : a0.tmps.size = nt) {i d gj gs : Nat} {gb : Bool} {y : Op} (hl : L[i]? = some (some d, y, some (gj, gb))) (hj : (L[gj]?).bind (·.1) = some gs) (hv : val0 gs = .bool !gb ∨ val0 gs = undef) (hk : (decide (i ∉ acts) && (av d).isNone && (av gs).isNone && srcB ops av ini nt i (.tmp gs)) = true) (hu : val0 d = undef) : StepG ops acts av val0 Wd a0 Q i := by
 intro γ listed a w o hF hC hW h1 ho h2
 obtain ⟨hd, hop, hg⟩ := fieldsL hL hl ho
 simp only [Bool.and_eq_true, decide_eq_true_eq] at hk
 obtain ⟨⟨⟨h3, h4⟩, k1⟩, k2⟩ := hk
 have eg : a.eval (.tmp gs) = val0 gs := by
  rw [known hF ho h2 hI hs k2]
  show valG av val0 γ gs = _
  unfold valG
  rw [Option.isNone_iff_eq_none.1 k1]
 have hlt : gs < a.tmps.size := by
  simp only [srcB, Bool.and_eq_true, decide_eq_true_eq] at k2
  rw [hF.tsize, hs]
  exact k2.1
 have hw : Region.wanted o (yielded ops a.tmps) = false := by
  rcases hv with hv | hv <;> rw [hv] at eg
  ·have h := wanted_of (ops := ops) hg (yl_of (dstL hL hj) hlt eg)
   rw [h]
   cases gb <;> rfl
  ·exact wanted_un (ops := ops) hg (dstL hL hj) hlt eg
 exact st_skipW hF hC hW ho h2 h3 hd hw (Option.isNone_iff_eq_none.1 h4) hu
def afterOf (ops : Array Oper) (k : Nat) : List Nat := match ops[k]? with | some o => (o.after.toList.filter (fun e => Region.binds .any e)).map (·.on) | none => []
theorem after_waits {k j : Nat} (h : j ∈ afterOf ops k) : waitsB ops k j = true := by
 unfold afterOf at h
 unfold waitsB
 cases ho : ops[k]? with
 | none => rw [ho] at h; cases h
 | some o =>
  rw [ho] at h
  obtain ⟨e, he, rfl⟩ := List.mem_map.1 h
  obtain ⟨h1, h2⟩ := List.mem_filter.1 he
  show (o.after.any _) = true
  rw [Array.any_eq_true]
  obtain ⟨x, hx, hxe⟩ := List.getElem_of_mem h1
  refine ⟨x, by simpa using hx, ?_⟩
  have e1 : o.after[x]'(by simpa using hx) = e := by simpa using hxe
  rw [e1]
  simp [h2]
def ancs (ops : Array Oper) : Nat → List Nat → List Nat
 | 0, l => l
 | k + 1, l => ancs ops k (if k ∈ l then l ++ afterOf ops k else l)
theorem ancs_listed {listed : Array Bool} (hC : Clo ops listed) : ∀ (k : Nat) (l : List Nat), (∀ j ∈ l, listed.getD j false = true) → ∀ j ∈ ancs ops k l, listed.getD j false = true
 | 0, _, h, j, hj => h j hj
 | k + 1, l, h, j, hj => by
  refine ancs_listed hC k _ ?_ j hj
  intro x hx
  by_cases hk : k ∈ l
  ·rw [if_pos hk] at hx
   rcases List.mem_append.1 hx with h1 | h1
   ·exact h x h1
   ·exact hC k x (h k hk) (after_waits h1)
  ·rw [if_neg hk] at hx
   exact h x hx
def aheadB (ops : Array Oper) (acts : List Nat) (m i : Nat) : Bool := match acts[m]? with | some x => decide (i ∈ ancs ops (x + 1) [x]) | none => false
theorem phase_leM {listed : Array Bool} {i m : Nat} (hC : Clo ops listed) (hu : listed.getD i false = false) (h : aheadB ops acts m i = true) : phase listed acts ≤ m := by
 unfold aheadB at h
 cases hm : acts[m]? with
 | none => rw [hm] at h; cases h
 | some x =>
  rw [hm] at h
  refine phase_at acts m x hm ?_
  cases hl : listed.getD x false with
  | false => rfl
  | true =>
   have := ancs_listed hC (x + 1) [x] (fun j hj => by rw [List.mem_singleton.1 hj]; exact hl) i (of_decide_eq_true h)
   rw [hu] at this
   cases this
theorem st_plainM {m : Nat} (hL : ops.toList.map tri = L) (hI : ∀ n ∈ ini, a0.eval (.tmp n) = val0 n) (hs : a0.tmps.size = nt) {i d : Nat} {y : Op} (hl : L[i]? = some (some d, y, none)) (hk : (aheadB ops acts m i && plainB ops acts av ini nt i d y) = true)
  (hx : ∀ γ w n (o : Oper), n ≤ m → Wd n γ w → o.op = y → (execOp (envR (valG av val0 γ)) o).run Tryz.prog w = .ok (.value (val0 d)) w) : StepG ops acts av val0 Wd a0 Q i := by
 intro γ listed a w o hF hC hW h1 ho h2
 obtain ⟨hd, hop, hg⟩ := fieldsL hL hl ho
 rw [Bool.and_eq_true] at hk
 obtain ⟨h3, h4, h5⟩ := plain_run hF ho h2 hI hs hop hk.2
 exact st_pureG hF hC hW ho h2 h3 hd hg h4 (by rw [h5]; exact hx γ w _ o (phase_leM hC (unl (hF.lt ho) h1) hk.1) hW hop)
def callB (ops : Array Oper) (acts : List Nat) (av : Nat → Option Nat) (ini : List Nat) (nt i d : Nat) (args : Array Operand) : Bool :=
 decide (i ∉ acts) && (av d).isNone && args.toList.all (srcB ops av ini nt i)
theorem call_run {γ : Nat → Value} {listed : Array Bool} {a : Act} {w : World} {i d : Nat} {o : Oper} {f : FuncId} {args : Array Operand} {ts : Array TypeId} (hF : FrI ops (valG av val0 γ) a0 listed a) (ho : ops[i]? = some o) (h2 : ∀ e ∈ o.after, Region.binds .any e = true → listed.getD e.on false = true)
  (hI : ∀ n ∈ ini, a0.eval (.tmp n) = val0 n) (hs : a0.tmps.size = nt) (hop : o.op = .call { callee := .value (.func f), args := args, argTypes := ts }) (hk : callB ops acts av ini nt i d args = true) (hf : ∀ v w, (callFunc f v).run Tryz.prog w = .ok (.enter f v) w) :
  i ∉ acts ∧ av d = none ∧ (execOp a.eval o).run Tryz.prog w = .ok (.enter f (args.toList.map (envR (valG av val0 γ))).toArray) w := by
 unfold callB at hk
 simp only [Bool.and_eq_true, decide_eq_true_eq] at hk
 obtain ⟨⟨h3, h4⟩, h5⟩ := hk
 refine ⟨h3, Option.isNone_iff_eq_none.1 h4, ?_⟩
 have e : args.map a.eval = (args.toList.map (envR (valG av val0 γ))).toArray := by
  apply Array.ext'
  rw [Array.toList_map]
  exact List.map_congr_left fun x hx => known hF ho h2 hI hs (List.all_eq_true.1 h5 x hx)
 rw [← e]
 have ef : a.eval (.func f) = .func (.func f) #[] #[] := rfl
 generalize a.eval = ρ at ef ⊢
 unfold execOp
 rw [hop]
 simp [ef, hf, go_sem]
theorem st_callK (hL : ops.toList.map tri = L) (hI : ∀ n ∈ ini, a0.eval (.tmp n) = val0 n) (hs : a0.tmps.size = nt) {i d : Nat} {f : FuncId} {args : Array Operand} {ts : Array TypeId} (hl : L[i]? = some (some d, .call { callee := .value (.func f), args := args, argTypes := ts }, none)) (hk : callB ops acts av ini nt i d args = true) (hf : ∀ v w, (callFunc f v).run Tryz.prog w = .ok (.enter f v) w)
  (hx : ∀ γ w n, Wd n γ w → Calls Tryz.prog f (args.toList.map (envR (valG av val0 γ))).toArray w fun e w' => e = .returned (val0 d) ∧ Kp w w') (hp : ∀ γ w n w', Wd n γ w → Kp w w' → Wd n γ w') : StepG ops acts av val0 Wd a0 Q i := by
 intro γ listed a w o hF hC hW h1 ho h2
 obtain ⟨hd, hop, hg⟩ := fieldsL hL hl ho
 obtain ⟨h3, h4, h5⟩ := call_run (w := w) hF ho h2 hI hs hop hk hf
 exact st_callG hF hC hW ho h2 h3 hd hg h4 h5 (hx γ w _ hW) (fun w' => hp γ w _ w' hW)
theorem st_callZ (hL : ops.toList.map tri = L) (hI : ∀ n ∈ ini, a0.eval (.tmp n) = val0 n) (hs : a0.tmps.size = nt) {i d : Nat} {f : FuncId} {args : Array Operand} {ts : Array TypeId} (hl : L[i]? = some (some d, .call { callee := .value (.func f), args := args, argTypes := ts }, none)) (hk : (aheadB ops acts 0 i && callB ops acts av ini nt i d args) = true) (hf : ∀ v w, (callFunc f v).run Tryz.prog w = .ok (.enter f v) w)
  (hx : ∀ γ w, Wd 0 γ w → Calls Tryz.prog f (args.toList.map (envR (valG av val0 γ))).toArray w fun e w' => e = .returned (val0 d) ∧ Kp w w') (hp : ∀ γ w w', Wd 0 γ w → Kp w w' → Wd 0 γ w') : StepG ops acts av val0 Wd a0 Q i := by
 intro γ listed a w o hF hC hW h1 ho h2
 obtain ⟨hd, hop, hg⟩ := fieldsL hL hl ho
 rw [Bool.and_eq_true] at hk
 obtain ⟨h3, h4, h5⟩ := call_run (w := w) hF ho h2 hI hs hop hk.2 hf
 have hz : phase listed acts = 0 := Nat.le_zero.1 (phase_leM hC (unl (hF.lt ho) h1) hk.1)
 refine st_callG hF hC hW ho h2 h3 hd hg h4 h5 (hx γ w (by rw [hz] at hW; exact hW)) (fun w' hk' => ?_)
 rw [hz] at hW ⊢
 exact hp γ w w' hW hk'
theorem end_at {a b : Act} {w : World} (h : Q .normal a w) (e : b = a) : Q .normal b w := by rw [e]; exact h
end
theorem nodup_at : ∀ (l : List Nat) (j k i : Nat), l.Nodup → l[j]? = some i → l[k]? = some i → j = k
 | [], _, _, _, _, h, _ => by simp at h
 | x :: l, 0, 0, _, _, _, _ => rfl
 | x :: l, 0, k + 1, i, hnd, h1, h2 => by
  simp at h1 h2
  subst h1
  exact absurd (List.mem_of_getElem? h2) (List.nodup_cons.1 hnd).1
 | x :: l, j + 1, 0, i, hnd, h1, h2 => by
  simp at h1 h2
  subst h2
  exact absurd (List.mem_of_getElem? h1) (List.nodup_cons.1 hnd).1
 | x :: l, j + 1, k + 1, i, hnd, h1, h2 => by
  simp at h1 h2
  rw [nodup_at l j k i (List.nodup_cons.1 hnd).2 h1 h2]
def upOf (listed : Array Bool) (acts : List Nat) (k : Nat) : Bool := match acts[k]? with | some i => listed.getD i false | none => false
def upS (S : Nat → Bool) (k : Nat) : Nat → Bool := fun j => if j = k then true else S j
theorem upOf_ne {listed : Array Bool} {acts : List Nat} {i : Nat} (hi : i < listed.size) (h : i ∉ acts) : upOf (listed.setIfInBounds i true) acts = upOf listed acts := by
 funext k
 unfold upOf
 cases e : acts[k]? with
 | none => rfl
 | some j =>
  have hj : j ≠ i := fun e2 => h (by rw [← e2]; exact List.mem_of_getElem? e)
  simp only
  rw [getF_set hi, decide_eq_false hj, Bool.false_or]
theorem upOf_set {listed : Array Bool} {acts : List Nat} {i k : Nat} (hi : i < listed.size) (hk : acts[k]? = some i) (hnd : acts.Nodup) : upOf (listed.setIfInBounds i true) acts = upS (upOf listed acts) k := by
 funext j
 unfold upOf upS
 by_cases e : j = k
 ·subst e
  rw [hk, if_pos rfl]
  simp only
  rw [getF_set hi]; simp
 ·rw [if_neg e]
  cases e2 : acts[j]? with
  | none => simp only [e2]
  | some x =>
   have hx : x ≠ i := fun e3 => e (nodup_at acts j k i hnd (by rw [← e3]; exact e2) hk)
   simp only [e2]
   rw [getF_set hi, decide_eq_false hx, Bool.false_or]
def valH (av : Nat → Option Nat) (ext : Nat → Value → Value) (val0 : Nat → Value) (γ : Nat → Value) (d : Nat) : Value := match av d with | some k => ext d (γ k) | none => val0 d
section
variable {ops : Array Oper} {acts : List Nat} {av : Nat → Option Nat} {ext : Nat → Value → Value} {val0 : Nat → Value} {Wd : (Nat → Bool) → (Nat → Value) → World → Prop} {a0 : Act} {Q : PQ}
def InvH (ops : Array Oper) (acts : List Nat) (av : Nat → Option Nat) (ext : Nat → Value → Value) (val0 : Nat → Value) (Wd : (Nat → Bool) → (Nat → Value) → World → Prop) (a0 : Act) (listed : Array Bool) (a : Act) (w : World) : Prop :=
 ∃ γ, FrI ops (valH av ext val0 γ) a0 listed a ∧ Clo ops listed ∧ Wd (upOf listed acts) γ w
def StepH (ops : Array Oper) (acts : List Nat) (av : Nat → Option Nat) (ext : Nat → Value → Value) (val0 : Nat → Value) (Wd : (Nat → Bool) → (Nat → Value) → World → Prop) (a0 : Act) (Q : PQ) (i : Nat) : Prop :=
 ∀ γ listed a w o, FrI ops (valH av ext val0 γ) a0 listed a → Clo ops listed → Wd (upOf listed acts) γ w → listed.getD i true = false → ops[i]? = some o → (∀ e ∈ o.after, Region.binds .any e = true → listed.getD e.on false = true) →
  wpOp Tryz.prog ops Q i (fun a' w' => InvH ops acts av ext val0 Wd a0 (listed.setIfInBounds i true) a' w') a w
theorem st_pureH {γ : Nat → Value} {listed : Array Bool} {a : Act} {w : World} {i d : Nat} {o : Oper} (hF : FrI ops (valH av ext val0 γ) a0 listed a) (hC : Clo ops listed) (hW : Wd (upOf listed acts) γ w) (ho : ops[i]? = some o) (h2 : ∀ e ∈ o.after, Region.binds .any e = true → listed.getD e.on false = true)
  (hna : i ∉ acts) (hd : o.dst = some d) (hg : o.guard = none) (hrun : (execOp a.eval o).run Tryz.prog w = .ok (.value (valH av ext val0 γ d)) w) : wpOp Tryz.prog ops Q i (fun a' w' => InvH ops acts av ext val0 Wd a0 (listed.setIfInBounds i true) a' w') a w := by
 have hi := hF.lt ho
 unfold wpOp
 rw [ho]
 have hw : Region.wanted o (yielded ops a.tmps) = true := by unfold Region.wanted; rw [hg]
 simp only [hw, if_true]
 refine Or.inl ?_
 unfold Oper.wp
 rw [hrun]
 exact ⟨γ, hF.put ho hd, hC.set hi ho h2, by rw [upOf_ne hi hna]; exact hW⟩
theorem slotH {γ : Nat → Value} {listed : Array Bool} {a : Act} {i j d : Nat} {o : Oper} (hF : FrI ops (valH av ext val0 γ) a0 listed a) (ho : ops[i]? = some o) (h2 : ∀ e ∈ o.after, Region.binds .any e = true → listed.getD e.on false = true) (hw : waitsB ops i j = true) (hd : dstOf ops j = some d) (hs : d < a0.tmps.size) : a.eval (.tmp d) = valH av ext val0 γ d :=
 hF.eval (waits2 ho hw h2) hd hs
def injB (ops : Array Oper) (av : Nat → Option Nat) (i k : Nat) (ps : List (List Nat)) : Bool :=
 (List.range ops.size).all fun j => decide (j = i) || !(match dstOf ops j with | some d => decide (av d = some k) | none => false) || ps.any fun p => decide (p.head? = some j) && (p.contains i && pathB ops p)
theorem inj_of {listed : Array Bool} {i k : Nat} {ps : List (List Nat)} (h : injB ops av i k ps = true) (hC : Clo ops listed) (hu : listed.getD i false = false) : ∀ d, got ops listed d → av d ≠ some k := by
 rintro d ⟨j, h1, h2⟩ h3
 have hlt : j < ops.size := by
  rcases Nat.lt_or_ge j ops.size with h4 | h4
  ·exact h4
  ·unfold dstOf at h2; rw [Array.getElem?_eq_none h4] at h2; cases h2
 have h5 := List.all_eq_true.1 h j (List.mem_range.2 hlt)
 rw [h2] at h5
 simp only [h3, decide_true, Bool.not_true, Bool.or_false, Bool.or_eq_true, decide_eq_true_eq, List.any_eq_true, Bool.and_eq_true] at h5
 rcases h5 with h5 | ⟨p, hp, h6, h7, h8⟩
 ·subst h5; rw [hu] at h1; cases h1
 ·cases p with
  | nil => cases h6
  | cons x p =>
   simp only [List.head?_cons, Option.some.injEq] at h6
   subst h6
   have hmem : i ∈ x :: p := by simpa using h7
   rcases List.mem_cons.1 hmem with e | e
   ·rw [e, h1] at hu; cases hu
   ·have := hC.path p x h8 h1 i e
    rw [hu] at this; cases this
theorem st_actH {γ : Nat → Value} {listed : Array Bool} {a : Act} {w : World} {i k : Nat} {o : Oper} {ps : List (List Nat)} (hnd : acts.Nodup) (hk : acts[k]? = some i) (hij : injB ops av i k ps = true) (hF : FrI ops (valH av ext val0 γ) a0 listed a) (hC : Clo ops listed) (h1 : listed.getD i true = false) (ho : ops[i]? = some o) (h2 : ∀ e ∈ o.after, Region.binds .any e = true → listed.getD e.on false = true)
  (hd : (o.dst = none) ∨ ∃ d, o.dst = some d ∧ av d = some k ∧ ∀ u, ext d u = u) (hg : o.guard = none)
  (hrun : ∀ K : Act → World → Prop, (∀ u w', Wd (upS (upOf listed acts) k) (updG γ k u) w' → K (a.put o.dst u) w') → o.wp Tryz.prog a w K Q) :
  wpOp Tryz.prog ops Q i (fun a' w' => InvH ops acts av ext val0 Wd a0 (listed.setIfInBounds i true) a' w') a w := by
 have hi := hF.lt ho
 have hu := unl hi h1
 have hinj := inj_of hij hC hu
 unfold wpOp
 rw [ho]
 have hw : Region.wanted o (yielded ops a.tmps) = true := by unfold Region.wanted; rw [hg]
 simp only [hw, if_true]
 refine Or.inl (hrun _ ?_)
 intro u w' hW'
 have hF2 : FrI ops (valH av ext val0 (updG γ k u)) a0 listed a := hF.cong (fun d hgd => by
  unfold valH
  cases hav : av d with
  | none => rfl
  | some j =>
   have : j ≠ k := fun e => hinj d hgd (by rw [hav, e])
   simp [updG, this])
 refine ⟨updG γ k u, ?_, hC.set hi ho h2, by rw [upOf_set hi hk hnd]; exact hW'⟩
 rcases hd with hd | ⟨d, hd, hav, hex⟩
 ·exact hF2.skip ho hd u
 ·have := hF2.put ho hd
  have e : valH av ext val0 (updG γ k u) d = u := by unfold valH; rw [hav]; simp [updG, hex]
  rw [e] at this
  exact this
theorem up_yes {listed : Array Bool} {i k j : Nat} {o : Oper} (hC : Clo ops listed) (ho : ops[i]? = some o) (h2 : ∀ e ∈ o.after, Region.binds .any e = true → listed.getD e.on false = true) (hk : acts[k]? = some j) (p : List Nat) (hp : pathB ops (i :: p) = true) (hj : j ∈ p) : upOf listed acts k = true := by
 unfold upOf
 rw [hk]
 simp only
 cases p with
 | nil => cases hj
 | cons x p =>
  simp only [pathB, Bool.and_eq_true] at hp
  have hx := waits2 ho hp.1 h2
  rcases List.mem_cons.1 hj with e | e
  ·subst e; exact hx
  ·exact hC.path p x hp.2 hx j e
theorem up_self {listed : Array Bool} {i k : Nat} (hk : acts[k]? = some i) (hu : listed.getD i false = false) : upOf listed acts k = false := by
 unfold upOf
 rw [hk]
 exact hu
theorem up_no {listed : Array Bool} {i k x : Nat} (hC : Clo ops listed) (hu : listed.getD i false = false) (hk : acts[k]? = some x) (p : List Nat) (hp : pathB ops (x :: p) = true) (hi : i ∈ p) : upOf listed acts k = false := by
 unfold upOf
 rw [hk]
 simp only
 cases hl : listed.getD x false with
 | false => rfl
 | true =>
  have := hC.path p x hp hl i hi
  rw [hu] at this
  cases this
theorem reg_actH {id : Nat} {w : World} (hm : Tryz.prog.follows .mixedOrders = true) (hup : (List.range ops.size).all (fun i => ((ops[i]?).map (fun o => o.after.all fun e => !Region.binds .any e || decide (e.on < i))).getD true) = true)
  (hac : ∀ i ∈ acts, i < ops.size) (hstep : ∀ i, i < ops.size → StepH ops acts av ext val0 Wd a0 Q i) (γ0 : Nat → Value) (h0 : Wd (fun _ => false) γ0 w.drew) (hend : ∀ S γ w', (∀ k, k < acts.length → S k = true) → Wd S γ w' → Q .normal (putsL (valH av ext val0 γ) ops.toList a0) w') : (Code.region id ops true).wp Tryz.prog Q a0 w := by
 refine wp_region_any hm ?_
 refine wpAny_inv (InvH ops acts av ext val0 Wd a0) (fun listed a w i o hI h1 ho h2 => ?_) (fun listed a w hI hr => ?_) _ _ _ _ ?_ ?_
 ·obtain ⟨γ, hF, hC, hW⟩ := hI
  exact hstep i (Array.getElem?_eq_some_iff.1 ho).1 γ listed a w o hF hC hW h1 ho h2
 ·obtain ⟨γ, hF, hC, hW⟩ := hI
  have hall := all_ready2 hup hF.size hr
  rw [hF.puts hall]
  refine hend _ γ w (fun k hk => ?_) hW
  unfold upOf
  rw [List.getElem?_eq_getElem hk]
  exact hall _ (hac _ (List.getElem_mem hk))
 ·have hno : ∀ j, (Array.replicate ops.size false).getD j false = false := fun j => by
   rw [Array.getD_eq_getD_getElem?, Array.getElem?_replicate]; split <;> rfl
  refine ⟨γ0, ⟨by simp, rfl, rfl, fun d _ hg => ?_, fun d _ => rfl⟩, fun i j h => ?_, ?_⟩
  ·obtain ⟨i, h1, _⟩ := hg; rw [hno] at h1; cases h1
  ·rw [hno] at h; cases h
  ·have : upOf (Array.replicate ops.size false) acts = fun _ => false := by
    funext k
    unfold upOf
    cases acts[k]? with
    | none => rfl
    | some i => exact hno i
   rw [this]
   exact h0
 ·unfold left; exact Nat.le_trans (List.length_filter_le _ _) (by simp)
end
structure RcX where
 nc : Nat
 n : Nat
 W : World
 C : Nat → World → Value → Prop
 R : Nat → World → Value → Value → Prop
structure RcX.Ok (X : RcX) : Prop where
 cnw : ∀ i w w' u, X.C i w u → Nw w w' → X.C i w' u
 rnw : ∀ B w w' r b, X.R B w r b → Nw w w' → X.R B w' r b
 far : ∀ B w r b bx o u, X.R B w r b → bx < B → X.R B (w.setCell ⟨bx, o, none⟩ u) r b
 cells : ∀ B w r b, X.R B w r b → r.cells.size = X.n
structure RcX.Wd (X : RcX) (S : Nat → Bool) (γ : Nat → Value) (w : World) : Prop where
 nw : Nw X.W w
 cp : ∀ i, i < X.nc → S i = true → S X.nc = false → X.C i w (γ i)
 ans : S X.nc = true → ∃ r b B w0, γ X.nc = .tuple #[r, b] ∧ X.W.heap.size ≤ B ∧ X.R B w0 r b ∧ Nw w0 w ∧ ∀ bx, S (X.nc + 1) = true → γ (X.nc + 1) = .pointer (some ⟨bx, 0, none⟩) → bx < B ∨ w0.heap.size ≤ bx
 box : S (X.nc + 1) = true → ∃ bx, γ (X.nc + 1) = .pointer (some ⟨bx, 0, none⟩) ∧ X.W.heap.size ≤ bx ∧ bx < w.heap.size ∧ (∀ j, j < X.n → ∃ u, w.cell? ⟨bx, j, none⟩ = some u) ∧ ∀ o, w.frozen? ⟨bx, o, none⟩ = false
 put : S (X.nc + 1 + 1) = true → ∃ bx r b, γ (X.nc + 1) = .pointer (some ⟨bx, 0, none⟩) ∧ γ X.nc = .tuple #[r, b] ∧ bx < w.heap.size ∧ ∀ j, j < X.n → w.cell? ⟨bx, j, none⟩ = r.cells[j]?
theorem upS_ne {S : Nat → Bool} {k j : Nat} (h : j ≠ k) : upS S k j = S j := by unfold upS; rw [if_neg h]
theorem upS_at (S : Nat → Bool) (k : Nat) : upS S k k = true := by unfold upS; rw [if_pos rfl]
theorem updG_ne {γ : Nat → Value} {k j : Nat} {u : Value} (h : j ≠ k) : updG γ k u j = γ j := by unfold updG; rw [if_neg h]
theorem updG_at (γ : Nat → Value) (k : Nat) (u : Value) : updG γ k u k = u := by unfold updG; rw [if_pos rfl]
def setL (w : World) (b : Nat) : List Value → Nat → World
 | [], _ => w
 | c :: cs, j => setL (w.setCell ⟨b, j, none⟩ c) b cs (j + 1)
theorem setL_size (b : Nat) : ∀ (cs : List Value) (w : World) (j : Nat), (setL w b cs j).heap.size = w.heap.size
 | [], _, _ => rfl
 | c :: cs, w, j => by
  unfold setL
  rw [setL_size b cs]
  simp [World.setCell]
theorem setL_frozen (b : Nat) : ∀ (cs : List Value) (w : World) (j : Nat) (ad : Addr), (setL w b cs j).frozen? ad = w.frozen? ad
 | [], _, _, _ => rfl
 | c :: cs, w, j, ad => by
  unfold setL
  rw [setL_frozen b cs, World.frozen?_setCell]
theorem setL_before (b : Nat) : ∀ (cs : List Value) (w : World) (j i : Nat), i < j → (setL w b cs j).cell? ⟨b, i, none⟩ = w.cell? ⟨b, i, none⟩
 | [], _, _, _, _ => rfl
 | c :: cs, w, j, i, h => by
  unfold setL
  rw [setL_before b cs _ (j + 1) i (by omega), World.cell?_setCell_other _ _ _ _ (fun e => by injection e; omega)]
theorem setL_at (b : Nat) : ∀ (cs : List Value) (w : World) (j : Nat), (∀ i, i < cs.length → ∃ u, w.cell? ⟨b, j + i, none⟩ = some u) → ∀ i, i < cs.length → (setL w b cs j).cell? ⟨b, j + i, none⟩ = cs[i]?
 | [], _, _, _, _, h => absurd h (by simp)
 | c :: cs, w, j, hc, i, hi => by
  unfold setL
  cases i with
  | zero =>
   rw [setL_before b cs _ (j + 1) (j + 0) (by omega)]
   obtain ⟨u, hu⟩ := hc 0 (by simp)
   simpa using World.cell?_setCell_same w ⟨b, j + 0, none⟩ c hu
  | succ i =>
   have h2 := setL_at b cs (w.setCell ⟨b, j, none⟩ c) (j + 1) (fun m hm => by
    obtain ⟨u, hu⟩ := hc (m + 1) (by simp; omega)
    refine ⟨u, ?_⟩
    rw [World.cell?_setCell_other _ _ _ _ (fun e => by injection e; omega), show j + 1 + m = j + (m + 1) by omega]
    exact hu) i (by simpa using hi)
   rw [show j + (i + 1) = j + 1 + i by omega, h2]
   simp
theorem rq_at {W w : World} {b o : Nat} {v : Value} (k : Kp W w) (h : W.cell? ⟨b, o, none⟩ = some v) : w.cell? ⟨b, o, none⟩ = some v := (k.cells.1 _ _ (World.block_lt_of_cell? W ⟨b, o, none⟩ h)).trans h
theorem rq_set2 (w : World) (g : Nat) (x y : Value) {u v : Value} (h0 : w.cell? ⟨g, 0, none⟩ = some u) (h1 : w.cell? ⟨g, 1, none⟩ = some v) :
  ((w.setCell ⟨g, 0, none⟩ x).setCell ⟨g, 1, none⟩ y).cell? ⟨g, 0, none⟩ = some x ∧ ((w.setCell ⟨g, 0, none⟩ x).setCell ⟨g, 1, none⟩ y).cell? ⟨g, 1, none⟩ = some y := set2 w g x y h0 h1
theorem undrew {w w' : World} (h : Kp w.drew w') : Kp w w' := Kp.trans ((Kp.refl w).drew) h
theorem st_callQ {ops : Array Oper} {acts : List Nat} {av : Nat → Option Nat} {ext : Nat → Value → Value} {val0 : Nat → Value} {Wd : (Nat → Bool) → (Nat → Value) → World → Prop} {a0 : Act} {Q : PQ} {γ : Nat → Value} {listed : Array Bool} {a : Act} {w : World} {i d : Nat} {o : Oper} {f : FuncId} {args : Array Value} (hF : FrI ops (valH av ext val0 γ) a0 listed a) (hC : Clo ops listed) (ho : ops[i]? = some o) (h2 : ∀ e ∈ o.after, Region.binds .any e = true → listed.getD e.on false = true)
  (hna : i ∉ acts) (hd : o.dst = some d) (hg : o.guard = none) (hav : av d = none) (hrun : (execOp a.eval o).run Tryz.prog w = .ok (.enter f args) w) (hc : Calls Tryz.prog f args w fun e w' => e = .returned (val0 d) ∧ Kp w w') (hk : ∀ w', Kp w w' → Wd (upOf listed acts) γ w') :
  wpOp Tryz.prog ops Q i (fun a' w' => InvH ops acts av ext val0 Wd a0 (listed.setIfInBounds i true) a' w') a w := by
 have hi := hF.lt ho
 unfold wpOp
 rw [ho]
 have hw : Region.wanted o (yielded ops a.tmps) = true := by unfold Region.wanted; rw [hg]
 simp only [hw, if_true]
 refine Or.inl ?_
 unfold Oper.wp
 rw [hrun]
 have e : valH av ext val0 γ d = val0 d := by unfold valH; rw [hav]
 refine Calls.mono hc ?_
 rintro e' w' ⟨rfl, hkk⟩
 refine ⟨γ, ?_, hC.set hi ho h2, by rw [upOf_ne hi hna]; exact hk w' hkk⟩
 have := hF.put ho hd
 rw [e] at this
 exact this
def VL (w : World) (B : Nat) (u : Value) (done : Bool) (zs vs : List Value) : Prop :=
 ∃ g, u = .pointer (some ⟨g, 0, none⟩) ∧ B ≤ g ∧ g < w.heap.size ∧ (∀ o, w.frozen? ⟨g, o, none⟩ = false) ∧ ∀ j, j < zs.length → w.cell? ⟨g, j, none⟩ = (bif done then vs else zs)[j]?
theorem VL.nw {w w' : World} {B : Nat} {u : Value} {done : Bool} {zs vs : List Value} (h : VL w B u done zs vs) (k : Nw w w') : VL w' B u done zs vs := by
 obtain ⟨g, h1, h2, h3, h4, h5⟩ := h
 exact ⟨g, h1, h2, Nat.lt_of_lt_of_le h3 (Below.size k), fun o => ((bcell k).2 _ _ h3).trans (h4 o), fun j hj => ((bcell k).1 _ _ h3).trans (h5 j hj)⟩
theorem setL_other (b g : Nat) (hne : g ≠ b) : ∀ (cs : List Value) (w : World) (j i : Nat), (setL w b cs j).cell? ⟨g, i, none⟩ = w.cell? ⟨g, i, none⟩
 | [], _, _, _ => rfl
 | c :: cs, w, j, i => by
  unfold setL
  rw [setL_other b g hne cs, World.cell?_setCell_other _ _ _ _ (fun e => by injection e; omega)]
theorem setL_kp (b : Nat) {W : World} (hb : W.heap.size ≤ b) : ∀ (cs : List Value) (w : World) (j : Nat), Kp W w → Kp W (setL w b cs j)
 | [], _, _, h => h
 | c :: cs, w, j, h => setL_kp b hb cs _ (j + 1) (h.setCell hb _)
theorem VL.off {w : World} {B : Nat} {u : Value} {done : Bool} {zs vs : List Value} (h : VL w B u done zs vs) (g : Nat) (cs : List Value) (hne : u ≠ .pointer (some ⟨g, 0, none⟩)) : VL (setL w g cs 0) B u done zs vs := by
 obtain ⟨b, rfl, h2, h3, h4, h5⟩ := h
 have hb : b ≠ g := fun e => hne (by rw [e])
 exact ⟨b, rfl, h2, by rw [setL_size]; exact h3, fun o => by rw [setL_frozen]; exact h4 o, fun j hj => by rw [setL_other g b hb]; exact h5 j hj⟩
theorem VL.new {w : World} {B : Nat} (hB : B ≤ w.heap.size) (zs vs : List Value) (t : TypeId) : VL (w.alloc (.cells zs.toArray t)) B (.pointer (some ⟨w.heap.size, 0, none⟩)) false zs vs :=
 ⟨_, rfl, hB, by simp, fun o => World.frozen?_alloc_at _ _ _ _ rfl, fun j hj => by rw [World.cell?_alloc_at _ _ _ _ rfl]; simp⟩
theorem VL.fresh {w : World} {B : Nat} {u : Value} {done : Bool} {zs vs : List Value} (h : VL w B u done zs vs) : u ≠ .pointer (some ⟨w.heap.size, 0, none⟩) := by
 obtain ⟨g, rfl, _, h3, _⟩ := h
 intro e
 injection e with e; injection e with e; injection e with e
 omega
theorem VL.store {w : World} {B : Nat} {u : Value} {done : Bool} {zs vs : List Value} {g : Nat} (h : VL w B u done zs vs) (hl : vs.length = zs.length) (hu : u = .pointer (some ⟨g, 0, none⟩)) : VL (setL w g vs 0) B u true zs vs := by
 obtain ⟨b, h1, h2, h3, h4, h5⟩ := h
 rw [hu] at h1
 injection h1 with h1; injection h1 with h1; injection h1 with h1
 subst h1
 have hat := setL_at g vs w 0 (fun i hi => by
  rw [Nat.zero_add, h5 i (by omega)]
  cases done
  ·exact ⟨_, List.getElem?_eq_getElem (by simpa using (by omega : i < zs.length))⟩
  ·exact ⟨_, List.getElem?_eq_getElem (by simpa using hi)⟩)
 exact ⟨g, hu, h2, by rw [setL_size]; exact h3, fun o => by rw [setL_frozen]; exact h4 o, fun j hj => by have := hat j (by omega); rw [Nat.zero_add] at this; exact this⟩
structure TwoWd (W : World) (zs va vb : List Value) (S : Nat → Bool) (γ : Nat → Value) (w : World) : Prop where
 kp : Kp W w
 l0 : S 0 = true → VL w W.heap.size (γ 0) (S 2) zs va
 l1 : S 1 = true → VL w W.heap.size (γ 1) (S 3) zs vb
 ne : S 0 = true → S 1 = true → γ 0 ≠ γ 1
theorem TwoWd.start (W : World) (zs va vb : List Value) (γ : Nat → Value) (w : World) (h : Kp W w) : TwoWd W zs va vb (fun _ => false) γ w := ⟨h, fun h => (by cases h), fun h => (by cases h), fun h => (by cases h)⟩
theorem TwoWd.keep {W : World} {zs va vb : List Value} {S : Nat → Bool} {γ : Nat → Value} {w w' : World} (h : TwoWd W zs va vb S γ w) (k : Kp w w') : TwoWd W zs va vb S γ w' :=
 ⟨Kp.trans h.kp k, fun hs => (h.l0 hs).nw k.nw, fun hs => (h.l1 hs).nw k.nw, h.ne⟩
theorem TwoWd.alloc0 {W : World} {zs va vb : List Value} {S : Nat → Bool} {γ : Nat → Value} {w : World} (h : TwoWd W zs va vb S γ w) (hno : S 2 = false) (t : TypeId) : TwoWd W zs va vb (upS S 0) (updG γ 0 (.pointer (some ⟨w.heap.size, 0, none⟩))) (w.alloc (.cells zs.toArray t)) := by
 have n1 : Nw w (w.alloc (.cells zs.toArray t)) := (Below.refl _ _).alloc (Nat.le_refl _) _
 refine ⟨h.kp.alloc _ _, ?_, ?_, ?_⟩
 ·intro _
  rw [updG_at, upS_ne (by decide), hno]
  exact VL.new (Kp.size h.kp) _ _ _
 ·intro hs
  rw [upS_ne (by decide)] at hs
  rw [updG_ne (by decide), upS_ne (by decide)]
  exact (h.l1 hs).nw n1
 ·intro hs0 hs1
  rw [upS_ne (by decide)] at hs1
  rw [updG_at, updG_ne (by decide)]
  exact fun e => VL.fresh (h.l1 hs1) e.symm
theorem TwoWd.alloc1 {W : World} {zs va vb : List Value} {S : Nat → Bool} {γ : Nat → Value} {w : World} (h : TwoWd W zs va vb S γ w) (hno : S 3 = false) (t : TypeId) : TwoWd W zs va vb (upS S 1) (updG γ 1 (.pointer (some ⟨w.heap.size, 0, none⟩))) (w.alloc (.cells zs.toArray t)) := by
 have n1 : Nw w (w.alloc (.cells zs.toArray t)) := (Below.refl _ _).alloc (Nat.le_refl _) _
 refine ⟨h.kp.alloc _ _, ?_, ?_, ?_⟩
 ·intro hs
  rw [upS_ne (by decide)] at hs
  rw [updG_ne (by decide), upS_ne (by decide)]
  exact (h.l0 hs).nw n1
 ·intro _
  rw [updG_at, upS_ne (by decide), hno]
  exact VL.new (Kp.size h.kp) _ _ _
 ·intro hs0 hs1
  rw [upS_ne (by decide)] at hs0
  rw [updG_at, updG_ne (by decide)]
  exact VL.fresh (h.l0 hs0)
theorem TwoWd.store0 {W : World} {zs va vb : List Value} {S : Nat → Bool} {γ : Nat → Value} {w : World} (h : TwoWd W zs va vb S γ w) (hs0 : S 0 = true) (hl : va.length = zs.length) {g : Nat} (hg : γ 0 = .pointer (some ⟨g, 0, none⟩)) (u : Value) : TwoWd W zs va vb (upS S 2) (updG γ 2 u) (setL w g va 0) := by
 obtain ⟨g', g1, g2, _⟩ := h.l0 hs0
 rw [hg] at g1
 injection g1 with g1; injection g1 with g1; injection g1 with g1
 subst g1
 refine ⟨setL_kp g g2 _ _ _ h.kp, ?_, ?_, ?_⟩
 ·intro _
  rw [updG_ne (by decide), upS_at]
  exact VL.store (h.l0 hs0) hl hg
 ·intro hs
  rw [upS_ne (by decide)] at hs
  rw [updG_ne (by decide), upS_ne (by decide)]
  exact (h.l1 hs).off g va (by rw [← hg]; exact (h.ne hs0 hs).symm)
 ·intro h0 h1
  rw [upS_ne (by decide)] at h0 h1
  rw [updG_ne (by decide), updG_ne (by decide)]
  exact h.ne h0 h1
theorem TwoWd.store1 {W : World} {zs va vb : List Value} {S : Nat → Bool} {γ : Nat → Value} {w : World} (h : TwoWd W zs va vb S γ w) (hs1 : S 1 = true) (hl : vb.length = zs.length) {g : Nat} (hg : γ 1 = .pointer (some ⟨g, 0, none⟩)) (u : Value) : TwoWd W zs va vb (upS S 3) (updG γ 3 u) (setL w g vb 0) := by
 obtain ⟨g', g1, g2, _⟩ := h.l1 hs1
 rw [hg] at g1
 injection g1 with g1; injection g1 with g1; injection g1 with g1
 subst g1
 refine ⟨setL_kp g g2 _ _ _ h.kp, ?_, ?_, ?_⟩
 ·intro hs
  rw [upS_ne (by decide)] at hs
  rw [updG_ne (by decide), upS_ne (by decide)]
  exact (h.l0 hs).off g vb (by rw [← hg]; exact h.ne hs hs1)
 ·intro _
  rw [updG_ne (by decide), upS_at]
  exact VL.store (h.l1 hs1) hl hg
 ·intro h0 h1
  rw [upS_ne (by decide)] at h0 h1
  rw [updG_ne (by decide), updG_ne (by decide)]
  exact h.ne h0 h1
theorem TwoWd.fin {W : World} {zs va vb : List Value} {S : Nat → Bool} {γ : Nat → Value} {w : World} (h : TwoWd W zs va vb S γ w) (hs : ∀ k, k < 4 → S k = true) : ∃ g0 g1, γ 0 = .pointer (some ⟨g0, 0, none⟩) ∧ γ 1 = .pointer (some ⟨g1, 0, none⟩) ∧ Kp W w ∧ W.heap.size ≤ g0 ∧ W.heap.size ≤ g1 ∧ g0 ≠ g1 ∧ (∀ j, j < zs.length → w.cell? ⟨g0, j, none⟩ = va[j]?) ∧ (∀ j, j < zs.length → w.cell? ⟨g1, j, none⟩ = vb[j]?) := by
 have a := h.l0 (hs 0 (by decide))
 have b := h.l1 (hs 1 (by decide))
 have n := h.ne (hs 0 (by decide)) (hs 1 (by decide))
 rw [hs 2 (by decide)] at a
 rw [hs 3 (by decide)] at b
 obtain ⟨g0, p1, p2, _, _, p5⟩ := a
 obtain ⟨g1, q1, q2, _, _, q5⟩ := b
 exact ⟨g0, g1, p1, q1, h.kp, p2, q2, fun e => n (by rw [p1, q1, e]), p5, q5⟩
end Go.Proofs.YtnkeljmecbohkaaGreat

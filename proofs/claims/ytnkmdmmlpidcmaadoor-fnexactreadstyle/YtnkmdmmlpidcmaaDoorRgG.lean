/-
  A region that draws its order and holds guarded operations whose guards are known; each theorem names its conditions.
-/
import Derived.Test.YtnkmdmmlpidcmaaDoorRg2
namespace Go.Proofs.YtnkmdmmlpidcmaaDoor
open Go.ChangeShapes Go.WideShapes Go.ChangeAt Go.RowKit
set_option linter.unusedVariables false

section
variable {ops : Array Oper} {acts : List Nat} {av : Nat → Option Nat} {val0 : Nat → Value} {Wd : Nat → (Nat → Value) → World → Prop} {a0 : Act} {Q : Exit → Act → World → Prop}
theorem yl_of {a : Act} {j d : Nat} {v : Bool} (hd : dstOf ops j = some d) (hs : d < a.tmps.size) (he : a.eval (.tmp d) = .bool v) : yielded ops a.tmps j = some v := by
  have h1 : a.tmps.getD d undef = .bool v := he
  rw [Array.getD_eq_getD_getElem?, Array.getElem?_eq_getElem hs] at h1
  simp only [Option.getD_some] at h1
  unfold yielded
  unfold dstOf at hd
  rw [hd]
  simp only [Option.bind_some, Array.getElem?_eq_getElem hs, h1]
theorem wanted_of {o : Oper} {j : Nat} {b v : Bool} {a : Act} (hg : o.guard = some (j, b)) (hy : yielded ops a.tmps j = some v) : Region.wanted o (yielded ops a.tmps) = (v == b) := by
  unfold Region.wanted
  rw [hg]
  simp [hy]
/-- Its guard itself was not wanted. -/
theorem wanted_un {o : Oper} {j d : Nat} {b : Bool} {a : Act} (hg : o.guard = some (j, b)) (hd : dstOf ops j = some d) (hs : d < a.tmps.size) (he : a.eval (.tmp d) = undef) : Region.wanted o (yielded ops a.tmps) = false := by
  have h1 : a.tmps.getD d undef = undef := he
  rw [Array.getD_eq_getD_getElem?, Array.getElem?_eq_getElem hs] at h1
  simp only [Option.getD_some] at h1
  have hy : yielded ops a.tmps j = none := by
    unfold yielded
    unfold dstOf at hd
    rw [hd]
    simp only [Option.bind_some, Array.getElem?_eq_getElem hs, h1]
    rfl
  unfold Region.wanted
  rw [hg]
  simp [hy]
/-- A guarded operation that is wanted and leaves the world alone. -/
theorem st_pureW {γ : Nat → Value} {listed : Array Bool} {a : Act} {w : World} {i d : Nat} {o : Oper} (hF : FrI ops (valG av val0 γ) a0 listed a) (hC : Clo ops listed) (hW : Wd (phase listed acts) γ w) (ho : ops[i]? = some o) (h2 : ∀ e ∈ o.after, Region.binds .any e = true → listed.getD e.on false = true)
    (hna : i ∉ acts) (hd : o.dst = some d) (hw : Region.wanted o (yielded ops a.tmps) = true) (hav : av d = none) (hrun : (execOp a.eval o).run Tryd.prog w = .ok (.value (val0 d)) w) : wpOp Tryd.prog ops Q i (fun a' w' => InvG ops acts av val0 Wd a0 (listed.setIfInBounds i true) a' w') a w := by
  have hi := hF.lt ho
  unfold wpOp
  rw [ho]
  simp only [hw, if_true]
  refine Or.inl ?_
  unfold Oper.wp
  rw [hrun]
  have e : valG av val0 γ d = val0 d := by unfold valG; rw [hav]
  refine ⟨γ, ?_, hC.set hi ho h2, by rw [phase_ne hi acts hna]; exact hW⟩
  have := hF.put ho hd
  rw [e] at this
  exact this
theorem st_callW {γ : Nat → Value} {listed : Array Bool} {a : Act} {w : World} {i d : Nat} {o : Oper} {f : FuncId} {args : Array Value} (hF : FrI ops (valG av val0 γ) a0 listed a) (hC : Clo ops listed) (hW : Wd (phase listed acts) γ w) (ho : ops[i]? = some o) (h2 : ∀ e ∈ o.after, Region.binds .any e = true → listed.getD e.on false = true)
    (hna : i ∉ acts) (hd : o.dst = some d) (hw : Region.wanted o (yielded ops a.tmps) = true) (hav : av d = none) (hrun : (execOp a.eval o).run Tryd.prog w = .ok (.enter f args) w) (hc : Calls Tryd.prog f args w fun e w' => e = .returned (val0 d) ∧ Kp w w') (hk : ∀ w', Kp w w' → Wd (phase listed acts) γ w') :
    wpOp Tryd.prog ops Q i (fun a' w' => InvG ops acts av val0 Wd a0 (listed.setIfInBounds i true) a' w') a w := by
  have hi := hF.lt ho
  unfold wpOp
  rw [ho]
  simp only [hw, if_true]
  refine Or.inl ?_
  unfold Oper.wp
  rw [hrun]
  have e : valG av val0 γ d = val0 d := by unfold valG; rw [hav]
  refine Calls.mono hc ?_
  rintro e' w' ⟨rfl, hkk⟩
  refine ⟨γ, ?_, hC.set hi ho h2, by rw [phase_ne hi acts hna]; exact hk w' hkk⟩
  have := hF.put ho hd
  rw [e] at this
  exact this
/-- A guarded operation that is not wanted. -/
theorem st_skipW {γ : Nat → Value} {listed : Array Bool} {a : Act} {w : World} {i d : Nat} {o : Oper} (hF : FrI ops (valG av val0 γ) a0 listed a) (hC : Clo ops listed) (hW : Wd (phase listed acts) γ w) (ho : ops[i]? = some o) (h2 : ∀ e ∈ o.after, Region.binds .any e = true → listed.getD e.on false = true)
    (hna : i ∉ acts) (hd : o.dst = some d) (hw : Region.wanted o (yielded ops a.tmps) = false) (hav : av d = none) (hv : val0 d = undef) : wpOp Tryd.prog ops Q i (fun a' w' => InvG ops acts av val0 Wd a0 (listed.setIfInBounds i true) a' w') a w := by
  have hi := hF.lt ho
  unfold wpOp
  rw [ho]
  simp only [hw, Bool.false_eq_true, if_false]
  have e : valG av val0 γ d = undef := by unfold valG; rw [hav]; exact hv
  refine ⟨γ, ?_, hC.set hi ho h2, by rw [phase_ne hi acts hna]; exact hW⟩
  have := hF.put ho hd
  rw [e] at this
  exact this
end
end Go.Proofs.YtnkmdmmlpidcmaaDoor

/-
  The statement of the law on GoodMask that draws its order; each theorem names its conditions.
-/
import Derived.Test.YtllljknpicmmjaaMsk
import Derived.Test.YtllljknpicmmjaaRq
namespace Go.Proofs.Ytllljknpicmmjaa
open Go.ChangeShapes Go.WideShapes Go.ChangeAt Go.RowKit
set_option linter.unusedVariables false

structure GM where
  bx : Nat
  ba : Nat
  p : MD
  sv : Value
  aa : Option Addr
  ac : Nat
  l : List Int
  W : World
  a0 : Act
structure GMOk (X : GM) : Prop where
  cx : MB X.W X.bx X.p X.sv
  ca : MB X.W X.ba X.p (.slice X.aa X.l.length X.ac)
  hi : Ints X.W X.aa X.l
  hs : RowI X.W X.sv X.l
  hl : X.l.length ≤ 1048576
  e1 : X.a0.eval (.tmp 1) = .pointer (some ⟨X.ba, 0, none⟩)
  e5 : X.a0.eval (.tmp 5) = .pointer (some ⟨X.bx, 0, none⟩)
  sz : X.a0.tmps.size = 27
def GM.val0 (X : GM) : Nat → Value
  | 22 => mskV X.p (X.sv)
  | 23 => mskV X.p (.slice X.aa X.l.length X.ac)
  | _ => undef
def GM.av : Nat → Option Nat
  | 24 => some 0
  | 25 => some 1
  | 26 => some 2
  | _ => none
def GM.acts : List Nat := [2, 3, 4]
/-- The world, by how many of the acting ones have come up. -/
def GM.Wd (X : GM) : Nat → (Nat → Value) → World → Prop
  | 0, _, w => Nw X.W w
  | 1, γ, w => ∃ g, γ 0 = mskV X.p (.slice (some ⟨g, 0, none⟩) X.l.length X.l.length) ∧ LayI w g X.l ∧ Nw X.W w
  | 2, γ, w => γ 1 = .bool true ∧ Nw X.W w
  | _, γ, w => γ 2 = .bool false ∧ Nw X.W w
theorem GM.nw {X : GM} : ∀ {n : Nat} {γ : Nat → Value} {w : World}, X.Wd n γ w → Nw X.W w
  | 0, _, _, h => h
  | 1, _, _, ⟨_, _, _, h⟩ => h
  | 2, _, _, ⟨_, h⟩ => h
  | _ + 3, _, _, ⟨_, h⟩ => h
theorem GM.chain : chainG (opsOf 10 Try.f7) GM.acts = true := by kernel_rfl
theorem GM.nodup : GM.acts.Nodup := by decide
theorem GM.inj {listed : Array Bool} {i k : Nat} (h : (List.range (opsOf 10 Try.f7).size).all (fun j => decide (j = i) || !(match dstOf (opsOf 10 Try.f7) j with | some d => decide (GM.av d = some k) | none => false)) = true) (hu : listed.getD i false = false) : ∀ d, got (opsOf 10 Try.f7) listed d → GM.av d ≠ some k := by
  rintro d ⟨j, h1, h2⟩ h3
  have hlt : j < (opsOf 10 Try.f7).size := by
    rcases Nat.lt_or_ge j (opsOf 10 Try.f7).size with h4 | h4
    · exact h4
    · unfold dstOf at h2; rw [Array.getElem?_eq_none h4] at h2; cases h2
  have h5 := List.all_eq_true.1 h j (List.mem_range.2 hlt)
  rw [h2] at h5
  simp only [h3, decide_true, Bool.not_true, Bool.or_false, decide_eq_true_eq] at h5
  subst h5
  rw [hu] at h1
  cases h1
theorem GM.s0 (X : GM) (ok : GMOk X) {Q : Exit → Act → World → Prop} : StepG (opsOf 10 Try.f7) GM.acts GM.av X.val0 X.Wd X.a0 Q 0 := by
  intro γ listed a w o hF hC hW h1 ho h2
  obtain ⟨hd, hop, hg⟩ := fields2 (x := some 22) (y := Op.load 28 (.tmp 5)) (z := none) (by kernel_rfl) ho
  have e5 : a.eval (.tmp 5) = .pointer (some ⟨X.bx, 0, none⟩) := (hF.eval0 (by kernel_rfl)).trans ok.e5
  obtain ⟨c0, c1, c2⟩ := MB.nw ok.cx (GM.nw hW)
  refine st_pureG hF hC hW ho h2 (by decide) hd hg rfl ?_
  show _ = Result.ok (Next.value (mskV X.p (X.sv))) w
  generalize a.eval = ρ at e5 ⊢
  unfold execOp
  rw [hop]
  simp [e5, c0, c1, c2, go_sem]
theorem GM.s1 (X : GM) (ok : GMOk X) {Q : Exit → Act → World → Prop} : StepG (opsOf 10 Try.f7) GM.acts GM.av X.val0 X.Wd X.a0 Q 1 := by
  intro γ listed a w o hF hC hW h1 ho h2
  obtain ⟨hd, hop, hg⟩ := fields2 (x := some 23) (y := Op.load 57 (.tmp 1)) (z := none) (by kernel_rfl) ho
  have e1 : a.eval (.tmp 1) = .pointer (some ⟨X.ba, 0, none⟩) := (hF.eval0 (by kernel_rfl)).trans ok.e1
  obtain ⟨c0, c1, c2⟩ := MB.nw ok.ca (GM.nw hW)
  refine st_pureG hF hC hW ho h2 (by decide) hd hg rfl ?_
  show _ = Result.ok (Next.value (mskV X.p (.slice X.aa X.l.length X.ac))) w
  generalize a.eval = ρ at e1 ⊢
  unfold execOp
  rw [hop]
  simp [e1, c0, c1, c2, go_sem]
theorem GM.s2 (X : GM) (ok : GMOk X) {Q : Exit → Act → World → Prop} : StepG (opsOf 10 Try.f7) GM.acts GM.av X.val0 X.Wd X.a0 Q 2 := by
  intro γ listed a w o hF hC hW h1 ho h2
  obtain ⟨hd, hop, hg⟩ := fields2 (x := some 24) (y := Op.call { callee := .value (.func 31), args := #[(.tmp 23)], argTypes := #[57] }) (z := none) (by kernel_rfl) ho
  have e23 : a.eval (.tmp 23) = mskV X.p (.slice X.aa X.l.length X.ac) := slotG hF ho h2 (j := 1) (d := 23) (by kernel_rfl) (by kernel_rfl) (by rw [ok.sz]; decide)
  have ef : a.eval (.func 31) = .func (.func 31) #[] #[] := rfl
  have hu := unl (hF.lt ho) h1
  refine st_actG (k := 0) GM.chain GM.nodup rfl hF hC hW h1 ho h2 (Or.inr ⟨24, hd, rfl⟩) (GM.inj (by kernel_rfl) hu) hg ?_
  intro hW0 K hK
  have hr : (execOp a.eval o).run Try.prog w = .ok (.enter 31 #[mskV X.p (.slice X.aa X.l.length X.ac)]) w := by
    generalize a.eval = ρ at e23 ef ⊢
    unfold execOp
    rw [hop]
    simp [e23, ef, go_sem]
  unfold Oper.wp
  rw [hr]
  refine Calls.mono (toMask_any w X.p X.aa X.ac X.l ok.hl (ok.hi.nw hW0)) ?_
  rintro e w' ⟨g, rfl, n1, _, l1⟩
  exact hK _ _ ⟨g, rfl, l1, Nw.trans hW0 n1⟩
theorem GM.s3 (X : GM) (ok : GMOk X) {Q : Exit → Act → World → Prop} : StepG (opsOf 10 Try.f7) GM.acts GM.av X.val0 X.Wd X.a0 Q 3 := by
  intro γ listed a w o hF hC hW h1 ho h2
  obtain ⟨hd, hop, hg⟩ := fields2 (x := some 25) (y := Op.call { callee := .value (.func 25), args := #[(.tmp 22), (.tmp 24)], argTypes := #[28, 28] }) (z := none) (by kernel_rfl) ho
  have e22 : a.eval (.tmp 22) = mskV X.p (X.sv) := slotG hF ho h2 (j := 0) (d := 22) (by kernel_rfl) (by kernel_rfl) (by rw [ok.sz]; decide)
  have e24 : a.eval (.tmp 24) = γ 0 := slotG hF ho h2 (j := 2) (d := 24) (by kernel_rfl) (by kernel_rfl) (by rw [ok.sz]; decide)
  have ef : a.eval (.func 25) = .func (.func 25) #[] #[] := rfl
  have hu := unl (hF.lt ho) h1
  refine st_actG (k := 1) GM.chain GM.nodup rfl hF hC hW h1 ho h2 (Or.inr ⟨25, hd, rfl⟩) (GM.inj (by kernel_rfl) hu) hg ?_
  intro hW0 K hK
  obtain ⟨g, g0, l1, n1⟩ := hW0
  rw [g0] at e24
  have hr : (execOp a.eval o).run Try.prog w = .ok (.enter 25 #[mskV X.p (X.sv), mskV X.p (.slice (some ⟨g, 0, none⟩) X.l.length X.l.length)]) w := by
    generalize a.eval = ρ at e22 e24 ef ⊢
    unfold execOp
    rw [hop]
    simp [e22, e24, ef, go_sem]
  unfold Oper.wp
  rw [hr]
  refine Calls.mono (eqMask_any w X.p _ _ X.l ok.hl (ok.hs.nw n1) (l1.row)) ?_
  rintro e w' ⟨rfl, n2⟩
  exact hK _ _ ⟨rfl, Nw.trans n1 n2⟩
theorem GM.s4 (X : GM) (ok : GMOk X) {Q : Exit → Act → World → Prop} : StepG (opsOf 10 Try.f7) GM.acts GM.av X.val0 X.Wd X.a0 Q 4 := by
  intro γ listed a w o hF hC hW h1 ho h2
  obtain ⟨hd, hop, hg⟩ := fields2 (x := some 26) (y := Op.unOp .not 4 (.tmp 25)) (z := none) (by kernel_rfl) ho
  have e25 : a.eval (.tmp 25) = γ 1 := slotG hF ho h2 (j := 3) (d := 25) (by kernel_rfl) (by kernel_rfl) (by rw [ok.sz]; decide)
  have hu := unl (hF.lt ho) h1
  refine st_actG (k := 2) GM.chain GM.nodup rfl hF hC hW h1 ho h2 (Or.inr ⟨26, hd, rfl⟩) (GM.inj (by kernel_rfl) hu) hg ?_
  intro hW0 K hK
  obtain ⟨g0, n1⟩ := hW0
  rw [g0] at e25
  have hr : (execOp a.eval o).run Try.prog w = .ok (.value (.bool false)) w := by
    generalize a.eval = ρ at e25 ⊢
    unfold execOp
    rw [hop]
    simp [e25, go_sem]
  unfold Oper.wp
  rw [hr]
  exact hK _ _ ⟨rfl, n1⟩
theorem GM.size : (opsOf 10 Try.f7).size = 5 := by kernel_rfl
theorem GM.steps (X : GM) (ok : GMOk X) {Q : Exit → Act → World → Prop} (i : Nat) (hi : i < (opsOf 10 Try.f7).size) : StepG (opsOf 10 Try.f7) GM.acts GM.av X.val0 X.Wd X.a0 Q i := by
  rw [GM.size] at hi
  have hc : i = 0 ∨ i = 1 ∨ i = 2 ∨ i = 3 ∨ i = 4 := by omega
  rcases hc with rfl | rfl | rfl | rfl | rfl
  · exact GM.s0 X ok
  · exact GM.s1 X ok
  · exact GM.s2 X ok
  · exact GM.s3 X ok
  · exact GM.s4 X ok
theorem GM.puts (X : GM) (γ : Nat → Value) (a0 : Act) : putsL (valG GM.av X.val0 γ) (opsOf 10 Try.f7).toList a0 = (((((a0.put (some 22) (mskV X.p (X.sv))).put (some 23) (mskV X.p (.slice X.aa X.l.length X.ac))).put (some 24) (γ 0)).put (some 25) (γ 1)).put (some 26) (γ 2)) := by kernel_rfl
/-- The region, whatever order comes up. -/
theorem GM.run (X : GM) (ok : GMOk X) {Q : Exit → Act → World → Prop} (w : World) (h0 : X.Wd 0 (fun _ => undef) w.drew) (hend : ∀ (γ : Nat → Value) w', X.Wd 3 γ w' → Q .normal (((((X.a0.put (some 22) (mskV X.p (X.sv))).put (some 23) (mskV X.p (.slice X.aa X.l.length X.ac))).put (some 24) (γ 0)).put (some 25) (γ 1)).put (some 26) (γ 2)) w') : (Code.region 10 (opsOf 10 Try.f7) true).wp Try.prog Q X.a0 w := by
  refine reg_act (acts := GM.acts) (av := GM.av) (val0 := X.val0) (Wd := X.Wd) (by kernel_rfl) (by kernel_rfl) (by rw [GM.size]; decide) (fun i hi => GM.steps X ok i hi) _ h0 ?_
  intro γ w' h
  rw [GM.puts]
  exact hend γ w' h
end Go.Proofs.Ytllljknpicmmjaa

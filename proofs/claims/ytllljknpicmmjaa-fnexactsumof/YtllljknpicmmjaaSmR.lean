/-
  The statement of the law on SumOf that draws its order; each theorem names its conditions.
-/
import Derived.Test.YtllljknpicmmjaaMsk
import Derived.Test.YtllljknpicmmjaaRq
namespace Go.Proofs.Ytllljknpicmmjaa
open Go.ChangeShapes Go.WideShapes Go.ChangeAt Go.RowKit
set_option linter.unusedVariables false

structure SM where
  bx : Nat
  ba : Nat
  p : MD
  sv : Value
  aa : Option Addr
  ac : Nat
  l : List Int
  W : World
  a0 : Act
structure SMOk (X : SM) : Prop where
  cx : MB X.W X.bx X.p X.sv
  ca : MB X.W X.ba X.p (.slice X.aa X.l.length X.ac)
  hi : Ints X.W X.aa X.l
  hs : RowI X.W X.sv X.l
  hl : X.l.length ≤ 1048576
  e1 : X.a0.eval (.tmp 1) = .pointer (some ⟨X.ba, 0, none⟩)
  e6 : X.a0.eval (.tmp 6) = .pointer (some ⟨X.bx, 0, none⟩)
  sz : X.a0.tmps.size = 40
def SM.val0 (X : SM) : Nat → Value
  | 35 => mskV X.p (X.sv)
  | 36 => mskV X.p (.slice X.aa X.l.length X.ac)
  | _ => undef
def SM.av : Nat → Option Nat
  | 37 => some 0
  | 38 => some 1
  | 39 => some 2
  | _ => none
def SM.acts : List Nat := [2, 3, 4]
/-- The world, by how many of the acting ones have come up. -/
def SM.Wd (X : SM) : Nat → (Nat → Value) → World → Prop
  | 0, _, w => Nw X.W w
  | 1, γ, w => ∃ g, γ 0 = mskV X.p (.slice (some ⟨g, 0, none⟩) X.l.length X.l.length) ∧ LayI w g X.l ∧ Nw X.W w
  | 2, γ, w => γ 1 = .bool true ∧ Nw X.W w
  | _, γ, w => γ 2 = .bool false ∧ Nw X.W w
theorem SM.nw {X : SM} : ∀ {n : Nat} {γ : Nat → Value} {w : World}, X.Wd n γ w → Nw X.W w
  | 0, _, _, h => h
  | 1, _, _, ⟨_, _, _, h⟩ => h
  | 2, _, _, ⟨_, h⟩ => h
  | _ + 3, _, _, ⟨_, h⟩ => h
theorem SM.chain : chainG (opsOf 10 Try.f9) SM.acts = true := by kernel_rfl
theorem SM.nodup : SM.acts.Nodup := by decide
theorem SM.inj {listed : Array Bool} {i k : Nat} (h : (List.range (opsOf 10 Try.f9).size).all (fun j => decide (j = i) || !(match dstOf (opsOf 10 Try.f9) j with | some d => decide (SM.av d = some k) | none => false)) = true) (hu : listed.getD i false = false) : ∀ d, got (opsOf 10 Try.f9) listed d → SM.av d ≠ some k := by
  rintro d ⟨j, h1, h2⟩ h3
  have hlt : j < (opsOf 10 Try.f9).size := by
    rcases Nat.lt_or_ge j (opsOf 10 Try.f9).size with h4 | h4
    · exact h4
    · unfold dstOf at h2; rw [Array.getElem?_eq_none h4] at h2; cases h2
  have h5 := List.all_eq_true.1 h j (List.mem_range.2 hlt)
  rw [h2] at h5
  simp only [h3, decide_true, Bool.not_true, Bool.or_false, decide_eq_true_eq] at h5
  subst h5
  rw [hu] at h1
  cases h1
theorem SM.s0 (X : SM) (ok : SMOk X) {Q : Exit → Act → World → Prop} : StepG (opsOf 10 Try.f9) SM.acts SM.av X.val0 X.Wd X.a0 Q 0 := by
  intro γ listed a w o hF hC hW h1 ho h2
  obtain ⟨hd, hop, hg⟩ := fields2 (x := some 35) (y := Op.load 28 (.tmp 6)) (z := none) (by kernel_rfl) ho
  have e6 : a.eval (.tmp 6) = .pointer (some ⟨X.bx, 0, none⟩) := (hF.eval0 (by kernel_rfl)).trans ok.e6
  obtain ⟨c0, c1, c2⟩ := MB.nw ok.cx (SM.nw hW)
  refine st_pureG hF hC hW ho h2 (by decide) hd hg rfl ?_
  show _ = Result.ok (Next.value (mskV X.p (X.sv))) w
  generalize a.eval = ρ at e6 ⊢
  unfold execOp
  rw [hop]
  simp [e6, c0, c1, c2, go_sem]
theorem SM.s1 (X : SM) (ok : SMOk X) {Q : Exit → Act → World → Prop} : StepG (opsOf 10 Try.f9) SM.acts SM.av X.val0 X.Wd X.a0 Q 1 := by
  intro γ listed a w o hF hC hW h1 ho h2
  obtain ⟨hd, hop, hg⟩ := fields2 (x := some 36) (y := Op.load 57 (.tmp 1)) (z := none) (by kernel_rfl) ho
  have e1 : a.eval (.tmp 1) = .pointer (some ⟨X.ba, 0, none⟩) := (hF.eval0 (by kernel_rfl)).trans ok.e1
  obtain ⟨c0, c1, c2⟩ := MB.nw ok.ca (SM.nw hW)
  refine st_pureG hF hC hW ho h2 (by decide) hd hg rfl ?_
  show _ = Result.ok (Next.value (mskV X.p (.slice X.aa X.l.length X.ac))) w
  generalize a.eval = ρ at e1 ⊢
  unfold execOp
  rw [hop]
  simp [e1, c0, c1, c2, go_sem]
theorem SM.s2 (X : SM) (ok : SMOk X) {Q : Exit → Act → World → Prop} : StepG (opsOf 10 Try.f9) SM.acts SM.av X.val0 X.Wd X.a0 Q 2 := by
  intro γ listed a w o hF hC hW h1 ho h2
  obtain ⟨hd, hop, hg⟩ := fields2 (x := some 37) (y := Op.call { callee := .value (.func 31), args := #[(.tmp 36)], argTypes := #[57] }) (z := none) (by kernel_rfl) ho
  have e36 : a.eval (.tmp 36) = mskV X.p (.slice X.aa X.l.length X.ac) := slotG hF ho h2 (j := 1) (d := 36) (by kernel_rfl) (by kernel_rfl) (by rw [ok.sz]; decide)
  have ef : a.eval (.func 31) = .func (.func 31) #[] #[] := rfl
  have hu := unl (hF.lt ho) h1
  refine st_actG (k := 0) SM.chain SM.nodup rfl hF hC hW h1 ho h2 (Or.inr ⟨37, hd, rfl⟩) (SM.inj (by kernel_rfl) hu) hg ?_
  intro hW0 K hK
  have hr : (execOp a.eval o).run Try.prog w = .ok (.enter 31 #[mskV X.p (.slice X.aa X.l.length X.ac)]) w := by
    generalize a.eval = ρ at e36 ef ⊢
    unfold execOp
    rw [hop]
    simp [e36, ef, go_sem]
  unfold Oper.wp
  rw [hr]
  refine Calls.mono (toMask_any w X.p X.aa X.ac X.l ok.hl (ok.hi.nw hW0)) ?_
  rintro e w' ⟨g, rfl, n1, _, l1⟩
  exact hK _ _ ⟨g, rfl, l1, Nw.trans hW0 n1⟩
theorem SM.s3 (X : SM) (ok : SMOk X) {Q : Exit → Act → World → Prop} : StepG (opsOf 10 Try.f9) SM.acts SM.av X.val0 X.Wd X.a0 Q 3 := by
  intro γ listed a w o hF hC hW h1 ho h2
  obtain ⟨hd, hop, hg⟩ := fields2 (x := some 38) (y := Op.call { callee := .value (.func 25), args := #[(.tmp 35), (.tmp 37)], argTypes := #[28, 28] }) (z := none) (by kernel_rfl) ho
  have e35 : a.eval (.tmp 35) = mskV X.p (X.sv) := slotG hF ho h2 (j := 0) (d := 35) (by kernel_rfl) (by kernel_rfl) (by rw [ok.sz]; decide)
  have e37 : a.eval (.tmp 37) = γ 0 := slotG hF ho h2 (j := 2) (d := 37) (by kernel_rfl) (by kernel_rfl) (by rw [ok.sz]; decide)
  have ef : a.eval (.func 25) = .func (.func 25) #[] #[] := rfl
  have hu := unl (hF.lt ho) h1
  refine st_actG (k := 1) SM.chain SM.nodup rfl hF hC hW h1 ho h2 (Or.inr ⟨38, hd, rfl⟩) (SM.inj (by kernel_rfl) hu) hg ?_
  intro hW0 K hK
  obtain ⟨g, g0, l1, n1⟩ := hW0
  rw [g0] at e37
  have hr : (execOp a.eval o).run Try.prog w = .ok (.enter 25 #[mskV X.p (X.sv), mskV X.p (.slice (some ⟨g, 0, none⟩) X.l.length X.l.length)]) w := by
    generalize a.eval = ρ at e35 e37 ef ⊢
    unfold execOp
    rw [hop]
    simp [e35, e37, ef, go_sem]
  unfold Oper.wp
  rw [hr]
  refine Calls.mono (eqMask_any w X.p _ _ X.l ok.hl (ok.hs.nw n1) (l1.row)) ?_
  rintro e w' ⟨rfl, n2⟩
  exact hK _ _ ⟨rfl, Nw.trans n1 n2⟩
theorem SM.s4 (X : SM) (ok : SMOk X) {Q : Exit → Act → World → Prop} : StepG (opsOf 10 Try.f9) SM.acts SM.av X.val0 X.Wd X.a0 Q 4 := by
  intro γ listed a w o hF hC hW h1 ho h2
  obtain ⟨hd, hop, hg⟩ := fields2 (x := some 39) (y := Op.unOp .not 4 (.tmp 38)) (z := none) (by kernel_rfl) ho
  have e38 : a.eval (.tmp 38) = γ 1 := slotG hF ho h2 (j := 3) (d := 38) (by kernel_rfl) (by kernel_rfl) (by rw [ok.sz]; decide)
  have hu := unl (hF.lt ho) h1
  refine st_actG (k := 2) SM.chain SM.nodup rfl hF hC hW h1 ho h2 (Or.inr ⟨39, hd, rfl⟩) (SM.inj (by kernel_rfl) hu) hg ?_
  intro hW0 K hK
  obtain ⟨g0, n1⟩ := hW0
  rw [g0] at e38
  have hr : (execOp a.eval o).run Try.prog w = .ok (.value (.bool false)) w := by
    generalize a.eval = ρ at e38 ⊢
    unfold execOp
    rw [hop]
    simp [e38, go_sem]
  unfold Oper.wp
  rw [hr]
  exact hK _ _ ⟨rfl, n1⟩
theorem SM.size : (opsOf 10 Try.f9).size = 5 := by kernel_rfl
theorem SM.steps (X : SM) (ok : SMOk X) {Q : Exit → Act → World → Prop} (i : Nat) (hi : i < (opsOf 10 Try.f9).size) : StepG (opsOf 10 Try.f9) SM.acts SM.av X.val0 X.Wd X.a0 Q i := by
  rw [SM.size] at hi
  have hc : i = 0 ∨ i = 1 ∨ i = 2 ∨ i = 3 ∨ i = 4 := by omega
  rcases hc with rfl | rfl | rfl | rfl | rfl
  · exact SM.s0 X ok
  · exact SM.s1 X ok
  · exact SM.s2 X ok
  · exact SM.s3 X ok
  · exact SM.s4 X ok
theorem SM.puts (X : SM) (γ : Nat → Value) (a0 : Act) : putsL (valG SM.av X.val0 γ) (opsOf 10 Try.f9).toList a0 = (((((a0.put (some 35) (mskV X.p (X.sv))).put (some 36) (mskV X.p (.slice X.aa X.l.length X.ac))).put (some 37) (γ 0)).put (some 38) (γ 1)).put (some 39) (γ 2)) := by kernel_rfl
/-- The region, whatever order comes up. -/
theorem SM.run (X : SM) (ok : SMOk X) {Q : Exit → Act → World → Prop} (w : World) (h0 : X.Wd 0 (fun _ => undef) w.drew) (hend : ∀ (γ : Nat → Value) w', X.Wd 3 γ w' → Q .normal (((((X.a0.put (some 35) (mskV X.p (X.sv))).put (some 36) (mskV X.p (.slice X.aa X.l.length X.ac))).put (some 37) (γ 0)).put (some 38) (γ 1)).put (some 39) (γ 2)) w') : (Code.region 10 (opsOf 10 Try.f9) true).wp Try.prog Q X.a0 w := by
  refine reg_act (acts := SM.acts) (av := SM.av) (val0 := X.val0) (Wd := X.Wd) (by kernel_rfl) (by kernel_rfl) (by rw [SM.size]; decide) (fun i hi => SM.steps X ok i hi) _ h0 ?_
  intro γ w' h
  rw [SM.puts]
  exact hend γ w' h
end Go.Proofs.Ytllljknpicmmjaa

/-
  The statement of the program's movedPoint that makes the moved point, whatever order its operations come up in; each theorem names its conditions.
-/
import Derived.Test.YtmojppchpeecmaaPtG
import Derived.Test.YtmojppchpeecmaaBx
import Derived.Test.YtmojppchpeecmaaRg2
namespace Go.Proofs.Ytmojppchpeecmaa
open Go.ChangeShapes Go.WideShapes Go.ChangeAt Go.RowKit
set_option linter.unusedVariables false

structure MX where
  ba : Nat
  bp : Nat
  A : Int
  B : Int
  C : Int
  D : Int
  E : Int
  F : Int
  x : Int
  y : Int
  W : World
  a0 : Act
structure MXOk (X : MX) : Prop where
  cA : X.W.cell? ⟨X.ba, 0, none⟩ = some (.int .i64 X.A)
  cB : X.W.cell? ⟨X.ba, 1, none⟩ = some (.int .i64 X.B)
  cC : X.W.cell? ⟨X.ba, 2, none⟩ = some (.int .i64 X.C)
  cD : X.W.cell? ⟨X.ba, 3, none⟩ = some (.int .i64 X.D)
  cE : X.W.cell? ⟨X.ba, 4, none⟩ = some (.int .i64 X.E)
  cF : X.W.cell? ⟨X.ba, 5, none⟩ = some (.int .i64 X.F)
  cx : X.W.cell? ⟨X.bp, 0, none⟩ = some (.int .i64 X.x)
  cy : X.W.cell? ⟨X.bp, 1, none⟩ = some (.int .i64 X.y)
  w1 : IntKind.i64.wrap (fmV X.A X.x + fmV X.C X.y) = fmV X.A X.x + fmV X.C X.y
  w2 : IntKind.i64.wrap (fmV X.A X.x + fmV X.C X.y + X.E) = fmV X.A X.x + fmV X.C X.y + X.E
  w3 : IntKind.i64.wrap (fmV X.B X.x + fmV X.D X.y) = fmV X.B X.x + fmV X.D X.y
  w4 : IntKind.i64.wrap (fmV X.B X.x + fmV X.D X.y + X.F) = fmV X.B X.x + fmV X.D X.y + X.F
  e2 : X.a0.eval (.tmp 2) = .pointer (some ⟨X.ba, 0, none⟩)
  e3 : X.a0.eval (.tmp 3) = .pointer (some ⟨X.bp, 0, none⟩)
  sz : X.a0.tmps.size = 43
def MX.val0 (X : MX) : Nat → Value
  | 7 => .pointer (some ⟨X.ba, 0, none⟩)
  | 8 => .int .i64 X.A
  | 9 => .pointer (some ⟨X.bp, 0, none⟩)
  | 10 => .int .i64 X.x
  | 11 => .int .i64 (fmV X.A X.x)
  | 12 => .pointer (some ⟨X.ba, 2, none⟩)
  | 13 => .int .i64 X.C
  | 14 => .pointer (some ⟨X.bp, 1, none⟩)
  | 15 => .int .i64 X.y
  | 16 => .int .i64 (fmV X.C X.y)
  | 17 => .int .i64 (fmV X.A X.x + fmV X.C X.y)
  | 18 => .pointer (some ⟨X.ba, 4, none⟩)
  | 19 => .int .i64 X.E
  | 20 => .int .i64 (fmV X.A X.x + fmV X.C X.y + X.E)
  | 21 => .pointer (some ⟨X.ba, 1, none⟩)
  | 22 => .int .i64 X.B
  | 23 => .pointer (some ⟨X.bp, 0, none⟩)
  | 24 => .int .i64 X.x
  | 25 => .int .i64 (fmV X.B X.x)
  | 26 => .pointer (some ⟨X.ba, 3, none⟩)
  | 27 => .int .i64 X.D
  | 28 => .pointer (some ⟨X.bp, 1, none⟩)
  | 29 => .int .i64 X.y
  | 30 => .int .i64 (fmV X.D X.y)
  | 31 => .int .i64 (fmV X.B X.x + fmV X.D X.y)
  | 32 => .pointer (some ⟨X.ba, 5, none⟩)
  | 33 => .int .i64 X.F
  | 34 => .int .i64 (fmV X.B X.x + fmV X.D X.y + X.F)
  | 35 => .agg #[.int .i64 (fmV X.A X.x + fmV X.C X.y + X.E), .int .i64 (fmV X.B X.x + fmV X.D X.y + X.F)]
  | _ => undef
def MX.av : Nat → Option Nat
  | 6 => some 0
  | _ => none
def MX.acts : List Nat := [29, 30]
/-- The world, by how many of the acting ones have come up. -/
def MX.Wd (X : MX) : Nat → (Nat → Value) → World → Prop
  | 0, _, w => Kp X.W w
  | 1, γ, w => ∃ g, γ 0 = .pointer (some ⟨g, 0, none⟩) ∧ X.W.heap.size ≤ g ∧ w.cell? ⟨g, 0, none⟩ = some (.int .i64 0) ∧ w.cell? ⟨g, 1, none⟩ = some (.int .i64 0) ∧ (∀ o, w.frozen? ⟨g, o, none⟩ = false) ∧ Kp X.W w
  | _, γ, w => ∃ g, γ 0 = .pointer (some ⟨g, 0, none⟩) ∧ X.W.heap.size ≤ g ∧ w.cell? ⟨g, 0, none⟩ = some (.int .i64 (fmV X.A X.x + fmV X.C X.y + X.E)) ∧ w.cell? ⟨g, 1, none⟩ = some (.int .i64 (fmV X.B X.x + fmV X.D X.y + X.F)) ∧ (∀ o, w.frozen? ⟨g, o, none⟩ = false) ∧ Kp X.W w
theorem MX.kp {X : MX} : ∀ {n : Nat} {γ : Nat → Value} {w : World}, X.Wd n γ w → Kp X.W w
  | 0, _, _, h => h
  | 1, _, _, ⟨_, _, _, _, _, _, h⟩ => h
  | _ + 2, _, _, ⟨_, _, _, _, _, _, h⟩ => h
theorem MX.keep {X : MX} : ∀ {n : Nat} {γ : Nat → Value} {w w' : World}, X.Wd n γ w → Kp w w' → X.Wd n γ w'
  | 0, _, _, _, h, k => Kp.trans h k
  | 1, _, w, _, ⟨g, h1, h2, h3, h4, h5, h6⟩, k => ⟨g, h1, h2, (k.cells.1 _ _ (World.block_lt_of_cell? w ⟨g, 0, none⟩ h3)).trans h3, (k.cells.1 _ _ (World.block_lt_of_cell? w ⟨g, 0, none⟩ h3)).trans h4, fun o => (k.cells.2 _ _).trans (h5 o), Kp.trans h6 k⟩
  | _ + 2, _, w, _, ⟨g, h1, h2, h3, h4, h5, h6⟩, k => ⟨g, h1, h2, (k.cells.1 _ _ (World.block_lt_of_cell? w ⟨g, 0, none⟩ h3)).trans h3, (k.cells.1 _ _ (World.block_lt_of_cell? w ⟨g, 0, none⟩ h3)).trans h4, fun o => (k.cells.2 _ _).trans (h5 o), Kp.trans h6 k⟩
theorem kp_at {W w : World} {b o : Nat} {v : Value} (k : Kp W w) (h : W.cell? ⟨b, o, none⟩ = some v) : w.cell? ⟨b, o, none⟩ = some v := (k.cells.1 _ _ (World.block_lt_of_cell? W ⟨b, o, none⟩ h)).trans h
theorem MX.chain : chainG (opsOf 1 Try.f88) MX.acts = true := by kernel_rfl
theorem MX.nodup : MX.acts.Nodup := by decide
theorem MX.inj {listed : Array Bool} {i k : Nat} (h : (List.range (opsOf 1 Try.f88).size).all (fun j => decide (j = i) || !(match dstOf (opsOf 1 Try.f88) j with | some d => decide (MX.av d = some k) | none => false)) = true) (hu : listed.getD i false = false) : ∀ d, got (opsOf 1 Try.f88) listed d → MX.av d ≠ some k := by
  rintro d ⟨j, h1, h2⟩ h3
  have hlt : j < (opsOf 1 Try.f88).size := by
    rcases Nat.lt_or_ge j (opsOf 1 Try.f88).size with h4 | h4
    · exact h4
    · unfold dstOf at h2; rw [Array.getElem?_eq_none h4] at h2; cases h2
  have h5 := List.all_eq_true.1 h j (List.mem_range.2 hlt)
  rw [h2] at h5
  simp only [h3, decide_true, Bool.not_true, Bool.or_false, decide_eq_true_eq] at h5
  subst h5
  rw [hu] at h1
  cases h1
theorem MX.s0 (X : MX) (ok : MXOk X) {Q : Exit → Act → World → Prop} : StepG (opsOf 1 Try.f88) MX.acts MX.av X.val0 X.Wd X.a0 Q 0 := by
  intro γ listed a w o hF hC hW h1 ho h2
  obtain ⟨hd, hop, hg⟩ := fields2 (x := some 7) (y := Op.fieldAddr 31 (.tmp 2) 0) (z := none) (by kernel_rfl) ho
  have e2 : a.eval (.tmp 2) = .pointer (some ⟨X.ba, 0, none⟩) := (hF.eval0 (by kernel_rfl)).trans ok.e2
  refine st_pureG hF hC hW ho h2 (by decide) hd hg rfl ?_
  show _ = Result.ok (Next.value (.pointer (some ⟨X.ba, 0, none⟩))) w
  generalize a.eval = ρ at e2 ⊢
  unfold execOp
  rw [hop]
  simp [e2, go_sem]
theorem MX.s1 (X : MX) (ok : MXOk X) {Q : Exit → Act → World → Prop} : StepG (opsOf 1 Try.f88) MX.acts MX.av X.val0 X.Wd X.a0 Q 1 := by
  intro γ listed a w o hF hC hW h1 ho h2
  obtain ⟨hd, hop, hg⟩ := fields2 (x := some 8) (y := Op.load 3 (.tmp 7)) (z := none) (by kernel_rfl) ho
  have e7 : a.eval (.tmp 7) = .pointer (some ⟨X.ba, 0, none⟩) := slotG hF ho h2 (j := 0) (d := 7) (by kernel_rfl) (by kernel_rfl) (by rw [ok.sz]; decide)
  have hc := kp_at (MX.kp hW) ok.cA
  refine st_pureG hF hC hW ho h2 (by decide) hd hg rfl ?_
  show _ = Result.ok (Next.value (.int .i64 X.A)) w
  generalize a.eval = ρ at e7 ⊢
  unfold execOp
  rw [hop]
  simp [e7, hc, go_sem]
theorem MX.s2 (X : MX) (ok : MXOk X) {Q : Exit → Act → World → Prop} : StepG (opsOf 1 Try.f88) MX.acts MX.av X.val0 X.Wd X.a0 Q 2 := by
  intro γ listed a w o hF hC hW h1 ho h2
  obtain ⟨hd, hop, hg⟩ := fields2 (x := some 9) (y := Op.fieldAddr 27 (.tmp 3) 0) (z := none) (by kernel_rfl) ho
  have e3 : a.eval (.tmp 3) = .pointer (some ⟨X.bp, 0, none⟩) := (hF.eval0 (by kernel_rfl)).trans ok.e3
  refine st_pureG hF hC hW ho h2 (by decide) hd hg rfl ?_
  show _ = Result.ok (Next.value (.pointer (some ⟨X.bp, 0, none⟩))) w
  generalize a.eval = ρ at e3 ⊢
  unfold execOp
  rw [hop]
  simp [e3, go_sem]
theorem MX.s3 (X : MX) (ok : MXOk X) {Q : Exit → Act → World → Prop} : StepG (opsOf 1 Try.f88) MX.acts MX.av X.val0 X.Wd X.a0 Q 3 := by
  intro γ listed a w o hF hC hW h1 ho h2
  obtain ⟨hd, hop, hg⟩ := fields2 (x := some 10) (y := Op.load 3 (.tmp 9)) (z := none) (by kernel_rfl) ho
  have e9 : a.eval (.tmp 9) = .pointer (some ⟨X.bp, 0, none⟩) := slotG hF ho h2 (j := 2) (d := 9) (by kernel_rfl) (by kernel_rfl) (by rw [ok.sz]; decide)
  have hc := kp_at (MX.kp hW) ok.cx
  refine st_pureG hF hC hW ho h2 (by decide) hd hg rfl ?_
  show _ = Result.ok (Next.value (.int .i64 X.x)) w
  generalize a.eval = ρ at e9 ⊢
  unfold execOp
  rw [hop]
  simp [e9, hc, go_sem]
theorem MX.s4 (X : MX) (ok : MXOk X) {Q : Exit → Act → World → Prop} : StepG (opsOf 1 Try.f88) MX.acts MX.av X.val0 X.Wd X.a0 Q 4 := by
  intro γ listed a w o hF hC hW h1 ho h2
  obtain ⟨hd, hop, hg⟩ := fields2 (x := some 11) (y := Op.call { callee := .value (.func 100), args := #[(.tmp 8), (.tmp 10)], argTypes := #[3, 3] }) (z := none) (by kernel_rfl) ho
  have e8 : a.eval (.tmp 8) = .int .i64 X.A := slotG hF ho h2 (j := 1) (d := 8) (by kernel_rfl) (by kernel_rfl) (by rw [ok.sz]; decide)
  have e10 : a.eval (.tmp 10) = .int .i64 X.x := slotG hF ho h2 (j := 3) (d := 10) (by kernel_rfl) (by kernel_rfl) (by rw [ok.sz]; decide)
  have ef : a.eval (.func 100) = .func (.func 100) #[] #[] := rfl
  refine st_callG hF hC hW ho h2 (by decide) hd hg rfl (f := 100) (args := #[.int .i64 X.A, .int .i64 X.x]) ?_ ?_ ?_
  · generalize a.eval = ρ at e8 e10 ef ⊢
    unfold execOp
    rw [hop]
    simp [e8, e10, ef, go_sem]
  · exact (ifm X.A X.x w).mono fun e w' ⟨h1, h2⟩ => ⟨h1, h2 ▸ Kp.refl _⟩
  · intro w' hk; exact MX.keep hW hk
theorem MX.s5 (X : MX) (ok : MXOk X) {Q : Exit → Act → World → Prop} : StepG (opsOf 1 Try.f88) MX.acts MX.av X.val0 X.Wd X.a0 Q 5 := by
  intro γ listed a w o hF hC hW h1 ho h2
  obtain ⟨hd, hop, hg⟩ := fields2 (x := some 12) (y := Op.fieldAddr 31 (.tmp 2) 2) (z := none) (by kernel_rfl) ho
  have e2 : a.eval (.tmp 2) = .pointer (some ⟨X.ba, 0, none⟩) := (hF.eval0 (by kernel_rfl)).trans ok.e2
  refine st_pureG hF hC hW ho h2 (by decide) hd hg rfl ?_
  show _ = Result.ok (Next.value (.pointer (some ⟨X.ba, 2, none⟩))) w
  generalize a.eval = ρ at e2 ⊢
  unfold execOp
  rw [hop]
  simp [e2, go_sem]
theorem MX.s6 (X : MX) (ok : MXOk X) {Q : Exit → Act → World → Prop} : StepG (opsOf 1 Try.f88) MX.acts MX.av X.val0 X.Wd X.a0 Q 6 := by
  intro γ listed a w o hF hC hW h1 ho h2
  obtain ⟨hd, hop, hg⟩ := fields2 (x := some 13) (y := Op.load 3 (.tmp 12)) (z := none) (by kernel_rfl) ho
  have e12 : a.eval (.tmp 12) = .pointer (some ⟨X.ba, 2, none⟩) := slotG hF ho h2 (j := 5) (d := 12) (by kernel_rfl) (by kernel_rfl) (by rw [ok.sz]; decide)
  have hc := kp_at (MX.kp hW) ok.cC
  refine st_pureG hF hC hW ho h2 (by decide) hd hg rfl ?_
  show _ = Result.ok (Next.value (.int .i64 X.C)) w
  generalize a.eval = ρ at e12 ⊢
  unfold execOp
  rw [hop]
  simp [e12, hc, go_sem]
theorem MX.s7 (X : MX) (ok : MXOk X) {Q : Exit → Act → World → Prop} : StepG (opsOf 1 Try.f88) MX.acts MX.av X.val0 X.Wd X.a0 Q 7 := by
  intro γ listed a w o hF hC hW h1 ho h2
  obtain ⟨hd, hop, hg⟩ := fields2 (x := some 14) (y := Op.fieldAddr 27 (.tmp 3) 1) (z := none) (by kernel_rfl) ho
  have e3 : a.eval (.tmp 3) = .pointer (some ⟨X.bp, 0, none⟩) := (hF.eval0 (by kernel_rfl)).trans ok.e3
  refine st_pureG hF hC hW ho h2 (by decide) hd hg rfl ?_
  show _ = Result.ok (Next.value (.pointer (some ⟨X.bp, 1, none⟩))) w
  generalize a.eval = ρ at e3 ⊢
  unfold execOp
  rw [hop]
  simp [e3, go_sem]
theorem MX.s8 (X : MX) (ok : MXOk X) {Q : Exit → Act → World → Prop} : StepG (opsOf 1 Try.f88) MX.acts MX.av X.val0 X.Wd X.a0 Q 8 := by
  intro γ listed a w o hF hC hW h1 ho h2
  obtain ⟨hd, hop, hg⟩ := fields2 (x := some 15) (y := Op.load 3 (.tmp 14)) (z := none) (by kernel_rfl) ho
  have e14 : a.eval (.tmp 14) = .pointer (some ⟨X.bp, 1, none⟩) := slotG hF ho h2 (j := 7) (d := 14) (by kernel_rfl) (by kernel_rfl) (by rw [ok.sz]; decide)
  have hc := kp_at (MX.kp hW) ok.cy
  refine st_pureG hF hC hW ho h2 (by decide) hd hg rfl ?_
  show _ = Result.ok (Next.value (.int .i64 X.y)) w
  generalize a.eval = ρ at e14 ⊢
  unfold execOp
  rw [hop]
  simp [e14, hc, go_sem]
theorem MX.s9 (X : MX) (ok : MXOk X) {Q : Exit → Act → World → Prop} : StepG (opsOf 1 Try.f88) MX.acts MX.av X.val0 X.Wd X.a0 Q 9 := by
  intro γ listed a w o hF hC hW h1 ho h2
  obtain ⟨hd, hop, hg⟩ := fields2 (x := some 16) (y := Op.call { callee := .value (.func 100), args := #[(.tmp 13), (.tmp 15)], argTypes := #[3, 3] }) (z := none) (by kernel_rfl) ho
  have e13 : a.eval (.tmp 13) = .int .i64 X.C := slotG hF ho h2 (j := 6) (d := 13) (by kernel_rfl) (by kernel_rfl) (by rw [ok.sz]; decide)
  have e15 : a.eval (.tmp 15) = .int .i64 X.y := slotG hF ho h2 (j := 8) (d := 15) (by kernel_rfl) (by kernel_rfl) (by rw [ok.sz]; decide)
  have ef : a.eval (.func 100) = .func (.func 100) #[] #[] := rfl
  refine st_callG hF hC hW ho h2 (by decide) hd hg rfl (f := 100) (args := #[.int .i64 X.C, .int .i64 X.y]) ?_ ?_ ?_
  · generalize a.eval = ρ at e13 e15 ef ⊢
    unfold execOp
    rw [hop]
    simp [e13, e15, ef, go_sem]
  · exact (ifm X.C X.y w).mono fun e w' ⟨h1, h2⟩ => ⟨h1, h2 ▸ Kp.refl _⟩
  · intro w' hk; exact MX.keep hW hk
theorem MX.s10 (X : MX) (ok : MXOk X) {Q : Exit → Act → World → Prop} : StepG (opsOf 1 Try.f88) MX.acts MX.av X.val0 X.Wd X.a0 Q 10 := by
  intro γ listed a w o hF hC hW h1 ho h2
  obtain ⟨hd, hop, hg⟩ := fields2 (x := some 17) (y := Op.binOp .add 3 (.tmp 11) (.tmp 16) 3) (z := none) (by kernel_rfl) ho
  have e11 : a.eval (.tmp 11) = .int .i64 (fmV X.A X.x) := slotG hF ho h2 (j := 4) (d := 11) (by kernel_rfl) (by kernel_rfl) (by rw [ok.sz]; decide)
  have e16 : a.eval (.tmp 16) = .int .i64 (fmV X.C X.y) := slotG hF ho h2 (j := 9) (d := 16) (by kernel_rfl) (by kernel_rfl) (by rw [ok.sz]; decide)
  refine st_pureG hF hC hW ho h2 (by decide) hd hg rfl ?_
  show _ = Result.ok (Next.value (.int .i64 (fmV X.A X.x + fmV X.C X.y))) w
  generalize a.eval = ρ at e11 e16 ⊢
  unfold execOp
  rw [hop]
  simp [e11, e16, ok.w1, go_sem]
theorem MX.s11 (X : MX) (ok : MXOk X) {Q : Exit → Act → World → Prop} : StepG (opsOf 1 Try.f88) MX.acts MX.av X.val0 X.Wd X.a0 Q 11 := by
  intro γ listed a w o hF hC hW h1 ho h2
  obtain ⟨hd, hop, hg⟩ := fields2 (x := some 18) (y := Op.fieldAddr 31 (.tmp 2) 4) (z := none) (by kernel_rfl) ho
  have e2 : a.eval (.tmp 2) = .pointer (some ⟨X.ba, 0, none⟩) := (hF.eval0 (by kernel_rfl)).trans ok.e2
  refine st_pureG hF hC hW ho h2 (by decide) hd hg rfl ?_
  show _ = Result.ok (Next.value (.pointer (some ⟨X.ba, 4, none⟩))) w
  generalize a.eval = ρ at e2 ⊢
  unfold execOp
  rw [hop]
  simp [e2, go_sem]
theorem MX.s12 (X : MX) (ok : MXOk X) {Q : Exit → Act → World → Prop} : StepG (opsOf 1 Try.f88) MX.acts MX.av X.val0 X.Wd X.a0 Q 12 := by
  intro γ listed a w o hF hC hW h1 ho h2
  obtain ⟨hd, hop, hg⟩ := fields2 (x := some 19) (y := Op.load 3 (.tmp 18)) (z := none) (by kernel_rfl) ho
  have e18 : a.eval (.tmp 18) = .pointer (some ⟨X.ba, 4, none⟩) := slotG hF ho h2 (j := 11) (d := 18) (by kernel_rfl) (by kernel_rfl) (by rw [ok.sz]; decide)
  have hc := kp_at (MX.kp hW) ok.cE
  refine st_pureG hF hC hW ho h2 (by decide) hd hg rfl ?_
  show _ = Result.ok (Next.value (.int .i64 X.E)) w
  generalize a.eval = ρ at e18 ⊢
  unfold execOp
  rw [hop]
  simp [e18, hc, go_sem]
theorem MX.s13 (X : MX) (ok : MXOk X) {Q : Exit → Act → World → Prop} : StepG (opsOf 1 Try.f88) MX.acts MX.av X.val0 X.Wd X.a0 Q 13 := by
  intro γ listed a w o hF hC hW h1 ho h2
  obtain ⟨hd, hop, hg⟩ := fields2 (x := some 20) (y := Op.binOp .add 3 (.tmp 17) (.tmp 19) 3) (z := none) (by kernel_rfl) ho
  have e17 : a.eval (.tmp 17) = .int .i64 (fmV X.A X.x + fmV X.C X.y) := slotG hF ho h2 (j := 10) (d := 17) (by kernel_rfl) (by kernel_rfl) (by rw [ok.sz]; decide)
  have e19 : a.eval (.tmp 19) = .int .i64 X.E := slotG hF ho h2 (j := 12) (d := 19) (by kernel_rfl) (by kernel_rfl) (by rw [ok.sz]; decide)
  refine st_pureG hF hC hW ho h2 (by decide) hd hg rfl ?_
  show _ = Result.ok (Next.value (.int .i64 (fmV X.A X.x + fmV X.C X.y + X.E))) w
  generalize a.eval = ρ at e17 e19 ⊢
  unfold execOp
  rw [hop]
  simp [e17, e19, ok.w2, go_sem]
theorem MX.s14 (X : MX) (ok : MXOk X) {Q : Exit → Act → World → Prop} : StepG (opsOf 1 Try.f88) MX.acts MX.av X.val0 X.Wd X.a0 Q 14 := by
  intro γ listed a w o hF hC hW h1 ho h2
  obtain ⟨hd, hop, hg⟩ := fields2 (x := some 21) (y := Op.fieldAddr 31 (.tmp 2) 1) (z := none) (by kernel_rfl) ho
  have e2 : a.eval (.tmp 2) = .pointer (some ⟨X.ba, 0, none⟩) := (hF.eval0 (by kernel_rfl)).trans ok.e2
  refine st_pureG hF hC hW ho h2 (by decide) hd hg rfl ?_
  show _ = Result.ok (Next.value (.pointer (some ⟨X.ba, 1, none⟩))) w
  generalize a.eval = ρ at e2 ⊢
  unfold execOp
  rw [hop]
  simp [e2, go_sem]
theorem MX.s15 (X : MX) (ok : MXOk X) {Q : Exit → Act → World → Prop} : StepG (opsOf 1 Try.f88) MX.acts MX.av X.val0 X.Wd X.a0 Q 15 := by
  intro γ listed a w o hF hC hW h1 ho h2
  obtain ⟨hd, hop, hg⟩ := fields2 (x := some 22) (y := Op.load 3 (.tmp 21)) (z := none) (by kernel_rfl) ho
  have e21 : a.eval (.tmp 21) = .pointer (some ⟨X.ba, 1, none⟩) := slotG hF ho h2 (j := 14) (d := 21) (by kernel_rfl) (by kernel_rfl) (by rw [ok.sz]; decide)
  have hc := kp_at (MX.kp hW) ok.cB
  refine st_pureG hF hC hW ho h2 (by decide) hd hg rfl ?_
  show _ = Result.ok (Next.value (.int .i64 X.B)) w
  generalize a.eval = ρ at e21 ⊢
  unfold execOp
  rw [hop]
  simp [e21, hc, go_sem]
theorem MX.s16 (X : MX) (ok : MXOk X) {Q : Exit → Act → World → Prop} : StepG (opsOf 1 Try.f88) MX.acts MX.av X.val0 X.Wd X.a0 Q 16 := by
  intro γ listed a w o hF hC hW h1 ho h2
  obtain ⟨hd, hop, hg⟩ := fields2 (x := some 23) (y := Op.fieldAddr 27 (.tmp 3) 0) (z := none) (by kernel_rfl) ho
  have e3 : a.eval (.tmp 3) = .pointer (some ⟨X.bp, 0, none⟩) := (hF.eval0 (by kernel_rfl)).trans ok.e3
  refine st_pureG hF hC hW ho h2 (by decide) hd hg rfl ?_
  show _ = Result.ok (Next.value (.pointer (some ⟨X.bp, 0, none⟩))) w
  generalize a.eval = ρ at e3 ⊢
  unfold execOp
  rw [hop]
  simp [e3, go_sem]
theorem MX.s17 (X : MX) (ok : MXOk X) {Q : Exit → Act → World → Prop} : StepG (opsOf 1 Try.f88) MX.acts MX.av X.val0 X.Wd X.a0 Q 17 := by
  intro γ listed a w o hF hC hW h1 ho h2
  obtain ⟨hd, hop, hg⟩ := fields2 (x := some 24) (y := Op.load 3 (.tmp 23)) (z := none) (by kernel_rfl) ho
  have e23 : a.eval (.tmp 23) = .pointer (some ⟨X.bp, 0, none⟩) := slotG hF ho h2 (j := 16) (d := 23) (by kernel_rfl) (by kernel_rfl) (by rw [ok.sz]; decide)
  have hc := kp_at (MX.kp hW) ok.cx
  refine st_pureG hF hC hW ho h2 (by decide) hd hg rfl ?_
  show _ = Result.ok (Next.value (.int .i64 X.x)) w
  generalize a.eval = ρ at e23 ⊢
  unfold execOp
  rw [hop]
  simp [e23, hc, go_sem]
theorem MX.s18 (X : MX) (ok : MXOk X) {Q : Exit → Act → World → Prop} : StepG (opsOf 1 Try.f88) MX.acts MX.av X.val0 X.Wd X.a0 Q 18 := by
  intro γ listed a w o hF hC hW h1 ho h2
  obtain ⟨hd, hop, hg⟩ := fields2 (x := some 25) (y := Op.call { callee := .value (.func 100), args := #[(.tmp 22), (.tmp 24)], argTypes := #[3, 3] }) (z := none) (by kernel_rfl) ho
  have e22 : a.eval (.tmp 22) = .int .i64 X.B := slotG hF ho h2 (j := 15) (d := 22) (by kernel_rfl) (by kernel_rfl) (by rw [ok.sz]; decide)
  have e24 : a.eval (.tmp 24) = .int .i64 X.x := slotG hF ho h2 (j := 17) (d := 24) (by kernel_rfl) (by kernel_rfl) (by rw [ok.sz]; decide)
  have ef : a.eval (.func 100) = .func (.func 100) #[] #[] := rfl
  refine st_callG hF hC hW ho h2 (by decide) hd hg rfl (f := 100) (args := #[.int .i64 X.B, .int .i64 X.x]) ?_ ?_ ?_
  · generalize a.eval = ρ at e22 e24 ef ⊢
    unfold execOp
    rw [hop]
    simp [e22, e24, ef, go_sem]
  · exact (ifm X.B X.x w).mono fun e w' ⟨h1, h2⟩ => ⟨h1, h2 ▸ Kp.refl _⟩
  · intro w' hk; exact MX.keep hW hk
theorem MX.s19 (X : MX) (ok : MXOk X) {Q : Exit → Act → World → Prop} : StepG (opsOf 1 Try.f88) MX.acts MX.av X.val0 X.Wd X.a0 Q 19 := by
  intro γ listed a w o hF hC hW h1 ho h2
  obtain ⟨hd, hop, hg⟩ := fields2 (x := some 26) (y := Op.fieldAddr 31 (.tmp 2) 3) (z := none) (by kernel_rfl) ho
  have e2 : a.eval (.tmp 2) = .pointer (some ⟨X.ba, 0, none⟩) := (hF.eval0 (by kernel_rfl)).trans ok.e2
  refine st_pureG hF hC hW ho h2 (by decide) hd hg rfl ?_
  show _ = Result.ok (Next.value (.pointer (some ⟨X.ba, 3, none⟩))) w
  generalize a.eval = ρ at e2 ⊢
  unfold execOp
  rw [hop]
  simp [e2, go_sem]
theorem MX.s20 (X : MX) (ok : MXOk X) {Q : Exit → Act → World → Prop} : StepG (opsOf 1 Try.f88) MX.acts MX.av X.val0 X.Wd X.a0 Q 20 := by
  intro γ listed a w o hF hC hW h1 ho h2
  obtain ⟨hd, hop, hg⟩ := fields2 (x := some 27) (y := Op.load 3 (.tmp 26)) (z := none) (by kernel_rfl) ho
  have e26 : a.eval (.tmp 26) = .pointer (some ⟨X.ba, 3, none⟩) := slotG hF ho h2 (j := 19) (d := 26) (by kernel_rfl) (by kernel_rfl) (by rw [ok.sz]; decide)
  have hc := kp_at (MX.kp hW) ok.cD
  refine st_pureG hF hC hW ho h2 (by decide) hd hg rfl ?_
  show _ = Result.ok (Next.value (.int .i64 X.D)) w
  generalize a.eval = ρ at e26 ⊢
  unfold execOp
  rw [hop]
  simp [e26, hc, go_sem]
theorem MX.s21 (X : MX) (ok : MXOk X) {Q : Exit → Act → World → Prop} : StepG (opsOf 1 Try.f88) MX.acts MX.av X.val0 X.Wd X.a0 Q 21 := by
  intro γ listed a w o hF hC hW h1 ho h2
  obtain ⟨hd, hop, hg⟩ := fields2 (x := some 28) (y := Op.fieldAddr 27 (.tmp 3) 1) (z := none) (by kernel_rfl) ho
  have e3 : a.eval (.tmp 3) = .pointer (some ⟨X.bp, 0, none⟩) := (hF.eval0 (by kernel_rfl)).trans ok.e3
  refine st_pureG hF hC hW ho h2 (by decide) hd hg rfl ?_
  show _ = Result.ok (Next.value (.pointer (some ⟨X.bp, 1, none⟩))) w
  generalize a.eval = ρ at e3 ⊢
  unfold execOp
  rw [hop]
  simp [e3, go_sem]
theorem MX.s22 (X : MX) (ok : MXOk X) {Q : Exit → Act → World → Prop} : StepG (opsOf 1 Try.f88) MX.acts MX.av X.val0 X.Wd X.a0 Q 22 := by
  intro γ listed a w o hF hC hW h1 ho h2
  obtain ⟨hd, hop, hg⟩ := fields2 (x := some 29) (y := Op.load 3 (.tmp 28)) (z := none) (by kernel_rfl) ho
  have e28 : a.eval (.tmp 28) = .pointer (some ⟨X.bp, 1, none⟩) := slotG hF ho h2 (j := 21) (d := 28) (by kernel_rfl) (by kernel_rfl) (by rw [ok.sz]; decide)
  have hc := kp_at (MX.kp hW) ok.cy
  refine st_pureG hF hC hW ho h2 (by decide) hd hg rfl ?_
  show _ = Result.ok (Next.value (.int .i64 X.y)) w
  generalize a.eval = ρ at e28 ⊢
  unfold execOp
  rw [hop]
  simp [e28, hc, go_sem]
theorem MX.s23 (X : MX) (ok : MXOk X) {Q : Exit → Act → World → Prop} : StepG (opsOf 1 Try.f88) MX.acts MX.av X.val0 X.Wd X.a0 Q 23 := by
  intro γ listed a w o hF hC hW h1 ho h2
  obtain ⟨hd, hop, hg⟩ := fields2 (x := some 30) (y := Op.call { callee := .value (.func 100), args := #[(.tmp 27), (.tmp 29)], argTypes := #[3, 3] }) (z := none) (by kernel_rfl) ho
  have e27 : a.eval (.tmp 27) = .int .i64 X.D := slotG hF ho h2 (j := 20) (d := 27) (by kernel_rfl) (by kernel_rfl) (by rw [ok.sz]; decide)
  have e29 : a.eval (.tmp 29) = .int .i64 X.y := slotG hF ho h2 (j := 22) (d := 29) (by kernel_rfl) (by kernel_rfl) (by rw [ok.sz]; decide)
  have ef : a.eval (.func 100) = .func (.func 100) #[] #[] := rfl
  refine st_callG hF hC hW ho h2 (by decide) hd hg rfl (f := 100) (args := #[.int .i64 X.D, .int .i64 X.y]) ?_ ?_ ?_
  · generalize a.eval = ρ at e27 e29 ef ⊢
    unfold execOp
    rw [hop]
    simp [e27, e29, ef, go_sem]
  · exact (ifm X.D X.y w).mono fun e w' ⟨h1, h2⟩ => ⟨h1, h2 ▸ Kp.refl _⟩
  · intro w' hk; exact MX.keep hW hk
theorem MX.s24 (X : MX) (ok : MXOk X) {Q : Exit → Act → World → Prop} : StepG (opsOf 1 Try.f88) MX.acts MX.av X.val0 X.Wd X.a0 Q 24 := by
  intro γ listed a w o hF hC hW h1 ho h2
  obtain ⟨hd, hop, hg⟩ := fields2 (x := some 31) (y := Op.binOp .add 3 (.tmp 25) (.tmp 30) 3) (z := none) (by kernel_rfl) ho
  have e25 : a.eval (.tmp 25) = .int .i64 (fmV X.B X.x) := slotG hF ho h2 (j := 18) (d := 25) (by kernel_rfl) (by kernel_rfl) (by rw [ok.sz]; decide)
  have e30 : a.eval (.tmp 30) = .int .i64 (fmV X.D X.y) := slotG hF ho h2 (j := 23) (d := 30) (by kernel_rfl) (by kernel_rfl) (by rw [ok.sz]; decide)
  refine st_pureG hF hC hW ho h2 (by decide) hd hg rfl ?_
  show _ = Result.ok (Next.value (.int .i64 (fmV X.B X.x + fmV X.D X.y))) w
  generalize a.eval = ρ at e25 e30 ⊢
  unfold execOp
  rw [hop]
  simp [e25, e30, ok.w3, go_sem]
theorem MX.s25 (X : MX) (ok : MXOk X) {Q : Exit → Act → World → Prop} : StepG (opsOf 1 Try.f88) MX.acts MX.av X.val0 X.Wd X.a0 Q 25 := by
  intro γ listed a w o hF hC hW h1 ho h2
  obtain ⟨hd, hop, hg⟩ := fields2 (x := some 32) (y := Op.fieldAddr 31 (.tmp 2) 5) (z := none) (by kernel_rfl) ho
  have e2 : a.eval (.tmp 2) = .pointer (some ⟨X.ba, 0, none⟩) := (hF.eval0 (by kernel_rfl)).trans ok.e2
  refine st_pureG hF hC hW ho h2 (by decide) hd hg rfl ?_
  show _ = Result.ok (Next.value (.pointer (some ⟨X.ba, 5, none⟩))) w
  generalize a.eval = ρ at e2 ⊢
  unfold execOp
  rw [hop]
  simp [e2, go_sem]
theorem MX.s26 (X : MX) (ok : MXOk X) {Q : Exit → Act → World → Prop} : StepG (opsOf 1 Try.f88) MX.acts MX.av X.val0 X.Wd X.a0 Q 26 := by
  intro γ listed a w o hF hC hW h1 ho h2
  obtain ⟨hd, hop, hg⟩ := fields2 (x := some 33) (y := Op.load 3 (.tmp 32)) (z := none) (by kernel_rfl) ho
  have e32 : a.eval (.tmp 32) = .pointer (some ⟨X.ba, 5, none⟩) := slotG hF ho h2 (j := 25) (d := 32) (by kernel_rfl) (by kernel_rfl) (by rw [ok.sz]; decide)
  have hc := kp_at (MX.kp hW) ok.cF
  refine st_pureG hF hC hW ho h2 (by decide) hd hg rfl ?_
  show _ = Result.ok (Next.value (.int .i64 X.F)) w
  generalize a.eval = ρ at e32 ⊢
  unfold execOp
  rw [hop]
  simp [e32, hc, go_sem]
theorem MX.s27 (X : MX) (ok : MXOk X) {Q : Exit → Act → World → Prop} : StepG (opsOf 1 Try.f88) MX.acts MX.av X.val0 X.Wd X.a0 Q 27 := by
  intro γ listed a w o hF hC hW h1 ho h2
  obtain ⟨hd, hop, hg⟩ := fields2 (x := some 34) (y := Op.binOp .add 3 (.tmp 31) (.tmp 33) 3) (z := none) (by kernel_rfl) ho
  have e31 : a.eval (.tmp 31) = .int .i64 (fmV X.B X.x + fmV X.D X.y) := slotG hF ho h2 (j := 24) (d := 31) (by kernel_rfl) (by kernel_rfl) (by rw [ok.sz]; decide)
  have e33 : a.eval (.tmp 33) = .int .i64 X.F := slotG hF ho h2 (j := 26) (d := 33) (by kernel_rfl) (by kernel_rfl) (by rw [ok.sz]; decide)
  refine st_pureG hF hC hW ho h2 (by decide) hd hg rfl ?_
  show _ = Result.ok (Next.value (.int .i64 (fmV X.B X.x + fmV X.D X.y + X.F))) w
  generalize a.eval = ρ at e31 e33 ⊢
  unfold execOp
  rw [hop]
  simp [e31, e33, ok.w4, go_sem]
theorem MX.s28 (X : MX) (ok : MXOk X) {Q : Exit → Act → World → Prop} : StepG (opsOf 1 Try.f88) MX.acts MX.av X.val0 X.Wd X.a0 Q 28 := by
  intro γ listed a w o hF hC hW h1 ho h2
  obtain ⟨hd, hop, hg⟩ := fields2 (x := some 35) (y := Op.build 27 #[(0, (.tmp 20)), (1, (.tmp 34))]) (z := none) (by kernel_rfl) ho
  have e20 : a.eval (.tmp 20) = .int .i64 (fmV X.A X.x + fmV X.C X.y + X.E) := slotG hF ho h2 (j := 13) (d := 20) (by kernel_rfl) (by kernel_rfl) (by rw [ok.sz]; decide)
  have e34 : a.eval (.tmp 34) = .int .i64 (fmV X.B X.x + fmV X.D X.y + X.F) := slotG hF ho h2 (j := 27) (d := 34) (by kernel_rfl) (by kernel_rfl) (by rw [ok.sz]; decide)
  refine st_pureG hF hC hW ho h2 (by decide) hd hg rfl ?_
  show _ = Result.ok (Next.value (.agg #[.int .i64 (fmV X.A X.x + fmV X.C X.y + X.E), .int .i64 (fmV X.B X.x + fmV X.D X.y + X.F)])) w
  generalize a.eval = ρ at e20 e34 ⊢
  unfold execOp
  rw [hop]
  simp [e20, e34, go_sem]
theorem MX.s29 (X : MX) (ok : MXOk X) {Q : Exit → Act → World → Prop} : StepG (opsOf 1 Try.f88) MX.acts MX.av X.val0 X.Wd X.a0 Q 29 := by
  intro γ listed a w o hF hC hW h1 ho h2
  obtain ⟨hd, hop, hg⟩ := fields2 (x := some 6) (y := Op.alloc 27) (z := none) (by kernel_rfl) ho
  have hu := unl (hF.lt ho) h1
  refine st_actG (k := 0) MX.chain MX.nodup rfl hF hC hW h1 ho h2 (Or.inr ⟨6, hd, rfl⟩) (MX.inj (by kernel_rfl) hu) hg ?_
  intro hW0 K hK
  have hr : (execOp a.eval o).run Try.prog w = .ok (.value (.pointer (some ⟨w.heap.size, 0, none⟩))) (w.alloc (.cells #[.int .i64 0, .int .i64 0] 27)) := by
    unfold execOp
    rw [hop]
    simp [go_sem]
  unfold Oper.wp
  rw [hr]
  exact hK _ _ ⟨w.heap.size, rfl, Kp.size hW0, by simp, by simp, fun o => World.frozen?_alloc_at _ _ _ _ rfl, Kp.alloc hW0 _ _⟩
theorem MX.s30 (X : MX) (ok : MXOk X) {Q : Exit → Act → World → Prop} : StepG (opsOf 1 Try.f88) MX.acts MX.av X.val0 X.Wd X.a0 Q 30 := by
  intro γ listed a w o hF hC hW h1 ho h2
  obtain ⟨hd, hop, hg⟩ := fields2 (x := none) (y := Op.store 27 (.tmp 6) (.tmp 35)) (z := none) (by kernel_rfl) ho
  have e6 : a.eval (.tmp 6) = γ 0 := slotG hF ho h2 (j := 29) (d := 6) (by kernel_rfl) (by kernel_rfl) (by rw [ok.sz]; decide)
  have e35 : a.eval (.tmp 35) = .agg #[.int .i64 (fmV X.A X.x + fmV X.C X.y + X.E), .int .i64 (fmV X.B X.x + fmV X.D X.y + X.F)] := slotG hF ho h2 (j := 28) (d := 35) (by kernel_rfl) (by kernel_rfl) (by rw [ok.sz]; decide)
  have hu := unl (hF.lt ho) h1
  refine st_actG (k := 1) MX.chain MX.nodup rfl hF hC hW h1 ho h2 (Or.inl hd) (MX.inj (by kernel_rfl) hu) hg ?_
  intro hW0 K hK
  obtain ⟨g, g0, hg0, z0, z1, zf, k1⟩ := hW0
  rw [g0] at e6
  obtain ⟨y0, y1⟩ := set2 w g (.int .i64 (fmV X.A X.x + fmV X.C X.y + X.E)) (.int .i64 (fmV X.B X.x + fmV X.D X.y + X.F)) z0 z1
  have hr : (execOp a.eval o).run Try.prog w = .ok .skip ((w.setCell ⟨g, 0, none⟩ (.int .i64 (fmV X.A X.x + fmV X.C X.y + X.E))).setCell ⟨g, 1, none⟩ (.int .i64 (fmV X.B X.x + fmV X.D X.y + X.F))) := by
    generalize a.eval = ρ at e6 e35 ⊢
    unfold execOp
    rw [hop]
    simp [e6, e35, z0, z1, zf, go_sem]
  unfold Oper.wp
  rw [hr]
  exact hK _ _ ⟨g, g0, hg0, y0, y1, fun o => by rw [World.frozen?_setCell, World.frozen?_setCell]; exact zf o, Kp.setCell (Kp.setCell k1 hg0 _) hg0 _⟩
theorem MX.size : (opsOf 1 Try.f88).size = 31 := by kernel_rfl
theorem MX.steps (X : MX) (ok : MXOk X) {Q : Exit → Act → World → Prop} (i : Nat) (hi : i < (opsOf 1 Try.f88).size) : StepG (opsOf 1 Try.f88) MX.acts MX.av X.val0 X.Wd X.a0 Q i := by
  rw [MX.size] at hi
  have hc : i = 0 ∨ i = 1 ∨ i = 2 ∨ i = 3 ∨ i = 4 ∨ i = 5 ∨ i = 6 ∨ i = 7 ∨ i = 8 ∨ i = 9 ∨ i = 10 ∨ i = 11 ∨ i = 12 ∨ i = 13 ∨ i = 14 ∨ i = 15 ∨ i = 16 ∨ i = 17 ∨ i = 18 ∨ i = 19 ∨ i = 20 ∨ i = 21 ∨ i = 22 ∨ i = 23 ∨ i = 24 ∨ i = 25 ∨ i = 26 ∨ i = 27 ∨ i = 28 ∨ i = 29 ∨ i = 30 := by omega
  rcases hc with rfl | rfl | rfl | rfl | rfl | rfl | rfl | rfl | rfl | rfl | rfl | rfl | rfl | rfl | rfl | rfl | rfl | rfl | rfl | rfl | rfl | rfl | rfl | rfl | rfl | rfl | rfl | rfl | rfl | rfl | rfl
  · exact MX.s0 X ok
  · exact MX.s1 X ok
  · exact MX.s2 X ok
  · exact MX.s3 X ok
  · exact MX.s4 X ok
  · exact MX.s5 X ok
  · exact MX.s6 X ok
  · exact MX.s7 X ok
  · exact MX.s8 X ok
  · exact MX.s9 X ok
  · exact MX.s10 X ok
  · exact MX.s11 X ok
  · exact MX.s12 X ok
  · exact MX.s13 X ok
  · exact MX.s14 X ok
  · exact MX.s15 X ok
  · exact MX.s16 X ok
  · exact MX.s17 X ok
  · exact MX.s18 X ok
  · exact MX.s19 X ok
  · exact MX.s20 X ok
  · exact MX.s21 X ok
  · exact MX.s22 X ok
  · exact MX.s23 X ok
  · exact MX.s24 X ok
  · exact MX.s25 X ok
  · exact MX.s26 X ok
  · exact MX.s27 X ok
  · exact MX.s28 X ok
  · exact MX.s29 X ok
  · exact MX.s30 X ok
theorem MX.puts (X : MX) (γ : Nat → Value) (a0 : Act) : putsL (valG MX.av X.val0 γ) (opsOf 1 Try.f88).toList a0 = ((((((((((((((((((((((((((((((a0.put (some 7) (.pointer (some ⟨X.ba, 0, none⟩))).put (some 8) (.int .i64 X.A)).put (some 9) (.pointer (some ⟨X.bp, 0, none⟩))).put (some 10) (.int .i64 X.x)).put (some 11) (.int .i64 (fmV X.A X.x))).put (some 12) (.pointer (some ⟨X.ba, 2, none⟩))).put (some 13) (.int .i64 X.C)).put (some 14) (.pointer (some ⟨X.bp, 1, none⟩))).put (some 15) (.int .i64 X.y)).put (some 16) (.int .i64 (fmV X.C X.y))).put (some 17) (.int .i64 (fmV X.A X.x + fmV X.C X.y))).put (some 18) (.pointer (some ⟨X.ba, 4, none⟩))).put (some 19) (.int .i64 X.E)).put (some 20) (.int .i64 (fmV X.A X.x + fmV X.C X.y + X.E))).put (some 21) (.pointer (some ⟨X.ba, 1, none⟩))).put (some 22) (.int .i64 X.B)).put (some 23) (.pointer (some ⟨X.bp, 0, none⟩))).put (some 24) (.int .i64 X.x)).put (some 25) (.int .i64 (fmV X.B X.x))).put (some 26) (.pointer (some ⟨X.ba, 3, none⟩))).put (some 27) (.int .i64 X.D)).put (some 28) (.pointer (some ⟨X.bp, 1, none⟩))).put (some 29) (.int .i64 X.y)).put (some 30) (.int .i64 (fmV X.D X.y))).put (some 31) (.int .i64 (fmV X.B X.x + fmV X.D X.y))).put (some 32) (.pointer (some ⟨X.ba, 5, none⟩))).put (some 33) (.int .i64 X.F)).put (some 34) (.int .i64 (fmV X.B X.x + fmV X.D X.y + X.F))).put (some 35) (.agg #[.int .i64 (fmV X.A X.x + fmV X.C X.y + X.E), .int .i64 (fmV X.B X.x + fmV X.D X.y + X.F)])).put (some 6) (γ 0)) := by kernel_rfl
/-- The region, whatever order comes up. -/
theorem MX.run (X : MX) (ok : MXOk X) {Q : Exit → Act → World → Prop} (w : World) (h0 : X.Wd 0 (fun _ => undef) w.drew) (hend : ∀ (γ : Nat → Value) w', X.Wd 2 γ w' → Q .normal ((((((((((((((((((((((((((((((X.a0.put (some 7) (.pointer (some ⟨X.ba, 0, none⟩))).put (some 8) (.int .i64 X.A)).put (some 9) (.pointer (some ⟨X.bp, 0, none⟩))).put (some 10) (.int .i64 X.x)).put (some 11) (.int .i64 (fmV X.A X.x))).put (some 12) (.pointer (some ⟨X.ba, 2, none⟩))).put (some 13) (.int .i64 X.C)).put (some 14) (.pointer (some ⟨X.bp, 1, none⟩))).put (some 15) (.int .i64 X.y)).put (some 16) (.int .i64 (fmV X.C X.y))).put (some 17) (.int .i64 (fmV X.A X.x + fmV X.C X.y))).put (some 18) (.pointer (some ⟨X.ba, 4, none⟩))).put (some 19) (.int .i64 X.E)).put (some 20) (.int .i64 (fmV X.A X.x + fmV X.C X.y + X.E))).put (some 21) (.pointer (some ⟨X.ba, 1, none⟩))).put (some 22) (.int .i64 X.B)).put (some 23) (.pointer (some ⟨X.bp, 0, none⟩))).put (some 24) (.int .i64 X.x)).put (some 25) (.int .i64 (fmV X.B X.x))).put (some 26) (.pointer (some ⟨X.ba, 3, none⟩))).put (some 27) (.int .i64 X.D)).put (some 28) (.pointer (some ⟨X.bp, 1, none⟩))).put (some 29) (.int .i64 X.y)).put (some 30) (.int .i64 (fmV X.D X.y))).put (some 31) (.int .i64 (fmV X.B X.x + fmV X.D X.y))).put (some 32) (.pointer (some ⟨X.ba, 5, none⟩))).put (some 33) (.int .i64 X.F)).put (some 34) (.int .i64 (fmV X.B X.x + fmV X.D X.y + X.F))).put (some 35) (.agg #[.int .i64 (fmV X.A X.x + fmV X.C X.y + X.E), .int .i64 (fmV X.B X.x + fmV X.D X.y + X.F)])).put (some 6) (γ 0)) w') : (Code.region 1 (opsOf 1 Try.f88) true).wp Try.prog Q X.a0 w := by
  refine reg_act (acts := MX.acts) (av := MX.av) (val0 := X.val0) (Wd := X.Wd) (by kernel_rfl) (by kernel_rfl) (by rw [MX.size]; decide) (fun i hi => MX.steps X ok i hi) _ h0 ?_
  intro γ w' h
  rw [MX.puts]
  exact hend γ w' h
end Go.Proofs.Ytmojppchpeecmaa

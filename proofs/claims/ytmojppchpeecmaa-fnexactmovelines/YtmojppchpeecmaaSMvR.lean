/-
  The statement of the specification's l9Move that appends a moved point, whatever order its operations come up in; each theorem names its conditions.
-/
import Derived.Test.YtmojppchpeecmaaLnB
import Derived.Test.YtmojppchpeecmaaMvR
namespace Go.Proofs.Ytmojppchpeecmaa
open Go.ChangeShapes Go.WideShapes Go.ChangeAt Go.RowKit
set_option linter.unusedVariables false

structure SX where
  bx : Nat
  ba : Nat
  bp : Nat
  A : Int
  B : Int
  C : Int
  D : Int
  E : Int
  F : Int
  x : Int
  y : Int
  va : Option Addr
  vn : Nat
  vc : Nat
  l : List Pnt
  cl : Bool
  W : World
  a0 : Act
structure SXOk (X : SX) : Prop where
  lb : LnB X.bx X.W (.slice X.va X.vn X.vc) X.l X.cl
  len : X.l.length + 1 ≤ 1000000
  cA : X.W.cell? ⟨X.ba, 0, none⟩ = some (.int .i64 X.A)
  cB : X.W.cell? ⟨X.ba, 1, none⟩ = some (.int .i64 X.B)
  cC : X.W.cell? ⟨X.ba, 2, none⟩ = some (.int .i64 X.C)
  cD : X.W.cell? ⟨X.ba, 3, none⟩ = some (.int .i64 X.D)
  cE : X.W.cell? ⟨X.ba, 4, none⟩ = some (.int .i64 X.E)
  cF : X.W.cell? ⟨X.ba, 5, none⟩ = some (.int .i64 X.F)
  cx : X.W.cell? ⟨X.bp, 0, none⟩ = some (.int .i64 X.x)
  cy : X.W.cell? ⟨X.bp, 1, none⟩ = some (.int .i64 X.y)
  w1 : IntKind.i64.wrap (fmV X.A X.x + fmV X.C X.y) = fmV X.A X.x + fmV X.C X.y
  w2 : IntKind.i64.wrap (fmV X.A X.x + fmV X.C X.y + X.E) = fmV X.A X.x + fmV X.C X.y + X.E
  w3 : IntKind.i64.wrap (fmV X.B X.x + fmV X.D X.y) = fmV X.B X.x + fmV X.D X.y
  w4 : IntKind.i64.wrap (fmV X.B X.x + fmV X.D X.y + X.F) = fmV X.B X.x + fmV X.D X.y + X.F
  e2 : X.a0.eval (.tmp 2) = .pointer (some ⟨X.ba, 0, none⟩)
  e8 : X.a0.eval (.tmp 8) = .pointer (some ⟨X.bx, 0, none⟩)
  e10 : X.a0.eval (.tmp 10) = .pointer (some ⟨X.bp, 0, none⟩)
  sz : X.a0.tmps.size = 68
def SX.val0 (X : SX) : Nat → Value
  | 27 => .pointer (some ⟨X.bx, 0, none⟩)
  | 28 => .slice X.va X.vn X.vc
  | 29 => .pointer (some ⟨X.ba, 0, none⟩)
  | 30 => .int .i64 X.A
  | 31 => .pointer (some ⟨X.bp, 0, none⟩)
  | 32 => .int .i64 X.x
  | 33 => .int .i64 (fmV X.A X.x)
  | 34 => .pointer (some ⟨X.ba, 2, none⟩)
  | 35 => .int .i64 X.C
  | 36 => .pointer (some ⟨X.bp, 1, none⟩)
  | 37 => .int .i64 X.y
  | 38 => .int .i64 (fmV X.C X.y)
  | 39 => .int .i64 (fmV X.A X.x + fmV X.C X.y)
  | 40 => .pointer (some ⟨X.ba, 4, none⟩)
  | 41 => .int .i64 X.E
  | 42 => .int .i64 (fmV X.A X.x + fmV X.C X.y + X.E)
  | 43 => .pointer (some ⟨X.ba, 1, none⟩)
  | 44 => .int .i64 X.B
  | 45 => .pointer (some ⟨X.bp, 0, none⟩)
  | 46 => .int .i64 X.x
  | 47 => .int .i64 (fmV X.B X.x)
  | 48 => .pointer (some ⟨X.ba, 3, none⟩)
  | 49 => .int .i64 X.D
  | 50 => .pointer (some ⟨X.bp, 1, none⟩)
  | 51 => .int .i64 X.y
  | 52 => .int .i64 (fmV X.D X.y)
  | 53 => .int .i64 (fmV X.B X.x + fmV X.D X.y)
  | 54 => .pointer (some ⟨X.ba, 5, none⟩)
  | 55 => .int .i64 X.F
  | 56 => .int .i64 (fmV X.B X.x + fmV X.D X.y + X.F)
  | 57 => .agg #[.int .i64 (fmV X.A X.x + fmV X.C X.y + X.E), .int .i64 (fmV X.B X.x + fmV X.D X.y + X.F)]
  | 60 => .pointer (some ⟨X.bx, 0, none⟩)
  | _ => undef
def SX.av : Nat → Option Nat
  | 58 => some 0
  | 59 => some 1
  | _ => none
def SX.acts : List Nat := [31, 32, 34]
/-- The world, by how many of the acting ones have come up. -/
def SX.Wd (X : SX) : Nat → (Nat → Value) → World → Prop
  | 0, _, w => Kp X.W w
  | 1, γ, w => ∃ w1, Kp X.W w1 ∧ γ 0 = .slice (some ⟨w1.heap.size, 0, none⟩) 1 1 ∧ w = w1.alloc (.cells #[.int .i64 (fmV X.A X.x + fmV X.C X.y + X.E), .int .i64 (fmV X.B X.x + fmV X.D X.y + X.F)] 27)
  | 2, γ, w => ∃ w1 g c, Kp X.W w1 ∧ γ 1 = .slice (some ⟨g, 0, none⟩) (X.l.length + 1) c ∧ OwnP w (X.bx + 1) (γ 1) (X.l ++ [(fmV X.A X.x + fmV X.C X.y + X.E, fmV X.B X.x + fmV X.D X.y + X.F)]) ∧ Ext (.slice X.va X.vn X.vc) (γ 1) w1 w
  | _, γ, w => ∃ w1 w2 g c, Kp X.W w1 ∧ γ 1 = .slice (some ⟨g, 0, none⟩) (X.l.length + 1) c ∧ OwnP w2 (X.bx + 1) (γ 1) (X.l ++ [(fmV X.A X.x + fmV X.C X.y + X.E, fmV X.B X.x + fmV X.D X.y + X.F)]) ∧ Ext (.slice X.va X.vn X.vc) (γ 1) w1 w2 ∧ w = w2.setCell ⟨X.bx, 0, none⟩ (γ 1)
theorem SX.chain : chainG (opsOf 9 Try.f56) SX.acts = true := by kernel_rfl
theorem SX.nodup : SX.acts.Nodup := by decide
theorem SX.inj {listed : Array Bool} {i k : Nat} (h : (List.range (opsOf 9 Try.f56).size).all (fun j => decide (j = i) || !(match dstOf (opsOf 9 Try.f56) j with | some d => decide (SX.av d = some k) | none => false)) = true) (hu : listed.getD i false = false) : ∀ d, got (opsOf 9 Try.f56) listed d → SX.av d ≠ some k := by
  rintro d ⟨j, h1, h2⟩ h3
  have hlt : j < (opsOf 9 Try.f56).size := by
    rcases Nat.lt_or_ge j (opsOf 9 Try.f56).size with h4 | h4
    · exact h4
    · unfold dstOf at h2; rw [Array.getElem?_eq_none h4] at h2; cases h2
  have h5 := List.all_eq_true.1 h j (List.mem_range.2 hlt)
  rw [h2] at h5
  simp only [h3, decide_true, Bool.not_true, Bool.or_false, decide_eq_true_eq] at h5
  subst h5
  rw [hu] at h1
  cases h1
theorem SX.s0 (X : SX) (ok : SXOk X) {Q : Exit → Act → World → Prop} : StepG (opsOf 9 Try.f56) SX.acts SX.av X.val0 X.Wd X.a0 Q 0 := by
  intro γ listed a w o hF hC hW h1 ho h2
  obtain ⟨hd, hop, hg⟩ := fields2 (x := some 27) (y := Op.fieldAddr 55 (.tmp 8) 0) (z := none) (by kernel_rfl) ho
  have e8 : a.eval (.tmp 8) = .pointer (some ⟨X.bx, 0, none⟩) := (hF.eval0 (by kernel_rfl)).trans ok.e8
  refine st_pureG hF hC hW ho h2 (by decide) hd hg rfl ?_
  show _ = Result.ok (Next.value (.pointer (some ⟨X.bx, 0, none⟩))) w
  generalize a.eval = ρ at e8 ⊢
  unfold execOp
  rw [hop]
  simp [e8, go_sem]
theorem SX.s1 (X : SX) (ok : SXOk X) {Q : Exit → Act → World → Prop} : StepG (opsOf 9 Try.f56) SX.acts SX.av X.val0 X.Wd X.a0 Q 1 := by
  intro γ listed a w o hF hC hW h1 ho h2
  obtain ⟨hd, hop, hg⟩ := fields2 (x := some 28) (y := Op.load 23 (.tmp 27)) (z := none) (by kernel_rfl) ho
  have e27 : a.eval (.tmp 27) = .pointer (some ⟨X.bx, 0, none⟩) := slotG hF ho h2 (j := 0) (d := 27) (by kernel_rfl) (by kernel_rfl) (by rw [ok.sz]; decide)
  have hph := phase_leG (acts := SX.acts) (m := 1) (x := 32) hC (unl (hF.lt ho) h1) rfl [1] (by kernel_rfl) (by decide)
  have hWW := hW
  generalize phase listed SX.acts = n at hph hWW
  have hk : Nw X.W w := by
    rcases (show n = 0 ∨ n = 1 by omega) with rfl | rfl
    · exact hWW.nw
    · obtain ⟨w1, k1, _, rfl⟩ := hWW
      exact Nw.trans k1.nw ((Below.refl _ _).alloc (Nat.le_refl _) _)
  have hc := (ok.lb.nw hk).c0
  refine st_pureG hF hC hW ho h2 (by decide) hd hg rfl ?_
  show _ = Result.ok (Next.value (.slice X.va X.vn X.vc)) w
  generalize a.eval = ρ at e27 ⊢
  unfold execOp
  rw [hop]
  simp [e27, hc, go_sem]
theorem SX.s2 (X : SX) (ok : SXOk X) {Q : Exit → Act → World → Prop} : StepG (opsOf 9 Try.f56) SX.acts SX.av X.val0 X.Wd X.a0 Q 2 := by
  intro γ listed a w o hF hC hW h1 ho h2
  obtain ⟨hd, hop, hg⟩ := fields2 (x := some 29) (y := Op.fieldAddr 31 (.tmp 2) 0) (z := none) (by kernel_rfl) ho
  have e2 : a.eval (.tmp 2) = .pointer (some ⟨X.ba, 0, none⟩) := (hF.eval0 (by kernel_rfl)).trans ok.e2
  refine st_pureG hF hC hW ho h2 (by decide) hd hg rfl ?_
  show _ = Result.ok (Next.value (.pointer (some ⟨X.ba, 0, none⟩))) w
  generalize a.eval = ρ at e2 ⊢
  unfold execOp
  rw [hop]
  simp [e2, go_sem]
theorem SX.s3 (X : SX) (ok : SXOk X) {Q : Exit → Act → World → Prop} : StepG (opsOf 9 Try.f56) SX.acts SX.av X.val0 X.Wd X.a0 Q 3 := by
  intro γ listed a w o hF hC hW h1 ho h2
  obtain ⟨hd, hop, hg⟩ := fields2 (x := some 30) (y := Op.load 3 (.tmp 29)) (z := none) (by kernel_rfl) ho
  have e29 : a.eval (.tmp 29) = .pointer (some ⟨X.ba, 0, none⟩) := slotG hF ho h2 (j := 2) (d := 29) (by kernel_rfl) (by kernel_rfl) (by rw [ok.sz]; decide)
  have hph := phase_leG (acts := SX.acts) (m := 0) (x := 31) hC (unl (hF.lt ho) h1) rfl [30, 15, 12, 6, 3] (by kernel_rfl) (by decide)
  have hWW := hW
  generalize phase listed SX.acts = n at hph hWW
  have hk : Kp X.W w := by
    obtain rfl : n = 0 := by omega
    exact hWW
  have hc := kp_at hk ok.cA
  refine st_pureG hF hC hW ho h2 (by decide) hd hg rfl ?_
  show _ = Result.ok (Next.value (.int .i64 X.A)) w
  generalize a.eval = ρ at e29 ⊢
  unfold execOp
  rw [hop]
  simp [e29, hc, go_sem]
theorem SX.s4 (X : SX) (ok : SXOk X) {Q : Exit → Act → World → Prop} : StepG (opsOf 9 Try.f56) SX.acts SX.av X.val0 X.Wd X.a0 Q 4 := by
  intro γ listed a w o hF hC hW h1 ho h2
  obtain ⟨hd, hop, hg⟩ := fields2 (x := some 31) (y := Op.fieldAddr 27 (.tmp 10) 0) (z := none) (by kernel_rfl) ho
  have e10 : a.eval (.tmp 10) = .pointer (some ⟨X.bp, 0, none⟩) := (hF.eval0 (by kernel_rfl)).trans ok.e10
  refine st_pureG hF hC hW ho h2 (by decide) hd hg rfl ?_
  show _ = Result.ok (Next.value (.pointer (some ⟨X.bp, 0, none⟩))) w
  generalize a.eval = ρ at e10 ⊢
  unfold execOp
  rw [hop]
  simp [e10, go_sem]
theorem SX.s5 (X : SX) (ok : SXOk X) {Q : Exit → Act → World → Prop} : StepG (opsOf 9 Try.f56) SX.acts SX.av X.val0 X.Wd X.a0 Q 5 := by
  intro γ listed a w o hF hC hW h1 ho h2
  obtain ⟨hd, hop, hg⟩ := fields2 (x := some 32) (y := Op.load 3 (.tmp 31)) (z := none) (by kernel_rfl) ho
  have e31 : a.eval (.tmp 31) = .pointer (some ⟨X.bp, 0, none⟩) := slotG hF ho h2 (j := 4) (d := 31) (by kernel_rfl) (by kernel_rfl) (by rw [ok.sz]; decide)
  have hph := phase_leG (acts := SX.acts) (m := 0) (x := 31) hC (unl (hF.lt ho) h1) rfl [30, 15, 12, 6, 5] (by kernel_rfl) (by decide)
  have hWW := hW
  generalize phase listed SX.acts = n at hph hWW
  have hk : Kp X.W w := by
    obtain rfl : n = 0 := by omega
    exact hWW
  have hc := kp_at hk ok.cx
  refine st_pureG hF hC hW ho h2 (by decide) hd hg rfl ?_
  show _ = Result.ok (Next.value (.int .i64 X.x)) w
  generalize a.eval = ρ at e31 ⊢
  unfold execOp
  rw [hop]
  simp [e31, hc, go_sem]
theorem SX.s6 (X : SX) (ok : SXOk X) {Q : Exit → Act → World → Prop} : StepG (opsOf 9 Try.f56) SX.acts SX.av X.val0 X.Wd X.a0 Q 6 := by
  intro γ listed a w o hF hC hW h1 ho h2
  obtain ⟨hd, hop, hg⟩ := fields2 (x := some 33) (y := Op.call { callee := .value (.func 90), args := #[(.tmp 30), (.tmp 32)], argTypes := #[3, 3] }) (z := none) (by kernel_rfl) ho
  have e30 : a.eval (.tmp 30) = .int .i64 X.A := slotG hF ho h2 (j := 3) (d := 30) (by kernel_rfl) (by kernel_rfl) (by rw [ok.sz]; decide)
  have e32 : a.eval (.tmp 32) = .int .i64 X.x := slotG hF ho h2 (j := 5) (d := 32) (by kernel_rfl) (by kernel_rfl) (by rw [ok.sz]; decide)
  have ef : a.eval (.func 90) = .func (.func 90) #[] #[] := rfl
  refine st_callG hF hC hW ho h2 (by decide) hd hg rfl (f := 90) (args := #[.int .i64 X.A, .int .i64 X.x]) ?_ ?_ ?_
  · generalize a.eval = ρ at e30 e32 ef ⊢
    unfold execOp
    rw [hop]
    simp [e30, e32, ef, go_sem]
  · exact sfm X.A X.x w
  · intro w' hk
    have hz : phase listed SX.acts = 0 := by
      have := phase_leG (acts := SX.acts) (m := 0) (x := 31) hC (unl (hF.lt ho) h1) rfl [30, 15, 12, 6] (by kernel_rfl) (by decide)
      omega
    rw [hz] at hW ⊢
    exact Kp.trans hW hk
theorem SX.s7 (X : SX) (ok : SXOk X) {Q : Exit → Act → World → Prop} : StepG (opsOf 9 Try.f56) SX.acts SX.av X.val0 X.Wd X.a0 Q 7 := by
  intro γ listed a w o hF hC hW h1 ho h2
  obtain ⟨hd, hop, hg⟩ := fields2 (x := some 34) (y := Op.fieldAddr 31 (.tmp 2) 2) (z := none) (by kernel_rfl) ho
  have e2 : a.eval (.tmp 2) = .pointer (some ⟨X.ba, 0, none⟩) := (hF.eval0 (by kernel_rfl)).trans ok.e2
  refine st_pureG hF hC hW ho h2 (by decide) hd hg rfl ?_
  show _ = Result.ok (Next.value (.pointer (some ⟨X.ba, 2, none⟩))) w
  generalize a.eval = ρ at e2 ⊢
  unfold execOp
  rw [hop]
  simp [e2, go_sem]
theorem SX.s8 (X : SX) (ok : SXOk X) {Q : Exit → Act → World → Prop} : StepG (opsOf 9 Try.f56) SX.acts SX.av X.val0 X.Wd X.a0 Q 8 := by
  intro γ listed a w o hF hC hW h1 ho h2
  obtain ⟨hd, hop, hg⟩ := fields2 (x := some 35) (y := Op.load 3 (.tmp 34)) (z := none) (by kernel_rfl) ho
  have e34 : a.eval (.tmp 34) = .pointer (some ⟨X.ba, 2, none⟩) := slotG hF ho h2 (j := 7) (d := 34) (by kernel_rfl) (by kernel_rfl) (by rw [ok.sz]; decide)
  have hph := phase_leG (acts := SX.acts) (m := 0) (x := 31) hC (unl (hF.lt ho) h1) rfl [30, 15, 12, 11, 8] (by kernel_rfl) (by decide)
  have hWW := hW
  generalize phase listed SX.acts = n at hph hWW
  have hk : Kp X.W w := by
    obtain rfl : n = 0 := by omega
    exact hWW
  have hc := kp_at hk ok.cC
  refine st_pureG hF hC hW ho h2 (by decide) hd hg rfl ?_
  show _ = Result.ok (Next.value (.int .i64 X.C)) w
  generalize a.eval = ρ at e34 ⊢
  unfold execOp
  rw [hop]
  simp [e34, hc, go_sem]
theorem SX.s9 (X : SX) (ok : SXOk X) {Q : Exit → Act → World → Prop} : StepG (opsOf 9 Try.f56) SX.acts SX.av X.val0 X.Wd X.a0 Q 9 := by
  intro γ listed a w o hF hC hW h1 ho h2
  obtain ⟨hd, hop, hg⟩ := fields2 (x := some 36) (y := Op.fieldAddr 27 (.tmp 10) 1) (z := none) (by kernel_rfl) ho
  have e10 : a.eval (.tmp 10) = .pointer (some ⟨X.bp, 0, none⟩) := (hF.eval0 (by kernel_rfl)).trans ok.e10
  refine st_pureG hF hC hW ho h2 (by decide) hd hg rfl ?_
  show _ = Result.ok (Next.value (.pointer (some ⟨X.bp, 1, none⟩))) w
  generalize a.eval = ρ at e10 ⊢
  unfold execOp
  rw [hop]
  simp [e10, go_sem]
theorem SX.s10 (X : SX) (ok : SXOk X) {Q : Exit → Act → World → Prop} : StepG (opsOf 9 Try.f56) SX.acts SX.av X.val0 X.Wd X.a0 Q 10 := by
  intro γ listed a w o hF hC hW h1 ho h2
  obtain ⟨hd, hop, hg⟩ := fields2 (x := some 37) (y := Op.load 3 (.tmp 36)) (z := none) (by kernel_rfl) ho
  have e36 : a.eval (.tmp 36) = .pointer (some ⟨X.bp, 1, none⟩) := slotG hF ho h2 (j := 9) (d := 36) (by kernel_rfl) (by kernel_rfl) (by rw [ok.sz]; decide)
  have hph := phase_leG (acts := SX.acts) (m := 0) (x := 31) hC (unl (hF.lt ho) h1) rfl [30, 15, 12, 11, 10] (by kernel_rfl) (by decide)
  have hWW := hW
  generalize phase listed SX.acts = n at hph hWW
  have hk : Kp X.W w := by
    obtain rfl : n = 0 := by omega
    exact hWW
  have hc := kp_at hk ok.cy
  refine st_pureG hF hC hW ho h2 (by decide) hd hg rfl ?_
  show _ = Result.ok (Next.value (.int .i64 X.y)) w
  generalize a.eval = ρ at e36 ⊢
  unfold execOp
  rw [hop]
  simp [e36, hc, go_sem]
theorem SX.s11 (X : SX) (ok : SXOk X) {Q : Exit → Act → World → Prop} : StepG (opsOf 9 Try.f56) SX.acts SX.av X.val0 X.Wd X.a0 Q 11 := by
  intro γ listed a w o hF hC hW h1 ho h2
  obtain ⟨hd, hop, hg⟩ := fields2 (x := some 38) (y := Op.call { callee := .value (.func 90), args := #[(.tmp 35), (.tmp 37)], argTypes := #[3, 3] }) (z := none) (by kernel_rfl) ho
  have e35 : a.eval (.tmp 35) = .int .i64 X.C := slotG hF ho h2 (j := 8) (d := 35) (by kernel_rfl) (by kernel_rfl) (by rw [ok.sz]; decide)
  have e37 : a.eval (.tmp 37) = .int .i64 X.y := slotG hF ho h2 (j := 10) (d := 37) (by kernel_rfl) (by kernel_rfl) (by rw [ok.sz]; decide)
  have ef : a.eval (.func 90) = .func (.func 90) #[] #[] := rfl
  refine st_callG hF hC hW ho h2 (by decide) hd hg rfl (f := 90) (args := #[.int .i64 X.C, .int .i64 X.y]) ?_ ?_ ?_
  · generalize a.eval = ρ at e35 e37 ef ⊢
    unfold execOp
    rw [hop]
    simp [e35, e37, ef, go_sem]
  · exact sfm X.C X.y w
  · intro w' hk
    have hz : phase listed SX.acts = 0 := by
      have := phase_leG (acts := SX.acts) (m := 0) (x := 31) hC (unl (hF.lt ho) h1) rfl [30, 15, 12, 11] (by kernel_rfl) (by decide)
      omega
    rw [hz] at hW ⊢
    exact Kp.trans hW hk
theorem SX.s12 (X : SX) (ok : SXOk X) {Q : Exit → Act → World → Prop} : StepG (opsOf 9 Try.f56) SX.acts SX.av X.val0 X.Wd X.a0 Q 12 := by
  intro γ listed a w o hF hC hW h1 ho h2
  obtain ⟨hd, hop, hg⟩ := fields2 (x := some 39) (y := Op.binOp .add 3 (.tmp 33) (.tmp 38) 3) (z := none) (by kernel_rfl) ho
  have e33 : a.eval (.tmp 33) = .int .i64 (fmV X.A X.x) := slotG hF ho h2 (j := 6) (d := 33) (by kernel_rfl) (by kernel_rfl) (by rw [ok.sz]; decide)
  have e38 : a.eval (.tmp 38) = .int .i64 (fmV X.C X.y) := slotG hF ho h2 (j := 11) (d := 38) (by kernel_rfl) (by kernel_rfl) (by rw [ok.sz]; decide)
  refine st_pureG hF hC hW ho h2 (by decide) hd hg rfl ?_
  show _ = Result.ok (Next.value (.int .i64 (fmV X.A X.x + fmV X.C X.y))) w
  generalize a.eval = ρ at e33 e38 ⊢
  unfold execOp
  rw [hop]
  simp [e33, e38, ok.w1, go_sem]
theorem SX.s13 (X : SX) (ok : SXOk X) {Q : Exit → Act → World → Prop} : StepG (opsOf 9 Try.f56) SX.acts SX.av X.val0 X.Wd X.a0 Q 13 := by
  intro γ listed a w o hF hC hW h1 ho h2
  obtain ⟨hd, hop, hg⟩ := fields2 (x := some 40) (y := Op.fieldAddr 31 (.tmp 2) 4) (z := none) (by kernel_rfl) ho
  have e2 : a.eval (.tmp 2) = .pointer (some ⟨X.ba, 0, none⟩) := (hF.eval0 (by kernel_rfl)).trans ok.e2
  refine st_pureG hF hC hW ho h2 (by decide) hd hg rfl ?_
  show _ = Result.ok (Next.value (.pointer (some ⟨X.ba, 4, none⟩))) w
  generalize a.eval = ρ at e2 ⊢
  unfold execOp
  rw [hop]
  simp [e2, go_sem]
theorem SX.s14 (X : SX) (ok : SXOk X) {Q : Exit → Act → World → Prop} : StepG (opsOf 9 Try.f56) SX.acts SX.av X.val0 X.Wd X.a0 Q 14 := by
  intro γ listed a w o hF hC hW h1 ho h2
  obtain ⟨hd, hop, hg⟩ := fields2 (x := some 41) (y := Op.load 3 (.tmp 40)) (z := none) (by kernel_rfl) ho
  have e40 : a.eval (.tmp 40) = .pointer (some ⟨X.ba, 4, none⟩) := slotG hF ho h2 (j := 13) (d := 40) (by kernel_rfl) (by kernel_rfl) (by rw [ok.sz]; decide)
  have hph := phase_leG (acts := SX.acts) (m := 0) (x := 31) hC (unl (hF.lt ho) h1) rfl [30, 15, 14] (by kernel_rfl) (by decide)
  have hWW := hW
  generalize phase listed SX.acts = n at hph hWW
  have hk : Kp X.W w := by
    obtain rfl : n = 0 := by omega
    exact hWW
  have hc := kp_at hk ok.cE
  refine st_pureG hF hC hW ho h2 (by decide) hd hg rfl ?_
  show _ = Result.ok (Next.value (.int .i64 X.E)) w
  generalize a.eval = ρ at e40 ⊢
  unfold execOp
  rw [hop]
  simp [e40, hc, go_sem]
theorem SX.s15 (X : SX) (ok : SXOk X) {Q : Exit → Act → World → Prop} : StepG (opsOf 9 Try.f56) SX.acts SX.av X.val0 X.Wd X.a0 Q 15 := by
  intro γ listed a w o hF hC hW h1 ho h2
  obtain ⟨hd, hop, hg⟩ := fields2 (x := some 42) (y := Op.binOp .add 3 (.tmp 39) (.tmp 41) 3) (z := none) (by kernel_rfl) ho
  have e39 : a.eval (.tmp 39) = .int .i64 (fmV X.A X.x + fmV X.C X.y) := slotG hF ho h2 (j := 12) (d := 39) (by kernel_rfl) (by kernel_rfl) (by rw [ok.sz]; decide)
  have e41 : a.eval (.tmp 41) = .int .i64 X.E := slotG hF ho h2 (j := 14) (d := 41) (by kernel_rfl) (by kernel_rfl) (by rw [ok.sz]; decide)
  refine st_pureG hF hC hW ho h2 (by decide) hd hg rfl ?_
  show _ = Result.ok (Next.value (.int .i64 (fmV X.A X.x + fmV X.C X.y + X.E))) w
  generalize a.eval = ρ at e39 e41 ⊢
  unfold execOp
  rw [hop]
  simp [e39, e41, ok.w2, go_sem]
theorem SX.s16 (X : SX) (ok : SXOk X) {Q : Exit → Act → World → Prop} : StepG (opsOf 9 Try.f56) SX.acts SX.av X.val0 X.Wd X.a0 Q 16 := by
  intro γ listed a w o hF hC hW h1 ho h2
  obtain ⟨hd, hop, hg⟩ := fields2 (x := some 43) (y := Op.fieldAddr 31 (.tmp 2) 1) (z := none) (by kernel_rfl) ho
  have e2 : a.eval (.tmp 2) = .pointer (some ⟨X.ba, 0, none⟩) := (hF.eval0 (by kernel_rfl)).trans ok.e2
  refine st_pureG hF hC hW ho h2 (by decide) hd hg rfl ?_
  show _ = Result.ok (Next.value (.pointer (some ⟨X.ba, 1, none⟩))) w
  generalize a.eval = ρ at e2 ⊢
  unfold execOp
  rw [hop]
  simp [e2, go_sem]
theorem SX.s17 (X : SX) (ok : SXOk X) {Q : Exit → Act → World → Prop} : StepG (opsOf 9 Try.f56) SX.acts SX.av X.val0 X.Wd X.a0 Q 17 := by
  intro γ listed a w o hF hC hW h1 ho h2
  obtain ⟨hd, hop, hg⟩ := fields2 (x := some 44) (y := Op.load 3 (.tmp 43)) (z := none) (by kernel_rfl) ho
  have e43 : a.eval (.tmp 43) = .pointer (some ⟨X.ba, 1, none⟩) := slotG hF ho h2 (j := 16) (d := 43) (by kernel_rfl) (by kernel_rfl) (by rw [ok.sz]; decide)
  have hph := phase_leG (acts := SX.acts) (m := 0) (x := 31) hC (unl (hF.lt ho) h1) rfl [30, 29, 26, 20, 17] (by kernel_rfl) (by decide)
  have hWW := hW
  generalize phase listed SX.acts = n at hph hWW
  have hk : Kp X.W w := by
    obtain rfl : n = 0 := by omega
    exact hWW
  have hc := kp_at hk ok.cB
  refine st_pureG hF hC hW ho h2 (by decide) hd hg rfl ?_
  show _ = Result.ok (Next.value (.int .i64 X.B)) w
  generalize a.eval = ρ at e43 ⊢
  unfold execOp
  rw [hop]
  simp [e43, hc, go_sem]
theorem SX.s18 (X : SX) (ok : SXOk X) {Q : Exit → Act → World → Prop} : StepG (opsOf 9 Try.f56) SX.acts SX.av X.val0 X.Wd X.a0 Q 18 := by
  intro γ listed a w o hF hC hW h1 ho h2
  obtain ⟨hd, hop, hg⟩ := fields2 (x := some 45) (y := Op.fieldAddr 27 (.tmp 10) 0) (z := none) (by kernel_rfl) ho
  have e10 : a.eval (.tmp 10) = .pointer (some ⟨X.bp, 0, none⟩) := (hF.eval0 (by kernel_rfl)).trans ok.e10
  refine st_pureG hF hC hW ho h2 (by decide) hd hg rfl ?_
  show _ = Result.ok (Next.value (.pointer (some ⟨X.bp, 0, none⟩))) w
  generalize a.eval = ρ at e10 ⊢
  unfold execOp
  rw [hop]
  simp [e10, go_sem]
theorem SX.s19 (X : SX) (ok : SXOk X) {Q : Exit → Act → World → Prop} : StepG (opsOf 9 Try.f56) SX.acts SX.av X.val0 X.Wd X.a0 Q 19 := by
  intro γ listed a w o hF hC hW h1 ho h2
  obtain ⟨hd, hop, hg⟩ := fields2 (x := some 46) (y := Op.load 3 (.tmp 45)) (z := none) (by kernel_rfl) ho
  have e45 : a.eval (.tmp 45) = .pointer (some ⟨X.bp, 0, none⟩) := slotG hF ho h2 (j := 18) (d := 45) (by kernel_rfl) (by kernel_rfl) (by rw [ok.sz]; decide)
  have hph := phase_leG (acts := SX.acts) (m := 0) (x := 31) hC (unl (hF.lt ho) h1) rfl [30, 29, 26, 20, 19] (by kernel_rfl) (by decide)
  have hWW := hW
  generalize phase listed SX.acts = n at hph hWW
  have hk : Kp X.W w := by
    obtain rfl : n = 0 := by omega
    exact hWW
  have hc := kp_at hk ok.cx
  refine st_pureG hF hC hW ho h2 (by decide) hd hg rfl ?_
  show _ = Result.ok (Next.value (.int .i64 X.x)) w
  generalize a.eval = ρ at e45 ⊢
  unfold execOp
  rw [hop]
  simp [e45, hc, go_sem]
theorem SX.s20 (X : SX) (ok : SXOk X) {Q : Exit → Act → World → Prop} : StepG (opsOf 9 Try.f56) SX.acts SX.av X.val0 X.Wd X.a0 Q 20 := by
  intro γ listed a w o hF hC hW h1 ho h2
  obtain ⟨hd, hop, hg⟩ := fields2 (x := some 47) (y := Op.call { callee := .value (.func 90), args := #[(.tmp 44), (.tmp 46)], argTypes := #[3, 3] }) (z := none) (by kernel_rfl) ho
  have e44 : a.eval (.tmp 44) = .int .i64 X.B := slotG hF ho h2 (j := 17) (d := 44) (by kernel_rfl) (by kernel_rfl) (by rw [ok.sz]; decide)
  have e46 : a.eval (.tmp 46) = .int .i64 X.x := slotG hF ho h2 (j := 19) (d := 46) (by kernel_rfl) (by kernel_rfl) (by rw [ok.sz]; decide)
  have ef : a.eval (.func 90) = .func (.func 90) #[] #[] := rfl
  refine st_callG hF hC hW ho h2 (by decide) hd hg rfl (f := 90) (args := #[.int .i64 X.B, .int .i64 X.x]) ?_ ?_ ?_
  · generalize a.eval = ρ at e44 e46 ef ⊢
    unfold execOp
    rw [hop]
    simp [e44, e46, ef, go_sem]
  · exact sfm X.B X.x w
  · intro w' hk
    have hz : phase listed SX.acts = 0 := by
      have := phase_leG (acts := SX.acts) (m := 0) (x := 31) hC (unl (hF.lt ho) h1) rfl [30, 29, 26, 20] (by kernel_rfl) (by decide)
      omega
    rw [hz] at hW ⊢
    exact Kp.trans hW hk
theorem SX.s21 (X : SX) (ok : SXOk X) {Q : Exit → Act → World → Prop} : StepG (opsOf 9 Try.f56) SX.acts SX.av X.val0 X.Wd X.a0 Q 21 := by
  intro γ listed a w o hF hC hW h1 ho h2
  obtain ⟨hd, hop, hg⟩ := fields2 (x := some 48) (y := Op.fieldAddr 31 (.tmp 2) 3) (z := none) (by kernel_rfl) ho
  have e2 : a.eval (.tmp 2) = .pointer (some ⟨X.ba, 0, none⟩) := (hF.eval0 (by kernel_rfl)).trans ok.e2
  refine st_pureG hF hC hW ho h2 (by decide) hd hg rfl ?_
  show _ = Result.ok (Next.value (.pointer (some ⟨X.ba, 3, none⟩))) w
  generalize a.eval = ρ at e2 ⊢
  unfold execOp
  rw [hop]
  simp [e2, go_sem]
theorem SX.s22 (X : SX) (ok : SXOk X) {Q : Exit → Act → World → Prop} : StepG (opsOf 9 Try.f56) SX.acts SX.av X.val0 X.Wd X.a0 Q 22 := by
  intro γ listed a w o hF hC hW h1 ho h2
  obtain ⟨hd, hop, hg⟩ := fields2 (x := some 49) (y := Op.load 3 (.tmp 48)) (z := none) (by kernel_rfl) ho
  have e48 : a.eval (.tmp 48) = .pointer (some ⟨X.ba, 3, none⟩) := slotG hF ho h2 (j := 21) (d := 48) (by kernel_rfl) (by kernel_rfl) (by rw [ok.sz]; decide)
  have hph := phase_leG (acts := SX.acts) (m := 0) (x := 31) hC (unl (hF.lt ho) h1) rfl [30, 29, 26, 25, 22] (by kernel_rfl) (by decide)
  have hWW := hW
  generalize phase listed SX.acts = n at hph hWW
  have hk : Kp X.W w := by
    obtain rfl : n = 0 := by omega
    exact hWW
  have hc := kp_at hk ok.cD
  refine st_pureG hF hC hW ho h2 (by decide) hd hg rfl ?_
  show _ = Result.ok (Next.value (.int .i64 X.D)) w
  generalize a.eval = ρ at e48 ⊢
  unfold execOp
  rw [hop]
  simp [e48, hc, go_sem]
theorem SX.s23 (X : SX) (ok : SXOk X) {Q : Exit → Act → World → Prop} : StepG (opsOf 9 Try.f56) SX.acts SX.av X.val0 X.Wd X.a0 Q 23 := by
  intro γ listed a w o hF hC hW h1 ho h2
  obtain ⟨hd, hop, hg⟩ := fields2 (x := some 50) (y := Op.fieldAddr 27 (.tmp 10) 1) (z := none) (by kernel_rfl) ho
  have e10 : a.eval (.tmp 10) = .pointer (some ⟨X.bp, 0, none⟩) := (hF.eval0 (by kernel_rfl)).trans ok.e10
  refine st_pureG hF hC hW ho h2 (by decide) hd hg rfl ?_
  show _ = Result.ok (Next.value (.pointer (some ⟨X.bp, 1, none⟩))) w
  generalize a.eval = ρ at e10 ⊢
  unfold execOp
  rw [hop]
  simp [e10, go_sem]
theorem SX.s24 (X : SX) (ok : SXOk X) {Q : Exit → Act → World → Prop} : StepG (opsOf 9 Try.f56) SX.acts SX.av X.val0 X.Wd X.a0 Q 24 := by
  intro γ listed a w o hF hC hW h1 ho h2
  obtain ⟨hd, hop, hg⟩ := fields2 (x := some 51) (y := Op.load 3 (.tmp 50)) (z := none) (by kernel_rfl) ho
  have e50 : a.eval (.tmp 50) = .pointer (some ⟨X.bp, 1, none⟩) := slotG hF ho h2 (j := 23) (d := 50) (by kernel_rfl) (by kernel_rfl) (by rw [ok.sz]; decide)
  have hph := phase_leG (acts := SX.acts) (m := 0) (x := 31) hC (unl (hF.lt ho) h1) rfl [30, 29, 26, 25, 24] (by kernel_rfl) (by decide)
  have hWW := hW
  generalize phase listed SX.acts = n at hph hWW
  have hk : Kp X.W w := by
    obtain rfl : n = 0 := by omega
    exact hWW
  have hc := kp_at hk ok.cy
  refine st_pureG hF hC hW ho h2 (by decide) hd hg rfl ?_
  show _ = Result.ok (Next.value (.int .i64 X.y)) w
  generalize a.eval = ρ at e50 ⊢
  unfold execOp
  rw [hop]
  simp [e50, hc, go_sem]
theorem SX.s25 (X : SX) (ok : SXOk X) {Q : Exit → Act → World → Prop} : StepG (opsOf 9 Try.f56) SX.acts SX.av X.val0 X.Wd X.a0 Q 25 := by
  intro γ listed a w o hF hC hW h1 ho h2
  obtain ⟨hd, hop, hg⟩ := fields2 (x := some 52) (y := Op.call { callee := .value (.func 90), args := #[(.tmp 49), (.tmp 51)], argTypes := #[3, 3] }) (z := none) (by kernel_rfl) ho
  have e49 : a.eval (.tmp 49) = .int .i64 X.D := slotG hF ho h2 (j := 22) (d := 49) (by kernel_rfl) (by kernel_rfl) (by rw [ok.sz]; decide)
  have e51 : a.eval (.tmp 51) = .int .i64 X.y := slotG hF ho h2 (j := 24) (d := 51) (by kernel_rfl) (by kernel_rfl) (by rw [ok.sz]; decide)
  have ef : a.eval (.func 90) = .func (.func 90) #[] #[] := rfl
  refine st_callG hF hC hW ho h2 (by decide) hd hg rfl (f := 90) (args := #[.int .i64 X.D, .int .i64 X.y]) ?_ ?_ ?_
  · generalize a.eval = ρ at e49 e51 ef ⊢
    unfold execOp
    rw [hop]
    simp [e49, e51, ef, go_sem]
  · exact sfm X.D X.y w
  · intro w' hk
    have hz : phase listed SX.acts = 0 := by
      have := phase_leG (acts := SX.acts) (m := 0) (x := 31) hC (unl (hF.lt ho) h1) rfl [30, 29, 26, 25] (by kernel_rfl) (by decide)
      omega
    rw [hz] at hW ⊢
    exact Kp.trans hW hk
theorem SX.s26 (X : SX) (ok : SXOk X) {Q : Exit → Act → World → Prop} : StepG (opsOf 9 Try.f56) SX.acts SX.av X.val0 X.Wd X.a0 Q 26 := by
  intro γ listed a w o hF hC hW h1 ho h2
  obtain ⟨hd, hop, hg⟩ := fields2 (x := some 53) (y := Op.binOp .add 3 (.tmp 47) (.tmp 52) 3) (z := none) (by kernel_rfl) ho
  have e47 : a.eval (.tmp 47) = .int .i64 (fmV X.B X.x) := slotG hF ho h2 (j := 20) (d := 47) (by kernel_rfl) (by kernel_rfl) (by rw [ok.sz]; decide)
  have e52 : a.eval (.tmp 52) = .int .i64 (fmV X.D X.y) := slotG hF ho h2 (j := 25) (d := 52) (by kernel_rfl) (by kernel_rfl) (by rw [ok.sz]; decide)
  refine st_pureG hF hC hW ho h2 (by decide) hd hg rfl ?_
  show _ = Result.ok (Next.value (.int .i64 (fmV X.B X.x + fmV X.D X.y))) w
  generalize a.eval = ρ at e47 e52 ⊢
  unfold execOp
  rw [hop]
  simp [e47, e52, ok.w3, go_sem]
theorem SX.s27 (X : SX) (ok : SXOk X) {Q : Exit → Act → World → Prop} : StepG (opsOf 9 Try.f56) SX.acts SX.av X.val0 X.Wd X.a0 Q 27 := by
  intro γ listed a w o hF hC hW h1 ho h2
  obtain ⟨hd, hop, hg⟩ := fields2 (x := some 54) (y := Op.fieldAddr 31 (.tmp 2) 5) (z := none) (by kernel_rfl) ho
  have e2 : a.eval (.tmp 2) = .pointer (some ⟨X.ba, 0, none⟩) := (hF.eval0 (by kernel_rfl)).trans ok.e2
  refine st_pureG hF hC hW ho h2 (by decide) hd hg rfl ?_
  show _ = Result.ok (Next.value (.pointer (some ⟨X.ba, 5, none⟩))) w
  generalize a.eval = ρ at e2 ⊢
  unfold execOp
  rw [hop]
  simp [e2, go_sem]
theorem SX.s28 (X : SX) (ok : SXOk X) {Q : Exit → Act → World → Prop} : StepG (opsOf 9 Try.f56) SX.acts SX.av X.val0 X.Wd X.a0 Q 28 := by
  intro γ listed a w o hF hC hW h1 ho h2
  obtain ⟨hd, hop, hg⟩ := fields2 (x := some 55) (y := Op.load 3 (.tmp 54)) (z := none) (by kernel_rfl) ho
  have e54 : a.eval (.tmp 54) = .pointer (some ⟨X.ba, 5, none⟩) := slotG hF ho h2 (j := 27) (d := 54) (by kernel_rfl) (by kernel_rfl) (by rw [ok.sz]; decide)
  have hph := phase_leG (acts := SX.acts) (m := 0) (x := 31) hC (unl (hF.lt ho) h1) rfl [30, 29, 28] (by kernel_rfl) (by decide)
  have hWW := hW
  generalize phase listed SX.acts = n at hph hWW
  have hk : Kp X.W w := by
    obtain rfl : n = 0 := by omega
    exact hWW
  have hc := kp_at hk ok.cF
  refine st_pureG hF hC hW ho h2 (by decide) hd hg rfl ?_
  show _ = Result.ok (Next.value (.int .i64 X.F)) w
  generalize a.eval = ρ at e54 ⊢
  unfold execOp
  rw [hop]
  simp [e54, hc, go_sem]
theorem SX.s29 (X : SX) (ok : SXOk X) {Q : Exit → Act → World → Prop} : StepG (opsOf 9 Try.f56) SX.acts SX.av X.val0 X.Wd X.a0 Q 29 := by
  intro γ listed a w o hF hC hW h1 ho h2
  obtain ⟨hd, hop, hg⟩ := fields2 (x := some 56) (y := Op.binOp .add 3 (.tmp 53) (.tmp 55) 3) (z := none) (by kernel_rfl) ho
  have e53 : a.eval (.tmp 53) = .int .i64 (fmV X.B X.x + fmV X.D X.y) := slotG hF ho h2 (j := 26) (d := 53) (by kernel_rfl) (by kernel_rfl) (by rw [ok.sz]; decide)
  have e55 : a.eval (.tmp 55) = .int .i64 X.F := slotG hF ho h2 (j := 28) (d := 55) (by kernel_rfl) (by kernel_rfl) (by rw [ok.sz]; decide)
  refine st_pureG hF hC hW ho h2 (by decide) hd hg rfl ?_
  show _ = Result.ok (Next.value (.int .i64 (fmV X.B X.x + fmV X.D X.y + X.F))) w
  generalize a.eval = ρ at e53 e55 ⊢
  unfold execOp
  rw [hop]
  simp [e53, e55, ok.w4, go_sem]
theorem SX.s30 (X : SX) (ok : SXOk X) {Q : Exit → Act → World → Prop} : StepG (opsOf 9 Try.f56) SX.acts SX.av X.val0 X.Wd X.a0 Q 30 := by
  intro γ listed a w o hF hC hW h1 ho h2
  obtain ⟨hd, hop, hg⟩ := fields2 (x := some 57) (y := Op.build 27 #[(0, (.tmp 42)), (1, (.tmp 56))]) (z := none) (by kernel_rfl) ho
  have e42 : a.eval (.tmp 42) = .int .i64 (fmV X.A X.x + fmV X.C X.y + X.E) := slotG hF ho h2 (j := 15) (d := 42) (by kernel_rfl) (by kernel_rfl) (by rw [ok.sz]; decide)
  have e56 : a.eval (.tmp 56) = .int .i64 (fmV X.B X.x + fmV X.D X.y + X.F) := slotG hF ho h2 (j := 29) (d := 56) (by kernel_rfl) (by kernel_rfl) (by rw [ok.sz]; decide)
  refine st_pureG hF hC hW ho h2 (by decide) hd hg rfl ?_
  show _ = Result.ok (Next.value (.agg #[.int .i64 (fmV X.A X.x + fmV X.C X.y + X.E), .int .i64 (fmV X.B X.x + fmV X.D X.y + X.F)])) w
  generalize a.eval = ρ at e42 e56 ⊢
  unfold execOp
  rw [hop]
  simp [e42, e56, go_sem]
theorem SX.s31 (X : SX) (ok : SXOk X) {Q : Exit → Act → World → Prop} : StepG (opsOf 9 Try.f56) SX.acts SX.av X.val0 X.Wd X.a0 Q 31 := by
  intro γ listed a w o hF hC hW h1 ho h2
  obtain ⟨hd, hop, hg⟩ := fields2 (x := some 58) (y := Op.buildSlice 23 1 #[(0, (.tmp 57))]) (z := none) (by kernel_rfl) ho
  have e57 : a.eval (.tmp 57) = .agg #[.int .i64 (fmV X.A X.x + fmV X.C X.y + X.E), .int .i64 (fmV X.B X.x + fmV X.D X.y + X.F)] := slotG hF ho h2 (j := 30) (d := 57) (by kernel_rfl) (by kernel_rfl) (by rw [ok.sz]; decide)
  have hu := unl (hF.lt ho) h1
  refine st_actG (k := 0) SX.chain SX.nodup rfl hF hC hW h1 ho h2 (Or.inr ⟨58, hd, rfl⟩) (SX.inj (by kernel_rfl) hu) hg ?_
  intro hW0 K hK
  have hr : (execOp a.eval o).run Try.prog w = .ok (.value (.slice (some ⟨w.heap.size, 0, none⟩) 1 1)) (w.alloc (.cells #[.int .i64 (fmV X.A X.x + fmV X.C X.y + X.E), .int .i64 (fmV X.B X.x + fmV X.D X.y + X.F)] 27)) := by
    generalize a.eval = ρ at e57 ⊢
    unfold execOp
    rw [hop]
    simp [e57, go_sem]
  unfold Oper.wp
  rw [hr]
  exact hK _ _ ⟨w, hW0, rfl, rfl⟩
theorem SX.s32 (X : SX) (ok : SXOk X) {Q : Exit → Act → World → Prop} : StepG (opsOf 9 Try.f56) SX.acts SX.av X.val0 X.Wd X.a0 Q 32 := by
  intro γ listed a w o hF hC hW h1 ho h2
  obtain ⟨hd, hop, hg⟩ := fields2 (x := some 59) (y := Op.call { callee := .builtin .append, args := #[(.tmp 28), (.tmp 58)], argTypes := #[23, 23] }) (z := none) (by kernel_rfl) ho
  have e28 : a.eval (.tmp 28) = .slice X.va X.vn X.vc := slotG hF ho h2 (j := 1) (d := 28) (by kernel_rfl) (by kernel_rfl) (by rw [ok.sz]; decide)
  have e58 : a.eval (.tmp 58) = γ 0 := slotG hF ho h2 (j := 31) (d := 58) (by kernel_rfl) (by kernel_rfl) (by rw [ok.sz]; decide)
  have hu := unl (hF.lt ho) h1
  refine st_actG (k := 1) SX.chain SX.nodup rfl hF hC hW h1 ho h2 (Or.inr ⟨59, hd, rfl⟩) (SX.inj (by kernel_rfl) hu) hg ?_
  intro hW0 K hK
  obtain ⟨w1, k1, g0, rfl⟩ := hW0
  rw [g0] at e58
  have lb := ok.lb.nw k1.nw
  have n1 : Nw w1 (w1.alloc (.cells #[.int .i64 (fmV X.A X.x + fmV X.C X.y + X.E), .int .i64 (fmV X.B X.x + fmV X.D X.y + X.F)] 27)) := (Below.refl _ _).alloc (Nat.le_refl _) _
  refine wp_q 27 23 23 (.int .i64 0) (.int .i64 0) 16 under_pts under_pts Try.info27 (by decide) rfl _ (.tmp 28) (.tmp 58) hop (X.bx + 1) (.slice X.va X.vn X.vc) (vP X.l) (vP [(fmV X.A X.x + fmV X.C X.y + X.E, fmV X.B X.x + fmV X.D X.y + X.F)]) e28 (lb.own.nw n1) w1.heap.size 0 1 1 rfl e58 (liep_one w1 (fmV X.A X.x + fmV X.C X.y + X.E) (fmV X.B X.x + fmV X.D X.y + X.F) _).vv (vP_one _) (by simp [vP]) (by rw [vP_len]; have := ok.len; simp [vP]; omega) (by have := lb.lt; simp; omega) ?_
  intro g' c' w' h3 h4
  rw [vP_len] at h3 h4 ⊢
  rw [← vP_append] at h3
  exact hK _ _ ⟨w1, g', c', k1, rfl, h3, n1.ext h4⟩
theorem SX.s33 (X : SX) (ok : SXOk X) {Q : Exit → Act → World → Prop} : StepG (opsOf 9 Try.f56) SX.acts SX.av X.val0 X.Wd X.a0 Q 33 := by
  intro γ listed a w o hF hC hW h1 ho h2
  obtain ⟨hd, hop, hg⟩ := fields2 (x := some 60) (y := Op.fieldAddr 55 (.tmp 8) 0) (z := none) (by kernel_rfl) ho
  have e8 : a.eval (.tmp 8) = .pointer (some ⟨X.bx, 0, none⟩) := (hF.eval0 (by kernel_rfl)).trans ok.e8
  refine st_pureG hF hC hW ho h2 (by decide) hd hg rfl ?_
  show _ = Result.ok (Next.value (.pointer (some ⟨X.bx, 0, none⟩))) w
  generalize a.eval = ρ at e8 ⊢
  unfold execOp
  rw [hop]
  simp [e8, go_sem]
theorem SX.s34 (X : SX) (ok : SXOk X) {Q : Exit → Act → World → Prop} : StepG (opsOf 9 Try.f56) SX.acts SX.av X.val0 X.Wd X.a0 Q 34 := by
  intro γ listed a w o hF hC hW h1 ho h2
  obtain ⟨hd, hop, hg⟩ := fields2 (x := none) (y := Op.store 23 (.tmp 60) (.tmp 59)) (z := none) (by kernel_rfl) ho
  have e60 : a.eval (.tmp 60) = .pointer (some ⟨X.bx, 0, none⟩) := slotG hF ho h2 (j := 33) (d := 60) (by kernel_rfl) (by kernel_rfl) (by rw [ok.sz]; decide)
  have e59 : a.eval (.tmp 59) = γ 1 := slotG hF ho h2 (j := 32) (d := 59) (by kernel_rfl) (by kernel_rfl) (by rw [ok.sz]; decide)
  have hu := unl (hF.lt ho) h1
  refine st_actG (k := 2) SX.chain SX.nodup rfl hF hC hW h1 ho h2 (Or.inl hd) (SX.inj (by kernel_rfl) hu) hg ?_
  intro hW0 K hK
  obtain ⟨w1, g, cc, k1, g1, o1, x1⟩ := hW0
  obtain ⟨t0, tf⟩ := (ok.lb.nw k1.nw).there x1
  have hr : (execOp a.eval o).run Try.prog w = .ok .skip (w.setCell ⟨X.bx, 0, none⟩ (γ 1)) := by
    rw [g1] at e59 ⊢
    generalize a.eval = ρ at e59 e60 ⊢
    unfold execOp
    rw [hop]
    simp [e59, e60, t0, tf, go_sem]
  unfold Oper.wp
  rw [hr]
  exact hK _ _ ⟨w1, w, g, cc, k1, g1, o1, x1, rfl⟩
theorem SX.size : (opsOf 9 Try.f56).size = 35 := by kernel_rfl
theorem SX.steps (X : SX) (ok : SXOk X) {Q : Exit → Act → World → Prop} (i : Nat) (hi : i < (opsOf 9 Try.f56).size) : StepG (opsOf 9 Try.f56) SX.acts SX.av X.val0 X.Wd X.a0 Q i := by
  rw [SX.size] at hi
  have hc : i = 0 ∨ i = 1 ∨ i = 2 ∨ i = 3 ∨ i = 4 ∨ i = 5 ∨ i = 6 ∨ i = 7 ∨ i = 8 ∨ i = 9 ∨ i = 10 ∨ i = 11 ∨ i = 12 ∨ i = 13 ∨ i = 14 ∨ i = 15 ∨ i = 16 ∨ i = 17 ∨ i = 18 ∨ i = 19 ∨ i = 20 ∨ i = 21 ∨ i = 22 ∨ i = 23 ∨ i = 24 ∨ i = 25 ∨ i = 26 ∨ i = 27 ∨ i = 28 ∨ i = 29 ∨ i = 30 ∨ i = 31 ∨ i = 32 ∨ i = 33 ∨ i = 34 := by omega
  rcases hc with rfl | rfl | rfl | rfl | rfl | rfl | rfl | rfl | rfl | rfl | rfl | rfl | rfl | rfl | rfl | rfl | rfl | rfl | rfl | rfl | rfl | rfl | rfl | rfl | rfl | rfl | rfl | rfl | rfl | rfl | rfl | rfl | rfl | rfl | rfl
  · exact SX.s0 X ok
  · exact SX.s1 X ok
  · exact SX.s2 X ok
  · exact SX.s3 X ok
  · exact SX.s4 X ok
  · exact SX.s5 X ok
  · exact SX.s6 X ok
  · exact SX.s7 X ok
  · exact SX.s8 X ok
  · exact SX.s9 X ok
  · exact SX.s10 X ok
  · exact SX.s11 X ok
  · exact SX.s12 X ok
  · exact SX.s13 X ok
  · exact SX.s14 X ok
  · exact SX.s15 X ok
  · exact SX.s16 X ok
  · exact SX.s17 X ok
  · exact SX.s18 X ok
  · exact SX.s19 X ok
  · exact SX.s20 X ok
  · exact SX.s21 X ok
  · exact SX.s22 X ok
  · exact SX.s23 X ok
  · exact SX.s24 X ok
  · exact SX.s25 X ok
  · exact SX.s26 X ok
  · exact SX.s27 X ok
  · exact SX.s28 X ok
  · exact SX.s29 X ok
  · exact SX.s30 X ok
  · exact SX.s31 X ok
  · exact SX.s32 X ok
  · exact SX.s33 X ok
  · exact SX.s34 X ok
theorem SX.puts (X : SX) (γ : Nat → Value) (a0 : Act) : putsL (valG SX.av X.val0 γ) (opsOf 9 Try.f56).toList a0 = ((((((((((((((((((((((((((((((((((a0.put (some 27) (.pointer (some ⟨X.bx, 0, none⟩))).put (some 28) (.slice X.va X.vn X.vc)).put (some 29) (.pointer (some ⟨X.ba, 0, none⟩))).put (some 30) (.int .i64 X.A)).put (some 31) (.pointer (some ⟨X.bp, 0, none⟩))).put (some 32) (.int .i64 X.x)).put (some 33) (.int .i64 (fmV X.A X.x))).put (some 34) (.pointer (some ⟨X.ba, 2, none⟩))).put (some 35) (.int .i64 X.C)).put (some 36) (.pointer (some ⟨X.bp, 1, none⟩))).put (some 37) (.int .i64 X.y)).put (some 38) (.int .i64 (fmV X.C X.y))).put (some 39) (.int .i64 (fmV X.A X.x + fmV X.C X.y))).put (some 40) (.pointer (some ⟨X.ba, 4, none⟩))).put (some 41) (.int .i64 X.E)).put (some 42) (.int .i64 (fmV X.A X.x + fmV X.C X.y + X.E))).put (some 43) (.pointer (some ⟨X.ba, 1, none⟩))).put (some 44) (.int .i64 X.B)).put (some 45) (.pointer (some ⟨X.bp, 0, none⟩))).put (some 46) (.int .i64 X.x)).put (some 47) (.int .i64 (fmV X.B X.x))).put (some 48) (.pointer (some ⟨X.ba, 3, none⟩))).put (some 49) (.int .i64 X.D)).put (some 50) (.pointer (some ⟨X.bp, 1, none⟩))).put (some 51) (.int .i64 X.y)).put (some 52) (.int .i64 (fmV X.D X.y))).put (some 53) (.int .i64 (fmV X.B X.x + fmV X.D X.y))).put (some 54) (.pointer (some ⟨X.ba, 5, none⟩))).put (some 55) (.int .i64 X.F)).put (some 56) (.int .i64 (fmV X.B X.x + fmV X.D X.y + X.F))).put (some 57) (.agg #[.int .i64 (fmV X.A X.x + fmV X.C X.y + X.E), .int .i64 (fmV X.B X.x + fmV X.D X.y + X.F)])).put (some 58) (γ 0)).put (some 59) (γ 1)).put (some 60) (.pointer (some ⟨X.bx, 0, none⟩))) := by kernel_rfl
/-- The region, whatever order comes up. -/
theorem SX.run (X : SX) (ok : SXOk X) {Q : Exit → Act → World → Prop} (w : World) (h0 : X.Wd 0 (fun _ => undef) w.drew) (hend : ∀ (γ : Nat → Value) w', X.Wd 3 γ w' → Q .normal ((((((((((((((((((((((((((((((((((X.a0.put (some 27) (.pointer (some ⟨X.bx, 0, none⟩))).put (some 28) (.slice X.va X.vn X.vc)).put (some 29) (.pointer (some ⟨X.ba, 0, none⟩))).put (some 30) (.int .i64 X.A)).put (some 31) (.pointer (some ⟨X.bp, 0, none⟩))).put (some 32) (.int .i64 X.x)).put (some 33) (.int .i64 (fmV X.A X.x))).put (some 34) (.pointer (some ⟨X.ba, 2, none⟩))).put (some 35) (.int .i64 X.C)).put (some 36) (.pointer (some ⟨X.bp, 1, none⟩))).put (some 37) (.int .i64 X.y)).put (some 38) (.int .i64 (fmV X.C X.y))).put (some 39) (.int .i64 (fmV X.A X.x + fmV X.C X.y))).put (some 40) (.pointer (some ⟨X.ba, 4, none⟩))).put (some 41) (.int .i64 X.E)).put (some 42) (.int .i64 (fmV X.A X.x + fmV X.C X.y + X.E))).put (some 43) (.pointer (some ⟨X.ba, 1, none⟩))).put (some 44) (.int .i64 X.B)).put (some 45) (.pointer (some ⟨X.bp, 0, none⟩))).put (some 46) (.int .i64 X.x)).put (some 47) (.int .i64 (fmV X.B X.x))).put (some 48) (.pointer (some ⟨X.ba, 3, none⟩))).put (some 49) (.int .i64 X.D)).put (some 50) (.pointer (some ⟨X.bp, 1, none⟩))).put (some 51) (.int .i64 X.y)).put (some 52) (.int .i64 (fmV X.D X.y))).put (some 53) (.int .i64 (fmV X.B X.x + fmV X.D X.y))).put (some 54) (.pointer (some ⟨X.ba, 5, none⟩))).put (some 55) (.int .i64 X.F)).put (some 56) (.int .i64 (fmV X.B X.x + fmV X.D X.y + X.F))).put (some 57) (.agg #[.int .i64 (fmV X.A X.x + fmV X.C X.y + X.E), .int .i64 (fmV X.B X.x + fmV X.D X.y + X.F)])).put (some 58) (γ 0)).put (some 59) (γ 1)).put (some 60) (.pointer (some ⟨X.bx, 0, none⟩))) w') : (Code.region 9 (opsOf 9 Try.f56) true).wp Try.prog Q X.a0 w := by
  refine reg_act (acts := SX.acts) (av := SX.av) (val0 := X.val0) (Wd := X.Wd) (by kernel_rfl) (by kernel_rfl) (by rw [SX.size]; decide) (fun i hi => SX.steps X ok i hi) _ h0 ?_
  intro γ w' h
  rw [SX.puts]
  exact hend γ w' h
end Go.Proofs.Ytmojppchpeecmaa

/-
  The statements of each and with that call a function for each of the four numbers, whatever order their operations come up in; each theorem names its conditions.
-/
import Derived.Test.YthlohbiocfeapaaTnP
import Derived.Test.YthlohbiocfeapaaRq
namespace Go.Proofs.Ythlohbiocfeapaa
open Go.ChangeShapes Go.WideShapes Go.ChangeAt Go.RowKit
set_option linter.unusedVariables false

structure EaR where
  x0 : Int
  x1 : Int
  x2 : Int
  x3 : Int
  y0 : Int
  y1 : Int
  y2 : Int
  y3 : Int
  fn : FuncId
  cap : Array Value
  b0 : Nat
  br : Nat
  W : World
  a0 : Act
structure EaROk (X : EaR) : Prop where
  c0 : X.W.cell? ⟨X.b0, 0, none⟩ = some (.int .i64 X.x0)
  c1 : X.W.cell? ⟨X.b0, 1, none⟩ = some (.int .i64 X.x1)
  c2 : X.W.cell? ⟨X.b0, 2, none⟩ = some (.int .i64 X.x2)
  c3 : X.W.cell? ⟨X.b0, 3, none⟩ = some (.int .i64 X.x3)
  fx : ∀ args w, Sem.run Try.prog (callFunc X.fn args) w = Result.ok (Next.enter X.fn args) w
  f0 : ∀ w, Kp X.W w → Calls Try.prog X.fn (#[.int .i64 X.x0] ++ X.cap) w fun e w' => e = .returned (.int .i64 X.y0) ∧ Kp w w'
  f1 : ∀ w, Kp X.W w → Calls Try.prog X.fn (#[.int .i64 X.x1] ++ X.cap) w fun e w' => e = .returned (.int .i64 X.y1) ∧ Kp w w'
  f2 : ∀ w, Kp X.W w → Calls Try.prog X.fn (#[.int .i64 X.x2] ++ X.cap) w fun e w' => e = .returned (.int .i64 X.y2) ∧ Kp w w'
  f3 : ∀ w, Kp X.W w → Calls Try.prog X.fn (#[.int .i64 X.x3] ++ X.cap) w fun e w' => e = .returned (.int .i64 X.y3) ∧ Kp w w'
  z0 : ∃ u, X.W.cell? ⟨X.br, 0, none⟩ = some u
  z1 : ∃ u, X.W.cell? ⟨X.br, 1, none⟩ = some u
  z2 : ∃ u, X.W.cell? ⟨X.br, 2, none⟩ = some u
  z3 : ∃ u, X.W.cell? ⟨X.br, 3, none⟩ = some u
  zf : ∀ o, X.W.frozen? ⟨X.br, o, none⟩ = false
  e1 : X.a0.eval (.tmp 1) = .func (.func X.fn) #[] X.cap
  e2 : X.a0.eval (.tmp 2) = .pointer (some ⟨X.b0, 0, none⟩)
  e4 : X.a0.eval (.tmp 4) = .pointer (some ⟨X.br, 0, none⟩)
  sz : X.a0.tmps.size = 22
def EaR.val0 (X : EaR) : Nat → Value
  | 5 => .func (.func X.fn) #[] X.cap
  | 6 => .pointer (some ⟨X.b0, 0, none⟩)
  | 7 => .int .i64 X.x0
  | 8 => .int .i64 X.y0
  | 9 => .func (.func X.fn) #[] X.cap
  | 10 => .pointer (some ⟨X.b0, 1, none⟩)
  | 11 => .int .i64 X.x1
  | 12 => .int .i64 X.y1
  | 13 => .func (.func X.fn) #[] X.cap
  | 14 => .pointer (some ⟨X.b0, 2, none⟩)
  | 15 => .int .i64 X.x2
  | 16 => .int .i64 X.y2
  | 17 => .func (.func X.fn) #[] X.cap
  | 18 => .pointer (some ⟨X.b0, 3, none⟩)
  | 19 => .int .i64 X.x3
  | 20 => .int .i64 X.y3
  | 21 => .agg #[.int .i64 X.y0, .int .i64 X.y1, .int .i64 X.y2, .int .i64 X.y3]
  | _ => undef
def EaR.av : Nat → Option Nat
  | _ => none
def EaR.acts : List Nat := [17]
/-- The world, by how many of the acting ones have come up. -/
def EaR.Wd (X : EaR) : Nat → (Nat → Value) → World → Prop
  | 0, _, w => Kp X.W w
  | _, _, w => ∃ w1, Kp X.W w1 ∧ w = ((((w1.setCell ⟨X.br, 0, none⟩ (.int .i64 X.y0)).setCell ⟨X.br, 1, none⟩ (.int .i64 X.y1)).setCell ⟨X.br, 2, none⟩ (.int .i64 X.y2)).setCell ⟨X.br, 3, none⟩ (.int .i64 X.y3))
theorem EaR.chain : chainG (opsOf 1 Try.f76) EaR.acts = true := by kernel_rfl
theorem EaR.nodup : EaR.acts.Nodup := by decide
theorem EaR.inj {listed : Array Bool} {i k : Nat} (h : (List.range (opsOf 1 Try.f76).size).all (fun j => decide (j = i) || !(match dstOf (opsOf 1 Try.f76) j with | some d => decide (EaR.av d = some k) | none => false)) = true) (hu : listed.getD i false = false) : ∀ d, got (opsOf 1 Try.f76) listed d → EaR.av d ≠ some k := by
  rintro d ⟨j, h1, h2⟩ h3
  have hlt : j < (opsOf 1 Try.f76).size := by
    rcases Nat.lt_or_ge j (opsOf 1 Try.f76).size with h4 | h4
    · exact h4
    · unfold dstOf at h2; rw [Array.getElem?_eq_none h4] at h2; cases h2
  have h5 := List.all_eq_true.1 h j (List.mem_range.2 hlt)
  rw [h2] at h5
  simp only [h3, decide_true, Bool.not_true, Bool.or_false, decide_eq_true_eq] at h5
  subst h5
  rw [hu] at h1
  cases h1
theorem EaR.s0 (X : EaR) (ok : EaROk X) {Q : Exit → Act → World → Prop} : StepG (opsOf 1 Try.f76) EaR.acts EaR.av X.val0 X.Wd X.a0 Q 0 := by
  intro γ listed a w o hF hC hW h1 ho h2
  obtain ⟨hd, hop, hg⟩ := fields2 (x := some 5) (y := Op.move (.tmp 1)) (z := none) (by kernel_rfl) ho
  have e1 : a.eval (.tmp 1) = .func (.func X.fn) #[] X.cap := (hF.eval0 (by kernel_rfl)).trans ok.e1
  refine st_pureG hF hC hW ho h2 (by decide) hd hg rfl ?_
  show _ = Result.ok (Next.value (.func (.func X.fn) #[] X.cap)) w
  generalize a.eval = ρ at e1 ⊢
  unfold execOp
  rw [hop]
  simp [e1, go_sem]
theorem EaR.s1 (X : EaR) (ok : EaROk X) {Q : Exit → Act → World → Prop} : StepG (opsOf 1 Try.f76) EaR.acts EaR.av X.val0 X.Wd X.a0 Q 1 := by
  intro γ listed a w o hF hC hW h1 ho h2
  obtain ⟨hd, hop, hg⟩ := fields2 (x := some 6) (y := Op.fieldAddr 24 (.tmp 2) 0) (z := none) (by kernel_rfl) ho
  have e2 : a.eval (.tmp 2) = .pointer (some ⟨X.b0, 0, none⟩) := (hF.eval0 (by kernel_rfl)).trans ok.e2
  refine st_pureG hF hC hW ho h2 (by decide) hd hg rfl ?_
  show _ = Result.ok (Next.value (.pointer (some ⟨X.b0, 0, none⟩))) w
  generalize a.eval = ρ at e2 ⊢
  unfold execOp
  rw [hop]
  simp [e2, go_sem]
theorem EaR.s2 (X : EaR) (ok : EaROk X) {Q : Exit → Act → World → Prop} : StepG (opsOf 1 Try.f76) EaR.acts EaR.av X.val0 X.Wd X.a0 Q 2 := by
  intro γ listed a w o hF hC hW h1 ho h2
  obtain ⟨hd, hop, hg⟩ := fields2 (x := some 7) (y := Op.load 3 (.tmp 6)) (z := none) (by kernel_rfl) ho
  have e6 : a.eval (.tmp 6) = .pointer (some ⟨X.b0, 0, none⟩) := slotG hF ho h2 (j := 1) (d := 6) (by kernel_rfl) (by kernel_rfl) (by rw [ok.sz]; decide)
  have hph := phase_leG (acts := EaR.acts) (m := 0) (x := 17) hC (unl (hF.lt ho) h1) rfl [16, 3, 2] (by kernel_rfl) (by decide)
  have hWW := hW
  generalize phase listed EaR.acts = n at hph hWW
  have hk : Kp X.W w := by
    obtain rfl : n = 0 := by omega
    exact hWW
  have hc0 := rq_at hk ok.c0
  refine st_pureG hF hC hW ho h2 (by decide) hd hg rfl ?_
  show _ = Result.ok (Next.value (.int .i64 X.x0)) w
  generalize a.eval = ρ at e6 ⊢
  unfold execOp
  rw [hop]
  simp [e6, hc0, go_sem]
theorem EaR.s3 (X : EaR) (ok : EaROk X) {Q : Exit → Act → World → Prop} : StepG (opsOf 1 Try.f76) EaR.acts EaR.av X.val0 X.Wd X.a0 Q 3 := by
  intro γ listed a w o hF hC hW h1 ho h2
  obtain ⟨hd, hop, hg⟩ := fields2 (x := some 8) (y := Op.call { callee := .value (.tmp 5), args := #[(.tmp 7)], argTypes := #[3] }) (z := none) (by kernel_rfl) ho
  have e5 : a.eval (.tmp 5) = .func (.func X.fn) #[] X.cap := slotG hF ho h2 (j := 0) (d := 5) (by kernel_rfl) (by kernel_rfl) (by rw [ok.sz]; decide)
  have e7 : a.eval (.tmp 7) = .int .i64 X.x0 := slotG hF ho h2 (j := 2) (d := 7) (by kernel_rfl) (by kernel_rfl) (by rw [ok.sz]; decide)
  have hph := phase_leG (acts := EaR.acts) (m := 0) (x := 17) hC (unl (hF.lt ho) h1) rfl [16, 3] (by kernel_rfl) (by decide)
  have hWW := hW
  generalize phase listed EaR.acts = n at hph hWW
  refine st_callG hF hC hW ho h2 (by decide) hd hg rfl (f := X.fn) (args := (#[.int .i64 X.x0] ++ X.cap)) ?_ ?_ ?_
  · generalize a.eval = ρ at e5 e7 ⊢
    unfold execOp
    rw [hop]
    simp [e5, e7, ok.fx, go_sem]
  · exact ok.f0 w (by
      have hph := phase_leG (acts := EaR.acts) (m := 0) (x := 17) hC (unl (hF.lt ho) h1) rfl [16, 3] (by kernel_rfl) (by decide)
      have hz : phase listed EaR.acts = 0 := by omega
      rw [hz] at hW
      exact hW)
  · intro w' hk
    have hz : phase listed EaR.acts = 0 := by
      have := phase_leG (acts := EaR.acts) (m := 0) (x := 17) hC (unl (hF.lt ho) h1) rfl [16, 3] (by kernel_rfl) (by decide)
      omega
    rw [hz] at hW ⊢
    exact Kp.trans hW hk
theorem EaR.s4 (X : EaR) (ok : EaROk X) {Q : Exit → Act → World → Prop} : StepG (opsOf 1 Try.f76) EaR.acts EaR.av X.val0 X.Wd X.a0 Q 4 := by
  intro γ listed a w o hF hC hW h1 ho h2
  obtain ⟨hd, hop, hg⟩ := fields2 (x := some 9) (y := Op.move (.tmp 1)) (z := none) (by kernel_rfl) ho
  have e1 : a.eval (.tmp 1) = .func (.func X.fn) #[] X.cap := (hF.eval0 (by kernel_rfl)).trans ok.e1
  refine st_pureG hF hC hW ho h2 (by decide) hd hg rfl ?_
  show _ = Result.ok (Next.value (.func (.func X.fn) #[] X.cap)) w
  generalize a.eval = ρ at e1 ⊢
  unfold execOp
  rw [hop]
  simp [e1, go_sem]
theorem EaR.s5 (X : EaR) (ok : EaROk X) {Q : Exit → Act → World → Prop} : StepG (opsOf 1 Try.f76) EaR.acts EaR.av X.val0 X.Wd X.a0 Q 5 := by
  intro γ listed a w o hF hC hW h1 ho h2
  obtain ⟨hd, hop, hg⟩ := fields2 (x := some 10) (y := Op.fieldAddr 24 (.tmp 2) 1) (z := none) (by kernel_rfl) ho
  have e2 : a.eval (.tmp 2) = .pointer (some ⟨X.b0, 0, none⟩) := (hF.eval0 (by kernel_rfl)).trans ok.e2
  refine st_pureG hF hC hW ho h2 (by decide) hd hg rfl ?_
  show _ = Result.ok (Next.value (.pointer (some ⟨X.b0, 1, none⟩))) w
  generalize a.eval = ρ at e2 ⊢
  unfold execOp
  rw [hop]
  simp [e2, go_sem]
theorem EaR.s6 (X : EaR) (ok : EaROk X) {Q : Exit → Act → World → Prop} : StepG (opsOf 1 Try.f76) EaR.acts EaR.av X.val0 X.Wd X.a0 Q 6 := by
  intro γ listed a w o hF hC hW h1 ho h2
  obtain ⟨hd, hop, hg⟩ := fields2 (x := some 11) (y := Op.load 3 (.tmp 10)) (z := none) (by kernel_rfl) ho
  have e10 : a.eval (.tmp 10) = .pointer (some ⟨X.b0, 1, none⟩) := slotG hF ho h2 (j := 5) (d := 10) (by kernel_rfl) (by kernel_rfl) (by rw [ok.sz]; decide)
  have hph := phase_leG (acts := EaR.acts) (m := 0) (x := 17) hC (unl (hF.lt ho) h1) rfl [16, 7, 6] (by kernel_rfl) (by decide)
  have hWW := hW
  generalize phase listed EaR.acts = n at hph hWW
  have hk : Kp X.W w := by
    obtain rfl : n = 0 := by omega
    exact hWW
  have hc0 := rq_at hk ok.c1
  refine st_pureG hF hC hW ho h2 (by decide) hd hg rfl ?_
  show _ = Result.ok (Next.value (.int .i64 X.x1)) w
  generalize a.eval = ρ at e10 ⊢
  unfold execOp
  rw [hop]
  simp [e10, hc0, go_sem]
theorem EaR.s7 (X : EaR) (ok : EaROk X) {Q : Exit → Act → World → Prop} : StepG (opsOf 1 Try.f76) EaR.acts EaR.av X.val0 X.Wd X.a0 Q 7 := by
  intro γ listed a w o hF hC hW h1 ho h2
  obtain ⟨hd, hop, hg⟩ := fields2 (x := some 12) (y := Op.call { callee := .value (.tmp 9), args := #[(.tmp 11)], argTypes := #[3] }) (z := none) (by kernel_rfl) ho
  have e9 : a.eval (.tmp 9) = .func (.func X.fn) #[] X.cap := slotG hF ho h2 (j := 4) (d := 9) (by kernel_rfl) (by kernel_rfl) (by rw [ok.sz]; decide)
  have e11 : a.eval (.tmp 11) = .int .i64 X.x1 := slotG hF ho h2 (j := 6) (d := 11) (by kernel_rfl) (by kernel_rfl) (by rw [ok.sz]; decide)
  have hph := phase_leG (acts := EaR.acts) (m := 0) (x := 17) hC (unl (hF.lt ho) h1) rfl [16, 7] (by kernel_rfl) (by decide)
  have hWW := hW
  generalize phase listed EaR.acts = n at hph hWW
  refine st_callG hF hC hW ho h2 (by decide) hd hg rfl (f := X.fn) (args := (#[.int .i64 X.x1] ++ X.cap)) ?_ ?_ ?_
  · generalize a.eval = ρ at e9 e11 ⊢
    unfold execOp
    rw [hop]
    simp [e9, e11, ok.fx, go_sem]
  · exact ok.f1 w (by
      have hph := phase_leG (acts := EaR.acts) (m := 0) (x := 17) hC (unl (hF.lt ho) h1) rfl [16, 7] (by kernel_rfl) (by decide)
      have hz : phase listed EaR.acts = 0 := by omega
      rw [hz] at hW
      exact hW)
  · intro w' hk
    have hz : phase listed EaR.acts = 0 := by
      have := phase_leG (acts := EaR.acts) (m := 0) (x := 17) hC (unl (hF.lt ho) h1) rfl [16, 7] (by kernel_rfl) (by decide)
      omega
    rw [hz] at hW ⊢
    exact Kp.trans hW hk
theorem EaR.s8 (X : EaR) (ok : EaROk X) {Q : Exit → Act → World → Prop} : StepG (opsOf 1 Try.f76) EaR.acts EaR.av X.val0 X.Wd X.a0 Q 8 := by
  intro γ listed a w o hF hC hW h1 ho h2
  obtain ⟨hd, hop, hg⟩ := fields2 (x := some 13) (y := Op.move (.tmp 1)) (z := none) (by kernel_rfl) ho
  have e1 : a.eval (.tmp 1) = .func (.func X.fn) #[] X.cap := (hF.eval0 (by kernel_rfl)).trans ok.e1
  refine st_pureG hF hC hW ho h2 (by decide) hd hg rfl ?_
  show _ = Result.ok (Next.value (.func (.func X.fn) #[] X.cap)) w
  generalize a.eval = ρ at e1 ⊢
  unfold execOp
  rw [hop]
  simp [e1, go_sem]
theorem EaR.s9 (X : EaR) (ok : EaROk X) {Q : Exit → Act → World → Prop} : StepG (opsOf 1 Try.f76) EaR.acts EaR.av X.val0 X.Wd X.a0 Q 9 := by
  intro γ listed a w o hF hC hW h1 ho h2
  obtain ⟨hd, hop, hg⟩ := fields2 (x := some 14) (y := Op.fieldAddr 24 (.tmp 2) 2) (z := none) (by kernel_rfl) ho
  have e2 : a.eval (.tmp 2) = .pointer (some ⟨X.b0, 0, none⟩) := (hF.eval0 (by kernel_rfl)).trans ok.e2
  refine st_pureG hF hC hW ho h2 (by decide) hd hg rfl ?_
  show _ = Result.ok (Next.value (.pointer (some ⟨X.b0, 2, none⟩))) w
  generalize a.eval = ρ at e2 ⊢
  unfold execOp
  rw [hop]
  simp [e2, go_sem]
theorem EaR.s10 (X : EaR) (ok : EaROk X) {Q : Exit → Act → World → Prop} : StepG (opsOf 1 Try.f76) EaR.acts EaR.av X.val0 X.Wd X.a0 Q 10 := by
  intro γ listed a w o hF hC hW h1 ho h2
  obtain ⟨hd, hop, hg⟩ := fields2 (x := some 15) (y := Op.load 3 (.tmp 14)) (z := none) (by kernel_rfl) ho
  have e14 : a.eval (.tmp 14) = .pointer (some ⟨X.b0, 2, none⟩) := slotG hF ho h2 (j := 9) (d := 14) (by kernel_rfl) (by kernel_rfl) (by rw [ok.sz]; decide)
  have hph := phase_leG (acts := EaR.acts) (m := 0) (x := 17) hC (unl (hF.lt ho) h1) rfl [16, 11, 10] (by kernel_rfl) (by decide)
  have hWW := hW
  generalize phase listed EaR.acts = n at hph hWW
  have hk : Kp X.W w := by
    obtain rfl : n = 0 := by omega
    exact hWW
  have hc0 := rq_at hk ok.c2
  refine st_pureG hF hC hW ho h2 (by decide) hd hg rfl ?_
  show _ = Result.ok (Next.value (.int .i64 X.x2)) w
  generalize a.eval = ρ at e14 ⊢
  unfold execOp
  rw [hop]
  simp [e14, hc0, go_sem]
theorem EaR.s11 (X : EaR) (ok : EaROk X) {Q : Exit → Act → World → Prop} : StepG (opsOf 1 Try.f76) EaR.acts EaR.av X.val0 X.Wd X.a0 Q 11 := by
  intro γ listed a w o hF hC hW h1 ho h2
  obtain ⟨hd, hop, hg⟩ := fields2 (x := some 16) (y := Op.call { callee := .value (.tmp 13), args := #[(.tmp 15)], argTypes := #[3] }) (z := none) (by kernel_rfl) ho
  have e13 : a.eval (.tmp 13) = .func (.func X.fn) #[] X.cap := slotG hF ho h2 (j := 8) (d := 13) (by kernel_rfl) (by kernel_rfl) (by rw [ok.sz]; decide)
  have e15 : a.eval (.tmp 15) = .int .i64 X.x2 := slotG hF ho h2 (j := 10) (d := 15) (by kernel_rfl) (by kernel_rfl) (by rw [ok.sz]; decide)
  have hph := phase_leG (acts := EaR.acts) (m := 0) (x := 17) hC (unl (hF.lt ho) h1) rfl [16, 11] (by kernel_rfl) (by decide)
  have hWW := hW
  generalize phase listed EaR.acts = n at hph hWW
  refine st_callG hF hC hW ho h2 (by decide) hd hg rfl (f := X.fn) (args := (#[.int .i64 X.x2] ++ X.cap)) ?_ ?_ ?_
  · generalize a.eval = ρ at e13 e15 ⊢
    unfold execOp
    rw [hop]
    simp [e13, e15, ok.fx, go_sem]
  · exact ok.f2 w (by
      have hph := phase_leG (acts := EaR.acts) (m := 0) (x := 17) hC (unl (hF.lt ho) h1) rfl [16, 11] (by kernel_rfl) (by decide)
      have hz : phase listed EaR.acts = 0 := by omega
      rw [hz] at hW
      exact hW)
  · intro w' hk
    have hz : phase listed EaR.acts = 0 := by
      have := phase_leG (acts := EaR.acts) (m := 0) (x := 17) hC (unl (hF.lt ho) h1) rfl [16, 11] (by kernel_rfl) (by decide)
      omega
    rw [hz] at hW ⊢
    exact Kp.trans hW hk
theorem EaR.s12 (X : EaR) (ok : EaROk X) {Q : Exit → Act → World → Prop} : StepG (opsOf 1 Try.f76) EaR.acts EaR.av X.val0 X.Wd X.a0 Q 12 := by
  intro γ listed a w o hF hC hW h1 ho h2
  obtain ⟨hd, hop, hg⟩ := fields2 (x := some 17) (y := Op.move (.tmp 1)) (z := none) (by kernel_rfl) ho
  have e1 : a.eval (.tmp 1) = .func (.func X.fn) #[] X.cap := (hF.eval0 (by kernel_rfl)).trans ok.e1
  refine st_pureG hF hC hW ho h2 (by decide) hd hg rfl ?_
  show _ = Result.ok (Next.value (.func (.func X.fn) #[] X.cap)) w
  generalize a.eval = ρ at e1 ⊢
  unfold execOp
  rw [hop]
  simp [e1, go_sem]
theorem EaR.s13 (X : EaR) (ok : EaROk X) {Q : Exit → Act → World → Prop} : StepG (opsOf 1 Try.f76) EaR.acts EaR.av X.val0 X.Wd X.a0 Q 13 := by
  intro γ listed a w o hF hC hW h1 ho h2
  obtain ⟨hd, hop, hg⟩ := fields2 (x := some 18) (y := Op.fieldAddr 24 (.tmp 2) 3) (z := none) (by kernel_rfl) ho
  have e2 : a.eval (.tmp 2) = .pointer (some ⟨X.b0, 0, none⟩) := (hF.eval0 (by kernel_rfl)).trans ok.e2
  refine st_pureG hF hC hW ho h2 (by decide) hd hg rfl ?_
  show _ = Result.ok (Next.value (.pointer (some ⟨X.b0, 3, none⟩))) w
  generalize a.eval = ρ at e2 ⊢
  unfold execOp
  rw [hop]
  simp [e2, go_sem]
theorem EaR.s14 (X : EaR) (ok : EaROk X) {Q : Exit → Act → World → Prop} : StepG (opsOf 1 Try.f76) EaR.acts EaR.av X.val0 X.Wd X.a0 Q 14 := by
  intro γ listed a w o hF hC hW h1 ho h2
  obtain ⟨hd, hop, hg⟩ := fields2 (x := some 19) (y := Op.load 3 (.tmp 18)) (z := none) (by kernel_rfl) ho
  have e18 : a.eval (.tmp 18) = .pointer (some ⟨X.b0, 3, none⟩) := slotG hF ho h2 (j := 13) (d := 18) (by kernel_rfl) (by kernel_rfl) (by rw [ok.sz]; decide)
  have hph := phase_leG (acts := EaR.acts) (m := 0) (x := 17) hC (unl (hF.lt ho) h1) rfl [16, 15, 14] (by kernel_rfl) (by decide)
  have hWW := hW
  generalize phase listed EaR.acts = n at hph hWW
  have hk : Kp X.W w := by
    obtain rfl : n = 0 := by omega
    exact hWW
  have hc0 := rq_at hk ok.c3
  refine st_pureG hF hC hW ho h2 (by decide) hd hg rfl ?_
  show _ = Result.ok (Next.value (.int .i64 X.x3)) w
  generalize a.eval = ρ at e18 ⊢
  unfold execOp
  rw [hop]
  simp [e18, hc0, go_sem]
theorem EaR.s15 (X : EaR) (ok : EaROk X) {Q : Exit → Act → World → Prop} : StepG (opsOf 1 Try.f76) EaR.acts EaR.av X.val0 X.Wd X.a0 Q 15 := by
  intro γ listed a w o hF hC hW h1 ho h2
  obtain ⟨hd, hop, hg⟩ := fields2 (x := some 20) (y := Op.call { callee := .value (.tmp 17), args := #[(.tmp 19)], argTypes := #[3] }) (z := none) (by kernel_rfl) ho
  have e17 : a.eval (.tmp 17) = .func (.func X.fn) #[] X.cap := slotG hF ho h2 (j := 12) (d := 17) (by kernel_rfl) (by kernel_rfl) (by rw [ok.sz]; decide)
  have e19 : a.eval (.tmp 19) = .int .i64 X.x3 := slotG hF ho h2 (j := 14) (d := 19) (by kernel_rfl) (by kernel_rfl) (by rw [ok.sz]; decide)
  have hph := phase_leG (acts := EaR.acts) (m := 0) (x := 17) hC (unl (hF.lt ho) h1) rfl [16, 15] (by kernel_rfl) (by decide)
  have hWW := hW
  generalize phase listed EaR.acts = n at hph hWW
  refine st_callG hF hC hW ho h2 (by decide) hd hg rfl (f := X.fn) (args := (#[.int .i64 X.x3] ++ X.cap)) ?_ ?_ ?_
  · generalize a.eval = ρ at e17 e19 ⊢
    unfold execOp
    rw [hop]
    simp [e17, e19, ok.fx, go_sem]
  · exact ok.f3 w (by
      have hph := phase_leG (acts := EaR.acts) (m := 0) (x := 17) hC (unl (hF.lt ho) h1) rfl [16, 15] (by kernel_rfl) (by decide)
      have hz : phase listed EaR.acts = 0 := by omega
      rw [hz] at hW
      exact hW)
  · intro w' hk
    have hz : phase listed EaR.acts = 0 := by
      have := phase_leG (acts := EaR.acts) (m := 0) (x := 17) hC (unl (hF.lt ho) h1) rfl [16, 15] (by kernel_rfl) (by decide)
      omega
    rw [hz] at hW ⊢
    exact Kp.trans hW hk
theorem EaR.s16 (X : EaR) (ok : EaROk X) {Q : Exit → Act → World → Prop} : StepG (opsOf 1 Try.f76) EaR.acts EaR.av X.val0 X.Wd X.a0 Q 16 := by
  intro γ listed a w o hF hC hW h1 ho h2
  obtain ⟨hd, hop, hg⟩ := fields2 (x := some 21) (y := Op.build 24 #[(0, (.tmp 8)), (1, (.tmp 12)), (2, (.tmp 16)), (3, (.tmp 20))]) (z := none) (by kernel_rfl) ho
  have e8 : a.eval (.tmp 8) = .int .i64 X.y0 := slotG hF ho h2 (j := 3) (d := 8) (by kernel_rfl) (by kernel_rfl) (by rw [ok.sz]; decide)
  have e12 : a.eval (.tmp 12) = .int .i64 X.y1 := slotG hF ho h2 (j := 7) (d := 12) (by kernel_rfl) (by kernel_rfl) (by rw [ok.sz]; decide)
  have e16 : a.eval (.tmp 16) = .int .i64 X.y2 := slotG hF ho h2 (j := 11) (d := 16) (by kernel_rfl) (by kernel_rfl) (by rw [ok.sz]; decide)
  have e20 : a.eval (.tmp 20) = .int .i64 X.y3 := slotG hF ho h2 (j := 15) (d := 20) (by kernel_rfl) (by kernel_rfl) (by rw [ok.sz]; decide)
  refine st_pureG hF hC hW ho h2 (by decide) hd hg rfl ?_
  show _ = Result.ok (Next.value (.agg #[.int .i64 X.y0, .int .i64 X.y1, .int .i64 X.y2, .int .i64 X.y3])) w
  generalize a.eval = ρ at e8 e12 e16 e20 ⊢
  unfold execOp
  rw [hop]
  simp [e8, e12, e16, e20, go_sem]
theorem EaR.s17 (X : EaR) (ok : EaROk X) {Q : Exit → Act → World → Prop} : StepG (opsOf 1 Try.f76) EaR.acts EaR.av X.val0 X.Wd X.a0 Q 17 := by
  intro γ listed a w o hF hC hW h1 ho h2
  obtain ⟨hd, hop, hg⟩ := fields2 (x := none) (y := Op.store 24 (.tmp 4) (.tmp 21)) (z := none) (by kernel_rfl) ho
  have e4 : a.eval (.tmp 4) = .pointer (some ⟨X.br, 0, none⟩) := (hF.eval0 (by kernel_rfl)).trans ok.e4
  have e21 : a.eval (.tmp 21) = .agg #[.int .i64 X.y0, .int .i64 X.y1, .int .i64 X.y2, .int .i64 X.y3] := slotG hF ho h2 (j := 16) (d := 21) (by kernel_rfl) (by kernel_rfl) (by rw [ok.sz]; decide)
  have hu := unl (hF.lt ho) h1
  refine st_actG (k := 0) EaR.chain EaR.nodup rfl hF hC hW h1 ho h2 (Or.inl hd) (EaR.inj (by kernel_rfl) hu) hg ?_
  intro hW0 K hK
  obtain ⟨u0, z0⟩ := ok.z0
  replace z0 := rq_at hW0 z0
  obtain ⟨u1, z1⟩ := ok.z1
  replace z1 := rq_at hW0 z1
  obtain ⟨u2, z2⟩ := ok.z2
  replace z2 := rq_at hW0 z2
  obtain ⟨u3, z3⟩ := ok.z3
  replace z3 := rq_at hW0 z3
  have zf : ∀ o, w.frozen? ⟨X.br, o, none⟩ = false := fun o => (hW0.cells.2 _ _).trans (ok.zf o)
  have hr : (execOp a.eval o).run Try.prog w = .ok .skip ((((w.setCell ⟨X.br, 0, none⟩ (.int .i64 X.y0)).setCell ⟨X.br, 1, none⟩ (.int .i64 X.y1)).setCell ⟨X.br, 2, none⟩ (.int .i64 X.y2)).setCell ⟨X.br, 3, none⟩ (.int .i64 X.y3)) := by
    generalize a.eval = ρ at e4 e21 ⊢
    unfold execOp
    rw [hop]
    simp [e4, e21, z0, z1, z2, z3, zf, go_sem]
  unfold Oper.wp
  rw [hr]
  exact hK _ _ ⟨w, hW0, rfl⟩
theorem EaR.size : (opsOf 1 Try.f76).size = 18 := by kernel_rfl
theorem EaR.steps (X : EaR) (ok : EaROk X) {Q : Exit → Act → World → Prop} (i : Nat) (hi : i < (opsOf 1 Try.f76).size) : StepG (opsOf 1 Try.f76) EaR.acts EaR.av X.val0 X.Wd X.a0 Q i := by
  rw [EaR.size] at hi
  have hc : i = 0 ∨ i = 1 ∨ i = 2 ∨ i = 3 ∨ i = 4 ∨ i = 5 ∨ i = 6 ∨ i = 7 ∨ i = 8 ∨ i = 9 ∨ i = 10 ∨ i = 11 ∨ i = 12 ∨ i = 13 ∨ i = 14 ∨ i = 15 ∨ i = 16 ∨ i = 17 := by omega
  rcases hc with rfl | rfl | rfl | rfl | rfl | rfl | rfl | rfl | rfl | rfl | rfl | rfl | rfl | rfl | rfl | rfl | rfl | rfl
  · exact EaR.s0 X ok
  · exact EaR.s1 X ok
  · exact EaR.s2 X ok
  · exact EaR.s3 X ok
  · exact EaR.s4 X ok
  · exact EaR.s5 X ok
  · exact EaR.s6 X ok
  · exact EaR.s7 X ok
  · exact EaR.s8 X ok
  · exact EaR.s9 X ok
  · exact EaR.s10 X ok
  · exact EaR.s11 X ok
  · exact EaR.s12 X ok
  · exact EaR.s13 X ok
  · exact EaR.s14 X ok
  · exact EaR.s15 X ok
  · exact EaR.s16 X ok
  · exact EaR.s17 X ok
theorem EaR.puts (X : EaR) (γ : Nat → Value) (a0 : Act) : putsL (valG EaR.av X.val0 γ) (opsOf 1 Try.f76).toList a0 = (((((((((((((((((a0.put (some 5) (.func (.func X.fn) #[] X.cap)).put (some 6) (.pointer (some ⟨X.b0, 0, none⟩))).put (some 7) (.int .i64 X.x0)).put (some 8) (.int .i64 X.y0)).put (some 9) (.func (.func X.fn) #[] X.cap)).put (some 10) (.pointer (some ⟨X.b0, 1, none⟩))).put (some 11) (.int .i64 X.x1)).put (some 12) (.int .i64 X.y1)).put (some 13) (.func (.func X.fn) #[] X.cap)).put (some 14) (.pointer (some ⟨X.b0, 2, none⟩))).put (some 15) (.int .i64 X.x2)).put (some 16) (.int .i64 X.y2)).put (some 17) (.func (.func X.fn) #[] X.cap)).put (some 18) (.pointer (some ⟨X.b0, 3, none⟩))).put (some 19) (.int .i64 X.x3)).put (some 20) (.int .i64 X.y3)).put (some 21) (.agg #[.int .i64 X.y0, .int .i64 X.y1, .int .i64 X.y2, .int .i64 X.y3])) := by kernel_rfl
/-- The region, whatever order comes up. -/
theorem EaR.run (X : EaR) (ok : EaROk X) {Q : Exit → Act → World → Prop} (w : World) (h0 : X.Wd 0 (fun _ => undef) w.drew) (hend : ∀ (γ : Nat → Value) w', X.Wd 1 γ w' → Q .normal (((((((((((((((((X.a0.put (some 5) (.func (.func X.fn) #[] X.cap)).put (some 6) (.pointer (some ⟨X.b0, 0, none⟩))).put (some 7) (.int .i64 X.x0)).put (some 8) (.int .i64 X.y0)).put (some 9) (.func (.func X.fn) #[] X.cap)).put (some 10) (.pointer (some ⟨X.b0, 1, none⟩))).put (some 11) (.int .i64 X.x1)).put (some 12) (.int .i64 X.y1)).put (some 13) (.func (.func X.fn) #[] X.cap)).put (some 14) (.pointer (some ⟨X.b0, 2, none⟩))).put (some 15) (.int .i64 X.x2)).put (some 16) (.int .i64 X.y2)).put (some 17) (.func (.func X.fn) #[] X.cap)).put (some 18) (.pointer (some ⟨X.b0, 3, none⟩))).put (some 19) (.int .i64 X.x3)).put (some 20) (.int .i64 X.y3)).put (some 21) (.agg #[.int .i64 X.y0, .int .i64 X.y1, .int .i64 X.y2, .int .i64 X.y3])) w') : (Code.region 1 (opsOf 1 Try.f76) true).wp Try.prog Q X.a0 w := by
  refine reg_act (acts := EaR.acts) (av := EaR.av) (val0 := X.val0) (Wd := X.Wd) (by kernel_rfl) (by kernel_rfl) (by rw [EaR.size]; decide) (fun i hi => EaR.steps X ok i hi) _ h0 ?_
  intro γ w' h
  rw [EaR.puts]
  exact hend γ w' h
structure WiR where
  x0 : Int
  x1 : Int
  x2 : Int
  x3 : Int
  u0 : Int
  u1 : Int
  u2 : Int
  u3 : Int
  y0 : Int
  y1 : Int
  y2 : Int
  y3 : Int
  fn : FuncId
  cap : Array Value
  b0 : Nat
  b1 : Nat
  br : Nat
  W : World
  a0 : Act
structure WiROk (X : WiR) : Prop where
  c0 : X.W.cell? ⟨X.b0, 0, none⟩ = some (.int .i64 X.x0)
  c1 : X.W.cell? ⟨X.b0, 1, none⟩ = some (.int .i64 X.x1)
  c2 : X.W.cell? ⟨X.b0, 2, none⟩ = some (.int .i64 X.x2)
  c3 : X.W.cell? ⟨X.b0, 3, none⟩ = some (.int .i64 X.x3)
  d0 : X.W.cell? ⟨X.b1, 0, none⟩ = some (.int .i64 X.u0)
  d1 : X.W.cell? ⟨X.b1, 1, none⟩ = some (.int .i64 X.u1)
  d2 : X.W.cell? ⟨X.b1, 2, none⟩ = some (.int .i64 X.u2)
  d3 : X.W.cell? ⟨X.b1, 3, none⟩ = some (.int .i64 X.u3)
  fx : ∀ args w, Sem.run Try.prog (callFunc X.fn args) w = Result.ok (Next.enter X.fn args) w
  f0 : ∀ w, Kp X.W w → Calls Try.prog X.fn (#[.int .i64 X.x0, .int .i64 X.u0] ++ X.cap) w fun e w' => e = .returned (.int .i64 X.y0) ∧ Kp w w'
  f1 : ∀ w, Kp X.W w → Calls Try.prog X.fn (#[.int .i64 X.x1, .int .i64 X.u1] ++ X.cap) w fun e w' => e = .returned (.int .i64 X.y1) ∧ Kp w w'
  f2 : ∀ w, Kp X.W w → Calls Try.prog X.fn (#[.int .i64 X.x2, .int .i64 X.u2] ++ X.cap) w fun e w' => e = .returned (.int .i64 X.y2) ∧ Kp w w'
  f3 : ∀ w, Kp X.W w → Calls Try.prog X.fn (#[.int .i64 X.x3, .int .i64 X.u3] ++ X.cap) w fun e w' => e = .returned (.int .i64 X.y3) ∧ Kp w w'
  z0 : ∃ u, X.W.cell? ⟨X.br, 0, none⟩ = some u
  z1 : ∃ u, X.W.cell? ⟨X.br, 1, none⟩ = some u
  z2 : ∃ u, X.W.cell? ⟨X.br, 2, none⟩ = some u
  z3 : ∃ u, X.W.cell? ⟨X.br, 3, none⟩ = some u
  zf : ∀ o, X.W.frozen? ⟨X.br, o, none⟩ = false
  e2 : X.a0.eval (.tmp 2) = .func (.func X.fn) #[] X.cap
  e3 : X.a0.eval (.tmp 3) = .pointer (some ⟨X.b0, 0, none⟩)
  e4 : X.a0.eval (.tmp 4) = .pointer (some ⟨X.b1, 0, none⟩)
  e6 : X.a0.eval (.tmp 6) = .pointer (some ⟨X.br, 0, none⟩)
  sz : X.a0.tmps.size = 32
def WiR.val0 (X : WiR) : Nat → Value
  | 7 => .func (.func X.fn) #[] X.cap
  | 8 => .pointer (some ⟨X.b0, 0, none⟩)
  | 9 => .int .i64 X.x0
  | 10 => .pointer (some ⟨X.b1, 0, none⟩)
  | 11 => .int .i64 X.u0
  | 12 => .int .i64 X.y0
  | 13 => .func (.func X.fn) #[] X.cap
  | 14 => .pointer (some ⟨X.b0, 1, none⟩)
  | 15 => .int .i64 X.x1
  | 16 => .pointer (some ⟨X.b1, 1, none⟩)
  | 17 => .int .i64 X.u1
  | 18 => .int .i64 X.y1
  | 19 => .func (.func X.fn) #[] X.cap
  | 20 => .pointer (some ⟨X.b0, 2, none⟩)
  | 21 => .int .i64 X.x2
  | 22 => .pointer (some ⟨X.b1, 2, none⟩)
  | 23 => .int .i64 X.u2
  | 24 => .int .i64 X.y2
  | 25 => .func (.func X.fn) #[] X.cap
  | 26 => .pointer (some ⟨X.b0, 3, none⟩)
  | 27 => .int .i64 X.x3
  | 28 => .pointer (some ⟨X.b1, 3, none⟩)
  | 29 => .int .i64 X.u3
  | 30 => .int .i64 X.y3
  | 31 => .agg #[.int .i64 X.y0, .int .i64 X.y1, .int .i64 X.y2, .int .i64 X.y3]
  | _ => undef
def WiR.av : Nat → Option Nat
  | _ => none
def WiR.acts : List Nat := [25]
/-- The world, by how many of the acting ones have come up. -/
def WiR.Wd (X : WiR) : Nat → (Nat → Value) → World → Prop
  | 0, _, w => Kp X.W w
  | _, _, w => ∃ w1, Kp X.W w1 ∧ w = ((((w1.setCell ⟨X.br, 0, none⟩ (.int .i64 X.y0)).setCell ⟨X.br, 1, none⟩ (.int .i64 X.y1)).setCell ⟨X.br, 2, none⟩ (.int .i64 X.y2)).setCell ⟨X.br, 3, none⟩ (.int .i64 X.y3))
theorem WiR.chain : chainG (opsOf 1 Try.f106) WiR.acts = true := by kernel_rfl
theorem WiR.nodup : WiR.acts.Nodup := by decide
theorem WiR.inj {listed : Array Bool} {i k : Nat} (h : (List.range (opsOf 1 Try.f106).size).all (fun j => decide (j = i) || !(match dstOf (opsOf 1 Try.f106) j with | some d => decide (WiR.av d = some k) | none => false)) = true) (hu : listed.getD i false = false) : ∀ d, got (opsOf 1 Try.f106) listed d → WiR.av d ≠ some k := by
  rintro d ⟨j, h1, h2⟩ h3
  have hlt : j < (opsOf 1 Try.f106).size := by
    rcases Nat.lt_or_ge j (opsOf 1 Try.f106).size with h4 | h4
    · exact h4
    · unfold dstOf at h2; rw [Array.getElem?_eq_none h4] at h2; cases h2
  have h5 := List.all_eq_true.1 h j (List.mem_range.2 hlt)
  rw [h2] at h5
  simp only [h3, decide_true, Bool.not_true, Bool.or_false, decide_eq_true_eq] at h5
  subst h5
  rw [hu] at h1
  cases h1
theorem WiR.s0 (X : WiR) (ok : WiROk X) {Q : Exit → Act → World → Prop} : StepG (opsOf 1 Try.f106) WiR.acts WiR.av X.val0 X.Wd X.a0 Q 0 := by
  intro γ listed a w o hF hC hW h1 ho h2
  obtain ⟨hd, hop, hg⟩ := fields2 (x := some 7) (y := Op.move (.tmp 2)) (z := none) (by kernel_rfl) ho
  have e2 : a.eval (.tmp 2) = .func (.func X.fn) #[] X.cap := (hF.eval0 (by kernel_rfl)).trans ok.e2
  refine st_pureG hF hC hW ho h2 (by decide) hd hg rfl ?_
  show _ = Result.ok (Next.value (.func (.func X.fn) #[] X.cap)) w
  generalize a.eval = ρ at e2 ⊢
  unfold execOp
  rw [hop]
  simp [e2, go_sem]
theorem WiR.s1 (X : WiR) (ok : WiROk X) {Q : Exit → Act → World → Prop} : StepG (opsOf 1 Try.f106) WiR.acts WiR.av X.val0 X.Wd X.a0 Q 1 := by
  intro γ listed a w o hF hC hW h1 ho h2
  obtain ⟨hd, hop, hg⟩ := fields2 (x := some 8) (y := Op.fieldAddr 24 (.tmp 3) 0) (z := none) (by kernel_rfl) ho
  have e3 : a.eval (.tmp 3) = .pointer (some ⟨X.b0, 0, none⟩) := (hF.eval0 (by kernel_rfl)).trans ok.e3
  refine st_pureG hF hC hW ho h2 (by decide) hd hg rfl ?_
  show _ = Result.ok (Next.value (.pointer (some ⟨X.b0, 0, none⟩))) w
  generalize a.eval = ρ at e3 ⊢
  unfold execOp
  rw [hop]
  simp [e3, go_sem]
theorem WiR.s2 (X : WiR) (ok : WiROk X) {Q : Exit → Act → World → Prop} : StepG (opsOf 1 Try.f106) WiR.acts WiR.av X.val0 X.Wd X.a0 Q 2 := by
  intro γ listed a w o hF hC hW h1 ho h2
  obtain ⟨hd, hop, hg⟩ := fields2 (x := some 9) (y := Op.load 3 (.tmp 8)) (z := none) (by kernel_rfl) ho
  have e8 : a.eval (.tmp 8) = .pointer (some ⟨X.b0, 0, none⟩) := slotG hF ho h2 (j := 1) (d := 8) (by kernel_rfl) (by kernel_rfl) (by rw [ok.sz]; decide)
  have hph := phase_leG (acts := WiR.acts) (m := 0) (x := 25) hC (unl (hF.lt ho) h1) rfl [24, 5, 2] (by kernel_rfl) (by decide)
  have hWW := hW
  generalize phase listed WiR.acts = n at hph hWW
  have hk : Kp X.W w := by
    obtain rfl : n = 0 := by omega
    exact hWW
  have hc0 := rq_at hk ok.c0
  refine st_pureG hF hC hW ho h2 (by decide) hd hg rfl ?_
  show _ = Result.ok (Next.value (.int .i64 X.x0)) w
  generalize a.eval = ρ at e8 ⊢
  unfold execOp
  rw [hop]
  simp [e8, hc0, go_sem]
theorem WiR.s3 (X : WiR) (ok : WiROk X) {Q : Exit → Act → World → Prop} : StepG (opsOf 1 Try.f106) WiR.acts WiR.av X.val0 X.Wd X.a0 Q 3 := by
  intro γ listed a w o hF hC hW h1 ho h2
  obtain ⟨hd, hop, hg⟩ := fields2 (x := some 10) (y := Op.fieldAddr 24 (.tmp 4) 0) (z := none) (by kernel_rfl) ho
  have e4 : a.eval (.tmp 4) = .pointer (some ⟨X.b1, 0, none⟩) := (hF.eval0 (by kernel_rfl)).trans ok.e4
  refine st_pureG hF hC hW ho h2 (by decide) hd hg rfl ?_
  show _ = Result.ok (Next.value (.pointer (some ⟨X.b1, 0, none⟩))) w
  generalize a.eval = ρ at e4 ⊢
  unfold execOp
  rw [hop]
  simp [e4, go_sem]
theorem WiR.s4 (X : WiR) (ok : WiROk X) {Q : Exit → Act → World → Prop} : StepG (opsOf 1 Try.f106) WiR.acts WiR.av X.val0 X.Wd X.a0 Q 4 := by
  intro γ listed a w o hF hC hW h1 ho h2
  obtain ⟨hd, hop, hg⟩ := fields2 (x := some 11) (y := Op.load 3 (.tmp 10)) (z := none) (by kernel_rfl) ho
  have e10 : a.eval (.tmp 10) = .pointer (some ⟨X.b1, 0, none⟩) := slotG hF ho h2 (j := 3) (d := 10) (by kernel_rfl) (by kernel_rfl) (by rw [ok.sz]; decide)
  have hph := phase_leG (acts := WiR.acts) (m := 0) (x := 25) hC (unl (hF.lt ho) h1) rfl [24, 5, 4] (by kernel_rfl) (by decide)
  have hWW := hW
  generalize phase listed WiR.acts = n at hph hWW
  have hk : Kp X.W w := by
    obtain rfl : n = 0 := by omega
    exact hWW
  have hc0 := rq_at hk ok.d0
  refine st_pureG hF hC hW ho h2 (by decide) hd hg rfl ?_
  show _ = Result.ok (Next.value (.int .i64 X.u0)) w
  generalize a.eval = ρ at e10 ⊢
  unfold execOp
  rw [hop]
  simp [e10, hc0, go_sem]
theorem WiR.s5 (X : WiR) (ok : WiROk X) {Q : Exit → Act → World → Prop} : StepG (opsOf 1 Try.f106) WiR.acts WiR.av X.val0 X.Wd X.a0 Q 5 := by
  intro γ listed a w o hF hC hW h1 ho h2
  obtain ⟨hd, hop, hg⟩ := fields2 (x := some 12) (y := Op.call { callee := .value (.tmp 7), args := #[(.tmp 9), (.tmp 11)], argTypes := #[3, 3] }) (z := none) (by kernel_rfl) ho
  have e7 : a.eval (.tmp 7) = .func (.func X.fn) #[] X.cap := slotG hF ho h2 (j := 0) (d := 7) (by kernel_rfl) (by kernel_rfl) (by rw [ok.sz]; decide)
  have e9 : a.eval (.tmp 9) = .int .i64 X.x0 := slotG hF ho h2 (j := 2) (d := 9) (by kernel_rfl) (by kernel_rfl) (by rw [ok.sz]; decide)
  have e11 : a.eval (.tmp 11) = .int .i64 X.u0 := slotG hF ho h2 (j := 4) (d := 11) (by kernel_rfl) (by kernel_rfl) (by rw [ok.sz]; decide)
  have hph := phase_leG (acts := WiR.acts) (m := 0) (x := 25) hC (unl (hF.lt ho) h1) rfl [24, 5] (by kernel_rfl) (by decide)
  have hWW := hW
  generalize phase listed WiR.acts = n at hph hWW
  refine st_callG hF hC hW ho h2 (by decide) hd hg rfl (f := X.fn) (args := (#[.int .i64 X.x0, .int .i64 X.u0] ++ X.cap)) ?_ ?_ ?_
  · generalize a.eval = ρ at e7 e9 e11 ⊢
    unfold execOp
    rw [hop]
    simp [e7, e9, e11, ok.fx, go_sem]
  · exact ok.f0 w (by
      have hph := phase_leG (acts := WiR.acts) (m := 0) (x := 25) hC (unl (hF.lt ho) h1) rfl [24, 5] (by kernel_rfl) (by decide)
      have hz : phase listed WiR.acts = 0 := by omega
      rw [hz] at hW
      exact hW)
  · intro w' hk
    have hz : phase listed WiR.acts = 0 := by
      have := phase_leG (acts := WiR.acts) (m := 0) (x := 25) hC (unl (hF.lt ho) h1) rfl [24, 5] (by kernel_rfl) (by decide)
      omega
    rw [hz] at hW ⊢
    exact Kp.trans hW hk
theorem WiR.s6 (X : WiR) (ok : WiROk X) {Q : Exit → Act → World → Prop} : StepG (opsOf 1 Try.f106) WiR.acts WiR.av X.val0 X.Wd X.a0 Q 6 := by
  intro γ listed a w o hF hC hW h1 ho h2
  obtain ⟨hd, hop, hg⟩ := fields2 (x := some 13) (y := Op.move (.tmp 2)) (z := none) (by kernel_rfl) ho
  have e2 : a.eval (.tmp 2) = .func (.func X.fn) #[] X.cap := (hF.eval0 (by kernel_rfl)).trans ok.e2
  refine st_pureG hF hC hW ho h2 (by decide) hd hg rfl ?_
  show _ = Result.ok (Next.value (.func (.func X.fn) #[] X.cap)) w
  generalize a.eval = ρ at e2 ⊢
  unfold execOp
  rw [hop]
  simp [e2, go_sem]
theorem WiR.s7 (X : WiR) (ok : WiROk X) {Q : Exit → Act → World → Prop} : StepG (opsOf 1 Try.f106) WiR.acts WiR.av X.val0 X.Wd X.a0 Q 7 := by
  intro γ listed a w o hF hC hW h1 ho h2
  obtain ⟨hd, hop, hg⟩ := fields2 (x := some 14) (y := Op.fieldAddr 24 (.tmp 3) 1) (z := none) (by kernel_rfl) ho
  have e3 : a.eval (.tmp 3) = .pointer (some ⟨X.b0, 0, none⟩) := (hF.eval0 (by kernel_rfl)).trans ok.e3
  refine st_pureG hF hC hW ho h2 (by decide) hd hg rfl ?_
  show _ = Result.ok (Next.value (.pointer (some ⟨X.b0, 1, none⟩))) w
  generalize a.eval = ρ at e3 ⊢
  unfold execOp
  rw [hop]
  simp [e3, go_sem]
theorem WiR.s8 (X : WiR) (ok : WiROk X) {Q : Exit → Act → World → Prop} : StepG (opsOf 1 Try.f106) WiR.acts WiR.av X.val0 X.Wd X.a0 Q 8 := by
  intro γ listed a w o hF hC hW h1 ho h2
  obtain ⟨hd, hop, hg⟩ := fields2 (x := some 15) (y := Op.load 3 (.tmp 14)) (z := none) (by kernel_rfl) ho
  have e14 : a.eval (.tmp 14) = .pointer (some ⟨X.b0, 1, none⟩) := slotG hF ho h2 (j := 7) (d := 14) (by kernel_rfl) (by kernel_rfl) (by rw [ok.sz]; decide)
  have hph := phase_leG (acts := WiR.acts) (m := 0) (x := 25) hC (unl (hF.lt ho) h1) rfl [24, 11, 8] (by kernel_rfl) (by decide)
  have hWW := hW
  generalize phase listed WiR.acts = n at hph hWW
  have hk : Kp X.W w := by
    obtain rfl : n = 0 := by omega
    exact hWW
  have hc0 := rq_at hk ok.c1
  refine st_pureG hF hC hW ho h2 (by decide) hd hg rfl ?_
  show _ = Result.ok (Next.value (.int .i64 X.x1)) w
  generalize a.eval = ρ at e14 ⊢
  unfold execOp
  rw [hop]
  simp [e14, hc0, go_sem]
theorem WiR.s9 (X : WiR) (ok : WiROk X) {Q : Exit → Act → World → Prop} : StepG (opsOf 1 Try.f106) WiR.acts WiR.av X.val0 X.Wd X.a0 Q 9 := by
  intro γ listed a w o hF hC hW h1 ho h2
  obtain ⟨hd, hop, hg⟩ := fields2 (x := some 16) (y := Op.fieldAddr 24 (.tmp 4) 1) (z := none) (by kernel_rfl) ho
  have e4 : a.eval (.tmp 4) = .pointer (some ⟨X.b1, 0, none⟩) := (hF.eval0 (by kernel_rfl)).trans ok.e4
  refine st_pureG hF hC hW ho h2 (by decide) hd hg rfl ?_
  show _ = Result.ok (Next.value (.pointer (some ⟨X.b1, 1, none⟩))) w
  generalize a.eval = ρ at e4 ⊢
  unfold execOp
  rw [hop]
  simp [e4, go_sem]
theorem WiR.s10 (X : WiR) (ok : WiROk X) {Q : Exit → Act → World → Prop} : StepG (opsOf 1 Try.f106) WiR.acts WiR.av X.val0 X.Wd X.a0 Q 10 := by
  intro γ listed a w o hF hC hW h1 ho h2
  obtain ⟨hd, hop, hg⟩ := fields2 (x := some 17) (y := Op.load 3 (.tmp 16)) (z := none) (by kernel_rfl) ho
  have e16 : a.eval (.tmp 16) = .pointer (some ⟨X.b1, 1, none⟩) := slotG hF ho h2 (j := 9) (d := 16) (by kernel_rfl) (by kernel_rfl) (by rw [ok.sz]; decide)
  have hph := phase_leG (acts := WiR.acts) (m := 0) (x := 25) hC (unl (hF.lt ho) h1) rfl [24, 11, 10] (by kernel_rfl) (by decide)
  have hWW := hW
  generalize phase listed WiR.acts = n at hph hWW
  have hk : Kp X.W w := by
    obtain rfl : n = 0 := by omega
    exact hWW
  have hc0 := rq_at hk ok.d1
  refine st_pureG hF hC hW ho h2 (by decide) hd hg rfl ?_
  show _ = Result.ok (Next.value (.int .i64 X.u1)) w
  generalize a.eval = ρ at e16 ⊢
  unfold execOp
  rw [hop]
  simp [e16, hc0, go_sem]
theorem WiR.s11 (X : WiR) (ok : WiROk X) {Q : Exit → Act → World → Prop} : StepG (opsOf 1 Try.f106) WiR.acts WiR.av X.val0 X.Wd X.a0 Q 11 := by
  intro γ listed a w o hF hC hW h1 ho h2
  obtain ⟨hd, hop, hg⟩ := fields2 (x := some 18) (y := Op.call { callee := .value (.tmp 13), args := #[(.tmp 15), (.tmp 17)], argTypes := #[3, 3] }) (z := none) (by kernel_rfl) ho
  have e13 : a.eval (.tmp 13) = .func (.func X.fn) #[] X.cap := slotG hF ho h2 (j := 6) (d := 13) (by kernel_rfl) (by kernel_rfl) (by rw [ok.sz]; decide)
  have e15 : a.eval (.tmp 15) = .int .i64 X.x1 := slotG hF ho h2 (j := 8) (d := 15) (by kernel_rfl) (by kernel_rfl) (by rw [ok.sz]; decide)
  have e17 : a.eval (.tmp 17) = .int .i64 X.u1 := slotG hF ho h2 (j := 10) (d := 17) (by kernel_rfl) (by kernel_rfl) (by rw [ok.sz]; decide)
  have hph := phase_leG (acts := WiR.acts) (m := 0) (x := 25) hC (unl (hF.lt ho) h1) rfl [24, 11] (by kernel_rfl) (by decide)
  have hWW := hW
  generalize phase listed WiR.acts = n at hph hWW
  refine st_callG hF hC hW ho h2 (by decide) hd hg rfl (f := X.fn) (args := (#[.int .i64 X.x1, .int .i64 X.u1] ++ X.cap)) ?_ ?_ ?_
  · generalize a.eval = ρ at e13 e15 e17 ⊢
    unfold execOp
    rw [hop]
    simp [e13, e15, e17, ok.fx, go_sem]
  · exact ok.f1 w (by
      have hph := phase_leG (acts := WiR.acts) (m := 0) (x := 25) hC (unl (hF.lt ho) h1) rfl [24, 11] (by kernel_rfl) (by decide)
      have hz : phase listed WiR.acts = 0 := by omega
      rw [hz] at hW
      exact hW)
  · intro w' hk
    have hz : phase listed WiR.acts = 0 := by
      have := phase_leG (acts := WiR.acts) (m := 0) (x := 25) hC (unl (hF.lt ho) h1) rfl [24, 11] (by kernel_rfl) (by decide)
      omega
    rw [hz] at hW ⊢
    exact Kp.trans hW hk
theorem WiR.s12 (X : WiR) (ok : WiROk X) {Q : Exit → Act → World → Prop} : StepG (opsOf 1 Try.f106) WiR.acts WiR.av X.val0 X.Wd X.a0 Q 12 := by
  intro γ listed a w o hF hC hW h1 ho h2
  obtain ⟨hd, hop, hg⟩ := fields2 (x := some 19) (y := Op.move (.tmp 2)) (z := none) (by kernel_rfl) ho
  have e2 : a.eval (.tmp 2) = .func (.func X.fn) #[] X.cap := (hF.eval0 (by kernel_rfl)).trans ok.e2
  refine st_pureG hF hC hW ho h2 (by decide) hd hg rfl ?_
  show _ = Result.ok (Next.value (.func (.func X.fn) #[] X.cap)) w
  generalize a.eval = ρ at e2 ⊢
  unfold execOp
  rw [hop]
  simp [e2, go_sem]
theorem WiR.s13 (X : WiR) (ok : WiROk X) {Q : Exit → Act → World → Prop} : StepG (opsOf 1 Try.f106) WiR.acts WiR.av X.val0 X.Wd X.a0 Q 13 := by
  intro γ listed a w o hF hC hW h1 ho h2
  obtain ⟨hd, hop, hg⟩ := fields2 (x := some 20) (y := Op.fieldAddr 24 (.tmp 3) 2) (z := none) (by kernel_rfl) ho
  have e3 : a.eval (.tmp 3) = .pointer (some ⟨X.b0, 0, none⟩) := (hF.eval0 (by kernel_rfl)).trans ok.e3
  refine st_pureG hF hC hW ho h2 (by decide) hd hg rfl ?_
  show _ = Result.ok (Next.value (.pointer (some ⟨X.b0, 2, none⟩))) w
  generalize a.eval = ρ at e3 ⊢
  unfold execOp
  rw [hop]
  simp [e3, go_sem]
theorem WiR.s14 (X : WiR) (ok : WiROk X) {Q : Exit → Act → World → Prop} : StepG (opsOf 1 Try.f106) WiR.acts WiR.av X.val0 X.Wd X.a0 Q 14 := by
  intro γ listed a w o hF hC hW h1 ho h2
  obtain ⟨hd, hop, hg⟩ := fields2 (x := some 21) (y := Op.load 3 (.tmp 20)) (z := none) (by kernel_rfl) ho
  have e20 : a.eval (.tmp 20) = .pointer (some ⟨X.b0, 2, none⟩) := slotG hF ho h2 (j := 13) (d := 20) (by kernel_rfl) (by kernel_rfl) (by rw [ok.sz]; decide)
  have hph := phase_leG (acts := WiR.acts) (m := 0) (x := 25) hC (unl (hF.lt ho) h1) rfl [24, 17, 14] (by kernel_rfl) (by decide)
  have hWW := hW
  generalize phase listed WiR.acts = n at hph hWW
  have hk : Kp X.W w := by
    obtain rfl : n = 0 := by omega
    exact hWW
  have hc0 := rq_at hk ok.c2
  refine st_pureG hF hC hW ho h2 (by decide) hd hg rfl ?_
  show _ = Result.ok (Next.value (.int .i64 X.x2)) w
  generalize a.eval = ρ at e20 ⊢
  unfold execOp
  rw [hop]
  simp [e20, hc0, go_sem]
theorem WiR.s15 (X : WiR) (ok : WiROk X) {Q : Exit → Act → World → Prop} : StepG (opsOf 1 Try.f106) WiR.acts WiR.av X.val0 X.Wd X.a0 Q 15 := by
  intro γ listed a w o hF hC hW h1 ho h2
  obtain ⟨hd, hop, hg⟩ := fields2 (x := some 22) (y := Op.fieldAddr 24 (.tmp 4) 2) (z := none) (by kernel_rfl) ho
  have e4 : a.eval (.tmp 4) = .pointer (some ⟨X.b1, 0, none⟩) := (hF.eval0 (by kernel_rfl)).trans ok.e4
  refine st_pureG hF hC hW ho h2 (by decide) hd hg rfl ?_
  show _ = Result.ok (Next.value (.pointer (some ⟨X.b1, 2, none⟩))) w
  generalize a.eval = ρ at e4 ⊢
  unfold execOp
  rw [hop]
  simp [e4, go_sem]
theorem WiR.s16 (X : WiR) (ok : WiROk X) {Q : Exit → Act → World → Prop} : StepG (opsOf 1 Try.f106) WiR.acts WiR.av X.val0 X.Wd X.a0 Q 16 := by
  intro γ listed a w o hF hC hW h1 ho h2
  obtain ⟨hd, hop, hg⟩ := fields2 (x := some 23) (y := Op.load 3 (.tmp 22)) (z := none) (by kernel_rfl) ho
  have e22 : a.eval (.tmp 22) = .pointer (some ⟨X.b1, 2, none⟩) := slotG hF ho h2 (j := 15) (d := 22) (by kernel_rfl) (by kernel_rfl) (by rw [ok.sz]; decide)
  have hph := phase_leG (acts := WiR.acts) (m := 0) (x := 25) hC (unl (hF.lt ho) h1) rfl [24, 17, 16] (by kernel_rfl) (by decide)
  have hWW := hW
  generalize phase listed WiR.acts = n at hph hWW
  have hk : Kp X.W w := by
    obtain rfl : n = 0 := by omega
    exact hWW
  have hc0 := rq_at hk ok.d2
  refine st_pureG hF hC hW ho h2 (by decide) hd hg rfl ?_
  show _ = Result.ok (Next.value (.int .i64 X.u2)) w
  generalize a.eval = ρ at e22 ⊢
  unfold execOp
  rw [hop]
  simp [e22, hc0, go_sem]
theorem WiR.s17 (X : WiR) (ok : WiROk X) {Q : Exit → Act → World → Prop} : StepG (opsOf 1 Try.f106) WiR.acts WiR.av X.val0 X.Wd X.a0 Q 17 := by
  intro γ listed a w o hF hC hW h1 ho h2
  obtain ⟨hd, hop, hg⟩ := fields2 (x := some 24) (y := Op.call { callee := .value (.tmp 19), args := #[(.tmp 21), (.tmp 23)], argTypes := #[3, 3] }) (z := none) (by kernel_rfl) ho
  have e19 : a.eval (.tmp 19) = .func (.func X.fn) #[] X.cap := slotG hF ho h2 (j := 12) (d := 19) (by kernel_rfl) (by kernel_rfl) (by rw [ok.sz]; decide)
  have e21 : a.eval (.tmp 21) = .int .i64 X.x2 := slotG hF ho h2 (j := 14) (d := 21) (by kernel_rfl) (by kernel_rfl) (by rw [ok.sz]; decide)
  have e23 : a.eval (.tmp 23) = .int .i64 X.u2 := slotG hF ho h2 (j := 16) (d := 23) (by kernel_rfl) (by kernel_rfl) (by rw [ok.sz]; decide)
  have hph := phase_leG (acts := WiR.acts) (m := 0) (x := 25) hC (unl (hF.lt ho) h1) rfl [24, 17] (by kernel_rfl) (by decide)
  have hWW := hW
  generalize phase listed WiR.acts = n at hph hWW
  refine st_callG hF hC hW ho h2 (by decide) hd hg rfl (f := X.fn) (args := (#[.int .i64 X.x2, .int .i64 X.u2] ++ X.cap)) ?_ ?_ ?_
  · generalize a.eval = ρ at e19 e21 e23 ⊢
    unfold execOp
    rw [hop]
    simp [e19, e21, e23, ok.fx, go_sem]
  · exact ok.f2 w (by
      have hph := phase_leG (acts := WiR.acts) (m := 0) (x := 25) hC (unl (hF.lt ho) h1) rfl [24, 17] (by kernel_rfl) (by decide)
      have hz : phase listed WiR.acts = 0 := by omega
      rw [hz] at hW
      exact hW)
  · intro w' hk
    have hz : phase listed WiR.acts = 0 := by
      have := phase_leG (acts := WiR.acts) (m := 0) (x := 25) hC (unl (hF.lt ho) h1) rfl [24, 17] (by kernel_rfl) (by decide)
      omega
    rw [hz] at hW ⊢
    exact Kp.trans hW hk
theorem WiR.s18 (X : WiR) (ok : WiROk X) {Q : Exit → Act → World → Prop} : StepG (opsOf 1 Try.f106) WiR.acts WiR.av X.val0 X.Wd X.a0 Q 18 := by
  intro γ listed a w o hF hC hW h1 ho h2
  obtain ⟨hd, hop, hg⟩ := fields2 (x := some 25) (y := Op.move (.tmp 2)) (z := none) (by kernel_rfl) ho
  have e2 : a.eval (.tmp 2) = .func (.func X.fn) #[] X.cap := (hF.eval0 (by kernel_rfl)).trans ok.e2
  refine st_pureG hF hC hW ho h2 (by decide) hd hg rfl ?_
  show _ = Result.ok (Next.value (.func (.func X.fn) #[] X.cap)) w
  generalize a.eval = ρ at e2 ⊢
  unfold execOp
  rw [hop]
  simp [e2, go_sem]
theorem WiR.s19 (X : WiR) (ok : WiROk X) {Q : Exit → Act → World → Prop} : StepG (opsOf 1 Try.f106) WiR.acts WiR.av X.val0 X.Wd X.a0 Q 19 := by
  intro γ listed a w o hF hC hW h1 ho h2
  obtain ⟨hd, hop, hg⟩ := fields2 (x := some 26) (y := Op.fieldAddr 24 (.tmp 3) 3) (z := none) (by kernel_rfl) ho
  have e3 : a.eval (.tmp 3) = .pointer (some ⟨X.b0, 0, none⟩) := (hF.eval0 (by kernel_rfl)).trans ok.e3
  refine st_pureG hF hC hW ho h2 (by decide) hd hg rfl ?_
  show _ = Result.ok (Next.value (.pointer (some ⟨X.b0, 3, none⟩))) w
  generalize a.eval = ρ at e3 ⊢
  unfold execOp
  rw [hop]
  simp [e3, go_sem]
theorem WiR.s20 (X : WiR) (ok : WiROk X) {Q : Exit → Act → World → Prop} : StepG (opsOf 1 Try.f106) WiR.acts WiR.av X.val0 X.Wd X.a0 Q 20 := by
  intro γ listed a w o hF hC hW h1 ho h2
  obtain ⟨hd, hop, hg⟩ := fields2 (x := some 27) (y := Op.load 3 (.tmp 26)) (z := none) (by kernel_rfl) ho
  have e26 : a.eval (.tmp 26) = .pointer (some ⟨X.b0, 3, none⟩) := slotG hF ho h2 (j := 19) (d := 26) (by kernel_rfl) (by kernel_rfl) (by rw [ok.sz]; decide)
  have hph := phase_leG (acts := WiR.acts) (m := 0) (x := 25) hC (unl (hF.lt ho) h1) rfl [24, 23, 20] (by kernel_rfl) (by decide)
  have hWW := hW
  generalize phase listed WiR.acts = n at hph hWW
  have hk : Kp X.W w := by
    obtain rfl : n = 0 := by omega
    exact hWW
  have hc0 := rq_at hk ok.c3
  refine st_pureG hF hC hW ho h2 (by decide) hd hg rfl ?_
  show _ = Result.ok (Next.value (.int .i64 X.x3)) w
  generalize a.eval = ρ at e26 ⊢
  unfold execOp
  rw [hop]
  simp [e26, hc0, go_sem]
theorem WiR.s21 (X : WiR) (ok : WiROk X) {Q : Exit → Act → World → Prop} : StepG (opsOf 1 Try.f106) WiR.acts WiR.av X.val0 X.Wd X.a0 Q 21 := by
  intro γ listed a w o hF hC hW h1 ho h2
  obtain ⟨hd, hop, hg⟩ := fields2 (x := some 28) (y := Op.fieldAddr 24 (.tmp 4) 3) (z := none) (by kernel_rfl) ho
  have e4 : a.eval (.tmp 4) = .pointer (some ⟨X.b1, 0, none⟩) := (hF.eval0 (by kernel_rfl)).trans ok.e4
  refine st_pureG hF hC hW ho h2 (by decide) hd hg rfl ?_
  show _ = Result.ok (Next.value (.pointer (some ⟨X.b1, 3, none⟩))) w
  generalize a.eval = ρ at e4 ⊢
  unfold execOp
  rw [hop]
  simp [e4, go_sem]
theorem WiR.s22 (X : WiR) (ok : WiROk X) {Q : Exit → Act → World → Prop} : StepG (opsOf 1 Try.f106) WiR.acts WiR.av X.val0 X.Wd X.a0 Q 22 := by
  intro γ listed a w o hF hC hW h1 ho h2
  obtain ⟨hd, hop, hg⟩ := fields2 (x := some 29) (y := Op.load 3 (.tmp 28)) (z := none) (by kernel_rfl) ho
  have e28 : a.eval (.tmp 28) = .pointer (some ⟨X.b1, 3, none⟩) := slotG hF ho h2 (j := 21) (d := 28) (by kernel_rfl) (by kernel_rfl) (by rw [ok.sz]; decide)
  have hph := phase_leG (acts := WiR.acts) (m := 0) (x := 25) hC (unl (hF.lt ho) h1) rfl [24, 23, 22] (by kernel_rfl) (by decide)
  have hWW := hW
  generalize phase listed WiR.acts = n at hph hWW
  have hk : Kp X.W w := by
    obtain rfl : n = 0 := by omega
    exact hWW
  have hc0 := rq_at hk ok.d3
  refine st_pureG hF hC hW ho h2 (by decide) hd hg rfl ?_
  show _ = Result.ok (Next.value (.int .i64 X.u3)) w
  generalize a.eval = ρ at e28 ⊢
  unfold execOp
  rw [hop]
  simp [e28, hc0, go_sem]
theorem WiR.s23 (X : WiR) (ok : WiROk X) {Q : Exit → Act → World → Prop} : StepG (opsOf 1 Try.f106) WiR.acts WiR.av X.val0 X.Wd X.a0 Q 23 := by
  intro γ listed a w o hF hC hW h1 ho h2
  obtain ⟨hd, hop, hg⟩ := fields2 (x := some 30) (y := Op.call { callee := .value (.tmp 25), args := #[(.tmp 27), (.tmp 29)], argTypes := #[3, 3] }) (z := none) (by kernel_rfl) ho
  have e25 : a.eval (.tmp 25) = .func (.func X.fn) #[] X.cap := slotG hF ho h2 (j := 18) (d := 25) (by kernel_rfl) (by kernel_rfl) (by rw [ok.sz]; decide)
  have e27 : a.eval (.tmp 27) = .int .i64 X.x3 := slotG hF ho h2 (j := 20) (d := 27) (by kernel_rfl) (by kernel_rfl) (by rw [ok.sz]; decide)
  have e29 : a.eval (.tmp 29) = .int .i64 X.u3 := slotG hF ho h2 (j := 22) (d := 29) (by kernel_rfl) (by kernel_rfl) (by rw [ok.sz]; decide)
  have hph := phase_leG (acts := WiR.acts) (m := 0) (x := 25) hC (unl (hF.lt ho) h1) rfl [24, 23] (by kernel_rfl) (by decide)
  have hWW := hW
  generalize phase listed WiR.acts = n at hph hWW
  refine st_callG hF hC hW ho h2 (by decide) hd hg rfl (f := X.fn) (args := (#[.int .i64 X.x3, .int .i64 X.u3] ++ X.cap)) ?_ ?_ ?_
  · generalize a.eval = ρ at e25 e27 e29 ⊢
    unfold execOp
    rw [hop]
    simp [e25, e27, e29, ok.fx, go_sem]
  · exact ok.f3 w (by
      have hph := phase_leG (acts := WiR.acts) (m := 0) (x := 25) hC (unl (hF.lt ho) h1) rfl [24, 23] (by kernel_rfl) (by decide)
      have hz : phase listed WiR.acts = 0 := by omega
      rw [hz] at hW
      exact hW)
  · intro w' hk
    have hz : phase listed WiR.acts = 0 := by
      have := phase_leG (acts := WiR.acts) (m := 0) (x := 25) hC (unl (hF.lt ho) h1) rfl [24, 23] (by kernel_rfl) (by decide)
      omega
    rw [hz] at hW ⊢
    exact Kp.trans hW hk
theorem WiR.s24 (X : WiR) (ok : WiROk X) {Q : Exit → Act → World → Prop} : StepG (opsOf 1 Try.f106) WiR.acts WiR.av X.val0 X.Wd X.a0 Q 24 := by
  intro γ listed a w o hF hC hW h1 ho h2
  obtain ⟨hd, hop, hg⟩ := fields2 (x := some 31) (y := Op.build 24 #[(0, (.tmp 12)), (1, (.tmp 18)), (2, (.tmp 24)), (3, (.tmp 30))]) (z := none) (by kernel_rfl) ho
  have e12 : a.eval (.tmp 12) = .int .i64 X.y0 := slotG hF ho h2 (j := 5) (d := 12) (by kernel_rfl) (by kernel_rfl) (by rw [ok.sz]; decide)
  have e18 : a.eval (.tmp 18) = .int .i64 X.y1 := slotG hF ho h2 (j := 11) (d := 18) (by kernel_rfl) (by kernel_rfl) (by rw [ok.sz]; decide)
  have e24 : a.eval (.tmp 24) = .int .i64 X.y2 := slotG hF ho h2 (j := 17) (d := 24) (by kernel_rfl) (by kernel_rfl) (by rw [ok.sz]; decide)
  have e30 : a.eval (.tmp 30) = .int .i64 X.y3 := slotG hF ho h2 (j := 23) (d := 30) (by kernel_rfl) (by kernel_rfl) (by rw [ok.sz]; decide)
  refine st_pureG hF hC hW ho h2 (by decide) hd hg rfl ?_
  show _ = Result.ok (Next.value (.agg #[.int .i64 X.y0, .int .i64 X.y1, .int .i64 X.y2, .int .i64 X.y3])) w
  generalize a.eval = ρ at e12 e18 e24 e30 ⊢
  unfold execOp
  rw [hop]
  simp [e12, e18, e24, e30, go_sem]
theorem WiR.s25 (X : WiR) (ok : WiROk X) {Q : Exit → Act → World → Prop} : StepG (opsOf 1 Try.f106) WiR.acts WiR.av X.val0 X.Wd X.a0 Q 25 := by
  intro γ listed a w o hF hC hW h1 ho h2
  obtain ⟨hd, hop, hg⟩ := fields2 (x := none) (y := Op.store 24 (.tmp 6) (.tmp 31)) (z := none) (by kernel_rfl) ho
  have e6 : a.eval (.tmp 6) = .pointer (some ⟨X.br, 0, none⟩) := (hF.eval0 (by kernel_rfl)).trans ok.e6
  have e31 : a.eval (.tmp 31) = .agg #[.int .i64 X.y0, .int .i64 X.y1, .int .i64 X.y2, .int .i64 X.y3] := slotG hF ho h2 (j := 24) (d := 31) (by kernel_rfl) (by kernel_rfl) (by rw [ok.sz]; decide)
  have hu := unl (hF.lt ho) h1
  refine st_actG (k := 0) WiR.chain WiR.nodup rfl hF hC hW h1 ho h2 (Or.inl hd) (WiR.inj (by kernel_rfl) hu) hg ?_
  intro hW0 K hK
  obtain ⟨u0, z0⟩ := ok.z0
  replace z0 := rq_at hW0 z0
  obtain ⟨u1, z1⟩ := ok.z1
  replace z1 := rq_at hW0 z1
  obtain ⟨u2, z2⟩ := ok.z2
  replace z2 := rq_at hW0 z2
  obtain ⟨u3, z3⟩ := ok.z3
  replace z3 := rq_at hW0 z3
  have zf : ∀ o, w.frozen? ⟨X.br, o, none⟩ = false := fun o => (hW0.cells.2 _ _).trans (ok.zf o)
  have hr : (execOp a.eval o).run Try.prog w = .ok .skip ((((w.setCell ⟨X.br, 0, none⟩ (.int .i64 X.y0)).setCell ⟨X.br, 1, none⟩ (.int .i64 X.y1)).setCell ⟨X.br, 2, none⟩ (.int .i64 X.y2)).setCell ⟨X.br, 3, none⟩ (.int .i64 X.y3)) := by
    generalize a.eval = ρ at e6 e31 ⊢
    unfold execOp
    rw [hop]
    simp [e6, e31, z0, z1, z2, z3, zf, go_sem]
  unfold Oper.wp
  rw [hr]
  exact hK _ _ ⟨w, hW0, rfl⟩
theorem WiR.size : (opsOf 1 Try.f106).size = 26 := by kernel_rfl
theorem WiR.steps (X : WiR) (ok : WiROk X) {Q : Exit → Act → World → Prop} (i : Nat) (hi : i < (opsOf 1 Try.f106).size) : StepG (opsOf 1 Try.f106) WiR.acts WiR.av X.val0 X.Wd X.a0 Q i := by
  rw [WiR.size] at hi
  have hc : i = 0 ∨ i = 1 ∨ i = 2 ∨ i = 3 ∨ i = 4 ∨ i = 5 ∨ i = 6 ∨ i = 7 ∨ i = 8 ∨ i = 9 ∨ i = 10 ∨ i = 11 ∨ i = 12 ∨ i = 13 ∨ i = 14 ∨ i = 15 ∨ i = 16 ∨ i = 17 ∨ i = 18 ∨ i = 19 ∨ i = 20 ∨ i = 21 ∨ i = 22 ∨ i = 23 ∨ i = 24 ∨ i = 25 := by omega
  rcases hc with rfl | rfl | rfl | rfl | rfl | rfl | rfl | rfl | rfl | rfl | rfl | rfl | rfl | rfl | rfl | rfl | rfl | rfl | rfl | rfl | rfl | rfl | rfl | rfl | rfl | rfl
  · exact WiR.s0 X ok
  · exact WiR.s1 X ok
  · exact WiR.s2 X ok
  · exact WiR.s3 X ok
  · exact WiR.s4 X ok
  · exact WiR.s5 X ok
  · exact WiR.s6 X ok
  · exact WiR.s7 X ok
  · exact WiR.s8 X ok
  · exact WiR.s9 X ok
  · exact WiR.s10 X ok
  · exact WiR.s11 X ok
  · exact WiR.s12 X ok
  · exact WiR.s13 X ok
  · exact WiR.s14 X ok
  · exact WiR.s15 X ok
  · exact WiR.s16 X ok
  · exact WiR.s17 X ok
  · exact WiR.s18 X ok
  · exact WiR.s19 X ok
  · exact WiR.s20 X ok
  · exact WiR.s21 X ok
  · exact WiR.s22 X ok
  · exact WiR.s23 X ok
  · exact WiR.s24 X ok
  · exact WiR.s25 X ok
theorem WiR.puts (X : WiR) (γ : Nat → Value) (a0 : Act) : putsL (valG WiR.av X.val0 γ) (opsOf 1 Try.f106).toList a0 = (((((((((((((((((((((((((a0.put (some 7) (.func (.func X.fn) #[] X.cap)).put (some 8) (.pointer (some ⟨X.b0, 0, none⟩))).put (some 9) (.int .i64 X.x0)).put (some 10) (.pointer (some ⟨X.b1, 0, none⟩))).put (some 11) (.int .i64 X.u0)).put (some 12) (.int .i64 X.y0)).put (some 13) (.func (.func X.fn) #[] X.cap)).put (some 14) (.pointer (some ⟨X.b0, 1, none⟩))).put (some 15) (.int .i64 X.x1)).put (some 16) (.pointer (some ⟨X.b1, 1, none⟩))).put (some 17) (.int .i64 X.u1)).put (some 18) (.int .i64 X.y1)).put (some 19) (.func (.func X.fn) #[] X.cap)).put (some 20) (.pointer (some ⟨X.b0, 2, none⟩))).put (some 21) (.int .i64 X.x2)).put (some 22) (.pointer (some ⟨X.b1, 2, none⟩))).put (some 23) (.int .i64 X.u2)).put (some 24) (.int .i64 X.y2)).put (some 25) (.func (.func X.fn) #[] X.cap)).put (some 26) (.pointer (some ⟨X.b0, 3, none⟩))).put (some 27) (.int .i64 X.x3)).put (some 28) (.pointer (some ⟨X.b1, 3, none⟩))).put (some 29) (.int .i64 X.u3)).put (some 30) (.int .i64 X.y3)).put (some 31) (.agg #[.int .i64 X.y0, .int .i64 X.y1, .int .i64 X.y2, .int .i64 X.y3])) := by kernel_rfl
/-- The region, whatever order comes up. -/
theorem WiR.run (X : WiR) (ok : WiROk X) {Q : Exit → Act → World → Prop} (w : World) (h0 : X.Wd 0 (fun _ => undef) w.drew) (hend : ∀ (γ : Nat → Value) w', X.Wd 1 γ w' → Q .normal (((((((((((((((((((((((((X.a0.put (some 7) (.func (.func X.fn) #[] X.cap)).put (some 8) (.pointer (some ⟨X.b0, 0, none⟩))).put (some 9) (.int .i64 X.x0)).put (some 10) (.pointer (some ⟨X.b1, 0, none⟩))).put (some 11) (.int .i64 X.u0)).put (some 12) (.int .i64 X.y0)).put (some 13) (.func (.func X.fn) #[] X.cap)).put (some 14) (.pointer (some ⟨X.b0, 1, none⟩))).put (some 15) (.int .i64 X.x1)).put (some 16) (.pointer (some ⟨X.b1, 1, none⟩))).put (some 17) (.int .i64 X.u1)).put (some 18) (.int .i64 X.y1)).put (some 19) (.func (.func X.fn) #[] X.cap)).put (some 20) (.pointer (some ⟨X.b0, 2, none⟩))).put (some 21) (.int .i64 X.x2)).put (some 22) (.pointer (some ⟨X.b1, 2, none⟩))).put (some 23) (.int .i64 X.u2)).put (some 24) (.int .i64 X.y2)).put (some 25) (.func (.func X.fn) #[] X.cap)).put (some 26) (.pointer (some ⟨X.b0, 3, none⟩))).put (some 27) (.int .i64 X.x3)).put (some 28) (.pointer (some ⟨X.b1, 3, none⟩))).put (some 29) (.int .i64 X.u3)).put (some 30) (.int .i64 X.y3)).put (some 31) (.agg #[.int .i64 X.y0, .int .i64 X.y1, .int .i64 X.y2, .int .i64 X.y3])) w') : (Code.region 1 (opsOf 1 Try.f106) true).wp Try.prog Q X.a0 w := by
  refine reg_act (acts := WiR.acts) (av := WiR.av) (val0 := X.val0) (Wd := X.Wd) (by kernel_rfl) (by kernel_rfl) (by rw [WiR.size]; decide) (fun i hi => WiR.steps X ok i hi) _ h0 ?_
  intro γ w' h
  rw [WiR.puts]
  exact hend γ w' h
end Go.Proofs.Ythlohbiocfeapaa

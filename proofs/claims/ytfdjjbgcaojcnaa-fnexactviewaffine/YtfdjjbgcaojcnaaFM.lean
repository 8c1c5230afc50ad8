/-
  Fixed numbers: GoodFixed and FixMul of both in one word, for all ints; no condition.
-/
import Derived.Test.YtfdjjbgcaojcnaaFxFixMul
import Derived.Test.YtfdjjbgcaojcnaaFx0
namespace Go.Proofs.Ytfdjjbgcaojcnaa
open Go.ChangeShapes Go.WideShapes Go.ChangeAt Go.RowKit
set_option linter.unusedVariables false

/-- A product of two fixed numbers. -/
def fmV (a b : Int) : Int := if fixB a = true ∧ fixB b = true then cutM ((a * b + 32768) / 65536) else 0
theorem cutM_bd (x : Int) : -1099511627776 ≤ cutM x ∧ cutM x ≤ 1099511627776 := by unfold cutM; omega
theorem fmV_bd (a b : Int) : -1099511627776 ≤ fmV a b ∧ fmV a b ≤ 1099511627776 := by
  unfold fmV; split
  · exact cutM_bd _
  · omega
theorem posV_cut (P : Int) (h : 0 ≤ P) : posV P = cutM ((P + 32768) / 65536) := by unfold posV cutM; omega
theorem negV_cut (P : Int) (h : 0 ≤ P) : negV P = cutM ((-P + 32768) / 65536) := by unfold negV cutM; omega
theorem fm_both (a b : Int) : (∀ w, Calls Try.prog 83 #[.int .i64 a, .int .i64 b] w fun e w' => e = .returned (.int .i64 (fmV a b)) ∧ Kp w w') ∧ (∀ w, Calls Try.prog 70 #[.int .i64 a, .int .i64 b] w fun e w' => e = .returned (.int .i64 (fmV a b)) ∧ w' = w) := by
  by_cases ha : -1099511627776 ≤ a ∧ a ≤ 1099511627776
  · by_cases hb : -1099511627776 ≤ b ∧ b ≤ 1099511627776
    · have e : fmV a b = cutM ((a * b + 32768) / 65536) := by unfold fmV; rw [if_pos ⟨fixB_iff.2 ha, fixB_iff.2 hb⟩]
      rw [e]
      obtain ⟨a1, a2⟩ := ha
      obtain ⟨b1, b2⟩ := hb
      by_cases na : a < 0
      · by_cases nb : b < 0
        · have h := posV_cut (-a * -b) (Int.mul_nonneg (by omega) (by omega))
          rw [Int.neg_mul_neg] at h
          rw [← h, ← Int.neg_mul_neg]
          exact ⟨fun w => sfixMul_nn a b w a1 a2 b1 b2 na nb, fun w => fixMul_nn a b w a1 a2 b1 b2 na nb⟩
        · have h := negV_cut (-a * b) (Int.mul_nonneg (by omega) (by omega))
          rw [show -(-a * b) = a * b by rw [Int.neg_mul, Int.neg_neg]] at h
          rw [← h]
          exact ⟨fun w => sfixMul_np a b w a1 a2 b1 b2 na (by omega), fun w => fixMul_np a b w a1 a2 b1 b2 na (by omega)⟩
      · by_cases nb : b < 0
        · have h := negV_cut (a * -b) (Int.mul_nonneg (by omega) (by omega))
          rw [show -(a * -b) = a * b by rw [Int.mul_neg, Int.neg_neg]] at h
          rw [← h]
          exact ⟨fun w => sfixMul_pn a b w a1 a2 b1 b2 (by omega) nb, fun w => fixMul_pn a b w a1 a2 b1 b2 (by omega) nb⟩
        · rw [← posV_cut (a * b) (Int.mul_nonneg (by omega) (by omega))]
          exact ⟨fun w => sfixMul_pp a b w a1 a2 b1 b2 (by omega) (by omega), fun w => fixMul_pp a b w a1 a2 b1 b2 (by omega) (by omega)⟩
    · have e : fmV a b = 0 := by unfold fmV; rw [if_neg (fun h => hb (fixB_iff.1 h.2))]
      rw [e]
      exact ⟨fun w => (sfixMul_no2 a b w ha.1 ha.2 hb).mono fun e w' ⟨h1, h2⟩ => ⟨h1, h2 ▸ Kp.refl _⟩, fun w => fixMul_no2 a b w ha.1 ha.2 hb⟩
  · have e : fmV a b = 0 := by unfold fmV; rw [if_neg (fun h => ha (fixB_iff.1 h.1))]
    rw [e]
    exact ⟨fun w => (sfixMul_no a b w ha).mono fun e w' ⟨h1, h2⟩ => ⟨h1, h2 ▸ Kp.refl _⟩, fun w => fixMul_no a b w ha⟩
theorem sfm (a b : Int) (w : World) : Calls Try.prog 83 #[.int .i64 a, .int .i64 b] w fun e w' => e = .returned (.int .i64 (fmV a b)) ∧ Kp w w' := (fm_both a b).1 w
theorem ifm (a b : Int) (w : World) : Calls Try.prog 70 #[.int .i64 a, .int .i64 b] w fun e w' => e = .returned (.int .i64 (fmV a b)) ∧ w' = w := (fm_both a b).2 w
theorem fmV_one {x : Int} (h : fixB x = true) : fmV 65536 x = x := by
  unfold fmV
  rw [if_pos ⟨by decide, h⟩]
  have := fixB_iff.1 h
  unfold cutM
  omega
theorem fmV_zero (x : Int) : fmV 0 x = 0 := by
  unfold fmV
  split
  · rw [Int.zero_mul]; decide
  · rfl
end Go.Proofs.Ytfdjjbgcaojcnaa

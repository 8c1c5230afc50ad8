/-
  Fixed numbers: FixDiv of both in one word, for all ints; no condition.
-/
import Derived.Test.YtfdjjbgcaojcnaaFxFixDiv
import Derived.Test.YtfdjjbgcaojcnaaFM
namespace Go.Proofs.Ytfdjjbgcaojcnaa
open Go.ChangeShapes Go.WideShapes Go.ChangeAt Go.RowKit
set_option linter.unusedVariables false

theorem fd_both (a b : Int) : (∀ w, Calls Try.prog 97 #[.int .i64 a, .int .i64 b] w fun e w' => e = .returned (.int .i64 (divV a b)) ∧ Kp w w') ∧ (∀ w, Calls Try.prog 68 #[.int .i64 a, .int .i64 b] w fun e w' => e = .returned (.int .i64 (divV a b)) ∧ w' = w) := by
  by_cases ha : -1099511627776 ≤ a ∧ a ≤ 1099511627776
  · by_cases hb : -1099511627776 ≤ b ∧ b ≤ 1099511627776
    · by_cases hz : b = 0
      · have e : divV a b = 0 := by unfold divV; rw [if_neg (fun h => h.2.2.2.2 hz)]
        rw [e]
        subst hz
        exact ⟨fun w => (sfixDiv_no3 a w ha.1 ha.2).mono fun e w' ⟨h1, h2⟩ => ⟨h1, h2 ▸ Kp.refl _⟩, fun w => fixDiv_no3 a w ha.1 ha.2⟩
      · have e : divV a b = cutV (nearV (a * 65536) b) (-1099511627776) 1099511627776 := by unfold divV; rw [if_pos ⟨ha.1, ha.2, hb.1, hb.2, hz⟩]
        rw [e]
        exact ⟨fun w => sfixDiv_yes a b w ha.1 ha.2 hb.1 hb.2 hz, fun w => fixDiv_yes a b w ha.1 ha.2 hb.1 hb.2 hz⟩
    · have e : divV a b = 0 := by unfold divV; rw [if_neg (fun h => hb ⟨h.2.2.1, h.2.2.2.1⟩)]
      rw [e]
      exact ⟨fun w => (sfixDiv_no2 a b w ha.1 ha.2 hb).mono fun e w' ⟨h1, h2⟩ => ⟨h1, h2 ▸ Kp.refl _⟩, fun w => fixDiv_no2 a b w ha.1 ha.2 hb⟩
  · have e : divV a b = 0 := by unfold divV; rw [if_neg (fun h => ha ⟨h.1, h.2.1⟩)]
    rw [e]
    exact ⟨fun w => (sfixDiv_no a b w ha).mono fun e w' ⟨h1, h2⟩ => ⟨h1, h2 ▸ Kp.refl _⟩, fun w => fixDiv_no a b w ha⟩
theorem sfd (a b : Int) (w : World) : Calls Try.prog 97 #[.int .i64 a, .int .i64 b] w fun e w' => e = .returned (.int .i64 (divV a b)) ∧ Kp w w' := (fd_both a b).1 w
theorem ifd (a b : Int) (w : World) : Calls Try.prog 68 #[.int .i64 a, .int .i64 b] w fun e w' => e = .returned (.int .i64 (divV a b)) ∧ w' = w := (fd_both a b).2 w
end Go.Proofs.Ytfdjjbgcaojcnaa

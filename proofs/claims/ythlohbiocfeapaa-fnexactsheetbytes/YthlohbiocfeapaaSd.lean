/-
  Sides of pictures, of both: goodSide, l3Side; each theorem names its conditions.
-/
import Derived.Test.YthlohbiocfeapaaIw
namespace Go.Proofs.Ythlohbiocfeapaa
open Go.ChangeShapes Go.WideShapes Go.ChangeAt Go.RowKit
set_option linter.unusedVariables false

def sdB (x : Int) : Bool := decide (1 ≤ x ∧ x ≤ 36)
theorem sdB_iff {x : Int} : sdB x = true ↔ 1 ≤ x ∧ x ≤ 36 := by unfold sdB; simp
theorem sd_mul {x y : Int} (hx : sdB x = true) (hy : sdB y = true) : 1 ≤ x * y ∧ x * y ≤ 1296 := by
  rw [sdB_iff] at hx hy
  constructor
  · exact Int.le_trans (by decide) (Int.mul_le_mul hx.1 hy.1 (by decide) (by omega))
  · exact Int.le_trans (Int.mul_le_mul hx.2 hy.2 (by omega) (by decide)) (by decide)
theorem igoodSide (w : World) (x : Int) : Calls Try.prog 115 #[.int .i64 x] w fun e w' => e = .returned (.bool (sdB x)) ∧ w' = w := by
  go_enter Try.func115, Try.ntmps115
  go_wp2
  all_goals
    go_ret
    exact ⟨ret_bool (by unfold sdB; rw [Bool.eq_iff_iff]; simp; omega), rfl⟩
theorem sgoodSide (w : World) (x : Int) : Calls Try.prog 83 #[.int .i64 x] w fun e w' => e = .returned (.bool (sdB x)) ∧ w' = w := by
  have HX : Hid (∀ w, Calls Try.prog 70 #[.int .i64 x, .int .i64 1, .int .i64 36] w fun e w' => e = .returned (.bool (sdB x)) ∧ w' = w) := fun w => in_any w x _ _
  go_enter Try.func83, Try.ntmps83
  go_wp2_with fail
  refine (HX.out _).mono ?_
  rintro e w1 ⟨rfl, rfl⟩
  go_wp2
  go_ret
  exact ⟨rfl, rfl⟩
end Go.Proofs.Ythlohbiocfeapaa

/-
  Fixed numbers: GoodFixed of both, for all ints; no condition.
-/
import Derived.Test.YtfdjjbgcaojcnaaIn
namespace Go.Proofs.Ytfdjjbgcaojcnaa
open Go.ChangeShapes Go.WideShapes Go.ChangeAt Go.RowKit
set_option linter.unusedVariables false

def fixB (x : Int) : Bool := decide (-1099511627776 ≤ x) && decide (x ≤ 1099511627776)
theorem fixB_iff {x : Int} : fixB x = true ↔ -1099511627776 ≤ x ∧ x ≤ 1099511627776 := by unfold fixB; simp
theorem fixB_no {x : Int} : fixB x = false ↔ ¬ (-1099511627776 ≤ x ∧ x ≤ 1099511627776) := by
  rw [← fixB_iff]; cases fixB x <;> simp
theorem igoodF (x : Int) (w : World) : Calls Try.prog 99 #[.int .i64 x] w fun e w' => e = .returned (.bool (fixB x)) ∧ w' = w := by
  go_enter Try.func99, Try.ntmps99
  go_wp2
  all_goals
    go_ret
    exact ⟨ret_bool (by unfold fixB; rw [Bool.eq_iff_iff]; simp; omega), rfl⟩
theorem sgoodF (x : Int) (w : World) : Calls Try.prog 64 #[.int .i64 x] w fun e w' => e = .returned (.bool (fixB x)) ∧ w' = w := by
  have H : Hid (∀ w, Calls Try.prog 34 #[.int .i64 x, .int .i64 (-1099511627776), .int .i64 1099511627776] w fun e w' => e = .returned (.bool (fixB x)) ∧ w' = w) := fun w => by
    refine Calls.mono (in_any w x (-1099511627776) 1099511627776) ?_
    rintro e w' ⟨rfl, rfl⟩
    exact ⟨ret_bool (by unfold fixB; rw [Bool.eq_iff_iff]; simp), rfl⟩
  go_enter Try.func64, Try.ntmps64
  go_wp2_with fail
  refine Calls.mono (H.out _) ?_
  rintro e w1 ⟨rfl, rfl⟩
  go_wp2
  go_ret
  exact ⟨rfl, rfl⟩
end Go.Proofs.Ytfdjjbgcaojcnaa

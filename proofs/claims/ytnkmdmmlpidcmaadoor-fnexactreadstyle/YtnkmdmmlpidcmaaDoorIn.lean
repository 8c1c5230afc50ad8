/-
  Whether a number lies between two others, by the specification; no condition.
-/
import Derived.Test.YtnkmdmmlpidcmaaDoorBase
namespace Go.Proofs.YtnkmdmmlpidcmaaDoor
open Go.ChangeShapes Go.WideShapes Go.ChangeAt Go.RowKit
set_option linter.unusedVariables false

theorem ret_bool {a b : Bool} (h : a = b) : Ending.returned (.bool a) = .returned (.bool b) := by rw [h]
theorem in_any (w : World) (n lo hi : Int) : Calls Tryd.prog 68 #[.int .i64 n, .int .i64 lo, .int .i64 hi] w fun e w' => e = .returned (.bool (decide (lo ≤ n ∧ n ≤ hi))) ∧ w' = w := by
  go_enter Tryd.func68, Tryd.ntmps68
  go_wp2
  all_goals
    go_ret
    exact ⟨ret_bool (by rw [Bool.eq_iff_iff]; simp; omega), rfl⟩

theorem all_false {α : Type} (f : α → Bool) (d : α) (l : List α) (k : Nat) (hk : k < l.length) (h : f (l.getD k d) = false) : l.all f = false := by
  rw [List.all_eq_false]
  refine ⟨l.getD k d, ?_, by rw [h]; decide⟩
  rw [show l.getD k d = l[k] by simp [hk]]
  exact List.getElem_mem hk
theorem all_true {α : Type} (f : α → Bool) (d : α) (l : List α) (h : ∀ k, k < l.length → f (l.getD k d) = true) : l.all f = true := by
  rw [List.all_eq_true]
  intro x hx
  obtain ⟨k, hk, rfl⟩ := List.getElem_of_mem hx
  have := h k hk
  rw [show l.getD k d = l[k] by simp [hk]] at this
  exact this
end Go.Proofs.YtnkmdmmlpidcmaaDoor

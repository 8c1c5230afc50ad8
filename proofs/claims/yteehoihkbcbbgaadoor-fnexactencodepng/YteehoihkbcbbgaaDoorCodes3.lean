/-
  What the specification's l2Full, l2Codes and CodesOf answer; each theorem names its conditions.
-/
import Derived.Test.YteehoihkbcbbgaaDoorCodes2
namespace Go.Proofs.YteehoihkbcbbgaaDoor
open Go.ChangeShapes Go.WideShapes Go.ChangeAt Go.RowKit
set_option linter.unusedVariables false

/-- What has been laid when the length n is at the place i. -/
def lay (xs : List Int) (n i j : Nat) : Int := if 0 < xs.getD j 0 ∧ (xs.getD j 0 < n ∨ (xs.getD j 0 = n ∧ j < i)) then cd xs j else 0
theorem lay_yes (xs : List Int) (n i : Nat) (hi : i < xs.length) (hn : 0 < n) (h : xs.getD i 0 = (n : Int)) :
    (tab xs.length (lay xs n i)).setIfInBounds i (.int .i64 (nx xs n + cn xs i n)) = tab xs.length (lay xs n (i + 1)) := by
  apply tab_set _ _ _ i _ hi
  · intro j hj hne
    unfold lay
    by_cases hd : 0 < xs.getD j 0 ∧ (xs.getD j 0 < n ∨ (xs.getD j 0 = n ∧ j < i))
    · rw [if_pos hd, if_pos (by omega)]
    · rw [if_neg hd, if_neg (by omega)]
  · unfold lay
    rw [if_pos (by omega)]
    unfold cd
    rw [if_pos (by omega), h]; simp
theorem lay_no (xs : List Int) (n i : Nat) (h : xs.getD i 0 ≠ (n : Int)) : tab xs.length (lay xs n (i + 1)) = tab xs.length (lay xs n i) := by
  apply tab_congr
  intro j hj
  unfold lay
  by_cases e : j = i
  · subst e
    by_cases hd : 0 < xs.getD j 0 ∧ (xs.getD j 0 < n ∨ (xs.getD j 0 = n ∧ j < j))
    · rw [if_pos hd, if_pos (by omega)]
    · rw [if_neg hd, if_neg (by omega)]
  · by_cases hd : 0 < xs.getD j 0 ∧ (xs.getD j 0 < n ∨ (xs.getD j 0 = n ∧ j < i))
    · rw [if_pos hd, if_pos (by omega)]
    · rw [if_neg hd, if_neg (by omega)]
theorem lay_next (xs : List Int) (n : Nat) : tab xs.length (lay xs (n + 1) 0) = tab xs.length (lay xs n xs.length) := by
  apply tab_congr
  intro j hj
  unfold lay
  by_cases hd : 0 < xs.getD j 0 ∧ (xs.getD j 0 < n ∨ (xs.getD j 0 = n ∧ j < xs.length))
  · rw [if_pos hd, if_pos (by omega)]
  · rw [if_neg hd, if_neg (by omega)]
theorem lay_first (xs : List Int) : tab xs.length (lay xs 1 0) = tab xs.length (fun _ => 0) := by
  apply tab_congr
  intro j hj
  unfold lay
  rw [if_neg (by omega)]
theorem lay_last (xs : List Int) (hf : fit xs = true) : tab xs.length (lay xs 16 0) = cellsOf .i64 (codesL xs) := by
  rw [← codesL_cells]
  apply tab_congr
  intro j hj
  have := fit_at hf j
  unfold lay
  by_cases h : 0 < xs.getD j 0
  · rw [if_pos (by omega)]
  · rw [if_neg (by omega)]; unfold cd; rw [if_neg h]
end Go.Proofs.YteehoihkbcbbgaaDoor

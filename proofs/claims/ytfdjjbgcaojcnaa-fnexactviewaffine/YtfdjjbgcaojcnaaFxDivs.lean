/-
  What the program's own division helpers answer: nearest, cutTo, FixDiv, each for the numbers within the bounds named in its theorem.
-/
import Derived.Test.YtfdjjbgcaojcnaaDd
namespace Go.Proofs.Ytfdjjbgcaojcnaa
open Go.ChangeShapes Go.WideShapes Go.ChangeAt Go.RowKit

/-- a / b to the nearest, of two as near the greater. -/
def nearV (a b : Int) : Int := if b < 0 then (2 * -a + -b) / (2 * -b) else (2 * a + b) / (2 * b)

set_option maxHeartbeats 400000 in
theorem nearest_any (a b : Int) (w : World) (hb : b ≠ 0) (hb1 : -1152921504606846976 ≤ b) (hb2 : b ≤ 1152921504606846976) (h1 : -1152921504606846976 ≤ a) (h2 : a ≤ 1152921504606846976) :
    Calls Try.prog 101 #[.int .i64 a, .int .i64 b] w fun e w' => e = .returned (.int .i64 (nearV a b)) ∧ w' = w := by
  by_cases hn : b < 0
  · have e : nearV a b = (2 * -a + -b) / (2 * -b) := by unfold nearV; rw [if_pos hn]
    rw [e]; clear e
    go_enter Try.func101, Try.ntmps101
    go_wp2_with (go_at_call 69; refine (divDown_any _ _ _ (by omega) (by omega) (by omega) (by omega)).mono ?_; rintro e w' ⟨rfl, rfl⟩)
    go_ret
    exact ⟨rfl, rfl⟩
  · have e : nearV a b = (2 * a + b) / (2 * b) := by unfold nearV; rw [if_neg hn]
    rw [e]; clear e
    go_enter Try.func101, Try.ntmps101
    go_wp2_with (go_at_call 69; refine (divDown_any _ _ _ (by omega) (by omega) (by omega) (by omega)).mono ?_; rintro e w' ⟨rfl, rfl⟩)
    go_ret
    exact ⟨rfl, rfl⟩

/-- Cut to a range. -/
def cutV (x least greatest : Int) : Int := max least (min x greatest)

set_option maxHeartbeats 400000 in
theorem cutTo_any (x l g : Int) (w : World) :
    Calls Try.prog 100 #[.int .i64 x, .int .i64 l, .int .i64 g] w fun e w' => e = .returned (.int .i64 (cutV x l g)) ∧ w' = w := by
  go_enter Try.func100, Try.ntmps100
  go_wp2
  all_goals go_ret
  all_goals exact ⟨ret_int (by unfold cutV; omega), rfl⟩

/-- What FixDiv answers. -/
def divV (a b : Int) : Int := if -1099511627776 ≤ a ∧ a ≤ 1099511627776 ∧ -1099511627776 ≤ b ∧ b ≤ 1099511627776 ∧ b ≠ 0 then cutV (nearV (a * 65536) b) (-1099511627776) 1099511627776 else 0

set_option maxHeartbeats 800000 in
theorem fixDiv_yes (a b : Int) (w : World) (a1 : -1099511627776 ≤ a) (a2 : a ≤ 1099511627776) (b1 : -1099511627776 ≤ b) (b2 : b ≤ 1099511627776) (b0 : b ≠ 0) :
    Calls Try.prog 68 #[.int .i64 a, .int .i64 b] w fun e w' => e = .returned (.int .i64 (cutV (nearV (a * 65536) b) (-1099511627776) 1099511627776)) ∧ w' = w := by
  have hz : (b == 0) = false := by simpa using b0
  go_enter Try.func68, Try.ntmps68
  go_wp2_with (first | (go_at_call 101; refine (nearest_any _ _ _ (by omega) (by omega) (by omega) (by omega) (by omega)).mono ?_; rintro e w' ⟨rfl, rfl⟩) | (go_at_call 100; refine (cutTo_any _ _ _ _).mono ?_; rintro e w' ⟨rfl, rfl⟩) | go_in)
  go_ret
  exact ⟨rfl, rfl⟩
end Go.Proofs.Ytfdjjbgcaojcnaa

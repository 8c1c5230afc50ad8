/-
  What the law's helper does that looks for the marks in a list of numbers; each theorem names its conditions.
-/
import Derived.Test.YtllljknpicmmjaaHoldE
namespace Go.Proofs.Ytllljknpicmmjaa
open Go.ChangeShapes Go.WideShapes Go.ChangeAt Go.RowKit
set_option linter.unusedVariables false

set_option maxHeartbeats 1000000 in
theorem heldI_any (w : World) (g c K n : Nat) (hl : n ≤ 1048576) (hK2 : K ≤ 50000000) (h : LayI w g (mkL K n)) :
    Calls Try.prog 64 #[.slice (some ⟨g, 0, none⟩) n c, .int .i64 (K : Int)] w fun e w' => e = .returned (.int .i64 ((K + n : Nat) : Int)) ∧ w' = w := by
  have HS : Hid (LayI w g (mkL K n)) := h
  clear h
  go_enter Try.func64, Try.ntmps64
  go_wp2
  go_loop [1, 5] (fun x i => ∃ j : Nat, j ≤ n ∧ i = .int .i64 j ∧ x = .int .i64 ((K + j : Nat) : Int)) (fun _ i => n - (intOf i).toNat)
  case atStart => exact ⟨0, Nat.zero_le _, rfl, rfl⟩
  case round =>
    obtain ⟨j, hj, rfl, rfl⟩ := hrel
    by_cases hlt : j < n
    · have c0 := HS.out.2.1 j (by rw [mkL_len]; exact hlt)
      rw [mkL_at K n j hlt] at c0
      have hne : (((K + j : Nat) : Int) != ((K + j : Nat) : Int)) = false := by simp
      go_wp2
      go_round
      case rel => exact ⟨j + 1, by omega, by go_num, by go_num⟩
      case measure => simp [intOf]; omega
    · have e : j = n := by omega
      subst e
      go_wp2
      go_ret
      exact ⟨rfl, rfl⟩
end Go.Proofs.Ytllljknpicmmjaa

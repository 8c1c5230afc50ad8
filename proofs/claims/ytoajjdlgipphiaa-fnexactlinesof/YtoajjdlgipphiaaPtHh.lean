/-
  What the law's helper does that looks for the marks in points; each theorem names its conditions.
-/
import Derived.Test.YtoajjdlgipphiaaPt
namespace Go.Proofs.Ytoajjdlgipphiaa
open Go.ChangeShapes Go.WideShapes Go.ChangeAt Go.RowKit
set_option linter.unusedVariables false

set_option maxHeartbeats 1000000 in
theorem heldPt_any (w : World) (g c K n : Nat) (hl : n ≤ 1048576) (hK2 : K ≤ 50000000) (h : LayPt w g (mkP K n) n) :
    Calls Try.prog 41 #[.slice (some ⟨g, 0, none⟩) n c, .int .i64 (K : Int)] w fun e w' => e = .returned (.int .i64 ((K + 2 * n : Nat) : Int)) ∧ w' = w := by
  have HS : Hid (LayPt w g (mkP K n) n) := h
  clear h
  go_enter Try.func41, Try.ntmps41
  go_wp2
  go_loop [1, 5] (fun x i => ∃ j : Nat, j ≤ n ∧ i = .int .i64 j ∧ x = .int .i64 ((K + 2 * j : Nat) : Int)) (fun _ i => n - (intOf i).toNat)
  case atStart => exact ⟨0, Nat.zero_le _, rfl, rfl⟩
  case round =>
    obtain ⟨j, hj, rfl, rfl⟩ := hrel
    by_cases hlt : j < n
    · obtain ⟨c0, c1⟩ := HS.out.2.1 j hlt
      rw [mkP_at K n j hlt] at c0 c1
      have e1 : ((K + 2 * j + 1 : Nat) : Int) = ((K + 2 * j : Nat) : Int) + 1 := by omega
      simp only [e1] at c1
      have hb : ((K + 2 * j : Nat) : Int) ≤ 100000000 := by omega
      have hb0 : 0 ≤ ((K + 2 * j : Nat) : Int) := by omega
      have HJ : Hid (((K + 2 * (j + 1) : Nat) : Int) = ((K + 2 * j : Nat) : Int) + 1 + 1) := by show _ = _; omega
      generalize ((K + 2 * j : Nat) : Int) = Z at *
      have hne : (Z != Z) = false := by simp
      have hne2 : (Z + 1 != Z + 1) = false := by simp
      go_wp2
      go_round
      case rel => exact ⟨j + 1, by omega, by go_num, by rw [HJ.out]⟩
      case measure => simp [intOf]; omega
    · have e : j = n := by omega
      subst e
      go_wp2
      go_ret
      exact ⟨rfl, rfl⟩
theorem heldPt_nil (w : World) (K : Nat) (hK2 : K ≤ 50000000) :
    Calls Try.prog 41 #[.slice none 0 0, .int .i64 (K : Int)] w fun e w' => e = .returned (.int .i64 (K : Int)) ∧ w' = w := by
  go_enter Try.func41, Try.ntmps41
  go_wp2
  go_loop [1, 5] (fun x i => x = .int .i64 (K : Int) ∧ i = .int .i64 0) (fun _ _ => 0)
  case atStart => exact ⟨rfl, rfl⟩
  case round =>
    obtain ⟨rfl, rfl⟩ := hrel
    go_wp2
    go_ret
    exact ⟨rfl, rfl⟩
end Go.Proofs.Ytoajjdlgipphiaa

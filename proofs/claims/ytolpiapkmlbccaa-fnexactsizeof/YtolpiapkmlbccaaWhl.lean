/-
  What the program's wholeRoot answers, for numbers within the bounds named in each theorem.
-/
import Derived.Test.YtolpiapkmlbccaaBase
namespace Go.Proofs.Ytolpiapkmlbccaa
open Go.ChangeShapes Go.WideShapes Go.ChangeAt Go.RowKit

theorem root_uniq (n r s : Int) (hr : 0 ≤ r) (hs : 0 ≤ s) (r1 : r * r ≤ n) (r2 : n < (r + 1) * (r + 1)) (s1 : s * s ≤ n) (s2 : n < (s + 1) * (s + 1)) : r = s := by
  by_cases h : r < s
  · have : (r + 1) * (r + 1) ≤ s * s := Int.mul_le_mul (by omega) (by omega) (by omega) (by omega); omega
  by_cases h' : s < r
  · have : (s + 1) * (s + 1) ≤ r * r := Int.mul_le_mul (by omega) (by omega) (by omega) (by omega); omega
  omega

theorem sq_bd (r : Int) (h0 : 0 ≤ r) (h : r ≤ 2147483648) : 0 ≤ r * r ∧ r * r ≤ 4611686018427387904 :=
  ⟨Int.mul_nonneg h0 h0, Int.mul_le_mul h h h0 (by omega)⟩

set_option maxHeartbeats 1000000 in
theorem whole_any (n : Int) (w : World) (hn : 0 ≤ n) (hn' : n < 4611686018427387904) :
    Calls Try.prog 45 #[.int .i64 n] w fun e w' => ∃ r : Int, e = .returned (.int .i64 r) ∧ 0 ≤ r ∧ r * r ≤ n ∧ n < (r + 1) * (r + 1) ∧ w' = w := by
  go_enter Try.func45, Try.ntmps45
  go_wp2
  go_loop [3, 4] (fun root bit => ∃ (k : Nat) (r T : Int), T = 2 ^ k ∧ k ≤ 31 ∧ 0 ≤ r ∧ r * r ≤ n ∧ n < (r + T) * (r + T) ∧ r + T ≤ 2147483648 ∧ root = .int .i64 r ∧ bit = .int .i64 (T / 2)) (fun _ bit => (intOf bit).toNat)
  case atStart => exact ⟨31, 0, 2147483648, by decide, by omega, by omega, by omega, by omega, by omega, rfl, rfl⟩
  case round =>
    obtain ⟨k, r, T, hT, hk, h0, h1, h2, h3, rfl, rfl⟩ := hrel
    cases k with
    | zero =>
      obtain rfl : T = 1 := by simpa using hT
      clear hT
      go_wp2
      go_ret
      exact ⟨r, rfl, h0, h1, h2, rfl⟩
    | succ j =>
      obtain ⟨B, hB⟩ : ∃ B : Int, B = 2 ^ j := ⟨_, rfl⟩
      have hB1 : 0 < B := by rw [hB]; exact Int.pow_pos (by omega)
      have hTB : T = 2 * B := by rw [hT, hB, Int.pow_succ]; omega
      have HB : Hid (B = 2 ^ j) := hB
      clear hB hT
      subst hTB
      rw [show 2 * B / 2 = B from by omega] at *
      obtain ⟨s1, s2⟩ := sq_bd (r + B) (by omega) (by omega)
      by_cases hc : (r + B) * (r + B) ≤ n
      · go_wp2
        go_round
        case rel => exact ⟨j, r + B, B, HB.out, by omega, by omega, hc, by rw [show r + B + B = r + 2 * B from by omega]; exact h2, by omega, rfl, rfl⟩
        case measure => simp [intOf]; omega
      · go_wp2
        go_round
        case rel => exact ⟨j, r, B, HB.out, by omega, h0, h1, by omega, by omega, rfl, rfl⟩
        case measure => simp [intOf]; omega
/-- Every number has a root, rounded down. -/
theorem root_nat (n : Nat) : ∃ r : Nat, r * r ≤ n ∧ n < (r + 1) * (r + 1) := by
  induction n with
  | zero => exact ⟨0, by omega, by omega⟩
  | succ n ih =>
    obtain ⟨r, h1, h2⟩ := ih
    by_cases h : n + 1 < (r + 1) * (r + 1)
    · exact ⟨r, by omega, h⟩
    · refine ⟨r + 1, by omega, ?_⟩
      have : (r + 1) * (r + 1) < (r + 1 + 1) * (r + 1 + 1) := Nat.mul_lt_mul_of_lt_of_lt (by omega) (by omega)
      omega
end Go.Proofs.Ytolpiapkmlbccaa

/-
  What the specification's helpers on products of two words answer: l1Times, l1Plus, l1Sum, l1Less, each for words within the bounds named in its theorem.
-/
import Derived.Test.YtfdjjbgcaojcnaaBase
import Derived.Laws.Bits64b
namespace Go.Proofs.Ytfdjjbgcaojcnaa
open Go.ChangeShapes Go.WideShapes Go.ChangeAt Go.RowKit

theorem half_mul (a b : Int) (ha : 0 ≤ a) (ha' : a ≤ 4294967295) (hb : 0 ≤ b) (hb' : b ≤ 4294967295) : 0 ≤ a * b ∧ a * b ≤ 18446744065119617025 :=
  ⟨Int.mul_nonneg ha hb, Int.mul_le_mul ha' hb' hb (by omega)⟩

theorem or_low (m r : Int) (hr : 0 ≤ r) (hr' : r < 4294967296) : bits .or .u64 (IntKind.u64.wrap (m * 4294967296)) r = (m % 4294967296) * 4294967296 + r := by
  have e : IntKind.u64.wrap (m * 4294967296) = (m % 4294967296) * 4294967296 := by rw [IntKind.wrap_u64]; omega
  rw [e]
  obtain ⟨x, hx⟩ := Int.eq_ofNat_of_zero_le (a := m % 4294967296) (by omega)
  obtain ⟨y, rfl⟩ := Int.eq_ofNat_of_zero_le hr
  rw [hx]
  have hx' : x < 4294967296 := by omega
  have h := bits_or_u64_nat (x * 4294967296) y (by omega) (by omega)
  have h2 := Nat.two_pow_add_eq_or_of_lt (i := 32) (b := y) (by omega) x
  have e2 : ((x : Int) * 4294967296) = ((x * 4294967296 : Nat) : Int) := by omega
  have e3 : x * 4294967296 = 2 ^ 32 * x := by omega
  rw [e2, h, e3, ← h2]
  omega

theorem split_prod (a b : Int) : a * b = a / 4294967296 * (b / 4294967296) * 18446744073709551616 + (a / 4294967296 * (b % 4294967296) + a % 4294967296 * (b / 4294967296)) * 4294967296 + a % 4294967296 * (b % 4294967296) := by
  have h1 := Int.mul_ediv_add_emod a 4294967296
  have h2 := Int.mul_ediv_add_emod b 4294967296
  generalize a / 4294967296 = y at *
  generalize a % 4294967296 = x at *
  generalize b / 4294967296 = v at *
  generalize b % 4294967296 = u at *
  rw [← h1, ← h2, Int.add_mul, Int.mul_add, Int.mul_add]
  have e1 : 4294967296 * y * (4294967296 * v) = y * v * 18446744073709551616 := by
    rw [Int.mul_assoc, Int.mul_left_comm y 4294967296 v]; omega
  have e2 : 4294967296 * y * u = y * u * 4294967296 := by rw [Int.mul_assoc]; omega
  have e3 : x * (4294967296 * v) = x * v * 4294967296 := by rw [Int.mul_left_comm]; omega
  rw [e1, e2, e3]; omega

theorem times_eqs (a b : Int) (ha : 0 ≤ a) (ha' : a < 18446744073709551616) (hb : 0 ≤ b) (hb' : b < 18446744073709551616) :
    (a / 4294967296 * (b / 4294967296) + (a / 4294967296 * (b % 4294967296) + a % 4294967296 * (b % 4294967296) / 4294967296) / 4294967296 +
          (a % 4294967296 * (b / 4294967296) + (a / 4294967296 * (b % 4294967296) + a % 4294967296 * (b % 4294967296) / 4294967296) % 4294967296) / 4294967296 = a * b / 18446744073709551616) ∧
    (bits BinOp.or IntKind.u64 (IntKind.u64.wrap ((a % 4294967296 * (b / 4294967296) + (a / 4294967296 * (b % 4294967296) + a % 4294967296 * (b % 4294967296) / 4294967296) % 4294967296) * 4294967296))
          (a % 4294967296 * (b % 4294967296) % 4294967296) = a * b % 18446744073709551616) := by
  obtain ⟨p1, p2⟩ := half_mul (a % 4294967296) (b % 4294967296) (by omega) (by omega) (by omega) (by omega)
  obtain ⟨q1, q2⟩ := half_mul (a / 4294967296) (b % 4294967296) (by omega) (by omega) (by omega) (by omega)
  obtain ⟨r1, r2⟩ := half_mul (a % 4294967296) (b / 4294967296) (by omega) (by omega) (by omega) (by omega)
  obtain ⟨s1, s2⟩ := half_mul (a / 4294967296) (b / 4294967296) (by omega) (by omega) (by omega) (by omega)
  have e := split_prod a b
  generalize a / 4294967296 * (b / 4294967296) = s at *
  generalize a / 4294967296 * (b % 4294967296) = q at *
  generalize a % 4294967296 * (b / 4294967296) = r at *
  generalize a % 4294967296 * (b % 4294967296) = p at *
  rw [e, or_low _ _ (by omega) (by omega)]
  exact ⟨by omega, by omega⟩

set_option maxHeartbeats 1000000 in
theorem times_any (a b : Int) (w : World) (ha : 0 ≤ a) (ha' : a < 18446744073709551616) (hb : 0 ≤ b) (hb' : b < 18446744073709551616) :
    Calls Try.prog 122 #[.int .u64 a, .int .u64 b] w fun e w' => e = .returned (.agg #[.int .u64 (a * b / 18446744073709551616), .int .u64 (a * b % 18446744073709551616)]) ∧ ∃ c1 : Array Value, w' = w.alloc (.cells c1 157) := by
  obtain ⟨p1, p2⟩ := half_mul (a % 4294967296) (b % 4294967296) (by omega) (by omega) (by omega) (by omega)
  obtain ⟨q1, q2⟩ := half_mul (a / 4294967296) (b % 4294967296) (by omega) (by omega) (by omega) (by omega)
  obtain ⟨r1, r2⟩ := half_mul (a % 4294967296) (b / 4294967296) (by omega) (by omega) (by omega) (by omega)
  obtain ⟨s1, s2⟩ := half_mul (a / 4294967296) (b / 4294967296) (by omega) (by omega) (by omega) (by omega)
  go_enter Try.func122, Try.ntmps122
  go_wp2
  simp [bodyPost, results, Try.results122, go_sem]
  exact ⟨times_eqs a b ha ha' hb hb', _, rfl⟩

set_option maxHeartbeats 1000000 in
theorem less_any (a b : Int) (w : World) :
    Calls Try.prog 153 #[.agg #[.int .u64 (a / 18446744073709551616), .int .u64 (a % 18446744073709551616)], .agg #[.int .u64 (b / 18446744073709551616), .int .u64 (b % 18446744073709551616)]] w fun e w' => e = .returned (.bool (decide (a < b))) ∧ ∃ c1 c2 : Array Value, w' = (w.alloc (.cells c1 157)).alloc (.cells c2 157) := by
  have h1 : a / 18446744073709551616 < b / 18446744073709551616 ∨ (a / 18446744073709551616 = b / 18446744073709551616 ∧ a % 18446744073709551616 < b % 18446744073709551616) ↔ a < b := by omega
  generalize a / 18446744073709551616 = p at *
  generalize a % 18446744073709551616 = q at *
  generalize b / 18446744073709551616 = r at *
  generalize b % 18446744073709551616 = s at *
  by_cases c1 : p < r
  · have e : decide (a < b) = true := by simp only [decide_eq_true_eq]; exact h1.1 (Or.inl c1)
    rw [e]; clear e h1
    go_enter Try.func153, Try.ntmps153
    go_wp2
    go_ret
    exact ⟨rfl, _, _, rfl⟩
  by_cases c2 : p = r
  · subst c2
    by_cases c3 : q < s
    · have e : decide (a < b) = true := by simp only [decide_eq_true_eq]; exact h1.1 (Or.inr ⟨rfl, c3⟩)
      rw [e]; clear e h1
      go_enter Try.func153, Try.ntmps153
      go_wp2
      go_ret
      exact ⟨rfl, _, _, rfl⟩
    · have e : decide (a < b) = false := by simp only [decide_eq_false_iff_not]; intro h; have := h1.2 h; omega
      rw [e]; clear e h1
      go_enter Try.func153, Try.ntmps153
      go_wp2
      go_ret
      exact ⟨rfl, _, _, rfl⟩
  · have e : decide (a < b) = false := by simp only [decide_eq_false_iff_not]; intro h; have := h1.2 h; omega
    rw [e]; clear e h1
    go_enter Try.func153, Try.ntmps153
    go_wp2
    go_ret
    exact ⟨rfl, _, _, rfl⟩

theorem less_at (a b p q : Int) (hp : a / 18446744073709551616 = p) (hq : a % 18446744073709551616 = q) (w : World) :
    Calls Try.prog 153 #[.agg #[.int .u64 p, .int .u64 q], .agg #[.int .u64 (b / 18446744073709551616), .int .u64 (b % 18446744073709551616)]] w fun e w' => e = .returned (.bool (decide (a < b))) ∧ ∃ c1 c2 : Array Value, w' = (w.alloc (.cells c1 157)).alloc (.cells c2 157) := by
  rw [← hp, ← hq]; exact less_any a b w

set_option maxHeartbeats 1000000 in
theorem plus_any (p q b : Int) (w : World) (hp : 0 ≤ p) (hp' : p < 18446744073709551615) (hq : 0 ≤ q) (hq' : q < 18446744073709551616) (hb : 0 ≤ b) (hb' : b < 18446744073709551616) :
    Calls Try.prog 144 #[.agg #[.int .u64 p, .int .u64 q], .int .u64 b] w fun e w' => e = .returned (.agg #[.int .u64 ((p * 18446744073709551616 + q + b) / 18446744073709551616), .int .u64 ((p * 18446744073709551616 + q + b) % 18446744073709551616)]) ∧ Kp w w' := by
  by_cases c : q + b < 18446744073709551616
  · have e1 : (p * 18446744073709551616 + q + b) / 18446744073709551616 = p := by omega
    have e2 : (p * 18446744073709551616 + q + b) % 18446744073709551616 = q + b := by omega
    rw [e1, e2]; clear e1 e2
    go_enter Try.func144, Try.ntmps144
    go_wp2
    simp [bodyPost, results, Try.results144, go_sem]
    exact ((Kp.refl w).alloc _ _).alloc _ _
  · have e1 : (p * 18446744073709551616 + q + b) / 18446744073709551616 = p + 1 := by omega
    have e2 : (p * 18446744073709551616 + q + b) % 18446744073709551616 = q + b - 18446744073709551616 := by omega
    rw [e1, e2]; clear e1 e2
    have hw : IntKind.u64.wrap (q + b) = q + b - 18446744073709551616 := by rw [IntKind.wrap_u64]; omega
    go_enter Try.func144, Try.ntmps144
    go_wp2
    simp [bodyPost, results, Try.results144, go_sem]
    exact ((Kp.refl w).alloc _ _).alloc _ _
end Go.Proofs.Ytfdjjbgcaojcnaa

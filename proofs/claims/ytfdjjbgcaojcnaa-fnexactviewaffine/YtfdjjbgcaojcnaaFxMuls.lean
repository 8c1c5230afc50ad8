/-
  What the library's Mul64 and Add64 and the program's FixMul answer, for numbers within the bounds named in each theorem.
-/
import Derived.Test.YtfdjjbgcaojcnaaFxNear
import Derived.Laws.Externs
namespace Go.Proofs.Ytfdjjbgcaojcnaa
open Go.ChangeShapes Go.WideShapes Go.ChangeAt Go.RowKit

theorem and_low (a : Int) (h0 : 0 ≤ a) (h : a < 18446744073709551616) : bits .and .u64 a 4294967295 = a % 4294967296 := by
  obtain ⟨x, rfl⟩ := Int.eq_ofNat_of_zero_le h0
  have e := bits_and_u64_nat x 4294967295 (by omega) (by omega)
  have e2 : x &&& 4294967295 = x % 4294967296 := Nat.and_two_pow_sub_one_eq_mod x 32
  rw [e2] at e
  exact e

theorem mul_hi (a b : Int) (ha : 0 ≤ a) (ha' : a < 18446744073709551616) (hb : 0 ≤ b) (hb' : b < 18446744073709551616) :
    a / 4294967296 * (b / 4294967296) + (a / 4294967296 * (b % 4294967296) + a % 4294967296 * (b % 4294967296) / 4294967296) / 4294967296 +
          ((a / 4294967296 * (b % 4294967296) + a % 4294967296 * (b % 4294967296) / 4294967296) % 4294967296 + a % 4294967296 * (b / 4294967296)) / 4294967296 = a * b / 18446744073709551616 := by
  have h := (times_eqs a b ha ha' hb hb').1
  rw [← h, Int.add_comm (a % 4294967296 * (b / 4294967296))]

set_option maxHeartbeats 1000000 in
theorem mul64_any (a b : Int) (w : World) (ha : 0 ≤ a) (ha' : a < 18446744073709551616) (hb : 0 ≤ b) (hb' : b < 18446744073709551616) :
    Calls Try.prog 102 #[.int .u64 a, .int .u64 b] w fun e w' => e = .returned (.tuple #[.int .u64 (a * b / 18446744073709551616), .int .u64 (a * b % 18446744073709551616)]) ∧ w' = w := by
  obtain ⟨p1, p2⟩ := half_mul (a % 4294967296) (b % 4294967296) (by omega) (by omega) (by omega) (by omega)
  obtain ⟨q1, q2⟩ := half_mul (a / 4294967296) (b % 4294967296) (by omega) (by omega) (by omega) (by omega)
  obtain ⟨r1, r2⟩ := half_mul (a % 4294967296) (b / 4294967296) (by omega) (by omega) (by omega) (by omega)
  obtain ⟨s1, s2⟩ := half_mul (a / 4294967296) (b / 4294967296) (by omega) (by omega) (by omega) (by omega)
  have m1 := and_low a ha ha'
  have m2 := and_low b hb hb'
  have m3 := and_low (a / 4294967296 * (b % 4294967296) + a % 4294967296 * (b % 4294967296) / 4294967296) (by omega) (by omega)
  have HH : Hid _ := mul_hi a b ha ha' hb hb'
  have HL : Hid _ := IntKind.wrap_u64 (a * b)
  go_enter Try.func102, Try.ntmps102
  go_wp2
  rw [HH.out, HL.out]
  go_ret2
  exact ⟨rfl, rfl⟩

theorem add64 (x y : Int) (hx : 0 ≤ x) (hy : 0 ≤ y) (w : World) : (callFunc 104 #[.int .u64 x, .int .u64 y, .int .u64 0]).run Try.prog w =
    .ok (.value (.tuple #[.int .u64 ((x + y) % 18446744073709551616), .int .u64 ((x + y) / 18446744073709551616)])) w := by
  rw [run_callFunc_extern Try.func104 (by kernel_rfl) (by kernel_rfl) (by kernel_rfl) (e := add64Entry) (by kernel_rfl)]
  have h := run_add64 (P := Try.prog) x y 0 hx hy (by omega) (by omega) w
  rw [Int.add_zero] at h
  rw [h]
  rfl

theorem size_neg (x : Int) (w : World) (h : -1099511627776 ≤ x) (hx : x < 0) : Calls Try.prog 103 #[.int .i64 x] w fun e w' => e = .returned (.int .u64 (-x)) ∧ w' = w := by
  go_enter Try.func103, Try.ntmps103
  go_wp2
  go_ret
  exact ⟨rfl, rfl⟩
theorem size_nn (x : Int) (w : World) (hx : 0 ≤ x) (h : x ≤ 1099511627776) : Calls Try.prog 103 #[.int .i64 x] w fun e w' => e = .returned (.int .u64 x) ∧ w' = w := by
  go_enter Try.func103, Try.ntmps103
  go_wp2
  go_ret
  exact ⟨rfl, rfl⟩

/-- A product of sizes, in parts of One. -/
def posV (P : Int) : Int := min 1099511627776 ((P + 32768) / 65536)
def negV (P : Int) : Int := -(min 1099511627776 ((P + 32767) / 65536))

theorem prod_bd (x y : Int) (hx : 0 ≤ x) (hx' : x ≤ 1099511627776) (hy : 0 ≤ y) (hy' : y ≤ 1099511627776) : 0 ≤ x * y ∧ x * y ≤ 1208925819614629174706176 :=
  ⟨Int.mul_nonneg hx hy, Int.mul_le_mul hx' hy' hy (by omega)⟩

set_option maxHeartbeats 1000000 in
theorem fixMul_pp (a b : Int) (w : World) (a1 : -1099511627776 ≤ a) (a2 : a ≤ 1099511627776) (b1 : -1099511627776 ≤ b) (b2 : b ≤ 1099511627776) (ha : 0 ≤ a) (hb : 0 ≤ b) :
    Calls Try.prog 70 #[.int .i64 a, .int .i64 b] w fun e w' => e = .returned (.int .i64 (posV (a * b))) ∧ w' = w := by
  have hda : decide (a < 0) = false := by simp; omega
  have hdb : decide (b < 0) = false := by simp; omega
  obtain ⟨P, hP⟩ : ∃ P, a * b = P := ⟨_, rfl⟩
  have pb := prod_bd (a) (b) (by omega) (by omega) (by omega) (by omega)
  rw [hP] at pb ⊢
  obtain ⟨p0, p1⟩ := pb
  have HP : Hid _ := hP
  clear hP
  have k0 : 0 ≤ P % 18446744073709551616 := by omega
  have HA : Hid _ := add64 (P % 18446744073709551616) 32768 k0 (by omega)
  by_cases hT : P + 32768 < 18446744073709551616
  · have hq : (P / 18446744073709551616 + (P % 18446744073709551616 + 32768) / 18446744073709551616 == 0) = true := by rw [beq_iff_eq]; omega
    have e1 : (P % 18446744073709551616 + 32768) % 18446744073709551616 = P + 32768 := by omega
    go_enter Try.func70, Try.ntmps70
    go_wp2_with (go_at_call 99; refine (igood_yes _ _ (by omega) (by omega)).mono ?_; rintro e w' ⟨rfl, rfl⟩)
    refine (size_nn a _ ha a2).mono ?_; rintro e w' ⟨rfl, rfl⟩
    go_wp2_with fail
    refine (size_nn b _ hb b2).mono ?_; rintro e w' ⟨rfl, rfl⟩
    go_wp2_with fail
    refine (mul64_any (a) (b) _ (by omega) (by omega) (by omega) (by omega)).mono ?_; rintro e w' ⟨rfl, rfl⟩
    rw [HP.out]
    go_wp2_with (simp only [HA.out])
    all_goals go_ret
    all_goals exact ⟨ret_int (by unfold posV; omega), rfl⟩
  · have hq : (P / 18446744073709551616 + (P % 18446744073709551616 + 32768) / 18446744073709551616 == 0) = false := by rw [beq_eq_false_iff_ne]; omega
    go_enter Try.func70, Try.ntmps70
    go_wp2_with (go_at_call 99; refine (igood_yes _ _ (by omega) (by omega)).mono ?_; rintro e w' ⟨rfl, rfl⟩)
    refine (size_nn a _ ha a2).mono ?_; rintro e w' ⟨rfl, rfl⟩
    go_wp2_with fail
    refine (size_nn b _ hb b2).mono ?_; rintro e w' ⟨rfl, rfl⟩
    go_wp2_with fail
    refine (mul64_any (a) (b) _ (by omega) (by omega) (by omega) (by omega)).mono ?_; rintro e w' ⟨rfl, rfl⟩
    rw [HP.out]
    go_wp2_with (simp only [HA.out])
    all_goals go_ret
    all_goals exact ⟨ret_int (by unfold posV; omega), rfl⟩

set_option maxHeartbeats 1000000 in
theorem fixMul_nn (a b : Int) (w : World) (a1 : -1099511627776 ≤ a) (a2 : a ≤ 1099511627776) (b1 : -1099511627776 ≤ b) (b2 : b ≤ 1099511627776) (ha : a < 0) (hb : b < 0) :
    Calls Try.prog 70 #[.int .i64 a, .int .i64 b] w fun e w' => e = .returned (.int .i64 (posV (-a * -b))) ∧ w' = w := by
  have hda : decide (a < 0) = true := by simp; exact ha
  have hdb : decide (b < 0) = true := by simp; exact hb
  obtain ⟨P, hP⟩ : ∃ P, -a * -b = P := ⟨_, rfl⟩
  have pb := prod_bd (-a) (-b) (by omega) (by omega) (by omega) (by omega)
  rw [hP] at pb ⊢
  obtain ⟨p0, p1⟩ := pb
  have HP : Hid _ := hP
  clear hP
  have k0 : 0 ≤ P % 18446744073709551616 := by omega
  have HA : Hid _ := add64 (P % 18446744073709551616) 32768 k0 (by omega)
  by_cases hT : P + 32768 < 18446744073709551616
  · have hq : (P / 18446744073709551616 + (P % 18446744073709551616 + 32768) / 18446744073709551616 == 0) = true := by rw [beq_iff_eq]; omega
    have e1 : (P % 18446744073709551616 + 32768) % 18446744073709551616 = P + 32768 := by omega
    go_enter Try.func70, Try.ntmps70
    go_wp2_with (go_at_call 99; refine (igood_yes _ _ (by omega) (by omega)).mono ?_; rintro e w' ⟨rfl, rfl⟩)
    refine (size_neg a _ a1 ha).mono ?_; rintro e w' ⟨rfl, rfl⟩
    go_wp2_with fail
    refine (size_neg b _ b1 hb).mono ?_; rintro e w' ⟨rfl, rfl⟩
    go_wp2_with fail
    refine (mul64_any (-a) (-b) _ (by omega) (by omega) (by omega) (by omega)).mono ?_; rintro e w' ⟨rfl, rfl⟩
    rw [HP.out]
    go_wp2_with (simp only [HA.out])
    all_goals go_ret
    all_goals exact ⟨ret_int (by unfold posV; omega), rfl⟩
  · have hq : (P / 18446744073709551616 + (P % 18446744073709551616 + 32768) / 18446744073709551616 == 0) = false := by rw [beq_eq_false_iff_ne]; omega
    go_enter Try.func70, Try.ntmps70
    go_wp2_with (go_at_call 99; refine (igood_yes _ _ (by omega) (by omega)).mono ?_; rintro e w' ⟨rfl, rfl⟩)
    refine (size_neg a _ a1 ha).mono ?_; rintro e w' ⟨rfl, rfl⟩
    go_wp2_with fail
    refine (size_neg b _ b1 hb).mono ?_; rintro e w' ⟨rfl, rfl⟩
    go_wp2_with fail
    refine (mul64_any (-a) (-b) _ (by omega) (by omega) (by omega) (by omega)).mono ?_; rintro e w' ⟨rfl, rfl⟩
    rw [HP.out]
    go_wp2_with (simp only [HA.out])
    all_goals go_ret
    all_goals exact ⟨ret_int (by unfold posV; omega), rfl⟩

set_option maxHeartbeats 1000000 in
theorem fixMul_np (a b : Int) (w : World) (a1 : -1099511627776 ≤ a) (a2 : a ≤ 1099511627776) (b1 : -1099511627776 ≤ b) (b2 : b ≤ 1099511627776) (ha : a < 0) (hb : 0 ≤ b) :
    Calls Try.prog 70 #[.int .i64 a, .int .i64 b] w fun e w' => e = .returned (.int .i64 (negV (-a * b))) ∧ w' = w := by
  have hda : decide (a < 0) = true := by simp; exact ha
  have hdb : decide (b < 0) = false := by simp; omega
  obtain ⟨P, hP⟩ : ∃ P, -a * b = P := ⟨_, rfl⟩
  have pb := prod_bd (-a) (b) (by omega) (by omega) (by omega) (by omega)
  rw [hP] at pb ⊢
  obtain ⟨p0, p1⟩ := pb
  have HP : Hid _ := hP
  clear hP
  have k0 : 0 ≤ P % 18446744073709551616 := by omega
  have HA : Hid _ := add64 (P % 18446744073709551616) 32767 k0 (by omega)
  by_cases hT : P + 32767 < 18446744073709551616
  · have hq : (P / 18446744073709551616 + (P % 18446744073709551616 + 32767) / 18446744073709551616 == 0) = true := by rw [beq_iff_eq]; omega
    have e1 : (P % 18446744073709551616 + 32767) % 18446744073709551616 = P + 32767 := by omega
    go_enter Try.func70, Try.ntmps70
    go_wp2_with (go_at_call 99; refine (igood_yes _ _ (by omega) (by omega)).mono ?_; rintro e w' ⟨rfl, rfl⟩)
    refine (size_neg a _ a1 ha).mono ?_; rintro e w' ⟨rfl, rfl⟩
    go_wp2_with fail
    refine (size_nn b _ hb b2).mono ?_; rintro e w' ⟨rfl, rfl⟩
    go_wp2_with fail
    refine (mul64_any (-a) (b) _ (by omega) (by omega) (by omega) (by omega)).mono ?_; rintro e w' ⟨rfl, rfl⟩
    rw [HP.out]
    go_wp2_with (simp only [HA.out])
    all_goals go_ret
    all_goals exact ⟨ret_int (by unfold negV; omega), rfl⟩
  · have hq : (P / 18446744073709551616 + (P % 18446744073709551616 + 32767) / 18446744073709551616 == 0) = false := by rw [beq_eq_false_iff_ne]; omega
    go_enter Try.func70, Try.ntmps70
    go_wp2_with (go_at_call 99; refine (igood_yes _ _ (by omega) (by omega)).mono ?_; rintro e w' ⟨rfl, rfl⟩)
    refine (size_neg a _ a1 ha).mono ?_; rintro e w' ⟨rfl, rfl⟩
    go_wp2_with fail
    refine (size_nn b _ hb b2).mono ?_; rintro e w' ⟨rfl, rfl⟩
    go_wp2_with fail
    refine (mul64_any (-a) (b) _ (by omega) (by omega) (by omega) (by omega)).mono ?_; rintro e w' ⟨rfl, rfl⟩
    rw [HP.out]
    go_wp2_with (simp only [HA.out])
    all_goals go_ret
    all_goals exact ⟨ret_int (by unfold negV; omega), rfl⟩

set_option maxHeartbeats 1000000 in
theorem fixMul_pn (a b : Int) (w : World) (a1 : -1099511627776 ≤ a) (a2 : a ≤ 1099511627776) (b1 : -1099511627776 ≤ b) (b2 : b ≤ 1099511627776) (ha : 0 ≤ a) (hb : b < 0) :
    Calls Try.prog 70 #[.int .i64 a, .int .i64 b] w fun e w' => e = .returned (.int .i64 (negV (a * -b))) ∧ w' = w := by
  have hda : decide (a < 0) = false := by simp; omega
  have hdb : decide (b < 0) = true := by simp; exact hb
  obtain ⟨P, hP⟩ : ∃ P, a * -b = P := ⟨_, rfl⟩
  have pb := prod_bd (a) (-b) (by omega) (by omega) (by omega) (by omega)
  rw [hP] at pb ⊢
  obtain ⟨p0, p1⟩ := pb
  have HP : Hid _ := hP
  clear hP
  have k0 : 0 ≤ P % 18446744073709551616 := by omega
  have HA : Hid _ := add64 (P % 18446744073709551616) 32767 k0 (by omega)
  by_cases hT : P + 32767 < 18446744073709551616
  · have hq : (P / 18446744073709551616 + (P % 18446744073709551616 + 32767) / 18446744073709551616 == 0) = true := by rw [beq_iff_eq]; omega
    have e1 : (P % 18446744073709551616 + 32767) % 18446744073709551616 = P + 32767 := by omega
    go_enter Try.func70, Try.ntmps70
    go_wp2_with (go_at_call 99; refine (igood_yes _ _ (by omega) (by omega)).mono ?_; rintro e w' ⟨rfl, rfl⟩)
    refine (size_nn a _ ha a2).mono ?_; rintro e w' ⟨rfl, rfl⟩
    go_wp2_with fail
    refine (size_neg b _ b1 hb).mono ?_; rintro e w' ⟨rfl, rfl⟩
    go_wp2_with fail
    refine (mul64_any (a) (-b) _ (by omega) (by omega) (by omega) (by omega)).mono ?_; rintro e w' ⟨rfl, rfl⟩
    rw [HP.out]
    go_wp2_with (simp only [HA.out])
    all_goals go_ret
    all_goals exact ⟨ret_int (by unfold negV; omega), rfl⟩
  · have hq : (P / 18446744073709551616 + (P % 18446744073709551616 + 32767) / 18446744073709551616 == 0) = false := by rw [beq_eq_false_iff_ne]; omega
    go_enter Try.func70, Try.ntmps70
    go_wp2_with (go_at_call 99; refine (igood_yes _ _ (by omega) (by omega)).mono ?_; rintro e w' ⟨rfl, rfl⟩)
    refine (size_nn a _ ha a2).mono ?_; rintro e w' ⟨rfl, rfl⟩
    go_wp2_with fail
    refine (size_neg b _ b1 hb).mono ?_; rintro e w' ⟨rfl, rfl⟩
    go_wp2_with fail
    refine (mul64_any (a) (-b) _ (by omega) (by omega) (by omega) (by omega)).mono ?_; rintro e w' ⟨rfl, rfl⟩
    rw [HP.out]
    go_wp2_with (simp only [HA.out])
    all_goals go_ret
    all_goals exact ⟨ret_int (by unfold negV; omega), rfl⟩
end Go.Proofs.Ytfdjjbgcaojcnaa

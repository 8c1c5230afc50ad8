/-
  What the library's Mul64 and Add64 and the program's FixMul answer, for numbers within the bounds named in each theorem.
  The law on FixMul returns true at every pair of ints, and its arguments read afterwards as they read before; there is no further condition.
  The specification's product of two transforms; no condition.
  Whether a number lies between two others, by the specification; no condition.
-/
import Derived.Test.YtpfhnedklihdoaaGreatDoorJAK
import Derived.Laws.Externs
import Derived.Test.YtpfhnedklihdoaaGreatDoorJAA
import Derived.Deep.RegionHeld3
namespace Go.Proofs.YtpfhnedklihdoaaGreatDoor
open Go.ChangeShapes Go.WideShapes Go.ChangeAt Go.RowKit

theorem and_low (a : Int) (h0 : 0 ≤ a) (h : a < 18446744073709551616) : bits .and .u64 a 4294967295 = a % 4294967296 := by
  obtain ⟨x, rfl⟩ := Int.eq_ofNat_of_zero_le h0
  have e := bits_and_u64_nat x 4294967295 (by omega) (by omega)
  have e2 : x &&& 4294967295 = x % 4294967296 := Nat.and_two_pow_sub_one_eq_mod x 32
  rw [e2] at e
  exact e

theorem mul_hi (a b : Int) (ha : 0 ≤ a) (ha' : a < 18446744073709551616) (hb : 0 ≤ b) (hb' : b < 18446744073709551616) :
    a / 4294967296 * (b / 4294967296) + (a / 4294967296 * (b % 4294967296) + a % 4294967296 * (b % 4294967296) / 4294967296) / 4294967296 +
          ((a / 4294967296 * (b % 4294967296) + a % 4294967296 * (b % 4294967296) / 4294967296) % 4294967296 + a % 4294967296 * (b / 4294967296)) / 4294967296 = a * b / 18446744073709551616 := by
  have h := (times_eqs a b ha ha' hb hb').1
  rw [← h, Int.add_comm (a % 4294967296 * (b / 4294967296))]

set_option maxHeartbeats 1000000 in
theorem mul64_any (a b : Int) (w : World) (ha : 0 ≤ a) (ha' : a < 18446744073709551616) (hb : 0 ≤ b) (hb' : b < 18446744073709551616) :
    Calls Tryz.prog 28 #[.int .u64 a, .int .u64 b] w fun e w' => e = .returned (.tuple #[.int .u64 (a * b / 18446744073709551616), .int .u64 (a * b % 18446744073709551616)]) ∧ w' = w := by
  obtain ⟨p1, p2⟩ := half_mul (a % 4294967296) (b % 4294967296) (by omega) (by omega) (by omega) (by omega)
  obtain ⟨q1, q2⟩ := half_mul (a / 4294967296) (b % 4294967296) (by omega) (by omega) (by omega) (by omega)
  obtain ⟨r1, r2⟩ := half_mul (a % 4294967296) (b / 4294967296) (by omega) (by omega) (by omega) (by omega)
  obtain ⟨s1, s2⟩ := half_mul (a / 4294967296) (b / 4294967296) (by omega) (by omega) (by omega) (by omega)
  have m1 := and_low a ha ha'
  have m2 := and_low b hb hb'
  have m3 := and_low (a / 4294967296 * (b % 4294967296) + a % 4294967296 * (b % 4294967296) / 4294967296) (by omega) (by omega)
  have HH : Hid _ := mul_hi a b ha ha' hb hb'
  have HL : Hid _ := IntKind.wrap_u64 (a * b)
  go_enter Tryz.func28, Tryz.ntmps28
  go_wp2
  rw [HH.out, HL.out]
  go_ret2
  exact ⟨rfl, rfl⟩

theorem add64 (x y : Int) (hx : 0 ≤ x) (hy : 0 ≤ y) (w : World) : (callFunc 30 #[.int .u64 x, .int .u64 y, .int .u64 0]).run Tryz.prog w =
    .ok (.value (.tuple #[.int .u64 ((x + y) % 18446744073709551616), .int .u64 ((x + y) / 18446744073709551616)])) w := by
  rw [run_callFunc_extern Tryz.func30 (by kernel_rfl) (by kernel_rfl) (by kernel_rfl) (e := add64Entry) (by kernel_rfl)]
  have h := run_add64 (P := Tryz.prog) x y 0 hx hy (by omega) (by omega) w
  rw [Int.add_zero] at h
  rw [h]
  rfl

theorem size_neg (x : Int) (w : World) (h : -1099511627776 ≤ x) (hx : x < 0) : Calls Tryz.prog 29 #[.int .i64 x] w fun e w' => e = .returned (.int .u64 (-x)) ∧ w' = w := by
  go_enter Tryz.func29, Tryz.ntmps29
  go_wp2
  go_ret
  exact ⟨rfl, rfl⟩
theorem size_nn (x : Int) (w : World) (hx : 0 ≤ x) (h : x ≤ 1099511627776) : Calls Tryz.prog 29 #[.int .i64 x] w fun e w' => e = .returned (.int .u64 x) ∧ w' = w := by
  go_enter Tryz.func29, Tryz.ntmps29
  go_wp2
  go_ret
  exact ⟨rfl, rfl⟩

/-- A product of sizes, in parts of One. -/
def posV (P : Int) : Int := min 1099511627776 ((P + 32768) / 65536)
def negV (P : Int) : Int := -(min 1099511627776 ((P + 32767) / 65536))

theorem prod_bd (x y : Int) (hx : 0 ≤ x) (hx' : x ≤ 1099511627776) (hy : 0 ≤ y) (hy' : y ≤ 1099511627776) : 0 ≤ x * y ∧ x * y ≤ 1208925819614629174706176 :=
  ⟨Int.mul_nonneg hx hy, Int.mul_le_mul hx' hy' hy (by omega)⟩

set_option maxHeartbeats 1000000 in
theorem fixMul_pp (a b : Int) (w : World) (a1 : -1099511627776 ≤ a) (a2 : a ≤ 1099511627776) (b1 : -1099511627776 ≤ b) (b2 : b ≤ 1099511627776) (ha : 0 ≤ a) (hb : 0 ≤ b) :
    Calls Tryz.prog 14 #[.int .i64 a, .int .i64 b] w fun e w' => e = .returned (.int .i64 (posV (a * b))) ∧ w' = w := by
  have hda : decide (a < 0) = false := by simp; omega
  have hdb : decide (b < 0) = false := by simp; omega
  obtain ⟨P, hP⟩ : ∃ P, a * b = P := ⟨_, rfl⟩
  have pb := prod_bd (a) (b) (by omega) (by omega) (by omega) (by omega)
  rw [hP] at pb ⊢
  obtain ⟨p0, p1⟩ := pb
  have HP : Hid _ := hP
  clear hP
  have k0 : 0 ≤ P % 18446744073709551616 := by omega
  have HA : Hid _ := add64 (P % 18446744073709551616) 32768 k0 (by omega)
  by_cases hT : P + 32768 < 18446744073709551616
  · have hq : (P / 18446744073709551616 + (P % 18446744073709551616 + 32768) / 18446744073709551616 == 0) = true := by rw [beq_iff_eq]; omega
    have e1 : (P % 18446744073709551616 + 32768) % 18446744073709551616 = P + 32768 := by omega
    go_enter Tryz.func14, Tryz.ntmps14
    go_wp2_with (go_at_call 27; refine (igoodQ_yes _ _ (by omega) (by omega)).mono ?_; rintro e w' ⟨rfl, rfl⟩)
    refine (size_nn a _ ha a2).mono ?_; rintro e w' ⟨rfl, rfl⟩
    go_wp2_with fail
    refine (size_nn b _ hb b2).mono ?_; rintro e w' ⟨rfl, rfl⟩
    go_wp2_with fail
    refine (mul64_any (a) (b) _ (by omega) (by omega) (by omega) (by omega)).mono ?_; rintro e w' ⟨rfl, rfl⟩
    rw [HP.out]
    go_wp2_with (simp only [HA.out])
    all_goals go_ret
    all_goals exact ⟨ret_int (by unfold posV; omega), rfl⟩
  · have hq : (P / 18446744073709551616 + (P % 18446744073709551616 + 32768) / 18446744073709551616 == 0) = false := by rw [beq_eq_false_iff_ne]; omega
    go_enter Tryz.func14, Tryz.ntmps14
    go_wp2_with (go_at_call 27; refine (igoodQ_yes _ _ (by omega) (by omega)).mono ?_; rintro e w' ⟨rfl, rfl⟩)
    refine (size_nn a _ ha a2).mono ?_; rintro e w' ⟨rfl, rfl⟩
    go_wp2_with fail
    refine (size_nn b _ hb b2).mono ?_; rintro e w' ⟨rfl, rfl⟩
    go_wp2_with fail
    refine (mul64_any (a) (b) _ (by omega) (by omega) (by omega) (by omega)).mono ?_; rintro e w' ⟨rfl, rfl⟩
    rw [HP.out]
    go_wp2_with (simp only [HA.out])
    all_goals go_ret
    all_goals exact ⟨ret_int (by unfold posV; omega), rfl⟩

set_option maxHeartbeats 1000000 in
theorem fixMul_nn (a b : Int) (w : World) (a1 : -1099511627776 ≤ a) (a2 : a ≤ 1099511627776) (b1 : -1099511627776 ≤ b) (b2 : b ≤ 1099511627776) (ha : a < 0) (hb : b < 0) :
    Calls Tryz.prog 14 #[.int .i64 a, .int .i64 b] w fun e w' => e = .returned (.int .i64 (posV (-a * -b))) ∧ w' = w := by
  have hda : decide (a < 0) = true := by simp; exact ha
  have hdb : decide (b < 0) = true := by simp; exact hb
  obtain ⟨P, hP⟩ : ∃ P, -a * -b = P := ⟨_, rfl⟩
  have pb := prod_bd (-a) (-b) (by omega) (by omega) (by omega) (by omega)
  rw [hP] at pb ⊢
  obtain ⟨p0, p1⟩ := pb
  have HP : Hid _ := hP
  clear hP
  have k0 : 0 ≤ P % 18446744073709551616 := by omega
  have HA : Hid _ := add64 (P % 18446744073709551616) 32768 k0 (by omega)
  by_cases hT : P + 32768 < 18446744073709551616
  · have hq : (P / 18446744073709551616 + (P % 18446744073709551616 + 32768) / 18446744073709551616 == 0) = true := by rw [beq_iff_eq]; omega
    have e1 : (P % 18446744073709551616 + 32768) % 18446744073709551616 = P + 32768 := by omega
    go_enter Tryz.func14, Tryz.ntmps14
    go_wp2_with (go_at_call 27; refine (igoodQ_yes _ _ (by omega) (by omega)).mono ?_; rintro e w' ⟨rfl, rfl⟩)
    refine (size_neg a _ a1 ha).mono ?_; rintro e w' ⟨rfl, rfl⟩
    go_wp2_with fail
    refine (size_neg b _ b1 hb).mono ?_; rintro e w' ⟨rfl, rfl⟩
    go_wp2_with fail
    refine (mul64_any (-a) (-b) _ (by omega) (by omega) (by omega) (by omega)).mono ?_; rintro e w' ⟨rfl, rfl⟩
    rw [HP.out]
    go_wp2_with (simp only [HA.out])
    all_goals go_ret
    all_goals exact ⟨ret_int (by unfold posV; omega), rfl⟩
  · have hq : (P / 18446744073709551616 + (P % 18446744073709551616 + 32768) / 18446744073709551616 == 0) = false := by rw [beq_eq_false_iff_ne]; omega
    go_enter Tryz.func14, Tryz.ntmps14
    go_wp2_with (go_at_call 27; refine (igoodQ_yes _ _ (by omega) (by omega)).mono ?_; rintro e w' ⟨rfl, rfl⟩)
    refine (size_neg a _ a1 ha).mono ?_; rintro e w' ⟨rfl, rfl⟩
    go_wp2_with fail
    refine (size_neg b _ b1 hb).mono ?_; rintro e w' ⟨rfl, rfl⟩
    go_wp2_with fail
    refine (mul64_any (-a) (-b) _ (by omega) (by omega) (by omega) (by omega)).mono ?_; rintro e w' ⟨rfl, rfl⟩
    rw [HP.out]
    go_wp2_with (simp only [HA.out])
    all_goals go_ret
    all_goals exact ⟨ret_int (by unfold posV; omega), rfl⟩

set_option maxHeartbeats 1000000 in
theorem fixMul_np (a b : Int) (w : World) (a1 : -1099511627776 ≤ a) (a2 : a ≤ 1099511627776) (b1 : -1099511627776 ≤ b) (b2 : b ≤ 1099511627776) (ha : a < 0) (hb : 0 ≤ b) :
    Calls Tryz.prog 14 #[.int .i64 a, .int .i64 b] w fun e w' => e = .returned (.int .i64 (negV (-a * b))) ∧ w' = w := by
  have hda : decide (a < 0) = true := by simp; exact ha
  have hdb : decide (b < 0) = false := by simp; omega
  obtain ⟨P, hP⟩ : ∃ P, -a * b = P := ⟨_, rfl⟩
  have pb := prod_bd (-a) (b) (by omega) (by omega) (by omega) (by omega)
  rw [hP] at pb ⊢
  obtain ⟨p0, p1⟩ := pb
  have HP : Hid _ := hP
  clear hP
  have k0 : 0 ≤ P % 18446744073709551616 := by omega
  have HA : Hid _ := add64 (P % 18446744073709551616) 32767 k0 (by omega)
  by_cases hT : P + 32767 < 18446744073709551616
  · have hq : (P / 18446744073709551616 + (P % 18446744073709551616 + 32767) / 18446744073709551616 == 0) = true := by rw [beq_iff_eq]; omega
    have e1 : (P % 18446744073709551616 + 32767) % 18446744073709551616 = P + 32767 := by omega
    go_enter Tryz.func14, Tryz.ntmps14
    go_wp2_with (go_at_call 27; refine (igoodQ_yes _ _ (by omega) (by omega)).mono ?_; rintro e w' ⟨rfl, rfl⟩)
    refine (size_neg a _ a1 ha).mono ?_; rintro e w' ⟨rfl, rfl⟩
    go_wp2_with fail
    refine (size_nn b _ hb b2).mono ?_; rintro e w' ⟨rfl, rfl⟩
    go_wp2_with fail
    refine (mul64_any (-a) (b) _ (by omega) (by omega) (by omega) (by omega)).mono ?_; rintro e w' ⟨rfl, rfl⟩
    rw [HP.out]
    go_wp2_with (simp only [HA.out])
    all_goals go_ret
    all_goals exact ⟨ret_int (by unfold negV; omega), rfl⟩
  · have hq : (P / 18446744073709551616 + (P % 18446744073709551616 + 32767) / 18446744073709551616 == 0) = false := by rw [beq_eq_false_iff_ne]; omega
    go_enter Tryz.func14, Tryz.ntmps14
    go_wp2_with (go_at_call 27; refine (igoodQ_yes _ _ (by omega) (by omega)).mono ?_; rintro e w' ⟨rfl, rfl⟩)
    refine (size_neg a _ a1 ha).mono ?_; rintro e w' ⟨rfl, rfl⟩
    go_wp2_with fail
    refine (size_nn b _ hb b2).mono ?_; rintro e w' ⟨rfl, rfl⟩
    go_wp2_with fail
    refine (mul64_any (-a) (b) _ (by omega) (by omega) (by omega) (by omega)).mono ?_; rintro e w' ⟨rfl, rfl⟩
    rw [HP.out]
    go_wp2_with (simp only [HA.out])
    all_goals go_ret
    all_goals exact ⟨ret_int (by unfold negV; omega), rfl⟩

set_option maxHeartbeats 1000000 in
theorem fixMul_pn (a b : Int) (w : World) (a1 : -1099511627776 ≤ a) (a2 : a ≤ 1099511627776) (b1 : -1099511627776 ≤ b) (b2 : b ≤ 1099511627776) (ha : 0 ≤ a) (hb : b < 0) :
    Calls Tryz.prog 14 #[.int .i64 a, .int .i64 b] w fun e w' => e = .returned (.int .i64 (negV (a * -b))) ∧ w' = w := by
  have hda : decide (a < 0) = false := by simp; omega
  have hdb : decide (b < 0) = true := by simp; exact hb
  obtain ⟨P, hP⟩ : ∃ P, a * -b = P := ⟨_, rfl⟩
  have pb := prod_bd (a) (-b) (by omega) (by omega) (by omega) (by omega)
  rw [hP] at pb ⊢
  obtain ⟨p0, p1⟩ := pb
  have HP : Hid _ := hP
  clear hP
  have k0 : 0 ≤ P % 18446744073709551616 := by omega
  have HA : Hid _ := add64 (P % 18446744073709551616) 32767 k0 (by omega)
  by_cases hT : P + 32767 < 18446744073709551616
  · have hq : (P / 18446744073709551616 + (P % 18446744073709551616 + 32767) / 18446744073709551616 == 0) = true := by rw [beq_iff_eq]; omega
    have e1 : (P % 18446744073709551616 + 32767) % 18446744073709551616 = P + 32767 := by omega
    go_enter Tryz.func14, Tryz.ntmps14
    go_wp2_with (go_at_call 27; refine (igoodQ_yes _ _ (by omega) (by omega)).mono ?_; rintro e w' ⟨rfl, rfl⟩)
    refine (size_nn a _ ha a2).mono ?_; rintro e w' ⟨rfl, rfl⟩
    go_wp2_with fail
    refine (size_neg b _ b1 hb).mono ?_; rintro e w' ⟨rfl, rfl⟩
    go_wp2_with fail
    refine (mul64_any (a) (-b) _ (by omega) (by omega) (by omega) (by omega)).mono ?_; rintro e w' ⟨rfl, rfl⟩
    rw [HP.out]
    go_wp2_with (simp only [HA.out])
    all_goals go_ret
    all_goals exact ⟨ret_int (by unfold negV; omega), rfl⟩
  · have hq : (P / 18446744073709551616 + (P % 18446744073709551616 + 32767) / 18446744073709551616 == 0) = false := by rw [beq_eq_false_iff_ne]; omega
    go_enter Tryz.func14, Tryz.ntmps14
    go_wp2_with (go_at_call 27; refine (igoodQ_yes _ _ (by omega) (by omega)).mono ?_; rintro e w' ⟨rfl, rfl⟩)
    refine (size_nn a _ ha a2).mono ?_; rintro e w' ⟨rfl, rfl⟩
    go_wp2_with fail
    refine (size_neg b _ b1 hb).mono ?_; rintro e w' ⟨rfl, rfl⟩
    go_wp2_with fail
    refine (mul64_any (a) (-b) _ (by omega) (by omega) (by omega) (by omega)).mono ?_; rintro e w' ⟨rfl, rfl⟩
    rw [HP.out]
    go_wp2_with (simp only [HA.out])
    all_goals go_ret
    all_goals exact ⟨ret_int (by unfold negV; omega), rfl⟩
end Go.Proofs.YtpfhnedklihdoaaGreatDoor
namespace Go.Proofs.YtpfhnedklihdoaaGreatDoor
open Go.ChangeShapes Go.WideShapes Go.ChangeAt Go.RowKit

set_option maxHeartbeats 1000000 in
theorem sfixMul_pp (a b : Int) (w : World) (a1 : -1099511627776 ≤ a) (a2 : a ≤ 1099511627776) (b1 : -1099511627776 ≤ b) (b2 : b ≤ 1099511627776) (ha : 0 ≤ a) (hb : 0 ≤ b) :
    Calls Tryz.prog 31 #[.int .i64 a, .int .i64 b] w fun e w' => e = .returned (.int .i64 (posV (a * b))) ∧ Kp w w' := by
  have hda : decide (a < 0) = false := by simp; omega
  have hdb : decide (b < 0) = false := by simp; omega
  obtain ⟨P, hP⟩ : ∃ P, a * b = P := ⟨_, rfl⟩
  have pb := prod_bd (a) (b) (by omega) (by omega) (by omega) (by omega)
  rw [hP] at pb ⊢
  obtain ⟨p0, p1⟩ := pb
  have HP : Hid _ := hP
  clear hP
  go_enter Tryz.func31, Tryz.ntmps31
  go_wp2_with (go_at_call 45; refine (sgoodQ_yes _ _ (by omega) (by omega)).mono ?_; rintro e w' ⟨rfl, rfl⟩)
  refine (abs_nn a _ ha).mono ?_; rintro e w' ⟨rfl, rfl⟩
  go_wp2_with fail
  refine (abs_nn b _ hb).mono ?_; rintro e w' ⟨rfl, rfl⟩
  go_wp2_with fail
  refine (times_any (a) (b) _ (by omega) (by omega) (by omega) (by omega)).mono ?_; rintro e w' ⟨rfl, c1, rfl⟩
  rw [HP.out]
  go_wp2_with fail
  refine (near_pos P 65536 _ (by omega) (by omega) (by omega) (by omega)).mono ?_
  rintro e w1 ⟨r, rfl, r0, r1, r2, r3, hk⟩
  have HR : Hid (cutM r = posV P) := by show _ = _; unfold cutM posV; omega
  have HK : Hid _ := hk
  clear r2 r3 hk
  go_wp2
  go_ret
  exact ⟨ret_int HR.out, ((Kp.refl _).alloc _ _).trans HK.out⟩

set_option maxHeartbeats 1000000 in
theorem sfixMul_nn (a b : Int) (w : World) (a1 : -1099511627776 ≤ a) (a2 : a ≤ 1099511627776) (b1 : -1099511627776 ≤ b) (b2 : b ≤ 1099511627776) (ha : a < 0) (hb : b < 0) :
    Calls Tryz.prog 31 #[.int .i64 a, .int .i64 b] w fun e w' => e = .returned (.int .i64 (posV (-a * -b))) ∧ Kp w w' := by
  have hda : decide (a < 0) = true := by simp; exact ha
  have hdb : decide (b < 0) = true := by simp; exact hb
  obtain ⟨P, hP⟩ : ∃ P, -a * -b = P := ⟨_, rfl⟩
  have pb := prod_bd (-a) (-b) (by omega) (by omega) (by omega) (by omega)
  rw [hP] at pb ⊢
  obtain ⟨p0, p1⟩ := pb
  have HP : Hid _ := hP
  clear hP
  go_enter Tryz.func31, Tryz.ntmps31
  go_wp2_with (go_at_call 45; refine (sgoodQ_yes _ _ (by omega) (by omega)).mono ?_; rintro e w' ⟨rfl, rfl⟩)
  refine (abs_neg a _ (by omega) ha).mono ?_; rintro e w' ⟨rfl, rfl⟩
  go_wp2_with fail
  refine (abs_neg b _ (by omega) hb).mono ?_; rintro e w' ⟨rfl, rfl⟩
  go_wp2_with fail
  refine (times_any (-a) (-b) _ (by omega) (by omega) (by omega) (by omega)).mono ?_; rintro e w' ⟨rfl, c1, rfl⟩
  rw [HP.out]
  go_wp2_with fail
  refine (near_pos P 65536 _ (by omega) (by omega) (by omega) (by omega)).mono ?_
  rintro e w1 ⟨r, rfl, r0, r1, r2, r3, hk⟩
  have HR : Hid (cutM r = posV P) := by show _ = _; unfold cutM posV; omega
  have HK : Hid _ := hk
  clear r2 r3 hk
  go_wp2
  go_ret
  exact ⟨ret_int HR.out, ((Kp.refl _).alloc _ _).trans HK.out⟩

set_option maxHeartbeats 1000000 in
theorem sfixMul_np (a b : Int) (w : World) (a1 : -1099511627776 ≤ a) (a2 : a ≤ 1099511627776) (b1 : -1099511627776 ≤ b) (b2 : b ≤ 1099511627776) (ha : a < 0) (hb : 0 ≤ b) :
    Calls Tryz.prog 31 #[.int .i64 a, .int .i64 b] w fun e w' => e = .returned (.int .i64 (negV (-a * b))) ∧ Kp w w' := by
  have hda : decide (a < 0) = true := by simp; exact ha
  have hdb : decide (b < 0) = false := by simp; omega
  obtain ⟨P, hP⟩ : ∃ P, -a * b = P := ⟨_, rfl⟩
  have pb := prod_bd (-a) (b) (by omega) (by omega) (by omega) (by omega)
  rw [hP] at pb ⊢
  obtain ⟨p0, p1⟩ := pb
  have HP : Hid _ := hP
  clear hP
  go_enter Tryz.func31, Tryz.ntmps31
  go_wp2_with (go_at_call 45; refine (sgoodQ_yes _ _ (by omega) (by omega)).mono ?_; rintro e w' ⟨rfl, rfl⟩)
  refine (abs_neg a _ (by omega) ha).mono ?_; rintro e w' ⟨rfl, rfl⟩
  go_wp2_with fail
  refine (abs_nn b _ hb).mono ?_; rintro e w' ⟨rfl, rfl⟩
  go_wp2_with fail
  refine (times_any (-a) (b) _ (by omega) (by omega) (by omega) (by omega)).mono ?_; rintro e w' ⟨rfl, c1, rfl⟩
  rw [HP.out]
  go_wp2_with fail
  refine (near_neg P 65536 _ (by omega) (by omega) (by omega) (by omega)).mono ?_
  rintro e w1 ⟨r, rfl, r0, r1, r2, r3, hk⟩
  have HR : Hid (cutM (-r) = negV P) := by show _ = _; unfold cutM negV; omega
  have HK : Hid _ := hk
  clear r2 r3 hk
  go_wp2
  go_ret
  exact ⟨ret_int HR.out, ((Kp.refl _).alloc _ _).trans HK.out⟩

set_option maxHeartbeats 1000000 in
theorem sfixMul_pn (a b : Int) (w : World) (a1 : -1099511627776 ≤ a) (a2 : a ≤ 1099511627776) (b1 : -1099511627776 ≤ b) (b2 : b ≤ 1099511627776) (ha : 0 ≤ a) (hb : b < 0) :
    Calls Tryz.prog 31 #[.int .i64 a, .int .i64 b] w fun e w' => e = .returned (.int .i64 (negV (a * -b))) ∧ Kp w w' := by
  have hda : decide (a < 0) = false := by simp; omega
  have hdb : decide (b < 0) = true := by simp; exact hb
  obtain ⟨P, hP⟩ : ∃ P, a * -b = P := ⟨_, rfl⟩
  have pb := prod_bd (a) (-b) (by omega) (by omega) (by omega) (by omega)
  rw [hP] at pb ⊢
  obtain ⟨p0, p1⟩ := pb
  have HP : Hid _ := hP
  clear hP
  go_enter Tryz.func31, Tryz.ntmps31
  go_wp2_with (go_at_call 45; refine (sgoodQ_yes _ _ (by omega) (by omega)).mono ?_; rintro e w' ⟨rfl, rfl⟩)
  refine (abs_nn a _ ha).mono ?_; rintro e w' ⟨rfl, rfl⟩
  go_wp2_with fail
  refine (abs_neg b _ (by omega) hb).mono ?_; rintro e w' ⟨rfl, rfl⟩
  go_wp2_with fail
  refine (times_any (a) (-b) _ (by omega) (by omega) (by omega) (by omega)).mono ?_; rintro e w' ⟨rfl, c1, rfl⟩
  rw [HP.out]
  go_wp2_with fail
  refine (near_neg P 65536 _ (by omega) (by omega) (by omega) (by omega)).mono ?_
  rintro e w1 ⟨r, rfl, r0, r1, r2, r3, hk⟩
  have HR : Hid (cutM (-r) = negV P) := by show _ = _; unfold cutM negV; omega
  have HK : Hid _ := hk
  clear r2 r3 hk
  go_wp2
  go_ret
  exact ⟨ret_int HR.out, ((Kp.refl _).alloc _ _).trans HK.out⟩

theorem sfixMul_no (a b : Int) (w : World) (h : ¬ (-1099511627776 ≤ a ∧ a ≤ 1099511627776)) :
    Calls Tryz.prog 31 #[.int .i64 a, .int .i64 b] w fun e w' => e = .returned (.int .i64 0) ∧ w' = w := by
  have H : Hid _ := h
  clear h
  go_enter Tryz.func31, Tryz.ntmps31
  go_wp2_with (go_at_call 45; refine (sgoodQ_no a _ H.out).mono ?_; rintro e w' ⟨rfl, rfl⟩)
  go_ret
  exact ⟨rfl, rfl⟩
theorem sfixMul_no2 (a b : Int) (w : World) (a1 : -1099511627776 ≤ a) (a2 : a ≤ 1099511627776) (h : ¬ (-1099511627776 ≤ b ∧ b ≤ 1099511627776)) :
    Calls Tryz.prog 31 #[.int .i64 a, .int .i64 b] w fun e w' => e = .returned (.int .i64 0) ∧ w' = w := by
  have H : Hid _ := h
  clear h
  go_enter Tryz.func31, Tryz.ntmps31
  go_wp2_with fail
  refine (sgoodQ_yes a _ a1 a2).mono ?_; rintro e w' ⟨rfl, rfl⟩
  go_wp2_with fail
  refine (sgoodQ_no b _ H.out).mono ?_; rintro e w' ⟨rfl, rfl⟩
  go_wp2
  go_ret
  exact ⟨rfl, rfl⟩

theorem fixMul_no (a b : Int) (w : World) (h : ¬ (-1099511627776 ≤ a ∧ a ≤ 1099511627776)) :
    Calls Tryz.prog 14 #[.int .i64 a, .int .i64 b] w fun e w' => e = .returned (.int .i64 0) ∧ w' = w := by
  have H : Hid _ := h
  clear h
  go_enter Tryz.func14, Tryz.ntmps14
  go_wp2_with (go_at_call 27; refine (igoodQ_no a _ H.out).mono ?_; rintro e w' ⟨rfl, rfl⟩)
  go_ret
  exact ⟨rfl, rfl⟩
theorem fixMul_no2 (a b : Int) (w : World) (a1 : -1099511627776 ≤ a) (a2 : a ≤ 1099511627776) (h : ¬ (-1099511627776 ≤ b ∧ b ≤ 1099511627776)) :
    Calls Tryz.prog 14 #[.int .i64 a, .int .i64 b] w fun e w' => e = .returned (.int .i64 0) ∧ w' = w := by
  have H : Hid _ := h
  clear h
  go_enter Tryz.func14, Tryz.ntmps14
  go_wp2_with fail
  refine (igoodQ_yes a _ a1 a2).mono ?_; rintro e w' ⟨rfl, rfl⟩
  go_wp2_with fail
  refine (igoodQ_no b _ H.out).mono ?_; rintro e w' ⟨rfl, rfl⟩
  go_wp2
  go_ret
  exact ⟨rfl, rfl⟩

/-- Both at once: one value. -/
theorem fixMul_both (a b : Int) : ∃ v : Int, (∀ w, Calls Tryz.prog 31 #[.int .i64 a, .int .i64 b] w fun e w' => e = .returned (.int .i64 v) ∧ Kp w w') ∧ (∀ w, Calls Tryz.prog 14 #[.int .i64 a, .int .i64 b] w fun e w' => e = .returned (.int .i64 v) ∧ w' = w) := by
  by_cases ha : -1099511627776 ≤ a ∧ a ≤ 1099511627776
  · by_cases hb : -1099511627776 ≤ b ∧ b ≤ 1099511627776
    · obtain ⟨a1, a2⟩ := ha
      obtain ⟨b1, b2⟩ := hb
      by_cases na : a < 0
      · by_cases nb : b < 0
        · exact ⟨_, fun w => sfixMul_nn a b w a1 a2 b1 b2 na nb, fun w => fixMul_nn a b w a1 a2 b1 b2 na nb⟩
        · exact ⟨_, fun w => sfixMul_np a b w a1 a2 b1 b2 na (by omega), fun w => fixMul_np a b w a1 a2 b1 b2 na (by omega)⟩
      · by_cases nb : b < 0
        · exact ⟨_, fun w => sfixMul_pn a b w a1 a2 b1 b2 (by omega) nb, fun w => fixMul_pn a b w a1 a2 b1 b2 (by omega) nb⟩
        · exact ⟨_, fun w => sfixMul_pp a b w a1 a2 b1 b2 (by omega) (by omega), fun w => fixMul_pp a b w a1 a2 b1 b2 (by omega) (by omega)⟩
    · exact ⟨0, fun w => (sfixMul_no2 a b w ha.1 ha.2 hb).mono fun e w' ⟨h1, h2⟩ => ⟨h1, h2 ▸ Kp.refl _⟩, fun w => fixMul_no2 a b w ha.1 ha.2 hb⟩
  · exact ⟨0, fun w => (sfixMul_no a b w ha).mono fun e w' ⟨h1, h2⟩ => ⟨h1, h2 ▸ Kp.refl _⟩, fun w => fixMul_no a b w ha⟩
end Go.Proofs.YtpfhnedklihdoaaGreatDoor

namespace Go.Proofs.YtpfhnedklihdoaaGreatDoor.fnExactFixMul
open Go.ChangeShapes Go.WideShapes Go.ChangeAt Go.RowKit
set_option linter.unusedVariables false      -- a walk need not use every 'w<i>' (that an integer argument fits its kind)

end Go.Proofs.YtpfhnedklihdoaaGreatDoor.fnExactFixMul
namespace Go.Proofs.YtpfhnedklihdoaaGreatDoor
open Go.ChangeShapes Go.WideShapes Go.ChangeAt Go.RowKit
set_option linter.unusedVariables false

theorem keep6 {w w1 : World} (B : Nat) (a b c d e f a' b' c' d' e' f' : Int) (hB : B + 1 < w.heap.size) (k : Kp w w1)
    (h : w.cell? ⟨B, 0, none⟩ = some (.int .i64 a) ∧ w.cell? ⟨B, 1, none⟩ = some (.int .i64 b) ∧ w.cell? ⟨B, 2, none⟩ = some (.int .i64 c) ∧ w.cell? ⟨B, 3, none⟩ = some (.int .i64 d) ∧ w.cell? ⟨B, 4, none⟩ = some (.int .i64 e) ∧ w.cell? ⟨B, 5, none⟩ = some (.int .i64 f) ∧ w.cell? ⟨B + 1, 0, none⟩ = some (.int .i64 a') ∧ w.cell? ⟨B + 1, 1, none⟩ = some (.int .i64 b') ∧ w.cell? ⟨B + 1, 2, none⟩ = some (.int .i64 c') ∧ w.cell? ⟨B + 1, 3, none⟩ = some (.int .i64 d') ∧ w.cell? ⟨B + 1, 4, none⟩ = some (.int .i64 e') ∧ w.cell? ⟨B + 1, 5, none⟩ = some (.int .i64 f')) :
    w1.cell? ⟨B, 0, none⟩ = some (.int .i64 a) ∧ w1.cell? ⟨B, 1, none⟩ = some (.int .i64 b) ∧ w1.cell? ⟨B, 2, none⟩ = some (.int .i64 c) ∧ w1.cell? ⟨B, 3, none⟩ = some (.int .i64 d) ∧ w1.cell? ⟨B, 4, none⟩ = some (.int .i64 e) ∧ w1.cell? ⟨B, 5, none⟩ = some (.int .i64 f) ∧ w1.cell? ⟨B + 1, 0, none⟩ = some (.int .i64 a') ∧ w1.cell? ⟨B + 1, 1, none⟩ = some (.int .i64 b') ∧ w1.cell? ⟨B + 1, 2, none⟩ = some (.int .i64 c') ∧ w1.cell? ⟨B + 1, 3, none⟩ = some (.int .i64 d') ∧ w1.cell? ⟨B + 1, 4, none⟩ = some (.int .i64 e') ∧ w1.cell? ⟨B + 1, 5, none⟩ = some (.int .i64 f') := by
  have kc := (Kp.cells k).1
  obtain ⟨h0, h1, h2, h3, h4, h5, g0, g1, g2, g3, g4, g5⟩ := h
  refine ⟨?_, ?_, ?_, ?_, ?_, ?_, ?_, ?_, ?_, ?_, ?_, ?_⟩
  all_goals (rw [kc _ _ (by omega)]; assumption)
theorem keepS {w : World} (B : Nat) (a b c d e f a' b' c' d' e' f' : Int) (v0 v1 v2 v3 v4 v5 : Value)
    (h : w.cell? ⟨B, 0, none⟩ = some (.int .i64 a) ∧ w.cell? ⟨B, 1, none⟩ = some (.int .i64 b) ∧ w.cell? ⟨B, 2, none⟩ = some (.int .i64 c) ∧ w.cell? ⟨B, 3, none⟩ = some (.int .i64 d) ∧ w.cell? ⟨B, 4, none⟩ = some (.int .i64 e) ∧ w.cell? ⟨B, 5, none⟩ = some (.int .i64 f) ∧ w.cell? ⟨B + 1, 0, none⟩ = some (.int .i64 a') ∧ w.cell? ⟨B + 1, 1, none⟩ = some (.int .i64 b') ∧ w.cell? ⟨B + 1, 2, none⟩ = some (.int .i64 c') ∧ w.cell? ⟨B + 1, 3, none⟩ = some (.int .i64 d') ∧ w.cell? ⟨B + 1, 4, none⟩ = some (.int .i64 e') ∧ w.cell? ⟨B + 1, 5, none⟩ = some (.int .i64 f')) :
    ((((((w.setCell ⟨B + 1 + 1, 0, none⟩ v0).setCell ⟨B + 1 + 1, 1, none⟩ v1).setCell ⟨B + 1 + 1, 2, none⟩ v2).setCell ⟨B + 1 + 1, 3, none⟩ v3).setCell ⟨B + 1 + 1, 4, none⟩ v4).setCell ⟨B + 1 + 1, 5, none⟩ v5).cell? ⟨B, 0, none⟩ = some (.int .i64 a) ∧ ((((((w.setCell ⟨B + 1 + 1, 0, none⟩ v0).setCell ⟨B + 1 + 1, 1, none⟩ v1).setCell ⟨B + 1 + 1, 2, none⟩ v2).setCell ⟨B + 1 + 1, 3, none⟩ v3).setCell ⟨B + 1 + 1, 4, none⟩ v4).setCell ⟨B + 1 + 1, 5, none⟩ v5).cell? ⟨B, 1, none⟩ = some (.int .i64 b) ∧ ((((((w.setCell ⟨B + 1 + 1, 0, none⟩ v0).setCell ⟨B + 1 + 1, 1, none⟩ v1).setCell ⟨B + 1 + 1, 2, none⟩ v2).setCell ⟨B + 1 + 1, 3, none⟩ v3).setCell ⟨B + 1 + 1, 4, none⟩ v4).setCell ⟨B + 1 + 1, 5, none⟩ v5).cell? ⟨B, 2, none⟩ = some (.int .i64 c) ∧ ((((((w.setCell ⟨B + 1 + 1, 0, none⟩ v0).setCell ⟨B + 1 + 1, 1, none⟩ v1).setCell ⟨B + 1 + 1, 2, none⟩ v2).setCell ⟨B + 1 + 1, 3, none⟩ v3).setCell ⟨B + 1 + 1, 4, none⟩ v4).setCell ⟨B + 1 + 1, 5, none⟩ v5).cell? ⟨B, 3, none⟩ = some (.int .i64 d) ∧ ((((((w.setCell ⟨B + 1 + 1, 0, none⟩ v0).setCell ⟨B + 1 + 1, 1, none⟩ v1).setCell ⟨B + 1 + 1, 2, none⟩ v2).setCell ⟨B + 1 + 1, 3, none⟩ v3).setCell ⟨B + 1 + 1, 4, none⟩ v4).setCell ⟨B + 1 + 1, 5, none⟩ v5).cell? ⟨B, 4, none⟩ = some (.int .i64 e) ∧ ((((((w.setCell ⟨B + 1 + 1, 0, none⟩ v0).setCell ⟨B + 1 + 1, 1, none⟩ v1).setCell ⟨B + 1 + 1, 2, none⟩ v2).setCell ⟨B + 1 + 1, 3, none⟩ v3).setCell ⟨B + 1 + 1, 4, none⟩ v4).setCell ⟨B + 1 + 1, 5, none⟩ v5).cell? ⟨B, 5, none⟩ = some (.int .i64 f) ∧ ((((((w.setCell ⟨B + 1 + 1, 0, none⟩ v0).setCell ⟨B + 1 + 1, 1, none⟩ v1).setCell ⟨B + 1 + 1, 2, none⟩ v2).setCell ⟨B + 1 + 1, 3, none⟩ v3).setCell ⟨B + 1 + 1, 4, none⟩ v4).setCell ⟨B + 1 + 1, 5, none⟩ v5).cell? ⟨B + 1, 0, none⟩ = some (.int .i64 a') ∧ ((((((w.setCell ⟨B + 1 + 1, 0, none⟩ v0).setCell ⟨B + 1 + 1, 1, none⟩ v1).setCell ⟨B + 1 + 1, 2, none⟩ v2).setCell ⟨B + 1 + 1, 3, none⟩ v3).setCell ⟨B + 1 + 1, 4, none⟩ v4).setCell ⟨B + 1 + 1, 5, none⟩ v5).cell? ⟨B + 1, 1, none⟩ = some (.int .i64 b') ∧ ((((((w.setCell ⟨B + 1 + 1, 0, none⟩ v0).setCell ⟨B + 1 + 1, 1, none⟩ v1).setCell ⟨B + 1 + 1, 2, none⟩ v2).setCell ⟨B + 1 + 1, 3, none⟩ v3).setCell ⟨B + 1 + 1, 4, none⟩ v4).setCell ⟨B + 1 + 1, 5, none⟩ v5).cell? ⟨B + 1, 2, none⟩ = some (.int .i64 c') ∧ ((((((w.setCell ⟨B + 1 + 1, 0, none⟩ v0).setCell ⟨B + 1 + 1, 1, none⟩ v1).setCell ⟨B + 1 + 1, 2, none⟩ v2).setCell ⟨B + 1 + 1, 3, none⟩ v3).setCell ⟨B + 1 + 1, 4, none⟩ v4).setCell ⟨B + 1 + 1, 5, none⟩ v5).cell? ⟨B + 1, 3, none⟩ = some (.int .i64 d') ∧ ((((((w.setCell ⟨B + 1 + 1, 0, none⟩ v0).setCell ⟨B + 1 + 1, 1, none⟩ v1).setCell ⟨B + 1 + 1, 2, none⟩ v2).setCell ⟨B + 1 + 1, 3, none⟩ v3).setCell ⟨B + 1 + 1, 4, none⟩ v4).setCell ⟨B + 1 + 1, 5, none⟩ v5).cell? ⟨B + 1, 4, none⟩ = some (.int .i64 e') ∧ ((((((w.setCell ⟨B + 1 + 1, 0, none⟩ v0).setCell ⟨B + 1 + 1, 1, none⟩ v1).setCell ⟨B + 1 + 1, 2, none⟩ v2).setCell ⟨B + 1 + 1, 3, none⟩ v3).setCell ⟨B + 1 + 1, 4, none⟩ v4).setCell ⟨B + 1 + 1, 5, none⟩ v5).cell? ⟨B + 1, 5, none⟩ = some (.int .i64 f') := by
  obtain ⟨h0, h1, h2, h3, h4, h5, g0, g1, g2, g3, g4, g5⟩ := h
  refine ⟨?_, ?_, ?_, ?_, ?_, ?_, ?_, ?_, ?_, ?_, ?_, ?_⟩
  all_goals
    iterate 6 rw [World.cell?_setCell_other _ _ _ _ (fun h => by injection h; omega)]
    assumption
theorem keepZ {w w1 : World} (B : Nat) (hB : B < w.heap.size) (k : Kp w w1) (h : ∀ j, j < 6 → w.cell? ⟨B, j, none⟩ = some (.int .i64 0)) (hf : ∀ j, w.frozen? ⟨B, j, none⟩ = false) :
    (∀ j, j < 6 → w1.cell? ⟨B, j, none⟩ = some (.int .i64 0)) ∧ ∀ j, w1.frozen? ⟨B, j, none⟩ = false :=
  ⟨fun j hj => by rw [(Kp.cells k).1 _ _ hB]; exact h j hj, fun j => by rw [(Kp.cells k).2]; exact hf j⟩
theorem cells3a (w : World) (C1 C2 C3 : Array Value) (t : TypeId) (o : Nat) : (((w.alloc (.cells C1 t)).alloc (.cells C2 t)).alloc (.cells C3 t)).cell? ⟨w.heap.size, o, none⟩ = C1[o]? := by
  rw [World.cell?_alloc_past _ _ _ (by simp; omega), World.cell?_alloc_past _ _ _ (by simp), World.cell?_alloc_at _ _ _ _ rfl]
theorem cells3b (w : World) (C1 C2 C3 : Array Value) (t : TypeId) (o : Nat) : (((w.alloc (.cells C1 t)).alloc (.cells C2 t)).alloc (.cells C3 t)).cell? ⟨w.heap.size + 1, o, none⟩ = C2[o]? := by
  rw [World.cell?_alloc_past _ _ _ (by simp), World.cell?_alloc_at _ _ _ _ (by simp)]
theorem cells3c (w : World) (C1 C2 C3 : Array Value) (t : TypeId) (o : Nat) : (((w.alloc (.cells C1 t)).alloc (.cells C2 t)).alloc (.cells C3 t)).cell? ⟨w.heap.size + 1 + 1, o, none⟩ = C3[o]? := by
  rw [World.cell?_alloc_at _ _ _ _ (by simp)]
theorem cells3f (w : World) (C1 C2 C3 : Array Value) (t : TypeId) (o : Nat) : (((w.alloc (.cells C1 t)).alloc (.cells C2 t)).alloc (.cells C3 t)).frozen? ⟨w.heap.size + 1 + 1, o, none⟩ = false := by
  exact World.frozen?_alloc_at _ _ _ _ (by simp)
theorem kp3 (w : World) (C1 C2 C3 : Array Value) (t : TypeId) : Kp w (((w.alloc (.cells C1 t)).alloc (.cells C2 t)).alloc (.cells C3 t)) := (((Kp.refl w).alloc _ _).alloc _ _).alloc _ _
theorem six_set (w : World) (B : Nat) (v0 v1 v2 v3 v4 v5 : Value) (h : ∀ j, j < 6 → w.cell? ⟨B, j, none⟩ = some (.int .i64 0)) :
    ((((((w.setCell ⟨B, 0, none⟩ v0).setCell ⟨B, 1, none⟩ v1).setCell ⟨B, 2, none⟩ v2).setCell ⟨B, 3, none⟩ v3).setCell ⟨B, 4, none⟩ v4).setCell ⟨B, 5, none⟩ v5).cell? ⟨B, 0, none⟩ = some v0 ∧ ((((((w.setCell ⟨B, 0, none⟩ v0).setCell ⟨B, 1, none⟩ v1).setCell ⟨B, 2, none⟩ v2).setCell ⟨B, 3, none⟩ v3).setCell ⟨B, 4, none⟩ v4).setCell ⟨B, 5, none⟩ v5).cell? ⟨B, 1, none⟩ = some v1 ∧ ((((((w.setCell ⟨B, 0, none⟩ v0).setCell ⟨B, 1, none⟩ v1).setCell ⟨B, 2, none⟩ v2).setCell ⟨B, 3, none⟩ v3).setCell ⟨B, 4, none⟩ v4).setCell ⟨B, 5, none⟩ v5).cell? ⟨B, 2, none⟩ = some v2 ∧ ((((((w.setCell ⟨B, 0, none⟩ v0).setCell ⟨B, 1, none⟩ v1).setCell ⟨B, 2, none⟩ v2).setCell ⟨B, 3, none⟩ v3).setCell ⟨B, 4, none⟩ v4).setCell ⟨B, 5, none⟩ v5).cell? ⟨B, 3, none⟩ = some v3 ∧ ((((((w.setCell ⟨B, 0, none⟩ v0).setCell ⟨B, 1, none⟩ v1).setCell ⟨B, 2, none⟩ v2).setCell ⟨B, 3, none⟩ v3).setCell ⟨B, 4, none⟩ v4).setCell ⟨B, 5, none⟩ v5).cell? ⟨B, 4, none⟩ = some v4 ∧ ((((((w.setCell ⟨B, 0, none⟩ v0).setCell ⟨B, 1, none⟩ v1).setCell ⟨B, 2, none⟩ v2).setCell ⟨B, 3, none⟩ v3).setCell ⟨B, 4, none⟩ v4).setCell ⟨B, 5, none⟩ v5).cell? ⟨B, 5, none⟩ = some v5 := by
  refine ⟨?_, ?_, ?_, ?_, ?_, ?_⟩
  · iterate 5 rw [World.cell?_setCell_other _ _ _ _ (fun h => by injection h; omega)]
    exact World.cell?_setCell_same _ ⟨B, 0, none⟩ _ (by exact h 0 (by omega))
  · iterate 4 rw [World.cell?_setCell_other _ _ _ _ (fun h => by injection h; omega)]
    exact World.cell?_setCell_same _ ⟨B, 1, none⟩ _ (by (iterate 1 (rw [World.cell?_setCell_other _ _ _ _ (fun h => by injection h; omega)])); exact h 1 (by omega))
  · iterate 3 rw [World.cell?_setCell_other _ _ _ _ (fun h => by injection h; omega)]
    exact World.cell?_setCell_same _ ⟨B, 2, none⟩ _ (by (iterate 2 (rw [World.cell?_setCell_other _ _ _ _ (fun h => by injection h; omega)])); exact h 2 (by omega))
  · iterate 2 rw [World.cell?_setCell_other _ _ _ _ (fun h => by injection h; omega)]
    exact World.cell?_setCell_same _ ⟨B, 3, none⟩ _ (by (iterate 3 (rw [World.cell?_setCell_other _ _ _ _ (fun h => by injection h; omega)])); exact h 3 (by omega))
  · iterate 1 rw [World.cell?_setCell_other _ _ _ _ (fun h => by injection h; omega)]
    exact World.cell?_setCell_same _ ⟨B, 4, none⟩ _ (by (iterate 4 (rw [World.cell?_setCell_other _ _ _ _ (fun h => by injection h; omega)])); exact h 4 (by omega))
  · exact World.cell?_setCell_same _ ⟨B, 5, none⟩ _ (by (iterate 5 (rw [World.cell?_setCell_other _ _ _ _ (fun h => by injection h; omega)])); exact h 5 (by omega))
/-- The product of two transforms by a product of numbers. -/
abbrev mulV (m : Int → Int → Int) (a b c d e f a' b' c' d' e' f' : Int) : Value :=
  affV (IntKind.i64.wrap (m a a' + m c b')) (IntKind.i64.wrap (m b a' + m d b')) (IntKind.i64.wrap (m a c' + m c d')) (IntKind.i64.wrap (m b c' + m d d')) (IntKind.i64.wrap (IntKind.i64.wrap (m a e' + m c f') + e)) (IntKind.i64.wrap (IntKind.i64.wrap (m b e' + m d f') + f))

set_option maxHeartbeats 4000000 in
theorem sl7mul (w : World) (a b c d e f a' b' c' d' e' f' : Int) (m : Int → Int → Int) (hS : ∀ x y w, Calls Tryz.prog 31 #[.int .i64 x, .int .i64 y] w fun e w' => e = .returned (.int .i64 (m x y)) ∧ Kp w w') :
    Calls Tryz.prog 15 #[affV a b c d e f, affV a' b' c' d' e' f'] w fun x w' => x = .returned (mulV m a b c d e f a' b' c' d' e' f') ∧ Kp w w' := by
  have HS : Hid _ := hS
  clear hS
  unfold mulV affV
  go_enter Tryz.func15, Tryz.ntmps15
  go_wp2_with fail
  generalize hW : ((w.alloc (.cells #[.int .i64 a, .int .i64 b, .int .i64 c, .int .i64 d, .int .i64 e, .int .i64 f] 24)).alloc (.cells #[.int .i64 a', .int .i64 b', .int .i64 c', .int .i64 d', .int .i64 e', .int .i64 f'] 24)).alloc (.cells #[.int .i64 0, .int .i64 0, .int .i64 0, .int .i64 0, .int .i64 0, .int .i64 0] 24) = W
  have hsz : W.heap.size = w.heap.size + 3 := by rw [← hW]; simp
  have hall : W.cell? ⟨w.heap.size, 0, none⟩ = some (.int .i64 a) ∧ W.cell? ⟨w.heap.size, 1, none⟩ = some (.int .i64 b) ∧ W.cell? ⟨w.heap.size, 2, none⟩ = some (.int .i64 c) ∧ W.cell? ⟨w.heap.size, 3, none⟩ = some (.int .i64 d) ∧ W.cell? ⟨w.heap.size, 4, none⟩ = some (.int .i64 e) ∧ W.cell? ⟨w.heap.size, 5, none⟩ = some (.int .i64 f) ∧ W.cell? ⟨w.heap.size + 1, 0, none⟩ = some (.int .i64 a') ∧ W.cell? ⟨w.heap.size + 1, 1, none⟩ = some (.int .i64 b') ∧ W.cell? ⟨w.heap.size + 1, 2, none⟩ = some (.int .i64 c') ∧ W.cell? ⟨w.heap.size + 1, 3, none⟩ = some (.int .i64 d') ∧ W.cell? ⟨w.heap.size + 1, 4, none⟩ = some (.int .i64 e') ∧ W.cell? ⟨w.heap.size + 1, 5, none⟩ = some (.int .i64 f') := by
    refine ⟨?_, ?_, ?_, ?_, ?_, ?_, ?_, ?_, ?_, ?_, ?_, ?_⟩
    all_goals (rw [← hW]; first | (rw [cells3a]; rfl) | (rw [cells3b]; rfl))
  have hz : ∀ j, j < 6 → W.cell? ⟨w.heap.size + 1 + 1, j, none⟩ = some (.int .i64 0) := fun j hj => by
    rw [← hW, cells3c]
    rcases (show j = 0 ∨ j = 1 ∨ j = 2 ∨ j = 3 ∨ j = 4 ∨ j = 5 by omega) with rfl | rfl | rfl | rfl | rfl | rfl <;> rfl
  have hf : ∀ j, W.frozen? ⟨w.heap.size + 1 + 1, j, none⟩ = false := fun j => by rw [← hW, cells3f]
  have HW : Hid (Kp w W) := by rw [← hW]; exact kp3 w _ _ _ _
  clear hW
  obtain ⟨B, hB⟩ : ∃ B, w.heap.size = B := ⟨_, rfl⟩
  have hB2 : Hid (w.heap.size ≤ B + 1 + 1) := (show _ ≤ _ by omega)
  rw [hB] at hsz hall hz hf ⊢
  have HZ : Hid _ := And.intro hz hf
  obtain ⟨h0, h1, h2, h3, h4, h5, g0, g1, g2, g3, g4, g5⟩ := hall
  have HK : Hid (Kp W W.drew) := (Kp.refl W).drew
  have HB : Hid (B + 1 < W.heap.size) := (show _ < _ by omega)
  have HB3 : Hid (B + 1 + 1 < W.heap.size) := (show _ < _ by omega)
  clear hsz
  simp only [List.append_eq, List.cons_append, List.nil_append]
  go_region_held3 (fun w' => w'.cell? ⟨B, 0, none⟩ = some (.int .i64 a) ∧ w'.cell? ⟨B, 1, none⟩ = some (.int .i64 b) ∧ w'.cell? ⟨B, 2, none⟩ = some (.int .i64 c) ∧ w'.cell? ⟨B, 3, none⟩ = some (.int .i64 d) ∧ w'.cell? ⟨B, 4, none⟩ = some (.int .i64 e) ∧ w'.cell? ⟨B, 5, none⟩ = some (.int .i64 f) ∧ w'.cell? ⟨B + 1, 0, none⟩ = some (.int .i64 a') ∧ w'.cell? ⟨B + 1, 1, none⟩ = some (.int .i64 b') ∧ w'.cell? ⟨B + 1, 2, none⟩ = some (.int .i64 c') ∧ w'.cell? ⟨B + 1, 3, none⟩ = some (.int .i64 d') ∧ w'.cell? ⟨B + 1, 4, none⟩ = some (.int .i64 e') ∧ w'.cell? ⟨B + 1, 5, none⟩ = some (.int .i64 f'))
    (first | with_reducible exact keep6 B a b c d e f a' b' c' d' e' f' HB.out HK.out ⟨h0, h1, h2, h3, h4, h5, g0, g1, g2, g3, g4, g5⟩ | with_reducible exact keepS B a b c d e f a' b' c' d' e' f' _ _ _ _ _ _ (keep6 B a b c d e f a' b' c' d' e' f' HB.out HK.out ⟨h0, h1, h2, h3, h4, h5, g0, g1, g2, g3, g4, g5⟩))
    (first | (go_at_call 31; refine (HS.out _ _ _).mono ?_; rintro e w' ⟨rfl, hk⟩; replace HK := (show Hid (Kp W w') from Kp.trans HK.out hk); clear hk hz hf; obtain ⟨hz, hf⟩ := keepZ (B + 1 + 1) HB3.out HK.out HZ.out.1 HZ.out.2))
  go_wp2
  obtain ⟨y0, y1, y2, y3, y4, y5⟩ := six_set w' (B + 1 + 1) (.int .i64 (IntKind.i64.wrap (m a a' + m c b'))) (.int .i64 (IntKind.i64.wrap (m b a' + m d b'))) (.int .i64 (IntKind.i64.wrap (m a c' + m c d'))) (.int .i64 (IntKind.i64.wrap (m b c' + m d d'))) (.int .i64 (IntKind.i64.wrap (IntKind.i64.wrap (m a e' + m c f') + e))) (.int .i64 (IntKind.i64.wrap (IntKind.i64.wrap (m b e' + m d f') + f))) hz
  refine bodyPost_ret (v := mulV m a b c d e f a' b' c' d' e' f') (by simp [results, Tryz.results15, go_sem, y0, y1, y2, y3, y4, y5]) rfl ⟨rfl, ?_⟩
  exact ((((((Kp.trans HW.out HK.out).setCell hB2.out _).setCell hB2.out _).setCell hB2.out _).setCell hB2.out _).setCell hB2.out _).setCell hB2.out _
end Go.Proofs.YtpfhnedklihdoaaGreatDoor
namespace Go.Proofs.YtpfhnedklihdoaaGreatDoor
open Go.ChangeShapes Go.WideShapes Go.ChangeAt Go.RowKit
set_option linter.unusedVariables false

theorem ret_bool {a b : Bool} (h : a = b) : Ending.returned (.bool a) = .returned (.bool b) := by rw [h]
theorem in_any (w : World) (n lo hi : Int) : Calls Tryz.prog 16 #[.int .i64 n, .int .i64 lo, .int .i64 hi] w fun e w' => e = .returned (.bool (decide (lo ≤ n ∧ n ≤ hi))) ∧ w' = w := by
  go_enter Tryz.func16, Tryz.ntmps16
  go_wp2
  all_goals
    go_ret
    exact ⟨ret_bool (by rw [Bool.eq_iff_iff]; simp; omega), rfl⟩

theorem all_false {α : Type} (f : α → Bool) (d : α) (l : List α) (k : Nat) (hk : k < l.length) (h : f (l.getD k d) = false) : l.all f = false := by
  rw [List.all_eq_false]
  refine ⟨l.getD k d, ?_, by rw [h]; decide⟩
  rw [show l.getD k d = l[k] by simp [hk]]
  exact List.getElem_mem hk
theorem all_true {α : Type} (f : α → Bool) (d : α) (l : List α) (h : ∀ k, k < l.length → f (l.getD k d) = true) : l.all f = true := by
  rw [List.all_eq_true]
  intro x hx
  obtain ⟨k, hk, rfl⟩ := List.getElem_of_mem hx
  have := h k hk
  rw [show l.getD k d = l[k] by simp [hk]] at this
  exact this
end Go.Proofs.YtpfhnedklihdoaaGreatDoor

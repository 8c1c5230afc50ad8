/-
  What the library's Mul64 and Add64 and the program's FixMul 
-/
import Derived.Test.YtfdjjbgcaojcnaaGreatJAH
import Derived.Laws.Externs
import Derived.Test.YtfdjjbgcaojcnaaGreatJAB
import Derived.Test.YtfdjjbgcaojcnaaGreatJAF
import Derived.Test.YtfdjjbgcaojcnaaGreatJAG
import Derived.Test.YtfdjjbgcaojcnaaGreatJAA
namespace Go.Proofs.YtfdjjbgcaojcnaaGreat
open Go.ChangeShapes Go.WideShapes Go.ChangeAt Go.RowKit
theorem and_low (a : Int) (h0 : 0 ≤ a) (h : a < 18446744073709551616) : bits .and .u64 a 4294967295 = a % 4294967296 := by
 obtain ⟨x, rfl⟩ := Int.eq_ofNat_of_zero_le h0
 have e := bits_and_u64_nat x 4294967295 (by omega) (by omega)
 have e2 : x &&& 4294967295 = x % 4294967296 := Nat.and_two_pow_sub_one_eq_mod x 32
 rw [e2] at e
 exact e
theorem mul_hi (a b : Int) (ha : 0 ≤ a) (ha' : a < 18446744073709551616) (hb : 0 ≤ b) (hb' : b < 18446744073709551616) :
    a / 4294967296 * (b / 4294967296) + (a / 4294967296 * (b % 4294967296) + a % 4294967296 * (b % 4294967296) / 4294967296) / 4294967296 +
          ((a / 4294967296 * (b % 4294967296) + a % 4294967296 * (b % 4294967296) / 4294967296) % 4294967296 + a % 4294967296 * (b / 4294967296)) / 4294967296 = a * b / 18446744073709551616 := by
  have h := (times_eqs a b ha ha' hb hb').1
  rw [← h, Int.add_comm (a % 4294967296 * (b / 4294967296))]
set_option maxHeartbeats 1000000 in
theorem mul64_any (a b : Int) (w : World) (ha : 0 ≤ a) (ha' : a < 18446744073709551616) (hb : 0 ≤ b) (hb' : b < 18446744073709551616) :
  Calls Tryz.prog 113 #[.int .u64 a, .int .u64 b] w fun e w' => e = .returned (.tuple #[.int .u64 (a * b / 18446744073709551616), .int .u64 (a * b % 18446744073709551616)]) ∧ w' = w := by
 obtain ⟨p1, p2⟩ := half_mul (a % 4294967296) (b % 4294967296) (by omega) (by omega) (by omega) (by omega)
 obtain ⟨q1, q2⟩ := half_mul (a / 4294967296) (b % 4294967296) (by omega) (by omega) (by omega) (by omega)
 obtain ⟨r1, r2⟩ := half_mul (a % 4294967296) (b / 4294967296) (by omega) (by omega) (by omega) (by omega)
 obtain ⟨s1, s2⟩ := half_mul (a / 4294967296) (b / 4294967296) (by omega) (by omega) (by omega) (by omega)
 have m1 := and_low a ha ha'
 have m2 := and_low b hb hb'
 have m3 := and_low (a / 4294967296 * (b % 4294967296) + a % 4294967296 * (b % 4294967296) / 4294967296) (by omega) (by omega)
 have HH : Hid _ := mul_hi a b ha ha' hb hb'
 have HL : Hid _ := IntKind.wrap_u64 (a * b)
 go_enter Tryz.func113, Tryz.ntmps113
 go_wp2
 rw [HH.out, HL.out]
 go_ret2
 exact ⟨rfl, rfl⟩
theorem add64 (x y : Int) (hx : 0 ≤ x) (hy : 0 ≤ y) (w : World) : (callFunc 115 #[.int .u64 x, .int .u64 y, .int .u64 0]).run Tryz.prog w =
  .ok (.value (.tuple #[.int .u64 ((x + y) % 18446744073709551616), .int .u64 ((x + y) / 18446744073709551616)])) w := by
 rw [run_callFunc_extern Tryz.func115 (by kernel_rfl) (by kernel_rfl) (by kernel_rfl) (e := add64Entry) (by kernel_rfl)]
 have h := run_add64 (P := Tryz.prog) x y 0 hx hy (by omega) (by omega) w
 rw [Int.add_zero] at h
 rw [h]
 rfl
theorem size_neg (x : Int) (w : World) (h : -1099511627776 ≤ x) (hx : x < 0) : Calls Tryz.prog 114 #[.int .i64 x] w fun e w' => e = .returned (.int .u64 (-x)) ∧ w' = w := by
 go_enter Tryz.func114, Tryz.ntmps114
 go_wp2
 go_ret
 exact ⟨rfl, rfl⟩
theorem size_nn (x : Int) (w : World) (hx : 0 ≤ x) (h : x ≤ 1099511627776) : Calls Tryz.prog 114 #[.int .i64 x] w fun e w' => e = .returned (.int .u64 x) ∧ w' = w := by
 go_enter Tryz.func114, Tryz.ntmps114
 go_wp2
 go_ret
 exact ⟨rfl, rfl⟩
def posV (P : Int) : Int := min 1099511627776 ((P + 32768) / 65536)
def negV (P : Int) : Int := -(min 1099511627776 ((P + 32767) / 65536))
theorem prod_bd (x y : Int) (hx : 0 ≤ x) (hx' : x ≤ 1099511627776) (hy : 0 ≤ y) (hy' : y ≤ 1099511627776) : 0 ≤ x * y ∧ x * y ≤ 1208925819614629174706176 :=
 ⟨Int.mul_nonneg hx hy, Int.mul_le_mul hx' hy' hy (by omega)⟩
set_option maxHeartbeats 1000000 in
theorem fixMul_pp (a b : Int) (w : World) (a1 : -1099511627776 ≤ a) (a2 : a ≤ 1099511627776) (b1 : -1099511627776 ≤ b) (b2 : b ≤ 1099511627776) (ha : 0 ≤ a) (hb : 0 ≤ b) :
  Calls Tryz.prog 104 #[.int .i64 a, .int .i64 b] w fun e w' => e = .returned (.int .i64 (posV (a * b))) ∧ w' = w := by
 have hda : decide (a < 0) = false := by simp; omega
 have hdb : decide (b < 0) = false := by simp; omega
 obtain ⟨P, hP⟩ : ∃ P, a * b = P := ⟨_, rfl⟩
 have pb := prod_bd (a) (b) (by omega) (by omega) (by omega) (by omega)
 rw [hP] at pb ⊢
 obtain ⟨p0, p1⟩ := pb
 have HP : Hid _ := hP
 clear hP
 have k0 : 0 ≤ P % 18446744073709551616 := by omega
 have HA : Hid _ := add64 (P % 18446744073709551616) 32768 k0 (by omega)
 by_cases hT : P + 32768 < 18446744073709551616
 ·have hq : (P / 18446744073709551616 + (P % 18446744073709551616 + 32768) / 18446744073709551616 == 0) = true := by rw [beq_iff_eq]; omega
  have e1 : (P % 18446744073709551616 + 32768) % 18446744073709551616 = P + 32768 := by omega
  go_enter Tryz.func104, Tryz.ntmps104
  go_wp2_with (go_at_call 112; refine (igood_yes _ _ (by omega) (by omega)).mono ?_; rintro e w' ⟨rfl, rfl⟩)
  refine (size_nn a _ ha a2).mono ?_; rintro e w' ⟨rfl, rfl⟩
  go_wp2_with fail
  refine (size_nn b _ hb b2).mono ?_; rintro e w' ⟨rfl, rfl⟩
  go_wp2_with fail
  refine (mul64_any (a) (b) _ (by omega) (by omega) (by omega) (by omega)).mono ?_; rintro e w' ⟨rfl, rfl⟩
  rw [HP.out]
  go_wp2_with (simp only [HA.out])
  all_goals go_ret
  all_goals exact ⟨ret_int (by unfold posV; omega), rfl⟩
 ·have hq : (P / 18446744073709551616 + (P % 18446744073709551616 + 32768) / 18446744073709551616 == 0) = false := by rw [beq_eq_false_iff_ne]; omega
  go_enter Tryz.func104, Tryz.ntmps104
  go_wp2_with (go_at_call 112; refine (igood_yes _ _ (by omega) (by omega)).mono ?_; rintro e w' ⟨rfl, rfl⟩)
  refine (size_nn a _ ha a2).mono ?_; rintro e w' ⟨rfl, rfl⟩
  go_wp2_with fail
  refine (size_nn b _ hb b2).mono ?_; rintro e w' ⟨rfl, rfl⟩
  go_wp2_with fail
  refine (mul64_any (a) (b) _ (by omega) (by omega) (by omega) (by omega)).mono ?_; rintro e w' ⟨rfl, rfl⟩
  rw [HP.out]
  go_wp2_with (simp only [HA.out])
  all_goals go_ret
  all_goals exact ⟨ret_int (by unfold posV; omega), rfl⟩
set_option maxHeartbeats 1000000 in
theorem fixMul_nn (a b : Int) (w : World) (a1 : -1099511627776 ≤ a) (a2 : a ≤ 1099511627776) (b1 : -1099511627776 ≤ b) (b2 : b ≤ 1099511627776) (ha : a < 0) (hb : b < 0) :
  Calls Tryz.prog 104 #[.int .i64 a, .int .i64 b] w fun e w' => e = .returned (.int .i64 (posV (-a * -b))) ∧ w' = w := by
 have hda : decide (a < 0) = true := by simp; exact ha
 have hdb : decide (b < 0) = true := by simp; exact hb
 obtain ⟨P, hP⟩ : ∃ P, -a * -b = P := ⟨_, rfl⟩
 have pb := prod_bd (-a) (-b) (by omega) (by omega) (by omega) (by omega)
 rw [hP] at pb ⊢
 obtain ⟨p0, p1⟩ := pb
 have HP : Hid _ := hP
 clear hP
 have k0 : 0 ≤ P % 18446744073709551616 := by omega
 have HA : Hid _ := add64 (P % 18446744073709551616) 32768 k0 (by omega)
 by_cases hT : P + 32768 < 18446744073709551616
 ·have hq : (P / 18446744073709551616 + (P % 18446744073709551616 + 32768) / 18446744073709551616 == 0) = true := by rw [beq_iff_eq]; omega
  have e1 : (P % 18446744073709551616 + 32768) % 18446744073709551616 = P + 32768 := by omega
  go_enter Tryz.func104, Tryz.ntmps104
  go_wp2_with (go_at_call 112; refine (igood_yes _ _ (by omega) (by omega)).mono ?_; rintro e w' ⟨rfl, rfl⟩)
  refine (size_neg a _ a1 ha).mono ?_; rintro e w' ⟨rfl, rfl⟩
  go_wp2_with fail
  refine (size_neg b _ b1 hb).mono ?_; rintro e w' ⟨rfl, rfl⟩
  go_wp2_with fail
  refine (mul64_any (-a) (-b) _ (by omega) (by omega) (by omega) (by omega)).mono ?_; rintro e w' ⟨rfl, rfl⟩
  rw [HP.out]
  go_wp2_with (simp only [HA.out])
  all_goals go_ret
  all_goals exact ⟨ret_int (by unfold posV; omega), rfl⟩
 ·have hq : (P / 18446744073709551616 + (P % 18446744073709551616 + 32768) / 18446744073709551616 == 0) = false := by rw [beq_eq_false_iff_ne]; omega
  go_enter Tryz.func104, Tryz.ntmps104
  go_wp2_with (go_at_call 112; refine (igood_yes _ _ (by omega) (by omega)).mono ?_; rintro e w' ⟨rfl, rfl⟩)
  refine (size_neg a _ a1 ha).mono ?_; rintro e w' ⟨rfl, rfl⟩
  go_wp2_with fail
  refine (size_neg b _ b1 hb).mono ?_; rintro e w' ⟨rfl, rfl⟩
  go_wp2_with fail
  refine (mul64_any (-a) (-b) _ (by omega) (by omega) (by omega) (by omega)).mono ?_; rintro e w' ⟨rfl, rfl⟩
  rw [HP.out]
  go_wp2_with (simp only [HA.out])
  all_goals go_ret
  all_goals exact ⟨ret_int (by unfold posV; omega), rfl⟩
set_option maxHeartbeats 1000000 in
theorem fixMul_np (a b : Int) (w : World) (a1 : -1099511627776 ≤ a) (a2 : a ≤ 1099511627776) (b1 : -1099511627776 ≤ b) (b2 : b ≤ 1099511627776) (ha : a < 0) (hb : 0 ≤ b) :
  Calls Tryz.prog 104 #[.int .i64 a, .int .i64 b] w fun e w' => e = .returned (.int .i64 (negV (-a * b))) ∧ w' = w := by
 have hda : decide (a < 0) = true := by simp; exact ha
 have hdb : decide (b < 0) = false := by simp; omega
 obtain ⟨P, hP⟩ : ∃ P, -a * b = P := ⟨_, rfl⟩
 have pb := prod_bd (-a) (b) (by omega) (by omega) (by omega) (by omega)
 rw [hP] at pb ⊢
 obtain ⟨p0, p1⟩ := pb
 have HP : Hid _ := hP
 clear hP
 have k0 : 0 ≤ P % 18446744073709551616 := by omega
 have HA : Hid _ := add64 (P % 18446744073709551616) 32767 k0 (by omega)
 by_cases hT : P + 32767 < 18446744073709551616
 ·have hq : (P / 18446744073709551616 + (P % 18446744073709551616 + 32767) / 18446744073709551616 == 0) = true := by rw [beq_iff_eq]; omega
  have e1 : (P % 18446744073709551616 + 32767) % 18446744073709551616 = P + 32767 := by omega
  go_enter Tryz.func104, Tryz.ntmps104
  go_wp2_with (go_at_call 112; refine (igood_yes _ _ (by omega) (by omega)).mono ?_; rintro e w' ⟨rfl, rfl⟩)
  refine (size_neg a _ a1 ha).mono ?_; rintro e w' ⟨rfl, rfl⟩
  go_wp2_with fail
  refine (size_nn b _ hb b2).mono ?_; rintro e w' ⟨rfl, rfl⟩
  go_wp2_with fail
  refine (mul64_any (-a) (b) _ (by omega) (by omega) (by omega) (by omega)).mono ?_; rintro e w' ⟨rfl, rfl⟩
  rw [HP.out]
  go_wp2_with (simp only [HA.out])
  all_goals go_ret
  all_goals exact ⟨ret_int (by unfold negV; omega), rfl⟩
 ·have hq : (P / 18446744073709551616 + (P % 18446744073709551616 + 32767) / 18446744073709551616 == 0) = false := by rw [beq_eq_false_iff_ne]; omega
  go_enter Tryz.func104, Tryz.ntmps104
  go_wp2_with (go_at_call 112; refine (igood_yes _ _ (by omega) (by omega)).mono ?_; rintro e w' ⟨rfl, rfl⟩)
  refine (size_neg a _ a1 ha).mono ?_; rintro e w' ⟨rfl, rfl⟩
  go_wp2_with fail
  refine (size_nn b _ hb b2).mono ?_; rintro e w' ⟨rfl, rfl⟩
  go_wp2_with fail
  refine (mul64_any (-a) (b) _ (by omega) (by omega) (by omega) (by omega)).mono ?_; rintro e w' ⟨rfl, rfl⟩
  rw [HP.out]
  go_wp2_with (simp only [HA.out])
  all_goals go_ret
  all_goals exact ⟨ret_int (by unfold negV; omega), rfl⟩
set_option maxHeartbeats 1000000 in
theorem fixMul_pn (a b : Int) (w : World) (a1 : -1099511627776 ≤ a) (a2 : a ≤ 1099511627776) (b1 : -1099511627776 ≤ b) (b2 : b ≤ 1099511627776) (ha : 0 ≤ a) (hb : b < 0) :
  Calls Tryz.prog 104 #[.int .i64 a, .int .i64 b] w fun e w' => e = .returned (.int .i64 (negV (a * -b))) ∧ w' = w := by
 have hda : decide (a < 0) = false := by simp; omega
 have hdb : decide (b < 0) = true := by simp; exact hb
 obtain ⟨P, hP⟩ : ∃ P, a * -b = P := ⟨_, rfl⟩
 have pb := prod_bd (a) (-b) (by omega) (by omega) (by omega) (by omega)
 rw [hP] at pb ⊢
 obtain ⟨p0, p1⟩ := pb
 have HP : Hid _ := hP
 clear hP
 have k0 : 0 ≤ P % 18446744073709551616 := by omega
 have HA : Hid _ := add64 (P % 18446744073709551616) 32767 k0 (by omega)
 by_cases hT : P + 32767 < 18446744073709551616
 ·have hq : (P / 18446744073709551616 + (P % 18446744073709551616 + 32767) / 18446744073709551616 == 0) = true := by rw [beq_iff_eq]; omega
  have e1 : (P % 18446744073709551616 + 32767) % 18446744073709551616 = P + 32767 := by omega
  go_enter Tryz.func104, Tryz.ntmps104
  go_wp2_with (go_at_call 112; refine (igood_yes _ _ (by omega) (by omega)).mono ?_; rintro e w' ⟨rfl, rfl⟩)
  refine (size_nn a _ ha a2).mono ?_; rintro e w' ⟨rfl, rfl⟩
  go_wp2_with fail
  refine (size_neg b _ b1 hb).mono ?_; rintro e w' ⟨rfl, rfl⟩
  go_wp2_with fail
  refine (mul64_any (a) (-b) _ (by omega) (by omega) (by omega) (by omega)).mono ?_; rintro e w' ⟨rfl, rfl⟩
  rw [HP.out]
  go_wp2_with (simp only [HA.out])
  all_goals go_ret
  all_goals exact ⟨ret_int (by unfold negV; omega), rfl⟩
 ·have hq : (P / 18446744073709551616 + (P % 18446744073709551616 + 32767) / 18446744073709551616 == 0) = false := by rw [beq_eq_false_iff_ne]; omega
  go_enter Tryz.func104, Tryz.ntmps104
  go_wp2_with (go_at_call 112; refine (igood_yes _ _ (by omega) (by omega)).mono ?_; rintro e w' ⟨rfl, rfl⟩)
  refine (size_nn a _ ha a2).mono ?_; rintro e w' ⟨rfl, rfl⟩
  go_wp2_with fail
  refine (size_neg b _ b1 hb).mono ?_; rintro e w' ⟨rfl, rfl⟩
  go_wp2_with fail
  refine (mul64_any (a) (-b) _ (by omega) (by omega) (by omega) (by omega)).mono ?_; rintro e w' ⟨rfl, rfl⟩
  rw [HP.out]
  go_wp2_with (simp only [HA.out])
  all_goals go_ret
  all_goals exact ⟨ret_int (by unfold negV; omega), rfl⟩
set_option maxHeartbeats 1000000 in
theorem sfixMul_pp (a b : Int) (w : World) (a1 : -1099511627776 ≤ a) (a2 : a ≤ 1099511627776) (b1 : -1099511627776 ≤ b) (b2 : b ≤ 1099511627776) (ha : 0 ≤ a) (hb : 0 ≤ b) :
  Calls Tryz.prog 109 #[.int .i64 a, .int .i64 b] w fun e w' => e = .returned (.int .i64 (posV (a * b))) ∧ Kp w w' := by
 have hda : decide (a < 0) = false := by simp; omega
 have hdb : decide (b < 0) = false := by simp; omega
 obtain ⟨P, hP⟩ : ∃ P, a * b = P := ⟨_, rfl⟩
 have pb := prod_bd (a) (b) (by omega) (by omega) (by omega) (by omega)
 rw [hP] at pb ⊢
 obtain ⟨p0, p1⟩ := pb
 have HP : Hid _ := hP
 clear hP
 go_enter Tryz.func109, Tryz.ntmps109
 go_wp2_with (go_at_call 119; refine (sgood_yes _ _ (by omega) (by omega)).mono ?_; rintro e w' ⟨rfl, rfl⟩)
 refine (abs_nn a _ ha).mono ?_; rintro e w' ⟨rfl, rfl⟩
 go_wp2_with fail
 refine (abs_nn b _ hb).mono ?_; rintro e w' ⟨rfl, rfl⟩
 go_wp2_with fail
 refine (times_any (a) (b) _ (by omega) (by omega) (by omega) (by omega)).mono ?_; rintro e w' ⟨rfl, c1, rfl⟩
 rw [HP.out]
 go_wp2_with fail
 refine (near_pos P 65536 _ (by omega) (by omega) (by omega) (by omega)).mono ?_
 rintro e w1 ⟨r, rfl, r0, r1, r2, r3, hk⟩
 have HR : Hid (cutM r = posV P) := by show _ = _; unfold cutM posV; omega
 have HK : Hid _ := hk
 clear r2 r3 hk
 go_wp2
 go_ret
 exact ⟨ret_int HR.out, ((Kp.refl _).alloc _ _).trans HK.out⟩
set_option maxHeartbeats 1000000 in
theorem sfixMul_nn (a b : Int) (w : World) (a1 : -1099511627776 ≤ a) (a2 : a ≤ 1099511627776) (b1 : -1099511627776 ≤ b) (b2 : b ≤ 1099511627776) (ha : a < 0) (hb : b < 0) :
  Calls Tryz.prog 109 #[.int .i64 a, .int .i64 b] w fun e w' => e = .returned (.int .i64 (posV (-a * -b))) ∧ Kp w w' := by
 have hda : decide (a < 0) = true := by simp; exact ha
 have hdb : decide (b < 0) = true := by simp; exact hb
 obtain ⟨P, hP⟩ : ∃ P, -a * -b = P := ⟨_, rfl⟩
 have pb := prod_bd (-a) (-b) (by omega) (by omega) (by omega) (by omega)
 rw [hP] at pb ⊢
 obtain ⟨p0, p1⟩ := pb
 have HP : Hid _ := hP
 clear hP
 go_enter Tryz.func109, Tryz.ntmps109
 go_wp2_with (go_at_call 119; refine (sgood_yes _ _ (by omega) (by omega)).mono ?_; rintro e w' ⟨rfl, rfl⟩)
 refine (abs_neg a _ (by omega) ha).mono ?_; rintro e w' ⟨rfl, rfl⟩
 go_wp2_with fail
 refine (abs_neg b _ (by omega) hb).mono ?_; rintro e w' ⟨rfl, rfl⟩
 go_wp2_with fail
 refine (times_any (-a) (-b) _ (by omega) (by omega) (by omega) (by omega)).mono ?_; rintro e w' ⟨rfl, c1, rfl⟩
 rw [HP.out]
 go_wp2_with fail
 refine (near_pos P 65536 _ (by omega) (by omega) (by omega) (by omega)).mono ?_
 rintro e w1 ⟨r, rfl, r0, r1, r2, r3, hk⟩
 have HR : Hid (cutM r = posV P) := by show _ = _; unfold cutM posV; omega
 have HK : Hid _ := hk
 clear r2 r3 hk
 go_wp2
 go_ret
 exact ⟨ret_int HR.out, ((Kp.refl _).alloc _ _).trans HK.out⟩
set_option maxHeartbeats 1000000 in
theorem sfixMul_np (a b : Int) (w : World) (a1 : -1099511627776 ≤ a) (a2 : a ≤ 1099511627776) (b1 : -1099511627776 ≤ b) (b2 : b ≤ 1099511627776) (ha : a < 0) (hb : 0 ≤ b) :
  Calls Tryz.prog 109 #[.int .i64 a, .int .i64 b] w fun e w' => e = .returned (.int .i64 (negV (-a * b))) ∧ Kp w w' := by
 have hda : decide (a < 0) = true := by simp; exact ha
 have hdb : decide (b < 0) = false := by simp; omega
 obtain ⟨P, hP⟩ : ∃ P, -a * b = P := ⟨_, rfl⟩
 have pb := prod_bd (-a) (b) (by omega) (by omega) (by omega) (by omega)
 rw [hP] at pb ⊢
 obtain ⟨p0, p1⟩ := pb
 have HP : Hid _ := hP
 clear hP
 go_enter Tryz.func109, Tryz.ntmps109
 go_wp2_with (go_at_call 119; refine (sgood_yes _ _ (by omega) (by omega)).mono ?_; rintro e w' ⟨rfl, rfl⟩)
 refine (abs_neg a _ (by omega) ha).mono ?_; rintro e w' ⟨rfl, rfl⟩
 go_wp2_with fail
 refine (abs_nn b _ hb).mono ?_; rintro e w' ⟨rfl, rfl⟩
 go_wp2_with fail
 refine (times_any (-a) (b) _ (by omega) (by omega) (by omega) (by omega)).mono ?_; rintro e w' ⟨rfl, c1, rfl⟩
 rw [HP.out]
 go_wp2_with fail
 refine (near_neg P 65536 _ (by omega) (by omega) (by omega) (by omega)).mono ?_
 rintro e w1 ⟨r, rfl, r0, r1, r2, r3, hk⟩
 have HR : Hid (cutM (-r) = negV P) := by show _ = _; unfold cutM negV; omega
 have HK : Hid _ := hk
 clear r2 r3 hk
 go_wp2
 go_ret
 exact ⟨ret_int HR.out, ((Kp.refl _).alloc _ _).trans HK.out⟩
set_option maxHeartbeats 1000000 in
theorem sfixMul_pn (a b : Int) (w : World) (a1 : -1099511627776 ≤ a) (a2 : a ≤ 1099511627776) (b1 : -1099511627776 ≤ b) (b2 : b ≤ 1099511627776) (ha : 0 ≤ a) (hb : b < 0) :
  Calls Tryz.prog 109 #[.int .i64 a, .int .i64 b] w fun e w' => e = .returned (.int .i64 (negV (a * -b))) ∧ Kp w w' := by
 have hda : decide (a < 0) = false := by simp; omega
 have hdb : decide (b < 0) = true := by simp; exact hb
 obtain ⟨P, hP⟩ : ∃ P, a * -b = P := ⟨_, rfl⟩
 have pb := prod_bd (a) (-b) (by omega) (by omega) (by omega) (by omega)
 rw [hP] at pb ⊢
 obtain ⟨p0, p1⟩ := pb
 have HP : Hid _ := hP
 clear hP
 go_enter Tryz.func109, Tryz.ntmps109
 go_wp2_with (go_at_call 119; refine (sgood_yes _ _ (by omega) (by omega)).mono ?_; rintro e w' ⟨rfl, rfl⟩)
 refine (abs_nn a _ ha).mono ?_; rintro e w' ⟨rfl, rfl⟩
 go_wp2_with fail
 refine (abs_neg b _ (by omega) hb).mono ?_; rintro e w' ⟨rfl, rfl⟩
 go_wp2_with fail
 refine (times_any (a) (-b) _ (by omega) (by omega) (by omega) (by omega)).mono ?_; rintro e w' ⟨rfl, c1, rfl⟩
 rw [HP.out]
 go_wp2_with fail
 refine (near_neg P 65536 _ (by omega) (by omega) (by omega) (by omega)).mono ?_
 rintro e w1 ⟨r, rfl, r0, r1, r2, r3, hk⟩
 have HR : Hid (cutM (-r) = negV P) := by show _ = _; unfold cutM negV; omega
 have HK : Hid _ := hk
 clear r2 r3 hk
 go_wp2
 go_ret
 exact ⟨ret_int HR.out, ((Kp.refl _).alloc _ _).trans HK.out⟩
theorem sfixMul_no (a b : Int) (w : World) (h : ¬ (-1099511627776 ≤ a ∧ a ≤ 1099511627776)) :
  Calls Tryz.prog 109 #[.int .i64 a, .int .i64 b] w fun e w' => e = .returned (.int .i64 0) ∧ w' = w := by
 have H : Hid _ := h
 clear h
 go_enter Tryz.func109, Tryz.ntmps109
 go_wp2_with (go_at_call 119; refine (sgood_no a _ H.out).mono ?_; rintro e w' ⟨rfl, rfl⟩)
 go_ret
 exact ⟨rfl, rfl⟩
theorem sfixMul_no2 (a b : Int) (w : World) (a1 : -1099511627776 ≤ a) (a2 : a ≤ 1099511627776) (h : ¬ (-1099511627776 ≤ b ∧ b ≤ 1099511627776)) :
  Calls Tryz.prog 109 #[.int .i64 a, .int .i64 b] w fun e w' => e = .returned (.int .i64 0) ∧ w' = w := by
 have H : Hid _ := h
 clear h
 go_enter Tryz.func109, Tryz.ntmps109
 go_wp2_with fail
 refine (sgood_yes a _ a1 a2).mono ?_; rintro e w' ⟨rfl, rfl⟩
 go_wp2_with fail
 refine (sgood_no b _ H.out).mono ?_; rintro e w' ⟨rfl, rfl⟩
 go_wp2
 go_ret
 exact ⟨rfl, rfl⟩
theorem fixMul_no (a b : Int) (w : World) (h : ¬ (-1099511627776 ≤ a ∧ a ≤ 1099511627776)) :
  Calls Tryz.prog 104 #[.int .i64 a, .int .i64 b] w fun e w' => e = .returned (.int .i64 0) ∧ w' = w := by
 have H : Hid _ := h
 clear h
 go_enter Tryz.func104, Tryz.ntmps104
 go_wp2_with (go_at_call 112; refine (igood_no a _ H.out).mono ?_; rintro e w' ⟨rfl, rfl⟩)
 go_ret
 exact ⟨rfl, rfl⟩
theorem fixMul_no2 (a b : Int) (w : World) (a1 : -1099511627776 ≤ a) (a2 : a ≤ 1099511627776) (h : ¬ (-1099511627776 ≤ b ∧ b ≤ 1099511627776)) :
  Calls Tryz.prog 104 #[.int .i64 a, .int .i64 b] w fun e w' => e = .returned (.int .i64 0) ∧ w' = w := by
 have H : Hid _ := h
 clear h
 go_enter Tryz.func104, Tryz.ntmps104
 go_wp2_with fail
 refine (igood_yes a _ a1 a2).mono ?_; rintro e w' ⟨rfl, rfl⟩
 go_wp2_with fail
 refine (igood_no b _ H.out).mono ?_; rintro e w' ⟨rfl, rfl⟩
 go_wp2
 go_ret
 exact ⟨rfl, rfl⟩
end Go.Proofs.YtfdjjbgcaojcnaaGreat
namespace Go.Proofs.YtfdjjbgcaojcnaaGreat.fnExactFixMul
open Go.ChangeShapes Go.WideShapes Go.ChangeAt Go.RowKit
set_option linter.unusedVariables false
end Go.Proofs.YtfdjjbgcaojcnaaGreat.fnExactFixMul
namespace Go.Proofs.YtfdjjbgcaojcnaaGreat
open Go.ChangeShapes Go.WideShapes Go.ChangeAt Go.RowKit
set_option linter.unusedVariables false
def fmV (a b : Int) : Int := if fixB a = true ∧ fixB b = true then cutM ((a * b + 32768) / 65536) else 0
theorem cutM_bd (x : Int) : -1099511627776 ≤ cutM x ∧ cutM x ≤ 1099511627776 := by unfold cutM; omega
theorem fmV_bd (a b : Int) : -1099511627776 ≤ fmV a b ∧ fmV a b ≤ 1099511627776 := by
 unfold fmV; split
 ·exact cutM_bd _
 ·omega
theorem posV_cut (P : Int) (h : 0 ≤ P) : posV P = cutM ((P + 32768) / 65536) := by unfold posV cutM; omega
theorem negV_cut (P : Int) (h : 0 ≤ P) : negV P = cutM ((-P + 32768) / 65536) := by unfold negV cutM; omega
theorem fm_both (a b : Int) : (∀ w, Calls Tryz.prog 109 #[.int .i64 a, .int .i64 b] w fun e w' => e = .returned (.int .i64 (fmV a b)) ∧ Kp w w') ∧ (∀ w, Calls Tryz.prog 104 #[.int .i64 a, .int .i64 b] w fun e w' => e = .returned (.int .i64 (fmV a b)) ∧ w' = w) := by
 by_cases ha : -1099511627776 ≤ a ∧ a ≤ 1099511627776
 ·by_cases hb : -1099511627776 ≤ b ∧ b ≤ 1099511627776
  ·have e : fmV a b = cutM ((a * b + 32768) / 65536) := by unfold fmV; rw [if_pos ⟨fixB_iff.2 ha, fixB_iff.2 hb⟩]
   rw [e]
   obtain ⟨a1, a2⟩ := ha
   obtain ⟨b1, b2⟩ := hb
   by_cases na : a < 0
   ·by_cases nb : b < 0
    ·have h := posV_cut (-a * -b) (Int.mul_nonneg (by omega) (by omega))
     rw [Int.neg_mul_neg] at h
     rw [← h, ← Int.neg_mul_neg]
     exact ⟨fun w => sfixMul_nn a b w a1 a2 b1 b2 na nb, fun w => fixMul_nn a b w a1 a2 b1 b2 na nb⟩
    ·have h := negV_cut (-a * b) (Int.mul_nonneg (by omega) (by omega))
     rw [show -(-a * b) = a * b by rw [Int.neg_mul, Int.neg_neg]] at h
     rw [← h]
     exact ⟨fun w => sfixMul_np a b w a1 a2 b1 b2 na (by omega), fun w => fixMul_np a b w a1 a2 b1 b2 na (by omega)⟩
   ·by_cases nb : b < 0
    ·have h := negV_cut (a * -b) (Int.mul_nonneg (by omega) (by omega))
     rw [show -(a * -b) = a * b by rw [Int.mul_neg, Int.neg_neg]] at h
     rw [← h]
     exact ⟨fun w => sfixMul_pn a b w a1 a2 b1 b2 (by omega) nb, fun w => fixMul_pn a b w a1 a2 b1 b2 (by omega) nb⟩
    ·rw [← posV_cut (a * b) (Int.mul_nonneg (by omega) (by omega))]
     exact ⟨fun w => sfixMul_pp a b w a1 a2 b1 b2 (by omega) (by omega), fun w => fixMul_pp a b w a1 a2 b1 b2 (by omega) (by omega)⟩
  ·have e : fmV a b = 0 := by unfold fmV; rw [if_neg (fun h => hb (fixB_iff.1 h.2))]
   rw [e]
   exact ⟨fun w => (sfixMul_no2 a b w ha.1 ha.2 hb).mono fun e w' ⟨h1, h2⟩ => ⟨h1, h2 ▸ Kp.refl _⟩, fun w => fixMul_no2 a b w ha.1 ha.2 hb⟩
 ·have e : fmV a b = 0 := by unfold fmV; rw [if_neg (fun h => ha (fixB_iff.1 h.1))]
  rw [e]
  exact ⟨fun w => (sfixMul_no a b w ha).mono fun e w' ⟨h1, h2⟩ => ⟨h1, h2 ▸ Kp.refl _⟩, fun w => fixMul_no a b w ha⟩
theorem sfm (a b : Int) (w : World) : Calls Tryz.prog 109 #[.int .i64 a, .int .i64 b] w fun e w' => e = .returned (.int .i64 (fmV a b)) ∧ Kp w w' := (fm_both a b).1 w
theorem ifm (a b : Int) (w : World) : Calls Tryz.prog 104 #[.int .i64 a, .int .i64 b] w fun e w' => e = .returned (.int .i64 (fmV a b)) ∧ w' = w := (fm_both a b).2 w
theorem fd_both (a b : Int) : (∀ w, Calls Tryz.prog 110 #[.int .i64 a, .int .i64 b] w fun e w' => e = .returned (.int .i64 (divV a b)) ∧ Kp w w') ∧ (∀ w, Calls Tryz.prog 105 #[.int .i64 a, .int .i64 b] w fun e w' => e = .returned (.int .i64 (divV a b)) ∧ w' = w) := by
 by_cases ha : -1099511627776 ≤ a ∧ a ≤ 1099511627776
 ·by_cases hb : -1099511627776 ≤ b ∧ b ≤ 1099511627776
  ·by_cases hz : b = 0
   ·have e : divV a b = 0 := by unfold divV; rw [if_neg (fun h => h.2.2.2.2 hz)]
    rw [e]
    subst hz
    exact ⟨fun w => (sfixDiv_no3 a w ha.1 ha.2).mono fun e w' ⟨h1, h2⟩ => ⟨h1, h2 ▸ Kp.refl _⟩, fun w => fixDiv_no3 a w ha.1 ha.2⟩
   ·have e : divV a b = cutV (nearV (a * 65536) b) (-1099511627776) 1099511627776 := by unfold divV; rw [if_pos ⟨ha.1, ha.2, hb.1, hb.2, hz⟩]
    rw [e]
    exact ⟨fun w => sfixDiv_yes a b w ha.1 ha.2 hb.1 hb.2 hz, fun w => fixDiv_yes a b w ha.1 ha.2 hb.1 hb.2 hz⟩
  ·have e : divV a b = 0 := by unfold divV; rw [if_neg (fun h => hb ⟨h.2.2.1, h.2.2.2.1⟩)]
   rw [e]
   exact ⟨fun w => (sfixDiv_no2 a b w ha.1 ha.2 hb).mono fun e w' ⟨h1, h2⟩ => ⟨h1, h2 ▸ Kp.refl _⟩, fun w => fixDiv_no2 a b w ha.1 ha.2 hb⟩
 ·have e : divV a b = 0 := by unfold divV; rw [if_neg (fun h => ha ⟨h.1, h.2.1⟩)]
  rw [e]
  exact ⟨fun w => (sfixDiv_no a b w ha).mono fun e w' ⟨h1, h2⟩ => ⟨h1, h2 ▸ Kp.refl _⟩, fun w => fixDiv_no a b w ha⟩
theorem sfd (a b : Int) (w : World) : Calls Tryz.prog 110 #[.int .i64 a, .int .i64 b] w fun e w' => e = .returned (.int .i64 (divV a b)) ∧ Kp w w' := (fd_both a b).1 w
theorem ifd (a b : Int) (w : World) : Calls Tryz.prog 105 #[.int .i64 a, .int .i64 b] w fun e w' => e = .returned (.int .i64 (divV a b)) ∧ w' = w := (fd_both a b).2 w
set_option linter.unusedSimpArgs false
structure SDI where
 ax : Int
 ay : Int
 bx : Int
 cy : Int
 h : Int
 n : Int
 b0 : Nat
 b1 : Nat
 br : Nat
 W : World
 a0 : Act
structure SDIOk (X : SDI) : Prop where
 c0 : X.W.cell? ⟨X.b0, 0, none⟩ = some (.int .i64 X.ax)
 c1 : X.W.cell? ⟨X.b0, 1, none⟩ = some (.int .i64 X.ay)
 c2 : X.W.cell? ⟨X.b1, 0, none⟩ = some (.int .i64 X.bx)
 c3 : X.W.cell? ⟨X.b1, 1, none⟩ = some (.int .i64 X.cy)
 w1 : IntKind.i64.wrap (X.ay - X.cy) = X.ay - X.cy
 w2 : IntKind.i64.wrap (X.bx - X.ax) = X.bx - X.ax
 z0 : ∃ u, X.W.cell? ⟨X.br, 0, none⟩ = some u
 z1 : ∃ u, X.W.cell? ⟨X.br, 1, none⟩ = some u
 zf : ∀ o, X.W.frozen? ⟨X.br, o, none⟩ = false
 e2 : X.a0.eval (.tmp 2) = .int .i64 X.h
 e3 : X.a0.eval (.tmp 3) = .pointer (some ⟨X.b0, 0, none⟩)
 e4 : X.a0.eval (.tmp 4) = .pointer (some ⟨X.b1, 0, none⟩)
 e6 : X.a0.eval (.tmp 6) = .pointer (some ⟨X.br, 0, none⟩)
 e8 : X.a0.eval (.tmp 8) = .int .i64 X.n
 sz : X.a0.tmps.size = 48
def SDI.val0 (X : SDI) : Nat → Value
 | 2 => .int .i64 X.h
 | 3 => .pointer (some ⟨X.b0, 0, none⟩)
 | 4 => .pointer (some ⟨X.b1, 0, none⟩)
 | 6 => .pointer (some ⟨X.br, 0, none⟩)
 | 7 => .bool true
 | 8 => .int .i64 X.n
 | 29 => .int .i64 X.h
 | 30 => .pointer (some ⟨X.b0, 1, none⟩)
 | 31 => .int .i64 X.ay
 | 32 => .pointer (some ⟨X.b1, 1, none⟩)
 | 33 => .int .i64 X.cy
 | 34 => .int .i64 (X.ay - X.cy)
 | 35 => .int .i64 X.n
 | 36 => .int .i64 (divV (X.ay - X.cy) X.n)
 | 37 => .int .i64 (fmV X.h (divV (X.ay - X.cy) X.n))
 | 38 => .int .i64 X.h
 | 39 => .pointer (some ⟨X.b1, 0, none⟩)
 | 40 => .int .i64 X.bx
 | 41 => .pointer (some ⟨X.b0, 0, none⟩)
 | 42 => .int .i64 X.ax
 | 43 => .int .i64 (X.bx - X.ax)
 | 44 => .int .i64 X.n
 | 45 => .int .i64 (divV (X.bx - X.ax) X.n)
 | 46 => .int .i64 (fmV X.h (divV (X.bx - X.ax) X.n))
 | 47 => .agg #[.int .i64 (fmV X.h (divV (X.ay - X.cy) X.n)), .int .i64 (fmV X.h (divV (X.bx - X.ax) X.n))]
 | _ => undef
def SDI.av : Nat → Option Nat
 | _ => none
def SDI.acts : List Nat := [19]
def SDI.Wd (X : SDI) : Nat → (Nat → Value) → World → Prop
  | 0, _, w => Kp X.W w
  | _, _, w => ∃ w1, Kp X.W w1 ∧ w = ((w1.setCell ⟨X.br, 0, none⟩ (.int .i64 (fmV X.h (divV (X.ay - X.cy) X.n)))).setCell ⟨X.br, 1, none⟩ (.int .i64 (fmV X.h (divV (X.bx - X.ax) X.n))))
theorem SDI.chain : chainG (opsOf 4 Tryz.f89) SDI.acts = true := by kernel_rfl
theorem SDI.nodup : SDI.acts.Nodup := by decide
def SDI.L : List (Option Nat × Op × Option (Nat × Bool)) := [
 (some 29, .move (.tmp 2), none),
 (some 30, .fieldAddr 34 (.tmp 3) 1, none),
 (some 31, .load 3 (.tmp 30), none),
 (some 32, .fieldAddr 34 (.tmp 4) 1, none),
 (some 33, .load 3 (.tmp 32), none),
 (some 34, .binOp .sub 3 (.tmp 31) (.tmp 33) 3, none),
 (some 35, .move (.tmp 8), none),
 (some 36, .call { callee := .value (.func 105), args := #[(.tmp 34), (.tmp 35)], argTypes := #[3, 3] }, none),
 (some 37, .call { callee := .value (.func 104), args := #[(.tmp 29), (.tmp 36)], argTypes := #[3, 3] }, none),
 (some 38, .move (.tmp 2), none),
 (some 39, .fieldAddr 34 (.tmp 4) 0, none),
 (some 40, .load 3 (.tmp 39), none),
 (some 41, .fieldAddr 34 (.tmp 3) 0, none),
 (some 42, .load 3 (.tmp 41), none),
 (some 43, .binOp .sub 3 (.tmp 40) (.tmp 42) 3, none),
 (some 44, .move (.tmp 8), none),
 (some 45, .call { callee := .value (.func 105), args := #[(.tmp 43), (.tmp 44)], argTypes := #[3, 3] }, none),
 (some 46, .call { callee := .value (.func 104), args := #[(.tmp 38), (.tmp 45)], argTypes := #[3, 3] }, none),
 (some 47, .build 34 #[(0, (.tmp 37)), (1, (.tmp 46))], none),
 (none, .store 34 (.tmp 6) (.tmp 47), none),
 (some 7, .assign (.const (.bool true)), none)]
theorem SDI.isL : (opsOf 4 Tryz.f89).toList.map tri = SDI.L := by kernel_rfl
theorem SDI.ini {X : SDI} (ok : SDIOk X) : ∀ n ∈ [2, 3, 4, 6, 8], X.a0.eval (.tmp n) = X.val0 n := by
 simp only [List.forall_mem_cons]
 exact ⟨ok.e2, ok.e3, ok.e4, ok.e6, ok.e8, List.forall_mem_nil _⟩
abbrev SDI.St (X : SDI) (Q : PQ) (i : Nat) : Prop := StepG (opsOf 4 Tryz.f89) SDI.acts SDI.av X.val0 X.Wd X.a0 Q i
theorem SDI.plain (X : SDI) (ok : SDIOk X) {Q : PQ} : ∀ i ∈ [0, 1, 3, 5, 6, 9, 10, 12, 14, 15, 18, 20], SDI.St X Q i := by
 simp only [List.forall_mem_cons]
 refine ⟨?_, ?_, ?_, ?_, ?_, ?_, ?_, ?_, ?_, ?_, ?_, ?_, List.forall_mem_nil _⟩
 all_goals
  refine st_plain SDI.isL (SDI.ini ok) ok.sz rfl (by kernel_rfl) ?_
  intro γ w n o hW hop
  unfold execOp
  rw [hop]
  simp [envR, valG, SDI.av, SDI.val0, ok.w1, ok.w2, go_sem]
theorem SDI.early (X : SDI) (ok : SDIOk X) {Q : PQ} : ∀ i ∈ [2, 4, 11, 13], SDI.St X Q i := by
 simp only [List.forall_mem_cons]
 refine ⟨?_, ?_, ?_, ?_, List.forall_mem_nil _⟩
 all_goals
  refine st_plainM (m := 0) SDI.isL (SDI.ini ok) ok.sz rfl (by kernel_rfl) ?_
  intro γ w n o hn hW hop
  obtain rfl : n = 0 := by omega
  have hk : Kp X.W w := hW
  have hc_c1 := rq_at hk ok.c1
  have hc_c3 := rq_at hk ok.c3
  have hc_c2 := rq_at hk ok.c2
  have hc_c0 := rq_at hk ok.c0
  unfold execOp
  rw [hop]
  simp [envR, valG, SDI.av, SDI.val0, hc_c1, hc_c3, hc_c2, hc_c0, go_sem]
theorem SDI.s19 (X : SDI) (ok : SDIOk X) {Q : PQ} : SDI.St X Q 19 := by
 intro γ listed a w o hF hC hW h1 ho h2
 obtain ⟨hd, hop, hg⟩ := fieldsL SDI.isL (i := 19) rfl ho
 have e6 : a.eval (.tmp 6) = .pointer (some ⟨X.br, 0, none⟩) := known hF ho h2 (SDI.ini ok) ok.sz (by kernel_rfl)
 have e47 : a.eval (.tmp 47) = .agg #[.int .i64 (fmV X.h (divV (X.ay - X.cy) X.n)), .int .i64 (fmV X.h (divV (X.bx - X.ax) X.n))] := known hF ho h2 (SDI.ini ok) ok.sz (by kernel_rfl)
 have hu := unl (hF.lt ho) h1
 refine st_actG (k := 0) SDI.chain SDI.nodup rfl hF hC hW h1 ho h2 (Or.inl hd) (injG (by kernel_rfl) hu) hg ?_
 intro hW0 K hK
 obtain ⟨u0, z0⟩ := ok.z0
 replace z0 := rq_at hW0 z0
 obtain ⟨u1, z1⟩ := ok.z1
 replace z1 := rq_at hW0 z1
 have zf : ∀ o, w.frozen? ⟨X.br, o, none⟩ = false := fun o => (hW0.cells.2 _ _).trans (ok.zf o)
 have hr : (execOp a.eval o).run Tryz.prog w = .ok .skip ((w.setCell ⟨X.br, 0, none⟩ (.int .i64 (fmV X.h (divV (X.ay - X.cy) X.n)))).setCell ⟨X.br, 1, none⟩ (.int .i64 (fmV X.h (divV (X.bx - X.ax) X.n)))) := by
  generalize a.eval = ρ at e6 e47 ⊢
  unfold execOp
  rw [hop]
  simp [e6, e47, z0, z1, zf, go_sem]
 unfold Oper.wp
 rw [hr]
 exact hK _ _ ⟨w, hW0, rfl⟩
theorem SDI.size : (opsOf 4 Tryz.f89).size = 21 := by kernel_rfl
theorem SDI.rest (X : SDI) (ok : SDIOk X) {Q : PQ} : ∀ i ∈ [7, 8, 16, 17, 19], SDI.St X Q i := by
 simp only [List.forall_mem_cons]
 exact ⟨st_callZ SDI.isL (SDI.ini ok) ok.sz rfl (by kernel_rfl) (fun _ _ => by simp [go_sem]) (fun γ w hW => (ifd _ _ w).mono fun e w' ⟨h1, h2⟩ => ⟨h1, h2 ▸ Kp.refl _⟩) (fun _ _ _ hW hk => Kp.trans hW hk),
  st_callZ SDI.isL (SDI.ini ok) ok.sz rfl (by kernel_rfl) (fun _ _ => by simp [go_sem]) (fun γ w hW => (ifm _ _ w).mono fun e w' ⟨h1, h2⟩ => ⟨h1, h2 ▸ Kp.refl _⟩) (fun _ _ _ hW hk => Kp.trans hW hk),
  st_callZ SDI.isL (SDI.ini ok) ok.sz rfl (by kernel_rfl) (fun _ _ => by simp [go_sem]) (fun γ w hW => (ifd _ _ w).mono fun e w' ⟨h1, h2⟩ => ⟨h1, h2 ▸ Kp.refl _⟩) (fun _ _ _ hW hk => Kp.trans hW hk),
  st_callZ SDI.isL (SDI.ini ok) ok.sz rfl (by kernel_rfl) (fun _ _ => by simp [go_sem]) (fun γ w hW => (ifm _ _ w).mono fun e w' ⟨h1, h2⟩ => ⟨h1, h2 ▸ Kp.refl _⟩) (fun _ _ _ hW hk => Kp.trans hW hk),
  SDI.s19 X ok, List.forall_mem_nil _⟩
theorem SDI.steps (X : SDI) (ok : SDIOk X) {Q : PQ} (i : Nat) (hi : i < (opsOf 4 Tryz.f89).size) : SDI.St X Q i := by
 rw [SDI.size] at hi
 rcases (by decide : ∀ i, i < 21 → i ∈ [0, 1, 3, 5, 6, 9, 10, 12, 14, 15, 18, 20] ∨ i ∈ [2, 4, 11, 13] ∨ i ∈ [7, 8, 16, 17, 19]) i hi with h | h | h
 · exact SDI.plain X ok i h
 · exact SDI.early X ok i h
 · exact SDI.rest X ok i h
theorem SDI.run (X : SDI) (ok : SDIOk X) {Q : PQ} (w : World) (h0 : X.Wd 0 (fun _ => undef) w.drew) (hend : ∀ (γ : Nat → Value) w', X.Wd 1 γ w' → Q .normal ((((((((((((((((((((X.a0.put (some 29) (.int .i64 X.h)).put (some 30) (.pointer (some ⟨X.b0, 1, none⟩))).put (some 31) (.int .i64 X.ay)).put (some 32) (.pointer (some ⟨X.b1, 1, none⟩))).put (some 33) (.int .i64 X.cy)).put (some 34) (.int .i64 (X.ay - X.cy))).put (some 35) (.int .i64 X.n)).put (some 36) (.int .i64 (divV (X.ay - X.cy) X.n))).put (some 37) (.int .i64 (fmV X.h (divV (X.ay - X.cy) X.n)))).put (some 38) (.int .i64 X.h)).put (some 39) (.pointer (some ⟨X.b1, 0, none⟩))).put (some 40) (.int .i64 X.bx)).put (some 41) (.pointer (some ⟨X.b0, 0, none⟩))).put (some 42) (.int .i64 X.ax)).put (some 43) (.int .i64 (X.bx - X.ax))).put (some 44) (.int .i64 X.n)).put (some 45) (.int .i64 (divV (X.bx - X.ax) X.n))).put (some 46) (.int .i64 (fmV X.h (divV (X.bx - X.ax) X.n)))).put (some 47) (.agg #[.int .i64 (fmV X.h (divV (X.ay - X.cy) X.n)), .int .i64 (fmV X.h (divV (X.bx - X.ax) X.n))])).put (some 7) (.bool true)) w') : (Code.region 4 (opsOf 4 Tryz.f89) true).wp Tryz.prog Q X.a0 w := by
 refine reg_act (acts := SDI.acts) (av := SDI.av) (val0 := X.val0) (Wd := X.Wd) (by kernel_rfl) (by kernel_rfl) (by rw [SDI.size]; decide) (fun i hi => SDI.steps X ok i hi) _ h0 ?_
 intro γ w' h
 exact end_at (hend γ w' h) (by kernel_rfl)
structure SDS where
 ax : Int
 ay : Int
 bx : Int
 cy : Int
 h : Int
 n : Int
 b0 : Nat
 b1 : Nat
 br : Nat
 W : World
 a0 : Act
structure SDSOk (X : SDS) : Prop where
 c0 : X.W.cell? ⟨X.b0, 0, none⟩ = some (.int .i64 X.ax)
 c1 : X.W.cell? ⟨X.b0, 1, none⟩ = some (.int .i64 X.ay)
 c2 : X.W.cell? ⟨X.b1, 0, none⟩ = some (.int .i64 X.bx)
 c3 : X.W.cell? ⟨X.b1, 1, none⟩ = some (.int .i64 X.cy)
 w1 : IntKind.i64.wrap (X.ay - X.cy) = X.ay - X.cy
 w2 : IntKind.i64.wrap (X.bx - X.ax) = X.bx - X.ax
 z0 : ∃ u, X.W.cell? ⟨X.br, 0, none⟩ = some u
 z1 : ∃ u, X.W.cell? ⟨X.br, 1, none⟩ = some u
 zf : ∀ o, X.W.frozen? ⟨X.br, o, none⟩ = false
 e2 : X.a0.eval (.tmp 2) = .int .i64 X.h
 e3 : X.a0.eval (.tmp 3) = .pointer (some ⟨X.b0, 0, none⟩)
 e4 : X.a0.eval (.tmp 4) = .pointer (some ⟨X.b1, 0, none⟩)
 e6 : X.a0.eval (.tmp 6) = .pointer (some ⟨X.br, 0, none⟩)
 e7 : X.a0.eval (.tmp 7) = .int .i64 X.n
 sz : X.a0.tmps.size = 30
def SDS.val0 (X : SDS) : Nat → Value
 | 2 => .int .i64 X.h
 | 3 => .pointer (some ⟨X.b0, 0, none⟩)
 | 4 => .pointer (some ⟨X.b1, 0, none⟩)
 | 6 => .pointer (some ⟨X.br, 0, none⟩)
 | 7 => .int .i64 X.n
 | 11 => .int .i64 X.h
 | 12 => .pointer (some ⟨X.b0, 1, none⟩)
 | 13 => .int .i64 X.ay
 | 14 => .pointer (some ⟨X.b1, 1, none⟩)
 | 15 => .int .i64 X.cy
 | 16 => .int .i64 (X.ay - X.cy)
 | 17 => .int .i64 X.n
 | 18 => .int .i64 (divV (X.ay - X.cy) X.n)
 | 19 => .int .i64 (fmV X.h (divV (X.ay - X.cy) X.n))
 | 20 => .int .i64 X.h
 | 21 => .pointer (some ⟨X.b1, 0, none⟩)
 | 22 => .int .i64 X.bx
 | 23 => .pointer (some ⟨X.b0, 0, none⟩)
 | 24 => .int .i64 X.ax
 | 25 => .int .i64 (X.bx - X.ax)
 | 26 => .int .i64 X.n
 | 27 => .int .i64 (divV (X.bx - X.ax) X.n)
 | 28 => .int .i64 (fmV X.h (divV (X.bx - X.ax) X.n))
 | 29 => .agg #[.int .i64 (fmV X.h (divV (X.ay - X.cy) X.n)), .int .i64 (fmV X.h (divV (X.bx - X.ax) X.n))]
 | _ => undef
def SDS.av : Nat → Option Nat
 | _ => none
def SDS.acts : List Nat := [19]
def SDS.Wd (X : SDS) : Nat → (Nat → Value) → World → Prop
  | 0, _, w => Kp X.W w
  | _, _, w => ∃ w1, Kp X.W w1 ∧ w = ((w1.setCell ⟨X.br, 0, none⟩ (.int .i64 (fmV X.h (divV (X.ay - X.cy) X.n)))).setCell ⟨X.br, 1, none⟩ (.int .i64 (fmV X.h (divV (X.bx - X.ax) X.n))))
theorem SDS.chain : chainG (opsOf 2 Tryz.f96) SDS.acts = true := by kernel_rfl
theorem SDS.nodup : SDS.acts.Nodup := by decide
def SDS.L : List (Option Nat × Op × Option (Nat × Bool)) := [
 (some 11, .move (.tmp 2), none),
 (some 12, .fieldAddr 34 (.tmp 3) 1, none),
 (some 13, .load 3 (.tmp 12), none),
 (some 14, .fieldAddr 34 (.tmp 4) 1, none),
 (some 15, .load 3 (.tmp 14), none),
 (some 16, .binOp .sub 3 (.tmp 13) (.tmp 15) 3, none),
 (some 17, .move (.tmp 7), none),
 (some 18, .call { callee := .value (.func 110), args := #[(.tmp 16), (.tmp 17)], argTypes := #[3, 3] }, none),
 (some 19, .call { callee := .value (.func 109), args := #[(.tmp 11), (.tmp 18)], argTypes := #[3, 3] }, none),
 (some 20, .move (.tmp 2), none),
 (some 21, .fieldAddr 34 (.tmp 4) 0, none),
 (some 22, .load 3 (.tmp 21), none),
 (some 23, .fieldAddr 34 (.tmp 3) 0, none),
 (some 24, .load 3 (.tmp 23), none),
 (some 25, .binOp .sub 3 (.tmp 22) (.tmp 24) 3, none),
 (some 26, .move (.tmp 7), none),
 (some 27, .call { callee := .value (.func 110), args := #[(.tmp 25), (.tmp 26)], argTypes := #[3, 3] }, none),
 (some 28, .call { callee := .value (.func 109), args := #[(.tmp 20), (.tmp 27)], argTypes := #[3, 3] }, none),
 (some 29, .build 34 #[(0, (.tmp 19)), (1, (.tmp 28))], none),
 (none, .store 34 (.tmp 6) (.tmp 29), none)]
theorem SDS.isL : (opsOf 2 Tryz.f96).toList.map tri = SDS.L := by kernel_rfl
theorem SDS.ini {X : SDS} (ok : SDSOk X) : ∀ n ∈ [2, 3, 4, 6, 7], X.a0.eval (.tmp n) = X.val0 n := by
 simp only [List.forall_mem_cons]
 exact ⟨ok.e2, ok.e3, ok.e4, ok.e6, ok.e7, List.forall_mem_nil _⟩
abbrev SDS.St (X : SDS) (Q : PQ) (i : Nat) : Prop := StepG (opsOf 2 Tryz.f96) SDS.acts SDS.av X.val0 X.Wd X.a0 Q i
theorem SDS.plain (X : SDS) (ok : SDSOk X) {Q : PQ} : ∀ i ∈ [0, 1, 3, 5, 6, 9, 10, 12, 14, 15, 18], SDS.St X Q i := by
 simp only [List.forall_mem_cons]
 refine ⟨?_, ?_, ?_, ?_, ?_, ?_, ?_, ?_, ?_, ?_, ?_, List.forall_mem_nil _⟩
 all_goals
  refine st_plain SDS.isL (SDS.ini ok) ok.sz rfl (by kernel_rfl) ?_
  intro γ w n o hW hop
  unfold execOp
  rw [hop]
  simp [envR, valG, SDS.av, SDS.val0, ok.w1, ok.w2, go_sem]
theorem SDS.early (X : SDS) (ok : SDSOk X) {Q : PQ} : ∀ i ∈ [2, 4, 11, 13], SDS.St X Q i := by
 simp only [List.forall_mem_cons]
 refine ⟨?_, ?_, ?_, ?_, List.forall_mem_nil _⟩
 all_goals
  refine st_plainM (m := 0) SDS.isL (SDS.ini ok) ok.sz rfl (by kernel_rfl) ?_
  intro γ w n o hn hW hop
  obtain rfl : n = 0 := by omega
  have hk : Kp X.W w := hW
  have hc_c1 := rq_at hk ok.c1
  have hc_c3 := rq_at hk ok.c3
  have hc_c2 := rq_at hk ok.c2
  have hc_c0 := rq_at hk ok.c0
  unfold execOp
  rw [hop]
  simp [envR, valG, SDS.av, SDS.val0, hc_c1, hc_c3, hc_c2, hc_c0, go_sem]
theorem SDS.s19 (X : SDS) (ok : SDSOk X) {Q : PQ} : SDS.St X Q 19 := by
 intro γ listed a w o hF hC hW h1 ho h2
 obtain ⟨hd, hop, hg⟩ := fieldsL SDS.isL (i := 19) rfl ho
 have e6 : a.eval (.tmp 6) = .pointer (some ⟨X.br, 0, none⟩) := known hF ho h2 (SDS.ini ok) ok.sz (by kernel_rfl)
 have e29 : a.eval (.tmp 29) = .agg #[.int .i64 (fmV X.h (divV (X.ay - X.cy) X.n)), .int .i64 (fmV X.h (divV (X.bx - X.ax) X.n))] := known hF ho h2 (SDS.ini ok) ok.sz (by kernel_rfl)
 have hu := unl (hF.lt ho) h1
 refine st_actG (k := 0) SDS.chain SDS.nodup rfl hF hC hW h1 ho h2 (Or.inl hd) (injG (by kernel_rfl) hu) hg ?_
 intro hW0 K hK
 obtain ⟨u0, z0⟩ := ok.z0
 replace z0 := rq_at hW0 z0
 obtain ⟨u1, z1⟩ := ok.z1
 replace z1 := rq_at hW0 z1
 have zf : ∀ o, w.frozen? ⟨X.br, o, none⟩ = false := fun o => (hW0.cells.2 _ _).trans (ok.zf o)
 have hr : (execOp a.eval o).run Tryz.prog w = .ok .skip ((w.setCell ⟨X.br, 0, none⟩ (.int .i64 (fmV X.h (divV (X.ay - X.cy) X.n)))).setCell ⟨X.br, 1, none⟩ (.int .i64 (fmV X.h (divV (X.bx - X.ax) X.n)))) := by
  generalize a.eval = ρ at e6 e29 ⊢
  unfold execOp
  rw [hop]
  simp [e6, e29, z0, z1, zf, go_sem]
 unfold Oper.wp
 rw [hr]
 exact hK _ _ ⟨w, hW0, rfl⟩
theorem SDS.size : (opsOf 2 Tryz.f96).size = 20 := by kernel_rfl
theorem SDS.rest (X : SDS) (ok : SDSOk X) {Q : PQ} : ∀ i ∈ [7, 8, 16, 17, 19], SDS.St X Q i := by
 simp only [List.forall_mem_cons]
 exact ⟨st_callZ SDS.isL (SDS.ini ok) ok.sz rfl (by kernel_rfl) (fun _ _ => by simp [go_sem]) (fun γ w hW => sfd _ _ w) (fun _ _ _ hW hk => Kp.trans hW hk),
  st_callZ SDS.isL (SDS.ini ok) ok.sz rfl (by kernel_rfl) (fun _ _ => by simp [go_sem]) (fun γ w hW => sfm _ _ w) (fun _ _ _ hW hk => Kp.trans hW hk),
  st_callZ SDS.isL (SDS.ini ok) ok.sz rfl (by kernel_rfl) (fun _ _ => by simp [go_sem]) (fun γ w hW => sfd _ _ w) (fun _ _ _ hW hk => Kp.trans hW hk),
  st_callZ SDS.isL (SDS.ini ok) ok.sz rfl (by kernel_rfl) (fun _ _ => by simp [go_sem]) (fun γ w hW => sfm _ _ w) (fun _ _ _ hW hk => Kp.trans hW hk),
  SDS.s19 X ok, List.forall_mem_nil _⟩
theorem SDS.steps (X : SDS) (ok : SDSOk X) {Q : PQ} (i : Nat) (hi : i < (opsOf 2 Tryz.f96).size) : SDS.St X Q i := by
 rw [SDS.size] at hi
 rcases (by decide : ∀ i, i < 20 → i ∈ [0, 1, 3, 5, 6, 9, 10, 12, 14, 15, 18] ∨ i ∈ [2, 4, 11, 13] ∨ i ∈ [7, 8, 16, 17, 19]) i hi with h | h | h
 · exact SDS.plain X ok i h
 · exact SDS.early X ok i h
 · exact SDS.rest X ok i h
theorem SDS.run (X : SDS) (ok : SDSOk X) {Q : PQ} (w : World) (h0 : X.Wd 0 (fun _ => undef) w.drew) (hend : ∀ (γ : Nat → Value) w', X.Wd 1 γ w' → Q .normal (((((((((((((((((((X.a0.put (some 11) (.int .i64 X.h)).put (some 12) (.pointer (some ⟨X.b0, 1, none⟩))).put (some 13) (.int .i64 X.ay)).put (some 14) (.pointer (some ⟨X.b1, 1, none⟩))).put (some 15) (.int .i64 X.cy)).put (some 16) (.int .i64 (X.ay - X.cy))).put (some 17) (.int .i64 X.n)).put (some 18) (.int .i64 (divV (X.ay - X.cy) X.n))).put (some 19) (.int .i64 (fmV X.h (divV (X.ay - X.cy) X.n)))).put (some 20) (.int .i64 X.h)).put (some 21) (.pointer (some ⟨X.b1, 0, none⟩))).put (some 22) (.int .i64 X.bx)).put (some 23) (.pointer (some ⟨X.b0, 0, none⟩))).put (some 24) (.int .i64 X.ax)).put (some 25) (.int .i64 (X.bx - X.ax))).put (some 26) (.int .i64 X.n)).put (some 27) (.int .i64 (divV (X.bx - X.ax) X.n))).put (some 28) (.int .i64 (fmV X.h (divV (X.bx - X.ax) X.n)))).put (some 29) (.agg #[.int .i64 (fmV X.h (divV (X.ay - X.cy) X.n)), .int .i64 (fmV X.h (divV (X.bx - X.ax) X.n))])) w') : (Code.region 2 (opsOf 2 Tryz.f96) true).wp Tryz.prog Q X.a0 w := by
 refine reg_act (acts := SDS.acts) (av := SDS.av) (val0 := X.val0) (Wd := X.Wd) (by kernel_rfl) (by kernel_rfl) (by rw [SDS.size]; decide) (fun i hi => SDS.steps X ok i hi) _ h0 ?_
 intro γ w' h
 exact end_at (hend γ w' h) (by kernel_rfl)
def sideP (a b : Pnt) (h : Int) : Pnt := (fmV h (divV (a.2 - b.2) (szV a b)), fmV h (divV (b.1 - a.1) (szV a b)))
def sdV (a b : Pnt) (h : Int) : Pnt × Bool := if nearB a = true ∧ nearB b = true ∧ a ≠ b ∧ (0 ≤ h ∧ h ≤ 4194304) then (sideP a b h, true) else ((0, 0), false)
theorem wrap_small {x : Int} (h1 : -9223372036854775808 ≤ x) (h2 : x ≤ 9223372036854775807) : IntKind.i64.wrap x = x := by
 unfold IntKind.wrap; simp [IntKind.signed, IntKind.bits]; omega
theorem boxes3 {w w1 : World} {ax ay bx by' : Int} {t1 t2 t3 : TypeId} (h : Kp (((w.alloc (.cells #[.int .i64 ax, .int .i64 ay] t1)).alloc (.cells #[.int .i64 bx, .int .i64 by'] t2)).alloc (.cells #[.int .i64 0, .int .i64 0] t3)) w1) :
  (w1.cell? ⟨w.heap.size, 0, none⟩ = some (.int .i64 ax) ∧ w1.cell? ⟨w.heap.size, 1, none⟩ = some (.int .i64 ay)) ∧ (w1.cell? ⟨w.heap.size + 1, 0, none⟩ = some (.int .i64 bx) ∧ w1.cell? ⟨w.heap.size + 1, 1, none⟩ = some (.int .i64 by')) ∧
  (w1.cell? ⟨w.heap.size + 1 + 1, 0, none⟩ = some (.int .i64 0) ∧ w1.cell? ⟨w.heap.size + 1 + 1, 1, none⟩ = some (.int .i64 0) ∧ ∀ o, w1.frozen? ⟨w.heap.size + 1 + 1, o, none⟩ = false) := by
 obtain ⟨h1, h2, _⟩ := boxes2 (Kp.trans ((Kp.refl _).alloc _ _) h)
 obtain ⟨z0, z1, zf, _⟩ := zbox _ w1 _ h
 rw [World.size_alloc, World.size_alloc] at z0 z1 zf
 exact ⟨h1, h2, z0, z1, zf⟩
set_option maxRecDepth 100000 in
set_option maxHeartbeats 4000000 in
theorem sside (w : World) (a b : Pnt) (h : Int) (ha : nearB a = true) (hb : nearB b = true) :
  Calls Tryz.prog 96 #[.agg #[.int .i64 a.1, .int .i64 a.2], .agg #[.int .i64 b.1, .int .i64 b.2], .int .i64 h] w fun e w' => e = .returned (.agg #[.int .i64 (sideP a b h).1, .int .i64 (sideP a b h).2]) ∧ Kp w w' := by
 have HS : Hid _ := fun w => ssize w a b ha hb
 obtain ⟨a1, a2⟩ := nearB_nr ha
 obtain ⟨b1, b2⟩ := nearB_nr hb
 unfold sideP
 clear ha hb
 generalize szV a b = n at *
 obtain ⟨ax, ay⟩ := a
 obtain ⟨bx, by'⟩ := b
 unfold nr at *
 simp only at *
 have x1 : IntKind.i64.wrap (ay - by') = ay - by' := wrap_small (by omega) (by omega)
 have x2 : IntKind.i64.wrap (bx - ax) = bx - ax := wrap_small (by omega) (by omega)
 obtain ⟨W, hW⟩ : ∃ W, ((w.alloc (.cells #[.int .i64 ax, .int .i64 ay] 34)).alloc (.cells #[.int .i64 bx, .int .i64 by'] 34)).alloc (.cells #[.int .i64 0, .int .i64 0] 34) = W := ⟨_, rfl⟩
 have HB : Hid (∀ w1, Kp W w1 → _) := fun w1 k => boxes3 (hW ▸ k)
 have KW : Hid (Kp w W) := by show Kp w W; rw [← hW]; exact (((Kp.refl w).alloc _ _).alloc _ _).alloc _ _
 have HW : Hid (_ = W) := hW
 clear hW
 obtain ⟨u, hu⟩ : ∃ u, fmV h (divV (ay - by') n) = u := ⟨_, rfl⟩
 obtain ⟨v, hv⟩ : ∃ v, fmV h (divV (bx - ax) n) = v := ⟨_, rfl⟩
 rw [hu, hv]
 go_enter Tryz.func96, Tryz.ntmps96
 go_wp2_with fail
 rw [HW.out]
 clear HW
 refine Calls.mono (HS.out _) ?_
 rintro e w1 ⟨rfl, k1⟩
 obtain ⟨⟨q0, q1⟩, ⟨q2, q3⟩, z0, z1, zf⟩ := HB.out w1 k1
 have K1 : Hid (Kp w w1) := Kp.trans KW.out k1
 clear k1 HB
 go_wp2
 refine reg_change (ops' := opsOf 2 Tryz.f96) (by kernel_rfl) ?_
 refine SDS.run ⟨ax, ay, bx, by', h, n, w.heap.size, w.heap.size + 1, w.heap.size + 1 + 1, w1.drew, _⟩ ⟨q0, q1, q2, q3, x1, x2, ⟨_, z0⟩, ⟨_, z1⟩, zf, rfl, rfl, rfl, rfl, rfl, rfl⟩ w1 (Kp.refl _) ?_
 rintro γ w2 ⟨w3, k3, rfl⟩
 replace k3 : Kp w1 w3 := undrew k3
 replace z0 := rq_at k3 z0
 replace z1 := rq_at k3 z1
 have K3 : Hid (Kp w w3) := Kp.trans K1.out k3
 clear k3 q0 q1 q2 q3 K1 zf
 simp only [hu, hv, Act.put, List.setIfInBounds_toArray, List.set_cons_zero, List.set_cons_succ]
 obtain ⟨y0, y1⟩ := set2 w3 (w.heap.size + 1 + 1) (.int .i64 u) (.int .i64 v) z0 z1
 go_wp2
 refine bodyPost_ret (v := .agg #[.int .i64 u, .int .i64 v]) (by simp [results, Tryz.results96, go_sem, y0, y1]) rfl ⟨rfl, ?_⟩
 exact (K3.out.setCell (by simp; omega) _).setCell (by simp; omega) _
end Go.Proofs.YtfdjjbgcaojcnaaGreat

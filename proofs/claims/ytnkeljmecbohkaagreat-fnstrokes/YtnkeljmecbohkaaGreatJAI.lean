/-
  What the program's own division helpers answer: nearest, cut
-/
import Derived.Test.YtnkeljmecbohkaaGreatJAH
import Derived.Laws.Externs
import Derived.Test.YtnkeljmecbohkaaGreatJAB
import Derived.Test.YtnkeljmecbohkaaGreatJAA
namespace Go.Proofs.YtnkeljmecbohkaaGreat
open Go.ChangeShapes Go.WideShapes Go.ChangeAt Go.RowKit
set_option maxHeartbeats 400000 in
theorem nearest_any (a b : Int) (w : World) (hb : b ≠ 0) (hb1 : -1152921504606846976 ≤ b) (hb2 : b ≤ 1152921504606846976) (h1 : -1152921504606846976 ≤ a) (h2 : a ≤ 1152921504606846976) :
  Calls Tryz.prog 117 #[.int .i64 a, .int .i64 b] w fun e w' => e = .returned (.int .i64 (nearQ a b)) ∧ w' = w := by
 by_cases hn : b < 0
 ·have e : nearQ a b = (2 * -a + -b) / (2 * -b) := by unfold nearQ; rw [if_pos hn]
  rw [e]; clear e
  go_enter Tryz.func117, Tryz.ntmps117
  go_wp2_with (go_at_call 84; refine (divDown_any _ _ _ (by omega) (by omega) (by omega) (by omega)).mono ?_; rintro e w' ⟨rfl, rfl⟩)
  go_ret
  exact ⟨rfl, rfl⟩
 ·have e : nearQ a b = (2 * a + b) / (2 * b) := by unfold nearQ; rw [if_neg hn]
  rw [e]; clear e
  go_enter Tryz.func117, Tryz.ntmps117
  go_wp2_with (go_at_call 84; refine (divDown_any _ _ _ (by omega) (by omega) (by omega) (by omega)).mono ?_; rintro e w' ⟨rfl, rfl⟩)
  go_ret
  exact ⟨rfl, rfl⟩
set_option maxHeartbeats 400000 in
theorem cutTo_any (x l g : Int) (w : World) :
  Calls Tryz.prog 116 #[.int .i64 x, .int .i64 l, .int .i64 g] w fun e w' => e = .returned (.int .i64 (cutV x l g)) ∧ w' = w := by
 go_enter Tryz.func116, Tryz.ntmps116
 go_wp2
 all_goals go_ret
 all_goals exact ⟨ret_int (by unfold cutV; omega), rfl⟩
set_option maxHeartbeats 800000 in
theorem fixDiv_yes (a b : Int) (w : World) (a1 : -1099511627776 ≤ a) (a2 : a ≤ 1099511627776) (b1 : -1099511627776 ≤ b) (b2 : b ≤ 1099511627776) (b0 : b ≠ 0) :
  Calls Tryz.prog 105 #[.int .i64 a, .int .i64 b] w fun e w' => e = .returned (.int .i64 (cutV (nearQ (a * 65536) b) (-1099511627776) 1099511627776)) ∧ w' = w := by
 have hz : (b == 0) = false := by simpa using b0
 go_enter Tryz.func105, Tryz.ntmps105
 go_wp2_with (first | (go_at_call 117; refine (nearest_any _ _ _ (by omega) (by omega) (by omega) (by omega) (by omega)).mono ?_; rintro e w' ⟨rfl, rfl⟩) | (go_at_call 116; refine (cutTo_any _ _ _ _).mono ?_; rintro e w' ⟨rfl, rfl⟩) | go_in)
 go_ret
 exact ⟨rfl, rfl⟩
theorem fixDiv_no (a b : Int) (w : World) (h : ¬ (-1099511627776 ≤ a ∧ a ≤ 1099511627776)) :
  Calls Tryz.prog 105 #[.int .i64 a, .int .i64 b] w fun e w' => e = .returned (.int .i64 0) ∧ w' = w := by
 have H : Hid _ := h
 clear h
 go_enter Tryz.func105, Tryz.ntmps105
 go_wp2_with (go_at_call 112; refine (igoodQ_no a _ H.out).mono ?_; rintro e w' ⟨rfl, rfl⟩)
 go_ret
 exact ⟨rfl, rfl⟩
theorem fixDiv_no2 (a b : Int) (w : World) (a1 : -1099511627776 ≤ a) (a2 : a ≤ 1099511627776) (h : ¬ (-1099511627776 ≤ b ∧ b ≤ 1099511627776)) :
  Calls Tryz.prog 105 #[.int .i64 a, .int .i64 b] w fun e w' => e = .returned (.int .i64 0) ∧ w' = w := by
 have H : Hid _ := h
 clear h
 go_enter Tryz.func105, Tryz.ntmps105
 go_wp2_with fail
 refine (igoodQ_yes a _ a1 a2).mono ?_; rintro e w' ⟨rfl, rfl⟩
 go_wp2_with fail
 refine (igoodQ_no b _ H.out).mono ?_; rintro e w' ⟨rfl, rfl⟩
 go_wp2
 go_ret
 exact ⟨rfl, rfl⟩
theorem fixDiv_no3 (a : Int) (w : World) (a1 : -1099511627776 ≤ a) (a2 : a ≤ 1099511627776) :
  Calls Tryz.prog 105 #[.int .i64 a, .int .i64 0] w fun e w' => e = .returned (.int .i64 0) ∧ w' = w := by
 go_enter Tryz.func105, Tryz.ntmps105
 go_wp2_with (go_at_call 112; refine (igoodQ_yes _ _ (by omega) (by omega)).mono ?_; rintro e w' ⟨rfl, rfl⟩)
 go_ret
 exact ⟨rfl, rfl⟩
end Go.Proofs.YtnkeljmecbohkaaGreat
namespace Go.Proofs.YtnkeljmecbohkaaGreat.fnExactFixDiv
open Go.ChangeShapes Go.WideShapes Go.ChangeAt Go.RowKit
set_option linter.unusedVariables false
end Go.Proofs.YtnkeljmecbohkaaGreat.fnExactFixDiv
namespace Go.Proofs.YtnkeljmecbohkaaGreat
open Go.ChangeShapes Go.WideShapes Go.ChangeAt Go.RowKit
theorem and_low (a : Int) (h0 : 0 ≤ a) (h : a < 18446744073709551616) : bits .and .u64 a 4294967295 = a % 4294967296 := by
 obtain ⟨x, rfl⟩ := Int.eq_ofNat_of_zero_le h0
 have e := bits_and_u64_nat x 4294967295 (by omega) (by omega)
 have e2 : x &&& 4294967295 = x % 4294967296 := Nat.and_two_pow_sub_one_eq_mod x 32
 rw [e2] at e
 exact e
theorem mul_hi (a b : Int) (ha : 0 ≤ a) (ha' : a < 18446744073709551616) (hb : 0 ≤ b) (hb' : b < 18446744073709551616) :
    a / 4294967296 * (b / 4294967296) + (a / 4294967296 * (b % 4294967296) + a % 4294967296 * (b % 4294967296) / 4294967296) / 4294967296 +
          ((a / 4294967296 * (b % 4294967296) + a % 4294967296 * (b % 4294967296) / 4294967296) % 4294967296 + a % 4294967296 * (b / 4294967296)) / 4294967296 = a * b / 18446744073709551616 := by
  have h := (times_eqs a b ha ha' hb hb').1
  rw [← h, Int.add_comm (a % 4294967296 * (b / 4294967296))]
set_option maxHeartbeats 1000000 in
theorem mul64_any (a b : Int) (w : World) (ha : 0 ≤ a) (ha' : a < 18446744073709551616) (hb : 0 ≤ b) (hb' : b < 18446744073709551616) :
  Calls Tryz.prog 113 #[.int .u64 a, .int .u64 b] w fun e w' => e = .returned (.tuple #[.int .u64 (a * b / 18446744073709551616), .int .u64 (a * b % 18446744073709551616)]) ∧ w' = w := by
 obtain ⟨p1, p2⟩ := half_mul (a % 4294967296) (b % 4294967296) (by omega) (by omega) (by omega) (by omega)
 obtain ⟨q1, q2⟩ := half_mul (a / 4294967296) (b % 4294967296) (by omega) (by omega) (by omega) (by omega)
 obtain ⟨r1, r2⟩ := half_mul (a % 4294967296) (b / 4294967296) (by omega) (by omega) (by omega) (by omega)
 obtain ⟨s1, s2⟩ := half_mul (a / 4294967296) (b / 4294967296) (by omega) (by omega) (by omega) (by omega)
 have m1 := and_low a ha ha'
 have m2 := and_low b hb hb'
 have m3 := and_low (a / 4294967296 * (b % 4294967296) + a % 4294967296 * (b % 4294967296) / 4294967296) (by omega) (by omega)
 have HH : Hid _ := mul_hi a b ha ha' hb hb'
 have HL : Hid _ := IntKind.wrap_u64 (a * b)
 go_enter Tryz.func113, Tryz.ntmps113
 go_wp2
 rw [HH.out, HL.out]
 go_ret2
 exact ⟨rfl, rfl⟩
theorem add64 (x y : Int) (hx : 0 ≤ x) (hy : 0 ≤ y) (w : World) : (callFunc 115 #[.int .u64 x, .int .u64 y, .int .u64 0]).run Tryz.prog w =
  .ok (.value (.tuple #[.int .u64 ((x + y) % 18446744073709551616), .int .u64 ((x + y) / 18446744073709551616)])) w := by
 rw [run_callFunc_extern Tryz.func115 (by kernel_rfl) (by kernel_rfl) (by kernel_rfl) (e := add64Entry) (by kernel_rfl)]
 have h := run_add64 (P := Tryz.prog) x y 0 hx hy (by omega) (by omega) w
 rw [Int.add_zero] at h
 rw [h]
 rfl
theorem size_neg (x : Int) (w : World) (h : -1099511627776 ≤ x) (hx : x < 0) : Calls Tryz.prog 114 #[.int .i64 x] w fun e w' => e = .returned (.int .u64 (-x)) ∧ w' = w := by
 go_enter Tryz.func114, Tryz.ntmps114
 go_wp2
 go_ret
 exact ⟨rfl, rfl⟩
theorem size_nn (x : Int) (w : World) (hx : 0 ≤ x) (h : x ≤ 1099511627776) : Calls Tryz.prog 114 #[.int .i64 x] w fun e w' => e = .returned (.int .u64 x) ∧ w' = w := by
 go_enter Tryz.func114, Tryz.ntmps114
 go_wp2
 go_ret
 exact ⟨rfl, rfl⟩
def posV (P : Int) : Int := min 1099511627776 ((P + 32768) / 65536)
def negV (P : Int) : Int := -(min 1099511627776 ((P + 32767) / 65536))
theorem prod_bd (x y : Int) (hx : 0 ≤ x) (hx' : x ≤ 1099511627776) (hy : 0 ≤ y) (hy' : y ≤ 1099511627776) : 0 ≤ x * y ∧ x * y ≤ 1208925819614629174706176 :=
 ⟨Int.mul_nonneg hx hy, Int.mul_le_mul hx' hy' hy (by omega)⟩
set_option maxHeartbeats 1000000 in
theorem fixMul_pp (a b : Int) (w : World) (a1 : -1099511627776 ≤ a) (a2 : a ≤ 1099511627776) (b1 : -1099511627776 ≤ b) (b2 : b ≤ 1099511627776) (ha : 0 ≤ a) (hb : 0 ≤ b) :
  Calls Tryz.prog 104 #[.int .i64 a, .int .i64 b] w fun e w' => e = .returned (.int .i64 (posV (a * b))) ∧ w' = w := by
 have hda : decide (a < 0) = false := by simp; omega
 have hdb : decide (b < 0) = false := by simp; omega
 obtain ⟨P, hP⟩ : ∃ P, a * b = P := ⟨_, rfl⟩
 have pb := prod_bd (a) (b) (by omega) (by omega) (by omega) (by omega)
 rw [hP] at pb ⊢
 obtain ⟨p0, p1⟩ := pb
 have HP : Hid _ := hP
 clear hP
 have k0 : 0 ≤ P % 18446744073709551616 := by omega
 have HA : Hid _ := add64 (P % 18446744073709551616) 32768 k0 (by omega)
 by_cases hT : P + 32768 < 18446744073709551616
 ·have hq : (P / 18446744073709551616 + (P % 18446744073709551616 + 32768) / 18446744073709551616 == 0) = true := by rw [beq_iff_eq]; omega
  have e1 : (P % 18446744073709551616 + 32768) % 18446744073709551616 = P + 32768 := by omega
  go_enter Tryz.func104, Tryz.ntmps104
  go_wp2_with (go_at_call 112; refine (igoodQ_yes _ _ (by omega) (by omega)).mono ?_; rintro e w' ⟨rfl, rfl⟩)
  refine (size_nn a _ ha a2).mono ?_; rintro e w' ⟨rfl, rfl⟩
  go_wp2_with fail
  refine (size_nn b _ hb b2).mono ?_; rintro e w' ⟨rfl, rfl⟩
  go_wp2_with fail
  refine (mul64_any (a) (b) _ (by omega) (by omega) (by omega) (by omega)).mono ?_; rintro e w' ⟨rfl, rfl⟩
  rw [HP.out]
  go_wp2_with (simp only [HA.out])
  all_goals go_ret
  all_goals exact ⟨ret_int (by unfold posV; omega), rfl⟩
 ·have hq : (P / 18446744073709551616 + (P % 18446744073709551616 + 32768) / 18446744073709551616 == 0) = false := by rw [beq_eq_false_iff_ne]; omega
  go_enter Tryz.func104, Tryz.ntmps104
  go_wp2_with (go_at_call 112; refine (igoodQ_yes _ _ (by omega) (by omega)).mono ?_; rintro e w' ⟨rfl, rfl⟩)
  refine (size_nn a _ ha a2).mono ?_; rintro e w' ⟨rfl, rfl⟩
  go_wp2_with fail
  refine (size_nn b _ hb b2).mono ?_; rintro e w' ⟨rfl, rfl⟩
  go_wp2_with fail
  refine (mul64_any (a) (b) _ (by omega) (by omega) (by omega) (by omega)).mono ?_; rintro e w' ⟨rfl, rfl⟩
  rw [HP.out]
  go_wp2_with (simp only [HA.out])
  all_goals go_ret
  all_goals exact ⟨ret_int (by unfold posV; omega), rfl⟩
set_option maxHeartbeats 1000000 in
theorem fixMul_nn (a b : Int) (w : World) (a1 : -1099511627776 ≤ a) (a2 : a ≤ 1099511627776) (b1 : -1099511627776 ≤ b) (b2 : b ≤ 1099511627776) (ha : a < 0) (hb : b < 0) :
  Calls Tryz.prog 104 #[.int .i64 a, .int .i64 b] w fun e w' => e = .returned (.int .i64 (posV (-a * -b))) ∧ w' = w := by
 have hda : decide (a < 0) = true := by simp; exact ha
 have hdb : decide (b < 0) = true := by simp; exact hb
 obtain ⟨P, hP⟩ : ∃ P, -a * -b = P := ⟨_, rfl⟩
 have pb := prod_bd (-a) (-b) (by omega) (by omega) (by omega) (by omega)
 rw [hP] at pb ⊢
 obtain ⟨p0, p1⟩ := pb
 have HP : Hid _ := hP
 clear hP
 have k0 : 0 ≤ P % 18446744073709551616 := by omega
 have HA : Hid _ := add64 (P % 18446744073709551616) 32768 k0 (by omega)
 by_cases hT : P + 32768 < 18446744073709551616
 ·have hq : (P / 18446744073709551616 + (P % 18446744073709551616 + 32768) / 18446744073709551616 == 0) = true := by rw [beq_iff_eq]; omega
  have e1 : (P % 18446744073709551616 + 32768) % 18446744073709551616 = P + 32768 := by omega
  go_enter Tryz.func104, Tryz.ntmps104
  go_wp2_with (go_at_call 112; refine (igoodQ_yes _ _ (by omega) (by omega)).mono ?_; rintro e w' ⟨rfl, rfl⟩)
  refine (size_neg a _ a1 ha).mono ?_; rintro e w' ⟨rfl, rfl⟩
  go_wp2_with fail
  refine (size_neg b _ b1 hb).mono ?_; rintro e w' ⟨rfl, rfl⟩
  go_wp2_with fail
  refine (mul64_any (-a) (-b) _ (by omega) (by omega) (by omega) (by omega)).mono ?_; rintro e w' ⟨rfl, rfl⟩
  rw [HP.out]
  go_wp2_with (simp only [HA.out])
  all_goals go_ret
  all_goals exact ⟨ret_int (by unfold posV; omega), rfl⟩
 ·have hq : (P / 18446744073709551616 + (P % 18446744073709551616 + 32768) / 18446744073709551616 == 0) = false := by rw [beq_eq_false_iff_ne]; omega
  go_enter Tryz.func104, Tryz.ntmps104
  go_wp2_with (go_at_call 112; refine (igoodQ_yes _ _ (by omega) (by omega)).mono ?_; rintro e w' ⟨rfl, rfl⟩)
  refine (size_neg a _ a1 ha).mono ?_; rintro e w' ⟨rfl, rfl⟩
  go_wp2_with fail
  refine (size_neg b _ b1 hb).mono ?_; rintro e w' ⟨rfl, rfl⟩
  go_wp2_with fail
  refine (mul64_any (-a) (-b) _ (by omega) (by omega) (by omega) (by omega)).mono ?_; rintro e w' ⟨rfl, rfl⟩
  rw [HP.out]
  go_wp2_with (simp only [HA.out])
  all_goals go_ret
  all_goals exact ⟨ret_int (by unfold posV; omega), rfl⟩
set_option maxHeartbeats 1000000 in
theorem fixMul_np (a b : Int) (w : World) (a1 : -1099511627776 ≤ a) (a2 : a ≤ 1099511627776) (b1 : -1099511627776 ≤ b) (b2 : b ≤ 1099511627776) (ha : a < 0) (hb : 0 ≤ b) :
  Calls Tryz.prog 104 #[.int .i64 a, .int .i64 b] w fun e w' => e = .returned (.int .i64 (negV (-a * b))) ∧ w' = w := by
 have hda : decide (a < 0) = true := by simp; exact ha
 have hdb : decide (b < 0) = false := by simp; omega
 obtain ⟨P, hP⟩ : ∃ P, -a * b = P := ⟨_, rfl⟩
 have pb := prod_bd (-a) (b) (by omega) (by omega) (by omega) (by omega)
 rw [hP] at pb ⊢
 obtain ⟨p0, p1⟩ := pb
 have HP : Hid _ := hP
 clear hP
 have k0 : 0 ≤ P % 18446744073709551616 := by omega
 have HA : Hid _ := add64 (P % 18446744073709551616) 32767 k0 (by omega)
 by_cases hT : P + 32767 < 18446744073709551616
 ·have hq : (P / 18446744073709551616 + (P % 18446744073709551616 + 32767) / 18446744073709551616 == 0) = true := by rw [beq_iff_eq]; omega
  have e1 : (P % 18446744073709551616 + 32767) % 18446744073709551616 = P + 32767 := by omega
  go_enter Tryz.func104, Tryz.ntmps104
  go_wp2_with (go_at_call 112; refine (igoodQ_yes _ _ (by omega) (by omega)).mono ?_; rintro e w' ⟨rfl, rfl⟩)
  refine (size_neg a _ a1 ha).mono ?_; rintro e w' ⟨rfl, rfl⟩
  go_wp2_with fail
  refine (size_nn b _ hb b2).mono ?_; rintro e w' ⟨rfl, rfl⟩
  go_wp2_with fail
  refine (mul64_any (-a) (b) _ (by omega) (by omega) (by omega) (by omega)).mono ?_; rintro e w' ⟨rfl, rfl⟩
  rw [HP.out]
  go_wp2_with (simp only [HA.out])
  all_goals go_ret
  all_goals exact ⟨ret_int (by unfold negV; omega), rfl⟩
 ·have hq : (P / 18446744073709551616 + (P % 18446744073709551616 + 32767) / 18446744073709551616 == 0) = false := by rw [beq_eq_false_iff_ne]; omega
  go_enter Tryz.func104, Tryz.ntmps104
  go_wp2_with (go_at_call 112; refine (igoodQ_yes _ _ (by omega) (by omega)).mono ?_; rintro e w' ⟨rfl, rfl⟩)
  refine (size_neg a _ a1 ha).mono ?_; rintro e w' ⟨rfl, rfl⟩
  go_wp2_with fail
  refine (size_nn b _ hb b2).mono ?_; rintro e w' ⟨rfl, rfl⟩
  go_wp2_with fail
  refine (mul64_any (-a) (b) _ (by omega) (by omega) (by omega) (by omega)).mono ?_; rintro e w' ⟨rfl, rfl⟩
  rw [HP.out]
  go_wp2_with (simp only [HA.out])
  all_goals go_ret
  all_goals exact ⟨ret_int (by unfold negV; omega), rfl⟩
set_option maxHeartbeats 1000000 in
theorem fixMul_pn (a b : Int) (w : World) (a1 : -1099511627776 ≤ a) (a2 : a ≤ 1099511627776) (b1 : -1099511627776 ≤ b) (b2 : b ≤ 1099511627776) (ha : 0 ≤ a) (hb : b < 0) :
  Calls Tryz.prog 104 #[.int .i64 a, .int .i64 b] w fun e w' => e = .returned (.int .i64 (negV (a * -b))) ∧ w' = w := by
 have hda : decide (a < 0) = false := by simp; omega
 have hdb : decide (b < 0) = true := by simp; exact hb
 obtain ⟨P, hP⟩ : ∃ P, a * -b = P := ⟨_, rfl⟩
 have pb := prod_bd (a) (-b) (by omega) (by omega) (by omega) (by omega)
 rw [hP] at pb ⊢
 obtain ⟨p0, p1⟩ := pb
 have HP : Hid _ := hP
 clear hP
 have k0 : 0 ≤ P % 18446744073709551616 := by omega
 have HA : Hid _ := add64 (P % 18446744073709551616) 32767 k0 (by omega)
 by_cases hT : P + 32767 < 18446744073709551616
 ·have hq : (P / 18446744073709551616 + (P % 18446744073709551616 + 32767) / 18446744073709551616 == 0) = true := by rw [beq_iff_eq]; omega
  have e1 : (P % 18446744073709551616 + 32767) % 18446744073709551616 = P + 32767 := by omega
  go_enter Tryz.func104, Tryz.ntmps104
  go_wp2_with (go_at_call 112; refine (igoodQ_yes _ _ (by omega) (by omega)).mono ?_; rintro e w' ⟨rfl, rfl⟩)
  refine (size_nn a _ ha a2).mono ?_; rintro e w' ⟨rfl, rfl⟩
  go_wp2_with fail
  refine (size_neg b _ b1 hb).mono ?_; rintro e w' ⟨rfl, rfl⟩
  go_wp2_with fail
  refine (mul64_any (a) (-b) _ (by omega) (by omega) (by omega) (by omega)).mono ?_; rintro e w' ⟨rfl, rfl⟩
  rw [HP.out]
  go_wp2_with (simp only [HA.out])
  all_goals go_ret
  all_goals exact ⟨ret_int (by unfold negV; omega), rfl⟩
 ·have hq : (P / 18446744073709551616 + (P % 18446744073709551616 + 32767) / 18446744073709551616 == 0) = false := by rw [beq_eq_false_iff_ne]; omega
  go_enter Tryz.func104, Tryz.ntmps104
  go_wp2_with (go_at_call 112; refine (igoodQ_yes _ _ (by omega) (by omega)).mono ?_; rintro e w' ⟨rfl, rfl⟩)
  refine (size_nn a _ ha a2).mono ?_; rintro e w' ⟨rfl, rfl⟩
  go_wp2_with fail
  refine (size_neg b _ b1 hb).mono ?_; rintro e w' ⟨rfl, rfl⟩
  go_wp2_with fail
  refine (mul64_any (a) (-b) _ (by omega) (by omega) (by omega) (by omega)).mono ?_; rintro e w' ⟨rfl, rfl⟩
  rw [HP.out]
  go_wp2_with (simp only [HA.out])
  all_goals go_ret
  all_goals exact ⟨ret_int (by unfold negV; omega), rfl⟩
set_option maxHeartbeats 1000000 in
theorem sfixMul_pp (a b : Int) (w : World) (a1 : -1099511627776 ≤ a) (a2 : a ≤ 1099511627776) (b1 : -1099511627776 ≤ b) (b2 : b ≤ 1099511627776) (ha : 0 ≤ a) (hb : 0 ≤ b) :
  Calls Tryz.prog 109 #[.int .i64 a, .int .i64 b] w fun e w' => e = .returned (.int .i64 (posV (a * b))) ∧ Kp w w' := by
 have hda : decide (a < 0) = false := by simp; omega
 have hdb : decide (b < 0) = false := by simp; omega
 obtain ⟨P, hP⟩ : ∃ P, a * b = P := ⟨_, rfl⟩
 have pb := prod_bd (a) (b) (by omega) (by omega) (by omega) (by omega)
 rw [hP] at pb ⊢
 obtain ⟨p0, p1⟩ := pb
 have HP : Hid _ := hP
 clear hP
 go_enter Tryz.func109, Tryz.ntmps109
 go_wp2_with (go_at_call 119; refine (sgoodQ_yes _ _ (by omega) (by omega)).mono ?_; rintro e w' ⟨rfl, rfl⟩)
 refine (abs_nn a _ ha).mono ?_; rintro e w' ⟨rfl, rfl⟩
 go_wp2_with fail
 refine (abs_nn b _ hb).mono ?_; rintro e w' ⟨rfl, rfl⟩
 go_wp2_with fail
 refine (times_any (a) (b) _ (by omega) (by omega) (by omega) (by omega)).mono ?_; rintro e w' ⟨rfl, c1, rfl⟩
 rw [HP.out]
 go_wp2_with fail
 refine (near_pos P 65536 _ (by omega) (by omega) (by omega) (by omega)).mono ?_
 rintro e w1 ⟨r, rfl, r0, r1, r2, r3, hk⟩
 have HR : Hid (cutM r = posV P) := by show _ = _; unfold cutM posV; omega
 have HK : Hid _ := hk
 clear r2 r3 hk
 go_wp2
 go_ret
 exact ⟨ret_int HR.out, ((Kp.refl _).alloc _ _).trans HK.out⟩
set_option maxHeartbeats 1000000 in
theorem sfixMul_nn (a b : Int) (w : World) (a1 : -1099511627776 ≤ a) (a2 : a ≤ 1099511627776) (b1 : -1099511627776 ≤ b) (b2 : b ≤ 1099511627776) (ha : a < 0) (hb : b < 0) :
  Calls Tryz.prog 109 #[.int .i64 a, .int .i64 b] w fun e w' => e = .returned (.int .i64 (posV (-a * -b))) ∧ Kp w w' := by
 have hda : decide (a < 0) = true := by simp; exact ha
 have hdb : decide (b < 0) = true := by simp; exact hb
 obtain ⟨P, hP⟩ : ∃ P, -a * -b = P := ⟨_, rfl⟩
 have pb := prod_bd (-a) (-b) (by omega) (by omega) (by omega) (by omega)
 rw [hP] at pb ⊢
 obtain ⟨p0, p1⟩ := pb
 have HP : Hid _ := hP
 clear hP
 go_enter Tryz.func109, Tryz.ntmps109
 go_wp2_with (go_at_call 119; refine (sgoodQ_yes _ _ (by omega) (by omega)).mono ?_; rintro e w' ⟨rfl, rfl⟩)
 refine (abs_neg a _ (by omega) ha).mono ?_; rintro e w' ⟨rfl, rfl⟩
 go_wp2_with fail
 refine (abs_neg b _ (by omega) hb).mono ?_; rintro e w' ⟨rfl, rfl⟩
 go_wp2_with fail
 refine (times_any (-a) (-b) _ (by omega) (by omega) (by omega) (by omega)).mono ?_; rintro e w' ⟨rfl, c1, rfl⟩
 rw [HP.out]
 go_wp2_with fail
 refine (near_pos P 65536 _ (by omega) (by omega) (by omega) (by omega)).mono ?_
 rintro e w1 ⟨r, rfl, r0, r1, r2, r3, hk⟩
 have HR : Hid (cutM r = posV P) := by show _ = _; unfold cutM posV; omega
 have HK : Hid _ := hk
 clear r2 r3 hk
 go_wp2
 go_ret
 exact ⟨ret_int HR.out, ((Kp.refl _).alloc _ _).trans HK.out⟩
set_option maxHeartbeats 1000000 in
theorem sfixMul_np (a b : Int) (w : World) (a1 : -1099511627776 ≤ a) (a2 : a ≤ 1099511627776) (b1 : -1099511627776 ≤ b) (b2 : b ≤ 1099511627776) (ha : a < 0) (hb : 0 ≤ b) :
  Calls Tryz.prog 109 #[.int .i64 a, .int .i64 b] w fun e w' => e = .returned (.int .i64 (negV (-a * b))) ∧ Kp w w' := by
 have hda : decide (a < 0) = true := by simp; exact ha
 have hdb : decide (b < 0) = false := by simp; omega
 obtain ⟨P, hP⟩ : ∃ P, -a * b = P := ⟨_, rfl⟩
 have pb := prod_bd (-a) (b) (by omega) (by omega) (by omega) (by omega)
 rw [hP] at pb ⊢
 obtain ⟨p0, p1⟩ := pb
 have HP : Hid _ := hP
 clear hP
 go_enter Tryz.func109, Tryz.ntmps109
 go_wp2_with (go_at_call 119; refine (sgoodQ_yes _ _ (by omega) (by omega)).mono ?_; rintro e w' ⟨rfl, rfl⟩)
 refine (abs_neg a _ (by omega) ha).mono ?_; rintro e w' ⟨rfl, rfl⟩
 go_wp2_with fail
 refine (abs_nn b _ hb).mono ?_; rintro e w' ⟨rfl, rfl⟩
 go_wp2_with fail
 refine (times_any (-a) (b) _ (by omega) (by omega) (by omega) (by omega)).mono ?_; rintro e w' ⟨rfl, c1, rfl⟩
 rw [HP.out]
 go_wp2_with fail
 refine (near_neg P 65536 _ (by omega) (by omega) (by omega) (by omega)).mono ?_
 rintro e w1 ⟨r, rfl, r0, r1, r2, r3, hk⟩
 have HR : Hid (cutM (-r) = negV P) := by show _ = _; unfold cutM negV; omega
 have HK : Hid _ := hk
 clear r2 r3 hk
 go_wp2
 go_ret
 exact ⟨ret_int HR.out, ((Kp.refl _).alloc _ _).trans HK.out⟩
set_option maxHeartbeats 1000000 in
theorem sfixMul_pn (a b : Int) (w : World) (a1 : -1099511627776 ≤ a) (a2 : a ≤ 1099511627776) (b1 : -1099511627776 ≤ b) (b2 : b ≤ 1099511627776) (ha : 0 ≤ a) (hb : b < 0) :
  Calls Tryz.prog 109 #[.int .i64 a, .int .i64 b] w fun e w' => e = .returned (.int .i64 (negV (a * -b))) ∧ Kp w w' := by
 have hda : decide (a < 0) = false := by simp; omega
 have hdb : decide (b < 0) = true := by simp; exact hb
 obtain ⟨P, hP⟩ : ∃ P, a * -b = P := ⟨_, rfl⟩
 have pb := prod_bd (a) (-b) (by omega) (by omega) (by omega) (by omega)
 rw [hP] at pb ⊢
 obtain ⟨p0, p1⟩ := pb
 have HP : Hid _ := hP
 clear hP
 go_enter Tryz.func109, Tryz.ntmps109
 go_wp2_with (go_at_call 119; refine (sgoodQ_yes _ _ (by omega) (by omega)).mono ?_; rintro e w' ⟨rfl, rfl⟩)
 refine (abs_nn a _ ha).mono ?_; rintro e w' ⟨rfl, rfl⟩
 go_wp2_with fail
 refine (abs_neg b _ (by omega) hb).mono ?_; rintro e w' ⟨rfl, rfl⟩
 go_wp2_with fail
 refine (times_any (a) (-b) _ (by omega) (by omega) (by omega) (by omega)).mono ?_; rintro e w' ⟨rfl, c1, rfl⟩
 rw [HP.out]
 go_wp2_with fail
 refine (near_neg P 65536 _ (by omega) (by omega) (by omega) (by omega)).mono ?_
 rintro e w1 ⟨r, rfl, r0, r1, r2, r3, hk⟩
 have HR : Hid (cutM (-r) = negV P) := by show _ = _; unfold cutM negV; omega
 have HK : Hid _ := hk
 clear r2 r3 hk
 go_wp2
 go_ret
 exact ⟨ret_int HR.out, ((Kp.refl _).alloc _ _).trans HK.out⟩
theorem sfixMul_no (a b : Int) (w : World) (h : ¬ (-1099511627776 ≤ a ∧ a ≤ 1099511627776)) :
  Calls Tryz.prog 109 #[.int .i64 a, .int .i64 b] w fun e w' => e = .returned (.int .i64 0) ∧ w' = w := by
 have H : Hid _ := h
 clear h
 go_enter Tryz.func109, Tryz.ntmps109
 go_wp2_with (go_at_call 119; refine (sgoodQ_no a _ H.out).mono ?_; rintro e w' ⟨rfl, rfl⟩)
 go_ret
 exact ⟨rfl, rfl⟩
theorem sfixMul_no2 (a b : Int) (w : World) (a1 : -1099511627776 ≤ a) (a2 : a ≤ 1099511627776) (h : ¬ (-1099511627776 ≤ b ∧ b ≤ 1099511627776)) :
  Calls Tryz.prog 109 #[.int .i64 a, .int .i64 b] w fun e w' => e = .returned (.int .i64 0) ∧ w' = w := by
 have H : Hid _ := h
 clear h
 go_enter Tryz.func109, Tryz.ntmps109
 go_wp2_with fail
 refine (sgoodQ_yes a _ a1 a2).mono ?_; rintro e w' ⟨rfl, rfl⟩
 go_wp2_with fail
 refine (sgoodQ_no b _ H.out).mono ?_; rintro e w' ⟨rfl, rfl⟩
 go_wp2
 go_ret
 exact ⟨rfl, rfl⟩
theorem fixMul_no (a b : Int) (w : World) (h : ¬ (-1099511627776 ≤ a ∧ a ≤ 1099511627776)) :
  Calls Tryz.prog 104 #[.int .i64 a, .int .i64 b] w fun e w' => e = .returned (.int .i64 0) ∧ w' = w := by
 have H : Hid _ := h
 clear h
 go_enter Tryz.func104, Tryz.ntmps104
 go_wp2_with (go_at_call 112; refine (igoodQ_no a _ H.out).mono ?_; rintro e w' ⟨rfl, rfl⟩)
 go_ret
 exact ⟨rfl, rfl⟩
theorem fixMul_no2 (a b : Int) (w : World) (a1 : -1099511627776 ≤ a) (a2 : a ≤ 1099511627776) (h : ¬ (-1099511627776 ≤ b ∧ b ≤ 1099511627776)) :
  Calls Tryz.prog 104 #[.int .i64 a, .int .i64 b] w fun e w' => e = .returned (.int .i64 0) ∧ w' = w := by
 have H : Hid _ := h
 clear h
 go_enter Tryz.func104, Tryz.ntmps104
 go_wp2_with fail
 refine (igoodQ_yes a _ a1 a2).mono ?_; rintro e w' ⟨rfl, rfl⟩
 go_wp2_with fail
 refine (igoodQ_no b _ H.out).mono ?_; rintro e w' ⟨rfl, rfl⟩
 go_wp2
 go_ret
 exact ⟨rfl, rfl⟩
end Go.Proofs.YtnkeljmecbohkaaGreat
namespace Go.Proofs.YtnkeljmecbohkaaGreat.fnExactFixMul
open Go.ChangeShapes Go.WideShapes Go.ChangeAt Go.RowKit
set_option linter.unusedVariables false
end Go.Proofs.YtnkeljmecbohkaaGreat.fnExactFixMul
namespace Go.Proofs.YtnkeljmecbohkaaGreat
open Go.ChangeShapes Go.WideShapes Go.ChangeAt Go.RowKit
set_option linter.unusedVariables false
def fmV (a b : Int) : Int := if fixB a = true ∧ fixB b = true then cutM ((a * b + 32768) / 65536) else 0
theorem cutM_bd (x : Int) : -1099511627776 ≤ cutM x ∧ cutM x ≤ 1099511627776 := by unfold cutM; omega
theorem fmV_bd (a b : Int) : -1099511627776 ≤ fmV a b ∧ fmV a b ≤ 1099511627776 := by
 unfold fmV; split
 ·exact cutM_bd _
 ·omega
theorem posV_cut (P : Int) (h : 0 ≤ P) : posV P = cutM ((P + 32768) / 65536) := by unfold posV cutM; omega
theorem negV_cut (P : Int) (h : 0 ≤ P) : negV P = cutM ((-P + 32768) / 65536) := by unfold negV cutM; omega
theorem fm_both (a b : Int) : (∀ w, Calls Tryz.prog 109 #[.int .i64 a, .int .i64 b] w fun e w' => e = .returned (.int .i64 (fmV a b)) ∧ Kp w w') ∧ (∀ w, Calls Tryz.prog 104 #[.int .i64 a, .int .i64 b] w fun e w' => e = .returned (.int .i64 (fmV a b)) ∧ w' = w) := by
 by_cases ha : -1099511627776 ≤ a ∧ a ≤ 1099511627776
 ·by_cases hb : -1099511627776 ≤ b ∧ b ≤ 1099511627776
  ·have e : fmV a b = cutM ((a * b + 32768) / 65536) := by unfold fmV; rw [if_pos ⟨fixB_iff.2 ha, fixB_iff.2 hb⟩]
   rw [e]
   obtain ⟨a1, a2⟩ := ha
   obtain ⟨b1, b2⟩ := hb
   by_cases na : a < 0
   ·by_cases nb : b < 0
    ·have h := posV_cut (-a * -b) (Int.mul_nonneg (by omega) (by omega))
     rw [Int.neg_mul_neg] at h
     rw [← h, ← Int.neg_mul_neg]
     exact ⟨fun w => sfixMul_nn a b w a1 a2 b1 b2 na nb, fun w => fixMul_nn a b w a1 a2 b1 b2 na nb⟩
    ·have h := negV_cut (-a * b) (Int.mul_nonneg (by omega) (by omega))
     rw [show -(-a * b) = a * b by rw [Int.neg_mul, Int.neg_neg]] at h
     rw [← h]
     exact ⟨fun w => sfixMul_np a b w a1 a2 b1 b2 na (by omega), fun w => fixMul_np a b w a1 a2 b1 b2 na (by omega)⟩
   ·by_cases nb : b < 0
    ·have h := negV_cut (a * -b) (Int.mul_nonneg (by omega) (by omega))
     rw [show -(a * -b) = a * b by rw [Int.mul_neg, Int.neg_neg]] at h
     rw [← h]
     exact ⟨fun w => sfixMul_pn a b w a1 a2 b1 b2 (by omega) nb, fun w => fixMul_pn a b w a1 a2 b1 b2 (by omega) nb⟩
    ·rw [← posV_cut (a * b) (Int.mul_nonneg (by omega) (by omega))]
     exact ⟨fun w => sfixMul_pp a b w a1 a2 b1 b2 (by omega) (by omega), fun w => fixMul_pp a b w a1 a2 b1 b2 (by omega) (by omega)⟩
  ·have e : fmV a b = 0 := by unfold fmV; rw [if_neg (fun h => hb (fixB_iff.1 h.2))]
   rw [e]
   exact ⟨fun w => (sfixMul_no2 a b w ha.1 ha.2 hb).mono fun e w' ⟨h1, h2⟩ => ⟨h1, h2 ▸ Kp.refl _⟩, fun w => fixMul_no2 a b w ha.1 ha.2 hb⟩
 ·have e : fmV a b = 0 := by unfold fmV; rw [if_neg (fun h => ha (fixB_iff.1 h.1))]
  rw [e]
  exact ⟨fun w => (sfixMul_no a b w ha).mono fun e w' ⟨h1, h2⟩ => ⟨h1, h2 ▸ Kp.refl _⟩, fun w => fixMul_no a b w ha⟩
theorem sfm (a b : Int) (w : World) : Calls Tryz.prog 109 #[.int .i64 a, .int .i64 b] w fun e w' => e = .returned (.int .i64 (fmV a b)) ∧ Kp w w' := (fm_both a b).1 w
theorem ifm (a b : Int) (w : World) : Calls Tryz.prog 104 #[.int .i64 a, .int .i64 b] w fun e w' => e = .returned (.int .i64 (fmV a b)) ∧ w' = w := (fm_both a b).2 w
theorem fd_both (a b : Int) : (∀ w, Calls Tryz.prog 110 #[.int .i64 a, .int .i64 b] w fun e w' => e = .returned (.int .i64 (divV a b)) ∧ Kp w w') ∧ (∀ w, Calls Tryz.prog 105 #[.int .i64 a, .int .i64 b] w fun e w' => e = .returned (.int .i64 (divV a b)) ∧ w' = w) := by
 by_cases ha : -1099511627776 ≤ a ∧ a ≤ 1099511627776
 ·by_cases hb : -1099511627776 ≤ b ∧ b ≤ 1099511627776
  ·by_cases hz : b = 0
   ·have e : divV a b = 0 := by unfold divV; rw [if_neg (fun h => h.2.2.2.2 hz)]
    rw [e]
    subst hz
    exact ⟨fun w => (sfixDiv_no3 a w ha.1 ha.2).mono fun e w' ⟨h1, h2⟩ => ⟨h1, h2 ▸ Kp.refl _⟩, fun w => fixDiv_no3 a w ha.1 ha.2⟩
   ·have e : divV a b = cutV (nearQ (a * 65536) b) (-1099511627776) 1099511627776 := by unfold divV; rw [if_pos ⟨ha.1, ha.2, hb.1, hb.2, hz⟩]
    rw [e]
    exact ⟨fun w => sfixDiv_yes a b w ha.1 ha.2 hb.1 hb.2 hz, fun w => fixDiv_yes a b w ha.1 ha.2 hb.1 hb.2 hz⟩
  ·have e : divV a b = 0 := by unfold divV; rw [if_neg (fun h => hb ⟨h.2.2.1, h.2.2.2.1⟩)]
   rw [e]
   exact ⟨fun w => (sfixDiv_no2 a b w ha.1 ha.2 hb).mono fun e w' ⟨h1, h2⟩ => ⟨h1, h2 ▸ Kp.refl _⟩, fun w => fixDiv_no2 a b w ha.1 ha.2 hb⟩
 ·have e : divV a b = 0 := by unfold divV; rw [if_neg (fun h => ha ⟨h.1, h.2.1⟩)]
  rw [e]
  exact ⟨fun w => (sfixDiv_no a b w ha).mono fun e w' ⟨h1, h2⟩ => ⟨h1, h2 ▸ Kp.refl _⟩, fun w => fixDiv_no a b w ha⟩
theorem sfd (a b : Int) (w : World) : Calls Tryz.prog 110 #[.int .i64 a, .int .i64 b] w fun e w' => e = .returned (.int .i64 (divV a b)) ∧ Kp w w' := (fd_both a b).1 w
theorem ifd (a b : Int) (w : World) : Calls Tryz.prog 105 #[.int .i64 a, .int .i64 b] w fun e w' => e = .returned (.int .i64 (divV a b)) ∧ w' = w := (fd_both a b).2 w
end Go.Proofs.YtnkeljmecbohkaaGreat

/-
  The law on FixMul returns true at every pair of ints, and its arguments read afterwards as they read before; there is no further condition.
-/
import Derived.Test.YtfdjjbgcaojcnaaFxMuls
namespace Go.Proofs.Ytfdjjbgcaojcnaa
open Go.ChangeShapes Go.WideShapes Go.ChangeAt Go.RowKit

set_option maxHeartbeats 1000000 in
theorem sfixMul_pp (a b : Int) (w : World) (a1 : -1099511627776 ≤ a) (a2 : a ≤ 1099511627776) (b1 : -1099511627776 ≤ b) (b2 : b ≤ 1099511627776) (ha : 0 ≤ a) (hb : 0 ≤ b) :
    Calls Try.prog 83 #[.int .i64 a, .int .i64 b] w fun e w' => e = .returned (.int .i64 (posV (a * b))) ∧ Kp w w' := by
  have hda : decide (a < 0) = false := by simp; omega
  have hdb : decide (b < 0) = false := by simp; omega
  obtain ⟨P, hP⟩ : ∃ P, a * b = P := ⟨_, rfl⟩
  have pb := prod_bd (a) (b) (by omega) (by omega) (by omega) (by omega)
  rw [hP] at pb ⊢
  obtain ⟨p0, p1⟩ := pb
  have HP : Hid _ := hP
  clear hP
  go_enter Try.func83, Try.ntmps83
  go_wp2_with (go_at_call 64; refine (sgood_yes _ _ (by omega) (by omega)).mono ?_; rintro e w' ⟨rfl, rfl⟩)
  refine (abs_nn a _ ha).mono ?_; rintro e w' ⟨rfl, rfl⟩
  go_wp2_with fail
  refine (abs_nn b _ hb).mono ?_; rintro e w' ⟨rfl, rfl⟩
  go_wp2_with fail
  refine (times_any (a) (b) _ (by omega) (by omega) (by omega) (by omega)).mono ?_; rintro e w' ⟨rfl, c1, rfl⟩
  rw [HP.out]
  go_wp2_with fail
  refine (near_pos P 65536 _ (by omega) (by omega) (by omega) (by omega)).mono ?_
  rintro e w1 ⟨r, rfl, r0, r1, r2, r3, hk⟩
  have HR : Hid (cutM r = posV P) := by show _ = _; unfold cutM posV; omega
  have HK : Hid _ := hk
  clear r2 r3 hk
  go_wp2
  go_ret
  exact ⟨ret_int HR.out, ((Kp.refl _).alloc _ _).trans HK.out⟩

set_option maxHeartbeats 1000000 in
theorem sfixMul_nn (a b : Int) (w : World) (a1 : -1099511627776 ≤ a) (a2 : a ≤ 1099511627776) (b1 : -1099511627776 ≤ b) (b2 : b ≤ 1099511627776) (ha : a < 0) (hb : b < 0) :
    Calls Try.prog 83 #[.int .i64 a, .int .i64 b] w fun e w' => e = .returned (.int .i64 (posV (-a * -b))) ∧ Kp w w' := by
  have hda : decide (a < 0) = true := by simp; exact ha
  have hdb : decide (b < 0) = true := by simp; exact hb
  obtain ⟨P, hP⟩ : ∃ P, -a * -b = P := ⟨_, rfl⟩
  have pb := prod_bd (-a) (-b) (by omega) (by omega) (by omega) (by omega)
  rw [hP] at pb ⊢
  obtain ⟨p0, p1⟩ := pb
  have HP : Hid _ := hP
  clear hP
  go_enter Try.func83, Try.ntmps83
  go_wp2_with (go_at_call 64; refine (sgood_yes _ _ (by omega) (by omega)).mono ?_; rintro e w' ⟨rfl, rfl⟩)
  refine (abs_neg a _ (by omega) ha).mono ?_; rintro e w' ⟨rfl, rfl⟩
  go_wp2_with fail
  refine (abs_neg b _ (by omega) hb).mono ?_; rintro e w' ⟨rfl, rfl⟩
  go_wp2_with fail
  refine (times_any (-a) (-b) _ (by omega) (by omega) (by omega) (by omega)).mono ?_; rintro e w' ⟨rfl, c1, rfl⟩
  rw [HP.out]
  go_wp2_with fail
  refine (near_pos P 65536 _ (by omega) (by omega) (by omega) (by omega)).mono ?_
  rintro e w1 ⟨r, rfl, r0, r1, r2, r3, hk⟩
  have HR : Hid (cutM r = posV P) := by show _ = _; unfold cutM posV; omega
  have HK : Hid _ := hk
  clear r2 r3 hk
  go_wp2
  go_ret
  exact ⟨ret_int HR.out, ((Kp.refl _).alloc _ _).trans HK.out⟩

set_option maxHeartbeats 1000000 in
theorem sfixMul_np (a b : Int) (w : World) (a1 : -1099511627776 ≤ a) (a2 : a ≤ 1099511627776) (b1 : -1099511627776 ≤ b) (b2 : b ≤ 1099511627776) (ha : a < 0) (hb : 0 ≤ b) :
    Calls Try.prog 83 #[.int .i64 a, .int .i64 b] w fun e w' => e = .returned (.int .i64 (negV (-a * b))) ∧ Kp w w' := by
  have hda : decide (a < 0) = true := by simp; exact ha
  have hdb : decide (b < 0) = false := by simp; omega
  obtain ⟨P, hP⟩ : ∃ P, -a * b = P := ⟨_, rfl⟩
  have pb := prod_bd (-a) (b) (by omega) (by omega) (by omega) (by omega)
  rw [hP] at pb ⊢
  obtain ⟨p0, p1⟩ := pb
  have HP : Hid _ := hP
  clear hP
  go_enter Try.func83, Try.ntmps83
  go_wp2_with (go_at_call 64; refine (sgood_yes _ _ (by omega) (by omega)).mono ?_; rintro e w' ⟨rfl, rfl⟩)
  refine (abs_neg a _ (by omega) ha).mono ?_; rintro e w' ⟨rfl, rfl⟩
  go_wp2_with fail
  refine (abs_nn b _ hb).mono ?_; rintro e w' ⟨rfl, rfl⟩
  go_wp2_with fail
  refine (times_any (-a) (b) _ (by omega) (by omega) (by omega) (by omega)).mono ?_; rintro e w' ⟨rfl, c1, rfl⟩
  rw [HP.out]
  go_wp2_with fail
  refine (near_neg P 65536 _ (by omega) (by omega) (by omega) (by omega)).mono ?_
  rintro e w1 ⟨r, rfl, r0, r1, r2, r3, hk⟩
  have HR : Hid (cutM (-r) = negV P) := by show _ = _; unfold cutM negV; omega
  have HK : Hid _ := hk
  clear r2 r3 hk
  go_wp2
  go_ret
  exact ⟨ret_int HR.out, ((Kp.refl _).alloc _ _).trans HK.out⟩

set_option maxHeartbeats 1000000 in
theorem sfixMul_pn (a b : Int) (w : World) (a1 : -1099511627776 ≤ a) (a2 : a ≤ 1099511627776) (b1 : -1099511627776 ≤ b) (b2 : b ≤ 1099511627776) (ha : 0 ≤ a) (hb : b < 0) :
    Calls Try.prog 83 #[.int .i64 a, .int .i64 b] w fun e w' => e = .returned (.int .i64 (negV (a * -b))) ∧ Kp w w' := by
  have hda : decide (a < 0) = false := by simp; omega
  have hdb : decide (b < 0) = true := by simp; exact hb
  obtain ⟨P, hP⟩ : ∃ P, a * -b = P := ⟨_, rfl⟩
  have pb := prod_bd (a) (-b) (by omega) (by omega) (by omega) (by omega)
  rw [hP] at pb ⊢
  obtain ⟨p0, p1⟩ := pb
  have HP : Hid _ := hP
  clear hP
  go_enter Try.func83, Try.ntmps83
  go_wp2_with (go_at_call 64; refine (sgood_yes _ _ (by omega) (by omega)).mono ?_; rintro e w' ⟨rfl, rfl⟩)
  refine (abs_nn a _ ha).mono ?_; rintro e w' ⟨rfl, rfl⟩
  go_wp2_with fail
  refine (abs_neg b _ (by omega) hb).mono ?_; rintro e w' ⟨rfl, rfl⟩
  go_wp2_with fail
  refine (times_any (a) (-b) _ (by omega) (by omega) (by omega) (by omega)).mono ?_; rintro e w' ⟨rfl, c1, rfl⟩
  rw [HP.out]
  go_wp2_with fail
  refine (near_neg P 65536 _ (by omega) (by omega) (by omega) (by omega)).mono ?_
  rintro e w1 ⟨r, rfl, r0, r1, r2, r3, hk⟩
  have HR : Hid (cutM (-r) = negV P) := by show _ = _; unfold cutM negV; omega
  have HK : Hid _ := hk
  clear r2 r3 hk
  go_wp2
  go_ret
  exact ⟨ret_int HR.out, ((Kp.refl _).alloc _ _).trans HK.out⟩

theorem sfixMul_no (a b : Int) (w : World) (h : ¬ (-1099511627776 ≤ a ∧ a ≤ 1099511627776)) :
    Calls Try.prog 83 #[.int .i64 a, .int .i64 b] w fun e w' => e = .returned (.int .i64 0) ∧ w' = w := by
  have H : Hid _ := h
  clear h
  go_enter Try.func83, Try.ntmps83
  go_wp2_with (go_at_call 64; refine (sgood_no a _ H.out).mono ?_; rintro e w' ⟨rfl, rfl⟩)
  go_ret
  exact ⟨rfl, rfl⟩
theorem sfixMul_no2 (a b : Int) (w : World) (a1 : -1099511627776 ≤ a) (a2 : a ≤ 1099511627776) (h : ¬ (-1099511627776 ≤ b ∧ b ≤ 1099511627776)) :
    Calls Try.prog 83 #[.int .i64 a, .int .i64 b] w fun e w' => e = .returned (.int .i64 0) ∧ w' = w := by
  have H : Hid _ := h
  clear h
  go_enter Try.func83, Try.ntmps83
  go_wp2_with fail
  refine (sgood_yes a _ a1 a2).mono ?_; rintro e w' ⟨rfl, rfl⟩
  go_wp2_with fail
  refine (sgood_no b _ H.out).mono ?_; rintro e w' ⟨rfl, rfl⟩
  go_wp2
  go_ret
  exact ⟨rfl, rfl⟩

theorem fixMul_no (a b : Int) (w : World) (h : ¬ (-1099511627776 ≤ a ∧ a ≤ 1099511627776)) :
    Calls Try.prog 70 #[.int .i64 a, .int .i64 b] w fun e w' => e = .returned (.int .i64 0) ∧ w' = w := by
  have H : Hid _ := h
  clear h
  go_enter Try.func70, Try.ntmps70
  go_wp2_with (go_at_call 99; refine (igood_no a _ H.out).mono ?_; rintro e w' ⟨rfl, rfl⟩)
  go_ret
  exact ⟨rfl, rfl⟩
theorem fixMul_no2 (a b : Int) (w : World) (a1 : -1099511627776 ≤ a) (a2 : a ≤ 1099511627776) (h : ¬ (-1099511627776 ≤ b ∧ b ≤ 1099511627776)) :
    Calls Try.prog 70 #[.int .i64 a, .int .i64 b] w fun e w' => e = .returned (.int .i64 0) ∧ w' = w := by
  have H : Hid _ := h
  clear h
  go_enter Try.func70, Try.ntmps70
  go_wp2_with fail
  refine (igood_yes a _ a1 a2).mono ?_; rintro e w' ⟨rfl, rfl⟩
  go_wp2_with fail
  refine (igood_no b _ H.out).mono ?_; rintro e w' ⟨rfl, rfl⟩
  go_wp2
  go_ret
  exact ⟨rfl, rfl⟩

/-- Both at once: one value. -/
theorem fixMul_both (a b : Int) : ∃ v : Int, (∀ w, Calls Try.prog 83 #[.int .i64 a, .int .i64 b] w fun e w' => e = .returned (.int .i64 v) ∧ Kp w w') ∧ (∀ w, Calls Try.prog 70 #[.int .i64 a, .int .i64 b] w fun e w' => e = .returned (.int .i64 v) ∧ w' = w) := by
  by_cases ha : -1099511627776 ≤ a ∧ a ≤ 1099511627776
  · by_cases hb : -1099511627776 ≤ b ∧ b ≤ 1099511627776
    · obtain ⟨a1, a2⟩ := ha
      obtain ⟨b1, b2⟩ := hb
      by_cases na : a < 0
      · by_cases nb : b < 0
        · exact ⟨_, fun w => sfixMul_nn a b w a1 a2 b1 b2 na nb, fun w => fixMul_nn a b w a1 a2 b1 b2 na nb⟩
        · exact ⟨_, fun w => sfixMul_np a b w a1 a2 b1 b2 na (by omega), fun w => fixMul_np a b w a1 a2 b1 b2 na (by omega)⟩
      · by_cases nb : b < 0
        · exact ⟨_, fun w => sfixMul_pn a b w a1 a2 b1 b2 (by omega) nb, fun w => fixMul_pn a b w a1 a2 b1 b2 (by omega) nb⟩
        · exact ⟨_, fun w => sfixMul_pp a b w a1 a2 b1 b2 (by omega) (by omega), fun w => fixMul_pp a b w a1 a2 b1 b2 (by omega) (by omega)⟩
    · exact ⟨0, fun w => (sfixMul_no2 a b w ha.1 ha.2 hb).mono fun e w' ⟨h1, h2⟩ => ⟨h1, h2 ▸ Kp.refl _⟩, fun w => fixMul_no2 a b w ha.1 ha.2 hb⟩
  · exact ⟨0, fun w => (sfixMul_no a b w ha).mono fun e w' ⟨h1, h2⟩ => ⟨h1, h2 ▸ Kp.refl _⟩, fun w => fixMul_no a b w ha⟩
end Go.Proofs.Ytfdjjbgcaojcnaa

namespace Go.Proofs.Ytfdjjbgcaojcnaa.fnExactFixMul
open Go.ChangeShapes Go.WideShapes Go.ChangeAt Go.RowKit
set_option linter.unusedVariables false      -- a walk need not use every 'w<i>' (that an integer argument fits its kind)

end Go.Proofs.Ytfdjjbgcaojcnaa.fnExactFixMul

/-
  The law on FixDiv returns true at every pair of ints, and its arguments read afterwards as they read before; there is no further condition.
-/
import Derived.Test.YtfdjjbgcaojcnaaFxDivs
import Derived.Test.YtfdjjbgcaojcnaaFxNear
namespace Go.Proofs.Ytfdjjbgcaojcnaa
open Go.ChangeShapes Go.WideShapes Go.ChangeAt Go.RowKit

theorem quot_uniq (m d r : Int) (hd : 0 < d) (h1 : r * d ≤ m) (h2 : m < (r + 1) * d) : m / d = r := by
  have a1 : r ≤ m / d := (Int.le_ediv_iff_mul_le hd).2 h1
  have a2 : m / d < r + 1 := (Int.ediv_lt_iff_lt_mul hd).2 h2
  omega

theorem quot_pos (m d r : Int) (hd : 0 < d) (h0 : 0 ≤ r) (h1 : r * d ≤ m) (h2 : r = 4398046511104 ∨ m < (r + 1) * d) :
    cutV (m / d) (-1099511627776) 1099511627776 = cutM r := by
  have a1 : r ≤ m / d := (Int.le_ediv_iff_mul_le hd).2 h1
  unfold cutV cutM
  rcases h2 with h2 | h2
  · omega
  · have := quot_uniq m d r hd h1 h2; omega
theorem quot_neg (m d r : Int) (hd : 0 < d) (h0 : 0 ≤ r) (h1 : r * d ≤ m) (h2 : r = 4398046511104 ∨ m < (r + 1) * d) :
    cutV (-(m / d)) (-1099511627776) 1099511627776 = cutM (-r) := by
  have a1 : r ≤ m / d := (Int.le_ediv_iff_mul_le hd).2 h1
  unfold cutV cutM
  rcases h2 with h2 | h2
  · omega
  · have := quot_uniq m d r hd h1 h2; omega
theorem neg_quot (m y : Int) (hy : 0 < y) : (y - 2 * m) / (2 * y) = -((2 * m + y - 1) / (2 * y)) := by
  have h1 := Int.mul_ediv_add_emod (2 * m + y - 1) (2 * y)
  have h2 := Int.emod_nonneg (2 * m + y - 1) (b := 2 * y) (by omega)
  have h3 := Int.emod_lt_of_pos (2 * m + y - 1) (b := 2 * y) (by omega)
  generalize (2 * m + y - 1) / (2 * y) = q at *
  generalize (2 * m + y - 1) % (2 * y) = r at *
  apply quot_uniq _ _ _ (by omega)
  · rw [Int.neg_mul, Int.mul_comm q]; omega
  · rw [Int.add_mul, Int.neg_mul, Int.mul_comm q]; omega

set_option maxHeartbeats 1000000 in
/-- What the specification's FixDiv answers at fixed numbers. -/
theorem sfixDiv_yes (a b : Int) (w : World) (a1 : -1099511627776 ≤ a) (a2 : a ≤ 1099511627776) (b1 : -1099511627776 ≤ b) (b2 : b ≤ 1099511627776) (b0 : b ≠ 0) :
    Calls Try.prog 97 #[.int .i64 a, .int .i64 b] w fun e w' => e = .returned (.int .i64 (cutV (nearV (a * 65536) b) (-1099511627776) 1099511627776)) ∧ Kp w w' := by
  have hz : (b == 0) = false := by simpa using b0
  by_cases ha : a < 0
  · have hda : decide (a < 0) = true := by simpa using ha
    by_cases hb : b < 0
    · have hdb : decide (b < 0) = true := by simpa using hb
      have HE : Hid (nearV (a * 65536) b = (2 * (-a * 65536) + -b) / (2 * -b)) := by show _ = _; unfold nearV; rw [if_pos hb]; congr 1 <;> omega
      go_enter Try.func97, Try.ntmps97
      go_wp2_with (go_at_call 64; refine (sgood_yes _ _ (by omega) (by omega)).mono ?_; rintro e w' ⟨rfl, rfl⟩)
      refine (abs_neg a _ (by omega) ha).mono ?_
      rintro e w' ⟨rfl, rfl⟩
      go_wp2_with fail
      refine (times_any (-a) 65536 _ (by omega) (by omega) (by omega) (by omega)).mono ?_
      rintro e w' ⟨rfl, c1, rfl⟩
      go_wp2_with fail
      refine (abs_neg b _ (by omega) hb).mono ?_
      rintro e w' ⟨rfl, rfl⟩
      go_wp2_with fail
      refine (near_pos (-a * 65536) (-b) _ (by omega) (by omega) (by omega) (by omega)).mono ?_
      rintro e w1 ⟨r, rfl, r0, r1, r2, r3, hk⟩
      have HR : Hid _ := quot_pos _ _ r (by omega) r0 r2 r3
      have HK : Hid _ := hk
      clear r2 r3 hk
      go_wp2
      go_ret
      exact ⟨ret_int (by rw [HE.out]; exact HR.out.symm), ((Kp.refl _).alloc _ _).trans HK.out⟩
    · have hdb : decide (b < 0) = false := by simpa using hb
      have HE : Hid (nearV (a * 65536) b = -((2 * (-a * 65536) + b - 1) / (2 * b))) := by show _ = _; rw [← neg_quot _ _ (by omega)]; unfold nearV; rw [if_neg hb]; congr 1 <;> omega
      go_enter Try.func97, Try.ntmps97
      go_wp2_with (go_at_call 64; refine (sgood_yes _ _ (by omega) (by omega)).mono ?_; rintro e w' ⟨rfl, rfl⟩)
      refine (abs_neg a _ (by omega) ha).mono ?_
      rintro e w' ⟨rfl, rfl⟩
      go_wp2_with fail
      refine (times_any (-a) 65536 _ (by omega) (by omega) (by omega) (by omega)).mono ?_
      rintro e w' ⟨rfl, c1, rfl⟩
      go_wp2_with fail
      refine (abs_nn b _ (by omega)).mono ?_
      rintro e w' ⟨rfl, rfl⟩
      go_wp2_with fail
      refine (near_neg (-a * 65536) (b) _ (by omega) (by omega) (by omega) (by omega)).mono ?_
      rintro e w1 ⟨r, rfl, r0, r1, r2, r3, hk⟩
      have HR : Hid _ := quot_neg _ _ r (by omega) r0 r2 r3
      have HK : Hid _ := hk
      clear r2 r3 hk
      go_wp2
      go_ret
      exact ⟨ret_int (by rw [HE.out]; exact HR.out.symm), ((Kp.refl _).alloc _ _).trans HK.out⟩
  · have hda : decide (a < 0) = false := by simpa using ha
    by_cases hb : b < 0
    · have hdb : decide (b < 0) = true := by simpa using hb
      have HE : Hid (nearV (a * 65536) b = -((2 * (a * 65536) + -b - 1) / (2 * -b))) := by show _ = _; rw [← neg_quot _ _ (by omega)]; unfold nearV; rw [if_pos hb]; congr 1 <;> omega
      go_enter Try.func97, Try.ntmps97
      go_wp2_with (go_at_call 64; refine (sgood_yes _ _ (by omega) (by omega)).mono ?_; rintro e w' ⟨rfl, rfl⟩)
      refine (abs_nn a _ (by omega)).mono ?_
      rintro e w' ⟨rfl, rfl⟩
      go_wp2_with fail
      refine (times_any (a) 65536 _ (by omega) (by omega) (by omega) (by omega)).mono ?_
      rintro e w' ⟨rfl, c1, rfl⟩
      go_wp2_with fail
      refine (abs_neg b _ (by omega) hb).mono ?_
      rintro e w' ⟨rfl, rfl⟩
      go_wp2_with fail
      refine (near_neg (a * 65536) (-b) _ (by omega) (by omega) (by omega) (by omega)).mono ?_
      rintro e w1 ⟨r, rfl, r0, r1, r2, r3, hk⟩
      have HR : Hid _ := quot_neg _ _ r (by omega) r0 r2 r3
      have HK : Hid _ := hk
      clear r2 r3 hk
      go_wp2
      go_ret
      exact ⟨ret_int (by rw [HE.out]; exact HR.out.symm), ((Kp.refl _).alloc _ _).trans HK.out⟩
    · have hdb : decide (b < 0) = false := by simpa using hb
      have HE : Hid (nearV (a * 65536) b = (2 * (a * 65536) + b) / (2 * b)) := by show _ = _; unfold nearV; rw [if_neg hb]
      go_enter Try.func97, Try.ntmps97
      go_wp2_with (go_at_call 64; refine (sgood_yes _ _ (by omega) (by omega)).mono ?_; rintro e w' ⟨rfl, rfl⟩)
      refine (abs_nn a _ (by omega)).mono ?_
      rintro e w' ⟨rfl, rfl⟩
      go_wp2_with fail
      refine (times_any (a) 65536 _ (by omega) (by omega) (by omega) (by omega)).mono ?_
      rintro e w' ⟨rfl, c1, rfl⟩
      go_wp2_with fail
      refine (abs_nn b _ (by omega)).mono ?_
      rintro e w' ⟨rfl, rfl⟩
      go_wp2_with fail
      refine (near_pos (a * 65536) (b) _ (by omega) (by omega) (by omega) (by omega)).mono ?_
      rintro e w1 ⟨r, rfl, r0, r1, r2, r3, hk⟩
      have HR : Hid _ := quot_pos _ _ r (by omega) r0 r2 r3
      have HK : Hid _ := hk
      clear r2 r3 hk
      go_wp2
      go_ret
      exact ⟨ret_int (by rw [HE.out]; exact HR.out.symm), ((Kp.refl _).alloc _ _).trans HK.out⟩

theorem sfixDiv_no (a b : Int) (w : World) (h : ¬ (-1099511627776 ≤ a ∧ a ≤ 1099511627776)) :
    Calls Try.prog 97 #[.int .i64 a, .int .i64 b] w fun e w' => e = .returned (.int .i64 0) ∧ w' = w := by
  have H : Hid _ := h
  clear h
  go_enter Try.func97, Try.ntmps97
  go_wp2_with (go_at_call 64; refine (sgood_no a _ H.out).mono ?_; rintro e w' ⟨rfl, rfl⟩)
  go_ret
  exact ⟨rfl, rfl⟩
theorem sfixDiv_no2 (a b : Int) (w : World) (a1 : -1099511627776 ≤ a) (a2 : a ≤ 1099511627776) (h : ¬ (-1099511627776 ≤ b ∧ b ≤ 1099511627776)) :
    Calls Try.prog 97 #[.int .i64 a, .int .i64 b] w fun e w' => e = .returned (.int .i64 0) ∧ w' = w := by
  have H : Hid _ := h
  clear h
  go_enter Try.func97, Try.ntmps97
  go_wp2_with fail
  refine (sgood_yes a _ a1 a2).mono ?_; rintro e w' ⟨rfl, rfl⟩
  go_wp2_with fail
  refine (sgood_no b _ H.out).mono ?_; rintro e w' ⟨rfl, rfl⟩
  go_wp2
  go_ret
  exact ⟨rfl, rfl⟩
theorem sfixDiv_no3 (a : Int) (w : World) (a1 : -1099511627776 ≤ a) (a2 : a ≤ 1099511627776) :
    Calls Try.prog 97 #[.int .i64 a, .int .i64 0] w fun e w' => e = .returned (.int .i64 0) ∧ w' = w := by
  go_enter Try.func97, Try.ntmps97
  go_wp2_with (go_at_call 64; refine (sgood_yes _ _ (by omega) (by omega)).mono ?_; rintro e w' ⟨rfl, rfl⟩)
  go_ret
  exact ⟨rfl, rfl⟩
theorem fixDiv_no (a b : Int) (w : World) (h : ¬ (-1099511627776 ≤ a ∧ a ≤ 1099511627776)) :
    Calls Try.prog 68 #[.int .i64 a, .int .i64 b] w fun e w' => e = .returned (.int .i64 0) ∧ w' = w := by
  have H : Hid _ := h
  clear h
  go_enter Try.func68, Try.ntmps68
  go_wp2_with (go_at_call 99; refine (igood_no a _ H.out).mono ?_; rintro e w' ⟨rfl, rfl⟩)
  go_ret
  exact ⟨rfl, rfl⟩
theorem fixDiv_no2 (a b : Int) (w : World) (a1 : -1099511627776 ≤ a) (a2 : a ≤ 1099511627776) (h : ¬ (-1099511627776 ≤ b ∧ b ≤ 1099511627776)) :
    Calls Try.prog 68 #[.int .i64 a, .int .i64 b] w fun e w' => e = .returned (.int .i64 0) ∧ w' = w := by
  have H : Hid _ := h
  clear h
  go_enter Try.func68, Try.ntmps68
  go_wp2_with fail
  refine (igood_yes a _ a1 a2).mono ?_; rintro e w' ⟨rfl, rfl⟩
  go_wp2_with fail
  refine (igood_no b _ H.out).mono ?_; rintro e w' ⟨rfl, rfl⟩
  go_wp2
  go_ret
  exact ⟨rfl, rfl⟩
theorem fixDiv_no3 (a : Int) (w : World) (a1 : -1099511627776 ≤ a) (a2 : a ≤ 1099511627776) :
    Calls Try.prog 68 #[.int .i64 a, .int .i64 0] w fun e w' => e = .returned (.int .i64 0) ∧ w' = w := by
  go_enter Try.func68, Try.ntmps68
  go_wp2_with (go_at_call 99; refine (igood_yes _ _ (by omega) (by omega)).mono ?_; rintro e w' ⟨rfl, rfl⟩)
  go_ret
  exact ⟨rfl, rfl⟩

/-- Both at once: one value. -/
theorem fixDiv_both (a b : Int) : ∃ v : Int, (∀ w, Calls Try.prog 97 #[.int .i64 a, .int .i64 b] w fun e w' => e = .returned (.int .i64 v) ∧ Kp w w') ∧ (∀ w, Calls Try.prog 68 #[.int .i64 a, .int .i64 b] w fun e w' => e = .returned (.int .i64 v) ∧ w' = w) := by
  by_cases ha : -1099511627776 ≤ a ∧ a ≤ 1099511627776
  · by_cases hb : -1099511627776 ≤ b ∧ b ≤ 1099511627776
    · by_cases hz : b = 0
      · subst hz
        exact ⟨0, fun w => (sfixDiv_no3 a w ha.1 ha.2).mono fun e w' ⟨h1, h2⟩ => ⟨h1, h2 ▸ Kp.refl _⟩, fun w => fixDiv_no3 a w ha.1 ha.2⟩
      · exact ⟨_, fun w => sfixDiv_yes a b w ha.1 ha.2 hb.1 hb.2 hz, fun w => fixDiv_yes a b w ha.1 ha.2 hb.1 hb.2 hz⟩
    · exact ⟨0, fun w => (sfixDiv_no2 a b w ha.1 ha.2 hb).mono fun e w' ⟨h1, h2⟩ => ⟨h1, h2 ▸ Kp.refl _⟩, fun w => fixDiv_no2 a b w ha.1 ha.2 hb⟩
  · exact ⟨0, fun w => (sfixDiv_no a b w ha).mono fun e w' ⟨h1, h2⟩ => ⟨h1, h2 ▸ Kp.refl _⟩, fun w => fixDiv_no a b w ha⟩
end Go.Proofs.Ytfdjjbgcaojcnaa

namespace Go.Proofs.Ytfdjjbgcaojcnaa.fnExactFixDiv
open Go.ChangeShapes Go.WideShapes Go.ChangeAt Go.RowKit
set_option linter.unusedVariables false      -- a walk need not use every 'w<i>' (that an integer argument fits its kind)

end Go.Proofs.Ytfdjjbgcaojcnaa.fnExactFixDiv

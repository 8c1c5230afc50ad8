/-
  The law on FixDiv returns true at every pair of ints, and its arguments read afterwards as they read before; there is no further condition.
-/
import Derived.Test.YtpmclnmdedbfbaaDivs
import Derived.Test.YtpmclnmdedbfbaaNear
namespace Go.Proofs.Ytpmclnmdedbfbaa
open Go.ChangeShapes Go.WideShapes Go.ChangeAt Go.RowKit

theorem quot_uniq (m d r : Int) (hd : 0 < d) (h1 : r * d ≤ m) (h2 : m < (r + 1) * d) : m / d = r := by
  have a1 : r ≤ m / d := (Int.le_ediv_iff_mul_le hd).2 h1
  have a2 : m / d < r + 1 := (Int.ediv_lt_iff_lt_mul hd).2 h2
  omega

theorem quot_pos (m d r : Int) (hd : 0 < d) (h0 : 0 ≤ r) (h1 : r * d ≤ m) (h2 : r = 4398046511104 ∨ m < (r + 1) * d) :
    cutV (m / d) (-1099511627776) 1099511627776 = cutM r := by
  have a1 : r ≤ m / d := (Int.le_ediv_iff_mul_le hd).2 h1
  unfold cutV cutM
  rcases h2 with h2 | h2
  · omega
  · have := quot_uniq m d r hd h1 h2; omega
theorem quot_neg (m d r : Int) (hd : 0 < d) (h0 : 0 ≤ r) (h1 : r * d ≤ m) (h2 : r = 4398046511104 ∨ m < (r + 1) * d) :
    cutV (-(m / d)) (-1099511627776) 1099511627776 = cutM (-r) := by
  have a1 : r ≤ m / d := (Int.le_ediv_iff_mul_le hd).2 h1
  unfold cutV cutM
  rcases h2 with h2 | h2
  · omega
  · have := quot_uniq m d r hd h1 h2; omega
theorem neg_quot (m y : Int) (hy : 0 < y) : (y - 2 * m) / (2 * y) = -((2 * m + y - 1) / (2 * y)) := by
  have h1 := Int.mul_ediv_add_emod (2 * m + y - 1) (2 * y)
  have h2 := Int.emod_nonneg (2 * m + y - 1) (b := 2 * y) (by omega)
  have h3 := Int.emod_lt_of_pos (2 * m + y - 1) (b := 2 * y) (by omega)
  generalize (2 * m + y - 1) / (2 * y) = q at *
  generalize (2 * m + y - 1) % (2 * y) = r at *
  apply quot_uniq _ _ _ (by omega)
  · rw [Int.neg_mul, Int.mul_comm q]; omega
  · rw [Int.add_mul, Int.neg_mul, Int.mul_comm q]; omega

set_option maxHeartbeats 1000000 in
/-- What the specification's FixDiv answers at fixed numbers. -/
theorem sfixDiv_yes (a b : Int) (w : World) (a1 : -1099511627776 ≤ a) (a2 : a ≤ 1099511627776) (b1 : -1099511627776 ≤ b) (b2 : b ≤ 1099511627776) (b0 : b ≠ 0) :
    Calls Try.prog 12 #[.int .i64 a, .int .i64 b] w fun e w' => e = .returned (.int .i64 (cutV (nearV (a * 65536) b) (-1099511627776) 1099511627776)) ∧ Kp w w' := by
  have hz : (b == 0) = false := by simpa using b0
  by_cases ha : a < 0
  · have hda : decide (a < 0) = true := by simpa using ha
    by_cases hb : b < 0
    · have hdb : decide (b < 0) = true := by simpa using hb
      have HE : Hid (nearV (a * 65536) b = (2 * (-a * 65536) + -b) / (2 * -b)) := by show _ = _; unfold nearV; rw [if_pos hb]; congr 1 <;> omega
      go_enter Try.func12, Try.ntmps12
      go_wp2_with (go_at_call 16; refine (sgood_yes _ _ (by omega) (by omega)).mono ?_; rintro e w' ⟨rfl, rfl⟩)
      refine (abs_neg a _ (by omega) ha).mono ?_
      rintro e w' ⟨rfl, rfl⟩
      go_wp2_with fail
      refine (times_any (-a) 65536 _ (by omega) (by omega) (by omega) (by omega)).mono ?_
      rintro e w' ⟨rfl, c1, rfl⟩
      go_wp2_with fail
      refine (abs_neg b _ (by omega) hb).mono ?_
      rintro e w' ⟨rfl, rfl⟩
      go_wp2_with fail
      refine (near_pos (-a * 65536) (-b) _ (by omega) (by omega) (by omega) (by omega)).mono ?_
      rintro e w1 ⟨r, rfl, r0, r1, r2, r3, hk⟩
      have HR : Hid _ := quot_pos _ _ r (by omega) r0 r2 r3
      have HK : Hid _ := hk
      clear r2 r3 hk
      go_wp2
      go_ret
      exact ⟨ret_int (by rw [HE.out]; exact HR.out.symm), ((Kp.refl _).alloc _ _).trans HK.out⟩
    · have hdb : decide (b < 0) = false := by simpa using hb
      have HE : Hid (nearV (a * 65536) b = -((2 * (-a * 65536) + b - 1) / (2 * b))) := by show _ = _; rw [← neg_quot _ _ (by omega)]; unfold nearV; rw [if_neg hb]; congr 1 <;> omega
      go_enter Try.func12, Try.ntmps12
      go_wp2_with (go_at_call 16; refine (sgood_yes _ _ (by omega) (by omega)).mono ?_; rintro e w' ⟨rfl, rfl⟩)
      refine (abs_neg a _ (by omega) ha).mono ?_
      rintro e w' ⟨rfl, rfl⟩
      go_wp2_with fail
      refine (times_any (-a) 65536 _ (by omega) (by omega) (by omega) (by omega)).mono ?_
      rintro e w' ⟨rfl, c1, rfl⟩
      go_wp2_with fail
      refine (abs_nn b _ (by omega)).mono ?_
      rintro e w' ⟨rfl, rfl⟩
      go_wp2_with fail
      refine (near_neg (-a * 65536) (b) _ (by omega) (by omega) (by omega) (by omega)).mono ?_
      rintro e w1 ⟨r, rfl, r0, r1, r2, r3, hk⟩
      have HR : Hid _ := quot_neg _ _ r (by omega) r0 r2 r3
      have HK : Hid _ := hk
      clear r2 r3 hk
      go_wp2
      go_ret
      exact ⟨ret_int (by rw [HE.out]; exact HR.out.symm), ((Kp.refl _).alloc _ _).trans HK.out⟩
  · have hda : decide (a < 0) = false := by simpa using ha
    by_cases hb : b < 0
    · have hdb : decide (b < 0) = true := by simpa using hb
      have HE : Hid (nearV (a * 65536) b = -((2 * (a * 65536) + -b - 1) / (2 * -b))) := by show _ = _; rw [← neg_quot _ _ (by omega)]; unfold nearV; rw [if_pos hb]; congr 1 <;> omega
      go_enter Try.func12, Try.ntmps12
      go_wp2_with (go_at_call 16; refine (sgood_yes _ _ (by omega) (by omega)).mono ?_; rintro e w' ⟨rfl, rfl⟩)
      refine (abs_nn a _ (by omega)).mono ?_
      rintro e w' ⟨rfl, rfl⟩
      go_wp2_with fail
      refine (times_any (a) 65536 _ (by omega) (by omega) (by omega) (by omega)).mono ?_
      rintro e w' ⟨rfl, c1, rfl⟩
      go_wp2_with fail
      refine (abs_neg b _ (by omega) hb).mono ?_
      rintro e w' ⟨rfl, rfl⟩
      go_wp2_with fail
      refine (near_neg (a * 65536) (-b) _ (by omega) (by omega) (by omega) (by omega)).mono ?_
      rintro e w1 ⟨r, rfl, r0, r1, r2, r3, hk⟩
      have HR : Hid _ := quot_neg _ _ r (by omega) r0 r2 r3
      have HK : Hid _ := hk
      clear r2 r3 hk
      go_wp2
      go_ret
      exact ⟨ret_int (by rw [HE.out]; exact HR.out.symm), ((Kp.refl _).alloc _ _).trans HK.out⟩
    · have hdb : decide (b < 0) = false := by simpa using hb
      have HE : Hid (nearV (a * 65536) b = (2 * (a * 65536) + b) / (2 * b)) := by show _ = _; unfold nearV; rw [if_neg hb]
      go_enter Try.func12, Try.ntmps12
      go_wp2_with (go_at_call 16; refine (sgood_yes _ _ (by omega) (by omega)).mono ?_; rintro e w' ⟨rfl, rfl⟩)
      refine (abs_nn a _ (by omega)).mono ?_
      rintro e w' ⟨rfl, rfl⟩
      go_wp2_with fail
      refine (times_any (a) 65536 _ (by omega) (by omega) (by omega) (by omega)).mono ?_
      rintro e w' ⟨rfl, c1, rfl⟩
      go_wp2_with fail
      refine (abs_nn b _ (by omega)).mono ?_
      rintro e w' ⟨rfl, rfl⟩
      go_wp2_with fail
      refine (near_pos (a * 65536) (b) _ (by omega) (by omega) (by omega) (by omega)).mono ?_
      rintro e w1 ⟨r, rfl, r0, r1, r2, r3, hk⟩
      have HR : Hid _ := quot_pos _ _ r (by omega) r0 r2 r3
      have HK : Hid _ := hk
      clear r2 r3 hk
      go_wp2
      go_ret
      exact ⟨ret_int (by rw [HE.out]; exact HR.out.symm), ((Kp.refl _).alloc _ _).trans HK.out⟩

theorem sfixDiv_no (a b : Int) (w : World) (h : ¬ (-1099511627776 ≤ a ∧ a ≤ 1099511627776)) :
    Calls Try.prog 12 #[.int .i64 a, .int .i64 b] w fun e w' => e = .returned (.int .i64 0) ∧ w' = w := by
  have H : Hid _ := h
  clear h
  go_enter Try.func12, Try.ntmps12
  go_wp2_with (go_at_call 16; refine (sgood_no a _ H.out).mono ?_; rintro e w' ⟨rfl, rfl⟩)
  go_ret
  exact ⟨rfl, rfl⟩
theorem sfixDiv_no2 (a b : Int) (w : World) (a1 : -1099511627776 ≤ a) (a2 : a ≤ 1099511627776) (h : ¬ (-1099511627776 ≤ b ∧ b ≤ 1099511627776)) :
    Calls Try.prog 12 #[.int .i64 a, .int .i64 b] w fun e w' => e = .returned (.int .i64 0) ∧ w' = w := by
  have H : Hid _ := h
  clear h
  go_enter Try.func12, Try.ntmps12
  go_wp2_with fail
  refine (sgood_yes a _ a1 a2).mono ?_; rintro e w' ⟨rfl, rfl⟩
  go_wp2_with fail
  refine (sgood_no b _ H.out).mono ?_; rintro e w' ⟨rfl, rfl⟩
  go_wp2
  go_ret
  exact ⟨rfl, rfl⟩
theorem sfixDiv_no3 (a : Int) (w : World) (a1 : -1099511627776 ≤ a) (a2 : a ≤ 1099511627776) :
    Calls Try.prog 12 #[.int .i64 a, .int .i64 0] w fun e w' => e = .returned (.int .i64 0) ∧ w' = w := by
  go_enter Try.func12, Try.ntmps12
  go_wp2_with (go_at_call 16; refine (sgood_yes _ _ (by omega) (by omega)).mono ?_; rintro e w' ⟨rfl, rfl⟩)
  go_ret
  exact ⟨rfl, rfl⟩
theorem fixDiv_no (a b : Int) (w : World) (h : ¬ (-1099511627776 ≤ a ∧ a ≤ 1099511627776)) :
    Calls Try.prog 11 #[.int .i64 a, .int .i64 b] w fun e w' => e = .returned (.int .i64 0) ∧ w' = w := by
  have H : Hid _ := h
  clear h
  go_enter Try.func11, Try.ntmps11
  go_wp2_with (go_at_call 17; refine (igood_no a _ H.out).mono ?_; rintro e w' ⟨rfl, rfl⟩)
  go_ret
  exact ⟨rfl, rfl⟩
theorem fixDiv_no2 (a b : Int) (w : World) (a1 : -1099511627776 ≤ a) (a2 : a ≤ 1099511627776) (h : ¬ (-1099511627776 ≤ b ∧ b ≤ 1099511627776)) :
    Calls Try.prog 11 #[.int .i64 a, .int .i64 b] w fun e w' => e = .returned (.int .i64 0) ∧ w' = w := by
  have H : Hid _ := h
  clear h
  go_enter Try.func11, Try.ntmps11
  go_wp2_with fail
  refine (igood_yes a _ a1 a2).mono ?_; rintro e w' ⟨rfl, rfl⟩
  go_wp2_with fail
  refine (igood_no b _ H.out).mono ?_; rintro e w' ⟨rfl, rfl⟩
  go_wp2
  go_ret
  exact ⟨rfl, rfl⟩
theorem fixDiv_no3 (a : Int) (w : World) (a1 : -1099511627776 ≤ a) (a2 : a ≤ 1099511627776) :
    Calls Try.prog 11 #[.int .i64 a, .int .i64 0] w fun e w' => e = .returned (.int .i64 0) ∧ w' = w := by
  go_enter Try.func11, Try.ntmps11
  go_wp2_with (go_at_call 17; refine (igood_yes _ _ (by omega) (by omega)).mono ?_; rintro e w' ⟨rfl, rfl⟩)
  go_ret
  exact ⟨rfl, rfl⟩

/-- Both at once: one value. -/
theorem fixDiv_both (a b : Int) : ∃ v : Int, (∀ w, Calls Try.prog 12 #[.int .i64 a, .int .i64 b] w fun e w' => e = .returned (.int .i64 v) ∧ Kp w w') ∧ (∀ w, Calls Try.prog 11 #[.int .i64 a, .int .i64 b] w fun e w' => e = .returned (.int .i64 v) ∧ w' = w) := by
  by_cases ha : -1099511627776 ≤ a ∧ a ≤ 1099511627776
  · by_cases hb : -1099511627776 ≤ b ∧ b ≤ 1099511627776
    · by_cases hz : b = 0
      · subst hz
        exact ⟨0, fun w => (sfixDiv_no3 a w ha.1 ha.2).mono fun e w' ⟨h1, h2⟩ => ⟨h1, h2 ▸ Kp.refl _⟩, fun w => fixDiv_no3 a w ha.1 ha.2⟩
      · exact ⟨_, fun w => sfixDiv_yes a b w ha.1 ha.2 hb.1 hb.2 hz, fun w => fixDiv_yes a b w ha.1 ha.2 hb.1 hb.2 hz⟩
    · exact ⟨0, fun w => (sfixDiv_no2 a b w ha.1 ha.2 hb).mono fun e w' ⟨h1, h2⟩ => ⟨h1, h2 ▸ Kp.refl _⟩, fun w => fixDiv_no2 a b w ha.1 ha.2 hb⟩
  · exact ⟨0, fun w => (sfixDiv_no a b w ha).mono fun e w' ⟨h1, h2⟩ => ⟨h1, h2 ▸ Kp.refl _⟩, fun w => fixDiv_no a b w ha⟩
end Go.Proofs.Ytpmclnmdedbfbaa

namespace Go.Proofs.Ytpmclnmdedbfbaa.fnExactFixDiv
open Go.ChangeShapes Go.WideShapes Go.ChangeAt Go.RowKit
set_option linter.unusedVariables false      -- a walk need not use every 'w<i>' (that an integer argument fits its kind)

theorem own : ownKnob Try.prog.godebug = none := by kernel_rfl

/-! ### STEP 1: THE WALK: the Go text returns true. 'Grown w w'': the world has at most new blocks (Derived/RowKit3.lean). Part the cases AHEAD of 'go_enter' where a test parts the walk; take each callee by a contract of your own. -/
theorem walk (a0 : Int) (a1 : Int) (w0 : (Lit.int .i64 a0).wf = true) (w1 : (Lit.int .i64 a1).wf = true) (w : World) :
    Calls Try.prog 6 #[.int .i64 a0, .int .i64 a1] w fun e w' => e = .returned (.bool true) ∧ Grown w w' := by
  obtain ⟨v, hs, hi⟩ := fixDiv_both a0 a1
  have HS : Hid _ := hs
  have HI : Hid _ := hi
  clear hs hi
  go_enter Try.func6, Try.ntmps6
  go_wp2_with fail
  refine (HS.out _).mono ?_
  rintro e w1 ⟨rfl, hk⟩
  have HK : Hid _ := hk
  clear hk
  go_wp2_with fail
  refine (HI.out _).mono ?_
  rintro e w2 ⟨rfl, rfl⟩
  go_wp2
  go_ret
  exact ⟨rfl, Kp.grown HK.out⟩

/-! ### THE ROW's STEP: WRITTEN OUT: LEAVE IT -/
set_option maxRecDepth 100000 in
theorem lifted (os : Os) (started : os.Started) (H : Type) (enc : TypeId × Value → H) :
    ReturnsInHanded {} Try.checked os 6 .any (Rows.fnExactFixDivSpec.pre6 enc Try.prog Try.f6 Rows.fnExactFixDivRow.domain false) (Rows.fnExactFixDivSpec.post enc Try.prog Try.f6 false true false false) := by
  refine returnsInHanded_of_change (C := Try.checked) own started (by kernel_rfl) Try.func6
    (ChangeSpec.witness6 (enc := enc) (C := Try.checked) false ⟨#[], #[.int .i64 0, .int .i64 0], []⟩ 8 (by kernel_rfl) (by kernel_rfl) (by kernel_rfl) (by kernel_rfl)) ?_
  intro W base args ds gs before hval0 hW hcnd _
  have hval : ∀ (j : Nat) t v, Try.f6.params[j]? = some t → args[j]? = some v → Value.okWide Try.prog W .any base t v := hval0
  have hW' := hW
  obtain ⟨p, q, hA0, hV, rfl, hfz, hnd⟩ := hW
  have hA : DataW.TrodAll enc Try.prog W 0 (fun _ => true) true Try.f6.params.toList args.toList ds p := hA0
  rw [Try.params6] at hA hval
  obtain ⟨v0, vs0, d0, ds0, p0, q0, hargs, rfl, rfl, h0, r0⟩ := trodAll_cons hA
  obtain ⟨v1, vs1, d1, ds1, p1, q1, rfl, rfl, rfl, h1, r1⟩ := trodAll_cons r0
  obtain ⟨rfl, rfl, rfl⟩ := trodAll_nil r1
  obtain rfl : args = #[v0, v1] := by cases args; simp_all
  obtain ⟨rfl, rfl⟩ := trodVars_none hV
  obtain ⟨a0, rfl, rfl, rfl, w0⟩ := open_int Try.underlying3 (hval 0 3 v0 rfl rfl) h0
  obtain ⟨a1, rfl, rfl, rfl, w1⟩ := open_int Try.underlying3 (hval 1 3 v1 rfl rfl) h1
  clear hA0 hval0
  simp only [List.append_nil] at hW'
  refine (walk a0 a1 w0 w1 W).mono fun e W' ⟨he, hg⟩ => ?_
  subst he
  exact ⟨_, rfl, post_of_same (pa := []) (pv := []) hW' (fun _ _ _ => (trodAll_cons_mk (shut_bool Try.underlying4 _) trodAll_mk0)) (fun sp _ => (trodAll_cons_mk (shut_int Try.underlying3 w0) (trodAll_cons_mk (shut_int Try.underlying3 w1) trodAll_mk0))) (fun _ _ => rfl) rfl
    (hg.frame _) hg.2.1 (ok_one (by kernel_rfl) rfl (okWide_bool_mk Try.underlying4 _))⟩

theorem over : Rows.fnExactFixDivRow.holds Try.pinned (OpenSpec.ofChange Rows.fnExactFixDivSpec) :=
  OpenClaim.holds_of_wide 6 Try.f6 rfl rfl rfl rfl rfl rfl rfl ⟨rfl, rfl, rfl, rfl, rfl⟩ rfl rfl rfl rfl rfl (by kernel_rfl) Try.func6 (by kernel_rfl)
    (of_decide_eq_true (by kernel_rfl)) (by unfold Func.isWrapper; first | (rw [if_pos (by decide +kernel)]; kernel_rfl) | (rw [if_neg (by decide +kernel)]; exact ⟨rfl, rfl⟩))
    (fun os started H enc _ => lifted os started H enc)

/-- ████ THE STATEMENT ████ -/
theorem proved : Rows.FnExactFixDivSaid :=
  over
#print axioms proved
end Go.Proofs.Ytpmclnmdedbfbaa.fnExactFixDiv

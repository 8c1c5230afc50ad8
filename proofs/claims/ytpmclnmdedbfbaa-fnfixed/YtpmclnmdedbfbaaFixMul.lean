/-
  The law on FixMul returns true at every pair of ints, and its arguments read afterwards as they read before; there is no further condition.
-/
import Derived.Test.YtpmclnmdedbfbaaMuls
namespace Go.Proofs.Ytpmclnmdedbfbaa
open Go.ChangeShapes Go.WideShapes Go.ChangeAt Go.RowKit

set_option maxHeartbeats 1000000 in
theorem sfixMul_pp (a b : Int) (w : World) (a1 : -1099511627776 ≤ a) (a2 : a ≤ 1099511627776) (b1 : -1099511627776 ≤ b) (b2 : b ≤ 1099511627776) (ha : 0 ≤ a) (hb : 0 ≤ b) :
    Calls Try.prog 10 #[.int .i64 a, .int .i64 b] w fun e w' => e = .returned (.int .i64 (posV (a * b))) ∧ Kp w w' := by
  have hda : decide (a < 0) = false := by simp; omega
  have hdb : decide (b < 0) = false := by simp; omega
  obtain ⟨P, hP⟩ : ∃ P, a * b = P := ⟨_, rfl⟩
  have pb := prod_bd (a) (b) (by omega) (by omega) (by omega) (by omega)
  rw [hP] at pb ⊢
  obtain ⟨p0, p1⟩ := pb
  have HP : Hid _ := hP
  clear hP
  go_enter Try.func10, Try.ntmps10
  go_wp2_with (go_at_call 16; refine (sgood_yes _ _ (by omega) (by omega)).mono ?_; rintro e w' ⟨rfl, rfl⟩)
  refine (abs_nn a _ ha).mono ?_; rintro e w' ⟨rfl, rfl⟩
  go_wp2_with fail
  refine (abs_nn b _ hb).mono ?_; rintro e w' ⟨rfl, rfl⟩
  go_wp2_with fail
  refine (times_any (a) (b) _ (by omega) (by omega) (by omega) (by omega)).mono ?_; rintro e w' ⟨rfl, c1, rfl⟩
  rw [HP.out]
  go_wp2_with fail
  refine (near_pos P 65536 _ (by omega) (by omega) (by omega) (by omega)).mono ?_
  rintro e w1 ⟨r, rfl, r0, r1, r2, r3, hk⟩
  have HR : Hid (cutM r = posV P) := by show _ = _; unfold cutM posV; omega
  have HK : Hid _ := hk
  clear r2 r3 hk
  go_wp2
  go_ret
  exact ⟨ret_int HR.out, ((Kp.refl _).alloc _ _).trans HK.out⟩

set_option maxHeartbeats 1000000 in
theorem sfixMul_nn (a b : Int) (w : World) (a1 : -1099511627776 ≤ a) (a2 : a ≤ 1099511627776) (b1 : -1099511627776 ≤ b) (b2 : b ≤ 1099511627776) (ha : a < 0) (hb : b < 0) :
    Calls Try.prog 10 #[.int .i64 a, .int .i64 b] w fun e w' => e = .returned (.int .i64 (posV (-a * -b))) ∧ Kp w w' := by
  have hda : decide (a < 0) = true := by simp; exact ha
  have hdb : decide (b < 0) = true := by simp; exact hb
  obtain ⟨P, hP⟩ : ∃ P, -a * -b = P := ⟨_, rfl⟩
  have pb := prod_bd (-a) (-b) (by omega) (by omega) (by omega) (by omega)
  rw [hP] at pb ⊢
  obtain ⟨p0, p1⟩ := pb
  have HP : Hid _ := hP
  clear hP
  go_enter Try.func10, Try.ntmps10
  go_wp2_with (go_at_call 16; refine (sgood_yes _ _ (by omega) (by omega)).mono ?_; rintro e w' ⟨rfl, rfl⟩)
  refine (abs_neg a _ (by omega) ha).mono ?_; rintro e w' ⟨rfl, rfl⟩
  go_wp2_with fail
  refine (abs_neg b _ (by omega) hb).mono ?_; rintro e w' ⟨rfl, rfl⟩
  go_wp2_with fail
  refine (times_any (-a) (-b) _ (by omega) (by omega) (by omega) (by omega)).mono ?_; rintro e w' ⟨rfl, c1, rfl⟩
  rw [HP.out]
  go_wp2_with fail
  refine (near_pos P 65536 _ (by omega) (by omega) (by omega) (by omega)).mono ?_
  rintro e w1 ⟨r, rfl, r0, r1, r2, r3, hk⟩
  have HR : Hid (cutM r = posV P) := by show _ = _; unfold cutM posV; omega
  have HK : Hid _ := hk
  clear r2 r3 hk
  go_wp2
  go_ret
  exact ⟨ret_int HR.out, ((Kp.refl _).alloc _ _).trans HK.out⟩

set_option maxHeartbeats 1000000 in
theorem sfixMul_np (a b : Int) (w : World) (a1 : -1099511627776 ≤ a) (a2 : a ≤ 1099511627776) (b1 : -1099511627776 ≤ b) (b2 : b ≤ 1099511627776) (ha : a < 0) (hb : 0 ≤ b) :
    Calls Try.prog 10 #[.int .i64 a, .int .i64 b] w fun e w' => e = .returned (.int .i64 (negV (-a * b))) ∧ Kp w w' := by
  have hda : decide (a < 0) = true := by simp; exact ha
  have hdb : decide (b < 0) = false := by simp; omega
  obtain ⟨P, hP⟩ : ∃ P, -a * b = P := ⟨_, rfl⟩
  have pb := prod_bd (-a) (b) (by omega) (by omega) (by omega) (by omega)
  rw [hP] at pb ⊢
  obtain ⟨p0, p1⟩ := pb
  have HP : Hid _ := hP
  clear hP
  go_enter Try.func10, Try.ntmps10
  go_wp2_with (go_at_call 16; refine (sgood_yes _ _ (by omega) (by omega)).mono ?_; rintro e w' ⟨rfl, rfl⟩)
  refine (abs_neg a _ (by omega) ha).mono ?_; rintro e w' ⟨rfl, rfl⟩
  go_wp2_with fail
  refine (abs_nn b _ hb).mono ?_; rintro e w' ⟨rfl, rfl⟩
  go_wp2_with fail
  refine (times_any (-a) (b) _ (by omega) (by omega) (by omega) (by omega)).mono ?_; rintro e w' ⟨rfl, c1, rfl⟩
  rw [HP.out]
  go_wp2_with fail
  refine (near_neg P 65536 _ (by omega) (by omega) (by omega) (by omega)).mono ?_
  rintro e w1 ⟨r, rfl, r0, r1, r2, r3, hk⟩
  have HR : Hid (cutM (-r) = negV P) := by show _ = _; unfold cutM negV; omega
  have HK : Hid _ := hk
  clear r2 r3 hk
  go_wp2
  go_ret
  exact ⟨ret_int HR.out, ((Kp.refl _).alloc _ _).trans HK.out⟩

set_option maxHeartbeats 1000000 in
theorem sfixMul_pn (a b : Int) (w : World) (a1 : -1099511627776 ≤ a) (a2 : a ≤ 1099511627776) (b1 : -1099511627776 ≤ b) (b2 : b ≤ 1099511627776) (ha : 0 ≤ a) (hb : b < 0) :
    Calls Try.prog 10 #[.int .i64 a, .int .i64 b] w fun e w' => e = .returned (.int .i64 (negV (a * -b))) ∧ Kp w w' := by
  have hda : decide (a < 0) = false := by simp; omega
  have hdb : decide (b < 0) = true := by simp; exact hb
  obtain ⟨P, hP⟩ : ∃ P, a * -b = P := ⟨_, rfl⟩
  have pb := prod_bd (a) (-b) (by omega) (by omega) (by omega) (by omega)
  rw [hP] at pb ⊢
  obtain ⟨p0, p1⟩ := pb
  have HP : Hid _ := hP
  clear hP
  go_enter Try.func10, Try.ntmps10
  go_wp2_with (go_at_call 16; refine (sgood_yes _ _ (by omega) (by omega)).mono ?_; rintro e w' ⟨rfl, rfl⟩)
  refine (abs_nn a _ ha).mono ?_; rintro e w' ⟨rfl, rfl⟩
  go_wp2_with fail
  refine (abs_neg b _ (by omega) hb).mono ?_; rintro e w' ⟨rfl, rfl⟩
  go_wp2_with fail
  refine (times_any (a) (-b) _ (by omega) (by omega) (by omega) (by omega)).mono ?_; rintro e w' ⟨rfl, c1, rfl⟩
  rw [HP.out]
  go_wp2_with fail
  refine (near_neg P 65536 _ (by omega) (by omega) (by omega) (by omega)).mono ?_
  rintro e w1 ⟨r, rfl, r0, r1, r2, r3, hk⟩
  have HR : Hid (cutM (-r) = negV P) := by show _ = _; unfold cutM negV; omega
  have HK : Hid _ := hk
  clear r2 r3 hk
  go_wp2
  go_ret
  exact ⟨ret_int HR.out, ((Kp.refl _).alloc _ _).trans HK.out⟩

theorem sfixMul_no (a b : Int) (w : World) (h : ¬ (-1099511627776 ≤ a ∧ a ≤ 1099511627776)) :
    Calls Try.prog 10 #[.int .i64 a, .int .i64 b] w fun e w' => e = .returned (.int .i64 0) ∧ w' = w := by
  have H : Hid _ := h
  clear h
  go_enter Try.func10, Try.ntmps10
  go_wp2_with (go_at_call 16; refine (sgood_no a _ H.out).mono ?_; rintro e w' ⟨rfl, rfl⟩)
  go_ret
  exact ⟨rfl, rfl⟩
theorem sfixMul_no2 (a b : Int) (w : World) (a1 : -1099511627776 ≤ a) (a2 : a ≤ 1099511627776) (h : ¬ (-1099511627776 ≤ b ∧ b ≤ 1099511627776)) :
    Calls Try.prog 10 #[.int .i64 a, .int .i64 b] w fun e w' => e = .returned (.int .i64 0) ∧ w' = w := by
  have H : Hid _ := h
  clear h
  go_enter Try.func10, Try.ntmps10
  go_wp2_with fail
  refine (sgood_yes a _ a1 a2).mono ?_; rintro e w' ⟨rfl, rfl⟩
  go_wp2_with fail
  refine (sgood_no b _ H.out).mono ?_; rintro e w' ⟨rfl, rfl⟩
  go_wp2
  go_ret
  exact ⟨rfl, rfl⟩

theorem fixMul_no (a b : Int) (w : World) (h : ¬ (-1099511627776 ≤ a ∧ a ≤ 1099511627776)) :
    Calls Try.prog 9 #[.int .i64 a, .int .i64 b] w fun e w' => e = .returned (.int .i64 0) ∧ w' = w := by
  have H : Hid _ := h
  clear h
  go_enter Try.func9, Try.ntmps9
  go_wp2_with (go_at_call 17; refine (igood_no a _ H.out).mono ?_; rintro e w' ⟨rfl, rfl⟩)
  go_ret
  exact ⟨rfl, rfl⟩
theorem fixMul_no2 (a b : Int) (w : World) (a1 : -1099511627776 ≤ a) (a2 : a ≤ 1099511627776) (h : ¬ (-1099511627776 ≤ b ∧ b ≤ 1099511627776)) :
    Calls Try.prog 9 #[.int .i64 a, .int .i64 b] w fun e w' => e = .returned (.int .i64 0) ∧ w' = w := by
  have H : Hid _ := h
  clear h
  go_enter Try.func9, Try.ntmps9
  go_wp2_with fail
  refine (igood_yes a _ a1 a2).mono ?_; rintro e w' ⟨rfl, rfl⟩
  go_wp2_with fail
  refine (igood_no b _ H.out).mono ?_; rintro e w' ⟨rfl, rfl⟩
  go_wp2
  go_ret
  exact ⟨rfl, rfl⟩

/-- Both at once: one value. -/
theorem fixMul_both (a b : Int) : ∃ v : Int, (∀ w, Calls Try.prog 10 #[.int .i64 a, .int .i64 b] w fun e w' => e = .returned (.int .i64 v) ∧ Kp w w') ∧ (∀ w, Calls Try.prog 9 #[.int .i64 a, .int .i64 b] w fun e w' => e = .returned (.int .i64 v) ∧ w' = w) := by
  by_cases ha : -1099511627776 ≤ a ∧ a ≤ 1099511627776
  · by_cases hb : -1099511627776 ≤ b ∧ b ≤ 1099511627776
    · obtain ⟨a1, a2⟩ := ha
      obtain ⟨b1, b2⟩ := hb
      by_cases na : a < 0
      · by_cases nb : b < 0
        · exact ⟨_, fun w => sfixMul_nn a b w a1 a2 b1 b2 na nb, fun w => fixMul_nn a b w a1 a2 b1 b2 na nb⟩
        · exact ⟨_, fun w => sfixMul_np a b w a1 a2 b1 b2 na (by omega), fun w => fixMul_np a b w a1 a2 b1 b2 na (by omega)⟩
      · by_cases nb : b < 0
        · exact ⟨_, fun w => sfixMul_pn a b w a1 a2 b1 b2 (by omega) nb, fun w => fixMul_pn a b w a1 a2 b1 b2 (by omega) nb⟩
        · exact ⟨_, fun w => sfixMul_pp a b w a1 a2 b1 b2 (by omega) (by omega), fun w => fixMul_pp a b w a1 a2 b1 b2 (by omega) (by omega)⟩
    · exact ⟨0, fun w => (sfixMul_no2 a b w ha.1 ha.2 hb).mono fun e w' ⟨h1, h2⟩ => ⟨h1, h2 ▸ Kp.refl _⟩, fun w => fixMul_no2 a b w ha.1 ha.2 hb⟩
  · exact ⟨0, fun w => (sfixMul_no a b w ha).mono fun e w' ⟨h1, h2⟩ => ⟨h1, h2 ▸ Kp.refl _⟩, fun w => fixMul_no a b w ha⟩
end Go.Proofs.Ytpmclnmdedbfbaa

namespace Go.Proofs.Ytpmclnmdedbfbaa.fnExactFixMul
open Go.ChangeShapes Go.WideShapes Go.ChangeAt Go.RowKit
set_option linter.unusedVariables false      -- a walk need not use every 'w<i>' (that an integer argument fits its kind)

theorem own : ownKnob Try.prog.godebug = none := by kernel_rfl

/-! ### STEP 1: THE WALK: the Go text returns true. 'Grown w w'': the world has at most new blocks (Derived/RowKit3.lean). Part the cases AHEAD of 'go_enter' where a test parts the walk; take each callee by a contract of your own. -/
theorem walk (a0 : Int) (a1 : Int) (w0 : (Lit.int .i64 a0).wf = true) (w1 : (Lit.int .i64 a1).wf = true) (w : World) :
    Calls Try.prog 5 #[.int .i64 a0, .int .i64 a1] w fun e w' => e = .returned (.bool true) ∧ Grown w w' := by
  obtain ⟨v, hs, hi⟩ := fixMul_both a0 a1
  have HS : Hid _ := hs
  have HI : Hid _ := hi
  clear hs hi
  go_enter Try.func5, Try.ntmps5
  go_wp2_with fail
  refine (HS.out _).mono ?_
  rintro e w1 ⟨rfl, hk⟩
  have HK : Hid _ := hk
  clear hk
  go_wp2_with fail
  refine (HI.out _).mono ?_
  rintro e w2 ⟨rfl, rfl⟩
  go_wp2
  go_ret
  exact ⟨rfl, Kp.grown HK.out⟩

/-! ### THE ROW's STEP: WRITTEN OUT: LEAVE IT -/
set_option maxRecDepth 100000 in
theorem lifted (os : Os) (started : os.Started) (H : Type) (enc : TypeId × Value → H) :
    ReturnsInHanded {} Try.checked os 5 .any (Rows.fnExactFixMulSpec.pre6 enc Try.prog Try.f5 Rows.fnExactFixMulRow.domain false) (Rows.fnExactFixMulSpec.post enc Try.prog Try.f5 false true false false) := by
  refine returnsInHanded_of_change (C := Try.checked) own started (by kernel_rfl) Try.func5
    (ChangeSpec.witness6 (enc := enc) (C := Try.checked) false ⟨#[], #[.int .i64 0, .int .i64 0], []⟩ 8 (by kernel_rfl) (by kernel_rfl) (by kernel_rfl) (by kernel_rfl)) ?_
  intro W base args ds gs before hval0 hW hcnd _
  have hval : ∀ (j : Nat) t v, Try.f5.params[j]? = some t → args[j]? = some v → Value.okWide Try.prog W .any base t v := hval0
  have hW' := hW
  obtain ⟨p, q, hA0, hV, rfl, hfz, hnd⟩ := hW
  have hA : DataW.TrodAll enc Try.prog W 0 (fun _ => true) true Try.f5.params.toList args.toList ds p := hA0
  rw [Try.params5] at hA hval
  obtain ⟨v0, vs0, d0, ds0, p0, q0, hargs, rfl, rfl, h0, r0⟩ := trodAll_cons hA
  obtain ⟨v1, vs1, d1, ds1, p1, q1, rfl, rfl, rfl, h1, r1⟩ := trodAll_cons r0
  obtain ⟨rfl, rfl, rfl⟩ := trodAll_nil r1
  obtain rfl : args = #[v0, v1] := by cases args; simp_all
  obtain ⟨rfl, rfl⟩ := trodVars_none hV
  obtain ⟨a0, rfl, rfl, rfl, w0⟩ := open_int Try.underlying3 (hval 0 3 v0 rfl rfl) h0
  obtain ⟨a1, rfl, rfl, rfl, w1⟩ := open_int Try.underlying3 (hval 1 3 v1 rfl rfl) h1
  clear hA0 hval0
  simp only [List.append_nil] at hW'
  refine (walk a0 a1 w0 w1 W).mono fun e W' ⟨he, hg⟩ => ?_
  subst he
  exact ⟨_, rfl, post_of_same (pa := []) (pv := []) hW' (fun _ _ _ => (trodAll_cons_mk (shut_bool Try.underlying4 _) trodAll_mk0)) (fun sp _ => (trodAll_cons_mk (shut_int Try.underlying3 w0) (trodAll_cons_mk (shut_int Try.underlying3 w1) trodAll_mk0))) (fun _ _ => rfl) rfl
    (hg.frame _) hg.2.1 (ok_one (by kernel_rfl) rfl (okWide_bool_mk Try.underlying4 _))⟩

theorem over : Rows.fnExactFixMulRow.holds Try.pinned (OpenSpec.ofChange Rows.fnExactFixMulSpec) :=
  OpenClaim.holds_of_wide 5 Try.f5 rfl rfl rfl rfl rfl rfl rfl ⟨rfl, rfl, rfl, rfl, rfl⟩ rfl rfl rfl rfl rfl (by kernel_rfl) Try.func5 (by kernel_rfl)
    (of_decide_eq_true (by kernel_rfl)) (by unfold Func.isWrapper; first | (rw [if_pos (by decide +kernel)]; kernel_rfl) | (rw [if_neg (by decide +kernel)]; exact ⟨rfl, rfl⟩))
    (fun os started H enc _ => lifted os started H enc)

/-- ████ THE STATEMENT ████ -/
theorem proved : Rows.FnExactFixMulSaid :=
  over
#print axioms proved
end Go.Proofs.Ytpmclnmdedbfbaa.fnExactFixMul

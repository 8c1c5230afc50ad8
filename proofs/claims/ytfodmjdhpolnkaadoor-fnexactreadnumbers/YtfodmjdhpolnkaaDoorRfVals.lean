/-
  What the program's ReadFixed answers where the text tells a number, for texts of at most 1048576 bytes.
-/
import Derived.Test.YtfodmjdhpolnkaaDoorRfRead
namespace Go.Proofs.YtfodmjdhpolnkaaDoor
open Go.ChangeShapes Go.WideShapes Go.ChangeAt Go.RowKit

theorem igood_yes (x : Int) (w : World) (h1 : -1099511627776 ≤ x) (h2 : x ≤ 1099511627776) : Calls Tryd.prog 36 #[.int .i64 x] w fun e w' => e = .returned (.bool true) ∧ w' = w := by
  go_enter Tryd.func36, Tryd.ntmps36
  go_wp2
  go_ret
  exact ⟨rfl, rfl⟩
theorem igood_no (x : Int) (w : World) (h : ¬ (-1099511627776 ≤ x ∧ x ≤ 1099511627776)) : Calls Tryd.prog 36 #[.int .i64 x] w fun e w' => e = .returned (.bool false) ∧ w' = w := by
  by_cases h1 : -1099511627776 ≤ x
  · have h2 : 1099511627776 < x := by omega
    have h3 : decide (x ≤ 1099511627776) = false := by simp; omega
    clear h
    go_enter Tryd.func36, Tryd.ntmps36
    go_wp2
    go_ret
    exact ⟨rfl, rfl⟩
  · clear h
    go_enter Tryd.func36, Tryd.ntmps36
    go_wp2
    go_ret
    exact ⟨rfl, rfl⟩
theorem fin_yes (σ N : Int) (h1 : -1099511627776 ≤ fixOf σ N) (h2 : fixOf σ N ≤ 1099511627776) : fin σ N = (fixOf σ N, true) := by
  unfold fin okFix; rw [if_pos (by simp [h1, h2])]
theorem fin_no (σ N : Int) (h : ¬ (-1099511627776 ≤ fixOf σ N ∧ fixOf σ N ≤ 1099511627776)) : fin σ N = (0, false) := by
  unfold fin okFix; rw [if_neg (by simp only [Bool.and_eq_true, decide_eq_true_eq]; exact h)]
theorem near_mil (A : Int) : nearV A 1000000 = (2 * A + 1000000) / 2000000 := by unfold nearV; rw [if_neg (by omega)]; rfl

set_option maxHeartbeats 1000000 in
theorem val_pp (s r A B : ByteArray) (w : World) (hsg : SignIs s (1) r) (hct : CutIs r A B true) (hA : A.size ≤ 8) (hB : B.size ≤ 6) (h1 : 1 ≤ B.size) (h : allD A.data.toList = true) (h' : allD B.data.toList = true) :
    Calls Tryd.prog 34 #[.string s] w fun e w' => e = .returned (.tuple #[.int .i64 (fin (1) (num A.data.toList * 1000000 + num (B ++ (ByteArray.mk #[48, 48, 48, 48, 48, 48]).extract B.size 6).data.toList)).1, .bool (fin (1) (num A.data.toList * 1000000 + num (B ++ (ByteArray.mk #[48, 48, 48, 48, 48, 48]).extract B.size 6).data.toList)).2]) ∧ Kp w w' := by
  have nA := num8 A h hA
  have nM := num6 (B ++ (ByteArray.mk #[48, 48, 48, 48, 48, 48]).extract B.size 6) (pad_all B h') (pad_size B hB)
  have HN : Hid _ := numberOf_any (B ++ (ByteArray.mk #[48, 48, 48, 48, 48, 48]).extract B.size 6)
  have HPA : Hid _ := pad_all B h'
  have HPS : Hid _ := pad_size B hB
  obtain ⟨M, hM⟩ : ∃ M, num (B ++ (ByteArray.mk #[48, 48, 48, 48, 48, 48]).extract B.size 6).data.toList = M := ⟨_, rfl⟩
  obtain ⟨a, ha⟩ : ∃ a, num A.data.toList = a := ⟨_, rfl⟩
  rw [hM] at nM ⊢
  rw [ha] at nA ⊢
  have HM : Hid _ := hM
  have Ha : Hid _ := ha
  have H : Hid _ := h
  have H' : Hid _ := h'
  clear h hM ha h'
  obtain ⟨a1, a2⟩ := nA
  obtain ⟨m1, m2⟩ := nM
  obtain ⟨V, hV⟩ : ∃ V, nearV (M * 65536) 1000000 = V := ⟨_, rfl⟩
  have v1 : -70000 ≤ V := by rw [← hV, near_mil]; omega
  have v2 : V ≤ 70000 := by rw [← hV, near_mil]; omega
  have HX : Hid (a * 65536 + V = fixOf (1) (a * 1000000 + M)) := by show _ = _; rw [← hV, near_mil]; unfold fixOf; omega
  have HV : Hid _ := hV
  clear hV
  have d8 : decide (8 < (A.size : Int)) = false := by simp; omega
  have d6 : decide (6 < (B.size : Int)) = false := by simp; omega
  have he := empty_no B h1
  go_enter Tryd.func34, Tryd.ntmps34
  go_wp2_with fail
  refine (hsg _).mono ?_; rintro e w1 ⟨rfl, hk⟩
  have HK : Hid (Kp w w1) := hk
  clear hk
  go_wp2_with fail
  refine (hct _).mono ?_; rintro e w2 ⟨rfl, hk⟩
  have HK2 : Hid (Kp w1 w2) := hk
  clear hk
  go_wp2_with fail
  refine (allDigits_any A _ (by unfold maxLen; omega)).mono ?_; rintro e w3 ⟨rfl, rfl⟩
  rw [H.out]
  go_wp2_with fail
  refine (allDigits_any B _ (by unfold maxLen; omega)).mono ?_; rintro e w3 ⟨rfl, rfl⟩
  rw [H'.out]
  go_wp2_with fail
  refine (HN.out _ (by rw [HPS.out]; omega) HPA.out).mono ?_; rintro e w3 ⟨rfl, rfl⟩
  rw [HM.out]
  go_wp2_with fail
  refine (numberOf_any A _ (by omega) H.out).mono ?_; rintro e w3 ⟨rfl, rfl⟩
  rw [Ha.out]
  go_wp2_with fail
  refine (nearest_any _ _ _ (by omega) (by omega) (by omega) (by omega) (by omega)).mono ?_; rintro e w3 ⟨rfl, rfl⟩
  rw [HV.out]
  go_wp2_with fail
  by_cases hg : -1099511627776 ≤ a * 65536 + V ∧ a * 65536 + V ≤ 1099511627776
  · have HF : Hid _ := fin_yes (1) (a * 1000000 + M) (by rw [← HX.out]; exact hg.1) (by rw [← HX.out]; exact hg.2)
    refine (igood_yes _ _ hg.1 hg.2).mono ?_; rintro e w3 ⟨rfl, rfl⟩
    clear hg
    go_wp2
    go_ret2
    exact ⟨by rw [HF.out, ← HX.out]; rfl, Kp.trans HK.out HK2.out⟩
  · have HF : Hid _ := fin_no (1) (a * 1000000 + M) (by rw [← HX.out]; exact hg)
    refine (igood_no _ _ hg).mono ?_; rintro e w3 ⟨rfl, rfl⟩
    clear hg
    go_wp2
    go_ret2
    exact ⟨by rw [HF.out]; rfl, Kp.trans HK.out HK2.out⟩

set_option maxHeartbeats 1000000 in
theorem val_mp (s r A B : ByteArray) (w : World) (hsg : SignIs s (-1) r) (hct : CutIs r A B true) (hA : A.size ≤ 8) (hB : B.size ≤ 6) (h1 : 1 ≤ B.size) (h : allD A.data.toList = true) (h' : allD B.data.toList = true) :
    Calls Tryd.prog 34 #[.string s] w fun e w' => e = .returned (.tuple #[.int .i64 (fin (-1) (num A.data.toList * 1000000 + num (B ++ (ByteArray.mk #[48, 48, 48, 48, 48, 48]).extract B.size 6).data.toList)).1, .bool (fin (-1) (num A.data.toList * 1000000 + num (B ++ (ByteArray.mk #[48, 48, 48, 48, 48, 48]).extract B.size 6).data.toList)).2]) ∧ Kp w w' := by
  have nA := num8 A h hA
  have nM := num6 (B ++ (ByteArray.mk #[48, 48, 48, 48, 48, 48]).extract B.size 6) (pad_all B h') (pad_size B hB)
  have HN : Hid _ := numberOf_any (B ++ (ByteArray.mk #[48, 48, 48, 48, 48, 48]).extract B.size 6)
  have HPA : Hid _ := pad_all B h'
  have HPS : Hid _ := pad_size B hB
  obtain ⟨M, hM⟩ : ∃ M, num (B ++ (ByteArray.mk #[48, 48, 48, 48, 48, 48]).extract B.size 6).data.toList = M := ⟨_, rfl⟩
  obtain ⟨a, ha⟩ : ∃ a, num A.data.toList = a := ⟨_, rfl⟩
  rw [hM] at nM ⊢
  rw [ha] at nA ⊢
  have HM : Hid _ := hM
  have Ha : Hid _ := ha
  have H : Hid _ := h
  have H' : Hid _ := h'
  clear h hM ha h'
  obtain ⟨a1, a2⟩ := nA
  obtain ⟨m1, m2⟩ := nM
  obtain ⟨V, hV⟩ : ∃ V, nearV (-M * 65536) 1000000 = V := ⟨_, rfl⟩
  have v1 : -70000 ≤ V := by rw [← hV, near_mil]; omega
  have v2 : V ≤ 70000 := by rw [← hV, near_mil]; omega
  have HX : Hid (-a * 65536 + V = fixOf (-1) (a * 1000000 + M)) := by show _ = _; rw [← hV, near_mil]; unfold fixOf; omega
  have HV : Hid _ := hV
  clear hV
  have d8 : decide (8 < (A.size : Int)) = false := by simp; omega
  have d6 : decide (6 < (B.size : Int)) = false := by simp; omega
  have he := empty_no B h1
  go_enter Tryd.func34, Tryd.ntmps34
  go_wp2_with fail
  refine (hsg _).mono ?_; rintro e w1 ⟨rfl, hk⟩
  have HK : Hid (Kp w w1) := hk
  clear hk
  go_wp2_with fail
  refine (hct _).mono ?_; rintro e w2 ⟨rfl, hk⟩
  have HK2 : Hid (Kp w1 w2) := hk
  clear hk
  go_wp2_with fail
  refine (allDigits_any A _ (by unfold maxLen; omega)).mono ?_; rintro e w3 ⟨rfl, rfl⟩
  rw [H.out]
  go_wp2_with fail
  refine (allDigits_any B _ (by unfold maxLen; omega)).mono ?_; rintro e w3 ⟨rfl, rfl⟩
  rw [H'.out]
  go_wp2_with fail
  refine (HN.out _ (by rw [HPS.out]; omega) HPA.out).mono ?_; rintro e w3 ⟨rfl, rfl⟩
  rw [HM.out]
  go_wp2_with fail
  refine (numberOf_any A _ (by omega) H.out).mono ?_; rintro e w3 ⟨rfl, rfl⟩
  rw [Ha.out]
  go_wp2_with fail
  refine (nearest_any _ _ _ (by omega) (by omega) (by omega) (by omega) (by omega)).mono ?_; rintro e w3 ⟨rfl, rfl⟩
  rw [HV.out]
  go_wp2_with fail
  by_cases hg : -1099511627776 ≤ -a * 65536 + V ∧ -a * 65536 + V ≤ 1099511627776
  · have HF : Hid _ := fin_yes (-1) (a * 1000000 + M) (by rw [← HX.out]; exact hg.1) (by rw [← HX.out]; exact hg.2)
    refine (igood_yes _ _ hg.1 hg.2).mono ?_; rintro e w3 ⟨rfl, rfl⟩
    clear hg
    go_wp2
    go_ret2
    exact ⟨by rw [HF.out, ← HX.out]; rfl, Kp.trans HK.out HK2.out⟩
  · have HF : Hid _ := fin_no (-1) (a * 1000000 + M) (by rw [← HX.out]; exact hg)
    refine (igood_no _ _ hg).mono ?_; rintro e w3 ⟨rfl, rfl⟩
    clear hg
    go_wp2
    go_ret2
    exact ⟨by rw [HF.out]; rfl, Kp.trans HK.out HK2.out⟩

set_option maxHeartbeats 1000000 in
theorem val_pn (s r A : ByteArray) (w : World) (hsg : SignIs s (1) r) (hct : CutIs r A ⟨#[]⟩ false) (hA : A.size ≤ 8) (h1 : 1 ≤ A.size) (h : allD A.data.toList = true) :
    Calls Tryd.prog 34 #[.string s] w fun e w' => e = .returned (.tuple #[.int .i64 (fin (1) (num A.data.toList * 1000000 + num (ByteArray.mk #[48, 48, 48, 48, 48, 48]).data.toList)).1, .bool (fin (1) (num A.data.toList * 1000000 + num (ByteArray.mk #[48, 48, 48, 48, 48, 48]).data.toList)).2]) ∧ Kp w w' := by
  have nA := num8 A h hA
  have hz : num (ByteArray.mk #[48, 48, 48, 48, 48, 48]).data.toList = 0 := rfl
  obtain ⟨M, hM⟩ : ∃ M, num (ByteArray.mk #[48, 48, 48, 48, 48, 48]).data.toList = M := ⟨_, rfl⟩
  obtain ⟨a, ha⟩ : ∃ a, num A.data.toList = a := ⟨_, rfl⟩
  rw [hM] at hz ⊢
  rw [ha] at nA ⊢
  have HM : Hid _ := hM
  have Ha : Hid _ := ha
  have H : Hid _ := h
  clear h hM ha
  obtain ⟨a1, a2⟩ := nA
  subst hz
  obtain ⟨V, hV⟩ : ∃ V, nearV 0 1000000 = V := ⟨_, rfl⟩
  have v1 : -70000 ≤ V := by rw [← hV, near_mil]; omega
  have v2 : V ≤ 70000 := by rw [← hV, near_mil]; omega
  have HX : Hid (a * 65536 + V = fixOf (1) (a * 1000000 + 0)) := by show _ = _; rw [← hV, near_mil]; unfold fixOf; omega
  have HV : Hid _ := hV
  clear hV
  have d8 : decide (8 < (A.size : Int)) = false := by simp; omega
  have he := empty_no A h1
  go_enter Tryd.func34, Tryd.ntmps34
  go_wp2_with fail
  refine (hsg _).mono ?_; rintro e w1 ⟨rfl, hk⟩
  have HK : Hid (Kp w w1) := hk
  clear hk
  go_wp2_with fail
  refine (hct _).mono ?_; rintro e w2 ⟨rfl, hk⟩
  have HK2 : Hid (Kp w1 w2) := hk
  clear hk
  go_wp2_with fail
  refine (allDigits_any A _ (by unfold maxLen; omega)).mono ?_; rintro e w3 ⟨rfl, rfl⟩
  rw [H.out]
  go_wp2_with fail
  refine (allDigits_any (ByteArray.mk #[]) _ (by unfold maxLen; decide)).mono ?_; rintro e w3 ⟨rfl, rfl⟩
  rw [show allD (ByteArray.mk #[]).data.toList = true from rfl]
  go_wp2_with fail
  refine (numberOf_any (ByteArray.mk #[48, 48, 48, 48, 48, 48]) _ (by decide) (by decide)).mono ?_; rintro e w3 ⟨rfl, rfl⟩
  rw [HM.out]
  go_wp2_with fail
  refine (numberOf_any A _ (by omega) H.out).mono ?_; rintro e w3 ⟨rfl, rfl⟩
  rw [Ha.out]
  go_wp2_with fail
  refine (nearest_any _ _ _ (by omega) (by omega) (by omega) (by omega) (by omega)).mono ?_; rintro e w3 ⟨rfl, rfl⟩
  rw [HV.out]
  go_wp2_with fail
  by_cases hg : -1099511627776 ≤ a * 65536 + V ∧ a * 65536 + V ≤ 1099511627776
  · have HF : Hid _ := fin_yes (1) (a * 1000000 + 0) (by rw [← HX.out]; exact hg.1) (by rw [← HX.out]; exact hg.2)
    refine (igood_yes _ _ hg.1 hg.2).mono ?_; rintro e w3 ⟨rfl, rfl⟩
    clear hg
    go_wp2
    go_ret2
    exact ⟨by rw [HF.out, ← HX.out]; rfl, Kp.trans HK.out HK2.out⟩
  · have HF : Hid _ := fin_no (1) (a * 1000000 + 0) (by rw [← HX.out]; exact hg)
    refine (igood_no _ _ hg).mono ?_; rintro e w3 ⟨rfl, rfl⟩
    clear hg
    go_wp2
    go_ret2
    exact ⟨by rw [HF.out]; rfl, Kp.trans HK.out HK2.out⟩

set_option maxHeartbeats 1000000 in
theorem val_mn (s r A : ByteArray) (w : World) (hsg : SignIs s (-1) r) (hct : CutIs r A ⟨#[]⟩ false) (hA : A.size ≤ 8) (h1 : 1 ≤ A.size) (h : allD A.data.toList = true) :
    Calls Tryd.prog 34 #[.string s] w fun e w' => e = .returned (.tuple #[.int .i64 (fin (-1) (num A.data.toList * 1000000 + num (ByteArray.mk #[48, 48, 48, 48, 48, 48]).data.toList)).1, .bool (fin (-1) (num A.data.toList * 1000000 + num (ByteArray.mk #[48, 48, 48, 48, 48, 48]).data.toList)).2]) ∧ Kp w w' := by
  have nA := num8 A h hA
  have hz : num (ByteArray.mk #[48, 48, 48, 48, 48, 48]).data.toList = 0 := rfl
  obtain ⟨M, hM⟩ : ∃ M, num (ByteArray.mk #[48, 48, 48, 48, 48, 48]).data.toList = M := ⟨_, rfl⟩
  obtain ⟨a, ha⟩ : ∃ a, num A.data.toList = a := ⟨_, rfl⟩
  rw [hM] at hz ⊢
  rw [ha] at nA ⊢
  have HM : Hid _ := hM
  have Ha : Hid _ := ha
  have H : Hid _ := h
  clear h hM ha
  obtain ⟨a1, a2⟩ := nA
  subst hz
  obtain ⟨V, hV⟩ : ∃ V, nearV 0 1000000 = V := ⟨_, rfl⟩
  have v1 : -70000 ≤ V := by rw [← hV, near_mil]; omega
  have v2 : V ≤ 70000 := by rw [← hV, near_mil]; omega
  have HX : Hid (-a * 65536 + V = fixOf (-1) (a * 1000000 + 0)) := by show _ = _; rw [← hV, near_mil]; unfold fixOf; omega
  have HV : Hid _ := hV
  clear hV
  have d8 : decide (8 < (A.size : Int)) = false := by simp; omega
  have he := empty_no A h1
  go_enter Tryd.func34, Tryd.ntmps34
  go_wp2_with fail
  refine (hsg _).mono ?_; rintro e w1 ⟨rfl, hk⟩
  have HK : Hid (Kp w w1) := hk
  clear hk
  go_wp2_with fail
  refine (hct _).mono ?_; rintro e w2 ⟨rfl, hk⟩
  have HK2 : Hid (Kp w1 w2) := hk
  clear hk
  go_wp2_with fail
  refine (allDigits_any A _ (by unfold maxLen; omega)).mono ?_; rintro e w3 ⟨rfl, rfl⟩
  rw [H.out]
  go_wp2_with fail
  refine (allDigits_any (ByteArray.mk #[]) _ (by unfold maxLen; decide)).mono ?_; rintro e w3 ⟨rfl, rfl⟩
  rw [show allD (ByteArray.mk #[]).data.toList = true from rfl]
  go_wp2_with fail
  refine (numberOf_any (ByteArray.mk #[48, 48, 48, 48, 48, 48]) _ (by decide) (by decide)).mono ?_; rintro e w3 ⟨rfl, rfl⟩
  rw [HM.out]
  go_wp2_with fail
  refine (numberOf_any A _ (by omega) H.out).mono ?_; rintro e w3 ⟨rfl, rfl⟩
  rw [Ha.out]
  go_wp2_with fail
  refine (nearest_any _ _ _ (by omega) (by omega) (by omega) (by omega) (by omega)).mono ?_; rintro e w3 ⟨rfl, rfl⟩
  rw [HV.out]
  go_wp2_with fail
  by_cases hg : -1099511627776 ≤ -a * 65536 + V ∧ -a * 65536 + V ≤ 1099511627776
  · have HF : Hid _ := fin_yes (-1) (a * 1000000 + 0) (by rw [← HX.out]; exact hg.1) (by rw [← HX.out]; exact hg.2)
    refine (igood_yes _ _ hg.1 hg.2).mono ?_; rintro e w3 ⟨rfl, rfl⟩
    clear hg
    go_wp2
    go_ret2
    exact ⟨by rw [HF.out, ← HX.out]; rfl, Kp.trans HK.out HK2.out⟩
  · have HF : Hid _ := fin_no (-1) (a * 1000000 + 0) (by rw [← HX.out]; exact hg)
    refine (igood_no _ _ hg).mono ?_; rintro e w3 ⟨rfl, rfl⟩
    clear hg
    go_wp2
    go_ret2
    exact ⟨by rw [HF.out]; rfl, Kp.trans HK.out HK2.out⟩
end Go.Proofs.YtfodmjdhpolnkaaDoor

/-
  The program's ReadLength, and the walk of the law; for texts of at most 1048576 bytes (the law asks for no longer ones).
-/
import Derived.Test.YtfodmjdhpolnkaaDoorRdLen
import Derived.Test.YtfodmjdhpolnkaaDoorRdLenS
namespace Go.Proofs.YtfodmjdhpolnkaaDoor
open Go.ChangeShapes Go.WideShapes Go.ChangeAt Go.RowKit
set_option linter.unusedVariables false

theorem SpU.val {t num : ByteArray} {mul div : Int} (h : SpU t num mul div) : lsV t = lenR (rfS num.data.toList) mul div ∧ num.size ≤ t.size ∧ 1 ≤ mul ∧ mul ≤ 9600 ∧ 1 ≤ div ∧ div ≤ 2540 := by
  rcases h with ⟨k, hk, hs, rfl, rfl, rfl⟩ | ⟨hn, rfl, rfl, rfl⟩
  · have hb : 1 ≤ (unAt k).2.1 ∧ (unAt k).2.1 ≤ 9600 ∧ 1 ≤ (unAt k).2.2 ∧ (unAt k).2.2 ≤ 2540 := by
      rcases (show k = 0 ∨ k = 1 ∨ k = 2 ∨ k = 3 ∨ k = 4 ∨ k = 5 by omega) with rfl | rfl | rfl | rfl | rfl | rfl <;> exact ⟨by decide, by decide, by decide, by decide⟩
    refine ⟨lsV_unit t k hk hs, ?_, hb⟩
    rw [Lib.size_mk, Lib.size_eq]
    unfold Lib.trimSuffix
    rw [if_pos hs, List.length_take]
    omega
  · exact ⟨lsV_none num hn, Nat.le_refl _, by decide, by decide, by decide, by decide⟩
theorem mul_bd (x m : Int) (b1 : -1099511627776 ≤ x) (b2 : x ≤ 1099511627776) (m1 : 1 ≤ m) (m2 : m ≤ 9600) : -4611686018427387904 ≤ x * m ∧ x * m ≤ 4611686018427387904 := by
  have h1 : x * m ≤ 1099511627776 * m := Int.mul_le_mul_of_nonneg_right b2 (by omega)
  have h2 : -1099511627776 * m ≤ x * m := Int.mul_le_mul_of_nonneg_right b1 (by omega)
  omega
set_option maxHeartbeats 2000000 in
theorem ilen (s : ByteArray) (w : World) (hs : s.size ≤ 1048576) : Calls Tryd.prog 10 #[.string s] w fun e w' => e = .returned (.tuple #[.int .i64 (lnV s).1, .bool (lnV s).2]) ∧ Below w.heap.size w w' := by
  have HT : Hid _ := fun w => ivalue s w hs
  obtain ⟨t, ht⟩ : ∃ t, (if 600 < s.size then (⟨#[]⟩ : ByteArray) else TB s) = t := ⟨_, rfl⟩
  have hts : t.size ≤ 1048576 := by
    rw [← ht]
    split
    · decide
    · have := TB_le s; omega
  have HV : Hid (600 < s.size → lnV s = (0, false)) := fun h => by unfold lnV; rw [if_pos h]
  have HV2 : Hid (¬ 600 < s.size → lnV s = lsV t) := fun h => by unfold lnV; rw [if_neg h, ← ht, if_neg h]
  rw [ht] at HT
  clear ht
  have HP : Hid _ := fun w => isplit t w hts
  by_cases hsh : 600 < s.size
  · rw [decide_eq_true hsh] at HT
    have HE : Hid _ := HV.out hsh
    clear HV HV2 hsh
    go_enter Tryd.func10, Tryd.ntmps10
    go_wp2_with fail
    refine (HT.out _).mono ?_; rintro e w1 ⟨rfl, hb1⟩
    have HB1 : Hid _ := hb1
    clear hb1
    go_wp2_with fail
    refine (HP.out _).mono ?_; rintro e w2 ⟨num, nm, mul, div, rfl, hsp, hb2⟩
    obtain ⟨-, hns, m1, m2, d1, d2⟩ := hsp.val
    have HB2 : Hid _ := hb2
    clear hb2 hsp
    have HR : Hid _ := fun w => iread_x num (by omega) w
    obtain ⟨b1, b2⟩ := rfS_bd num.data.toList
    generalize rfS num.data.toList = r at *
    obtain ⟨x, ok⟩ := r
    simp only at b1 b2
    obtain ⟨p1, p2⟩ := mul_bd x mul b1 b2 m1 m2
    go_wp2_with fail
    refine (HR.out _).mono ?_; rintro e w3 ⟨rfl, hk⟩
    have kc := (Kp.cells hk).1
    have c1 : w3.cell? ⟨w2.heap.size, 1, none⟩ = some (.int .i64 mul) := by rw [kc _ _ (by simp), World.cell?_alloc_at _ _ _ _ rfl]; rfl
    have c2 : w3.cell? ⟨w2.heap.size, 2, none⟩ = some (.int .i64 div) := by rw [kc _ _ (by simp), World.cell?_alloc_at _ _ _ _ rfl]; rfl
    have HK : Hid (Kp _ _) := hk
    clear hk kc
    have HM : Hid (∀ w, Calls Tryd.prog 35 #[.int .i64 (x * mul), .int .i64 div] w fun e w' => e = .returned (.int .i64 (x * mul / div)) ∧ w' = w) := fun w => divDown_any (x * mul) div w (by omega) (by omega) p1 p2
    go_wp2_with fail
    refine (HM.out _).mono ?_; rintro e w4 ⟨rfl, rfl⟩
    go_wp2
    go_ret2
    exact ⟨by rw [HE.out]; rfl, Below.trans HB1.out (Below.trans (Below.mono (HB2.out.alloc (Below.size HB2.out) _) (Below.size HB1.out)) (Below.mono HK.out.1 (by have := Below.size HB1.out; have := Below.size HB2.out; simp; omega)))⟩
  · rw [decide_eq_false hsh] at HT
    have HE0 : Hid _ := HV2.out hsh
    clear HV HV2 hsh
    go_enter Tryd.func10, Tryd.ntmps10
    go_wp2_with fail
    refine (HT.out _).mono ?_; rintro e w1 ⟨rfl, hb1⟩
    have HB1 : Hid _ := hb1
    clear hb1
    go_wp2_with fail
    refine (HP.out _).mono ?_; rintro e w2 ⟨num, nm, mul, div, rfl, hsp, hb2⟩
    obtain ⟨hls, hns, m1, m2, d1, d2⟩ := hsp.val
    have HE1 : Hid (lnV s = lenR (rfS num.data.toList) mul div) := HE0.out.trans hls
    have HB2 : Hid _ := hb2
    clear hb2 hsp hls HE0
    have HR : Hid _ := fun w => iread_x num (by omega) w
    obtain ⟨b1, b2⟩ := rfS_bd num.data.toList
    generalize rfS num.data.toList = r at *
    obtain ⟨x, ok⟩ := r
    simp only at b1 b2
    obtain ⟨p1, p2⟩ := mul_bd x mul b1 b2 m1 m2
    go_wp2_with fail
    refine (HR.out _).mono ?_; rintro e w3 ⟨rfl, hk⟩
    have kc := (Kp.cells hk).1
    have c1 : w3.cell? ⟨w2.heap.size, 1, none⟩ = some (.int .i64 mul) := by rw [kc _ _ (by simp), World.cell?_alloc_at _ _ _ _ rfl]; rfl
    have c2 : w3.cell? ⟨w2.heap.size, 2, none⟩ = some (.int .i64 div) := by rw [kc _ _ (by simp), World.cell?_alloc_at _ _ _ _ rfl]; rfl
    have HK : Hid (Kp _ _) := hk
    clear hk kc
    have HM : Hid (∀ w, Calls Tryd.prog 35 #[.int .i64 (x * mul), .int .i64 div] w fun e w' => e = .returned (.int .i64 (x * mul / div)) ∧ w' = w) := fun w => divDown_any (x * mul) div w (by omega) (by omega) p1 p2
    go_wp2_with fail
    refine (HM.out _).mono ?_; rintro e w4 ⟨rfl, rfl⟩
    have HW : Hid (Below w.heap.size w w4) := Below.trans HB1.out (Below.trans (Below.mono (HB2.out.alloc (Below.size HB2.out) _) (Below.size HB1.out)) (Below.mono HK.out.1 (by have := Below.size HB1.out; have := Below.size HB2.out; simp; omega)))
    clear HB1 HB2 HK HM HR HP HT
    cases ok with
    | false =>
      have HE : Hid (lnV s = (0, false)) := HE1.out.trans (lenR_no rfl _ _)
      clear HE1
      go_wp2
      go_ret2
      exact ⟨by rw [HE.out]; rfl, HW.out⟩
    | true =>
      by_cases hg : okFix (x * mul / div) = true
      · have HE : Hid (lnV s = (x * mul / div, true)) := HE1.out.trans (lenR_ok x mul div hg)
        have HG : Hid (∀ w, Calls Tryd.prog 36 #[.int .i64 (x * mul / div)] w fun e w' => e = .returned (.bool true) ∧ w' = w) := fun w => by
          unfold okFix at hg
          simp only [Bool.and_eq_true, decide_eq_true_eq] at hg
          exact igood_yes _ w hg.1 hg.2
        clear hg HE1
        go_wp2_with fail
        refine (HG.out _).mono ?_; rintro e w5 ⟨rfl, rfl⟩
        go_wp2
        go_ret2
        exact ⟨by rw [HE.out]; rfl, HW.out⟩
      · have HE : Hid (lnV s = (0, false)) := HE1.out.trans (lenR_bad x mul div hg)
        have HG : Hid (∀ w, Calls Tryd.prog 36 #[.int .i64 (x * mul / div)] w fun e w' => e = .returned (.bool false) ∧ w' = w) := fun w => by
          unfold okFix at hg
          simp only [Bool.and_eq_true, decide_eq_true_eq] at hg
          exact igood_no _ w hg
        clear hg HE1
        go_wp2_with fail
        refine (HG.out _).mono ?_; rintro e w5 ⟨rfl, rfl⟩
        go_wp2
        go_ret2
        exact ⟨by rw [HE.out]; rfl, HW.out⟩
/-- The walk of the law on ReadLength. -/
theorem walk_len (w : World) (s : ByteArray) (hs : s.size ≤ maxLen) : Calls Tryd.prog 3 #[.string s] w fun e w' => e = .returned (.bool true) ∧ Below w.heap.size w w' := by
  unfold maxLen at hs
  by_cases h : 1048576 < s.size
  · go_enter Tryd.func3, Tryd.ntmps3
    go_wp2
    go_ret
    exact ⟨rfl, Below.refl _ _⟩
  · have HS : Hid _ := fun w => slen s w (by omega)
    have HI : Hid _ := fun w => ilen s w (by omega)
    have hd : decide (1048576 < (s.size : Int)) = false := by simp; omega
    generalize lnV s = r at *
    obtain ⟨x, ok⟩ := r
    go_enter Tryd.func3, Tryd.ntmps3
    go_wp2_with fail
    refine (HS.out _).mono ?_; rintro e w1 ⟨rfl, rfl⟩
    go_wp2_with fail
    refine (HI.out _).mono ?_; rintro e w2 ⟨rfl, hb⟩
    have HB : Hid _ := hb
    clear hb
    go_wp2
    go_ret
    exact ⟨rfl, HB.out⟩
end Go.Proofs.YtfodmjdhpolnkaaDoor

/-
  ReadLength of both, and the walk of its law; for texts of at most 1048576 bytes (the law asks for no longer ones).
-/
import Derived.Test.YtfodmjdhpolnkaaDoorRdLenP
import Derived.Lib.SlicesS
namespace Go.Proofs.YtfodmjdhpolnkaaDoor
open Go.ChangeShapes Go.WideShapes Go.ChangeAt Go.RowKit
set_option linter.unusedVariables false

theorem lenR_ok (r : Int) (m d : Int) (h : okFix (r * m / d) = true) : lenR (r, true) m d = (r * m / d, true) := by unfold lenR; rw [if_pos ⟨rfl, h⟩]
theorem lenR_bad (r : Int) (m d : Int) (h : ¬ okFix (r * m / d) = true) : lenR (r, true) m d = (0, false) := by unfold lenR; rw [if_neg (fun h2 => h h2.2)]
theorem empn (u : ByteArray) (h : u ≠ ⟨#[]⟩) : u.toList.isEmpty = false ∧ ¬ u.toList = [] := by
  have hs : u.size ≠ 0 := fun e => h (ByteArray.ext (Array.eq_empty_of_size_eq_zero e))
  have h1 := empty_no u (by omega)
  exact ⟨h1, fun e => by rw [e] at h1; cases h1⟩
theorem beqn (u : ByteArray) (l : List UInt8) (h : u ≠ ⟨l.toArray⟩) : (u.toList == l) = false := by
  rw [Lib.toList_data, beq_eq_false_iff_ne]
  intro e
  exact h (ba_eq (by rw [e]))
theorem beqy (u : ByteArray) (l : List UInt8) (h : u = ⟨l.toArray⟩) : (u.toList == l) = true := by
  rw [Lib.toList_data, h]
  simp
set_option maxHeartbeats 4000000 in
theorem slen_t (s t u : ByteArray) (w : World) (hs : s.size ≤ 600) (ht : t.size ≤ 600) (k : Nat) (hk : k ≤ t.size) (hk0 : 1 ≤ k) (x : Int) (b1 : -1099511627776 ≤ x) (b2 : x ≤ 1099511627776)
    (HT : Hid (∀ w, Calls Tryd.prog 28 #[.string s] w fun e w' => e = .returned (.string t) ∧ w' = w))
    (HD : Hid (∀ w, Calls Tryd.prog 29 #[.string t] w fun e w' => ∃ n y : Int, e = .returned (.tuple #[.int .i64 n, .int .i64 y]) ∧ w' = w ∧ DV k (x, true) n y))
    (hex : t.extract k t.size = u) (R : Int × Bool) (HR : Hid ((match unO u with | some (m, d) => lenR (x, true) m d | none => (0, false)) = R)) :
    Calls Tryd.prog 9 #[.string s] w fun e w' => e = .returned (.tuple #[.int .i64 R.1, .bool R.2]) ∧ w' = w := by
  have hd : decide (600 < (s.size : Int)) = false := by simp; omega
  have z : ((k : Int) == 0) = false := by rw [beq_eq_false_iff_ne]; omega
  by_cases c0 : u = ⟨#[]⟩
  · have HU : Hid (unO u = some (1, 1)) := by show _ = _; unfold unO; rw [if_pos c0]
    have q0 : u.toList.isEmpty = true := by rw [c0, Lib.toList_data]; rfl
    have q0b : u.toList = [] := by rw [c0, Lib.toList_data]
    clear c0
    go_enter Tryd.func9, Tryd.ntmps9
    go_wp2_with fail
    refine (HT.out _).mono ?_; rintro e w1 ⟨rfl, rfl⟩
    go_wp2_with fail
    refine (HD.out _).mono ?_; rintro e w1 ⟨n, y, rfl, rfl, hv⟩
    obtain ⟨hn, hy⟩ : (k : Int) = n ∧ x = y := by
      rcases hv with ⟨_, h1, h2⟩ | ⟨h1, _⟩
      · exact ⟨h1.symm, h2.symm⟩
      · cases h1
    subst hn hy
    clear hv
    go_wp2_with fail
    refine (sdown_any _ _ _ (by omega) (by omega) (by omega) (by omega)).mono ?_; rintro e w1 ⟨rfl, rfl⟩
    go_wp2_with fail
    by_cases hg : okFix (x * 1 / 1) = true
    · refine (sgood_yes _ _ (by rw [Int.mul_one, Int.ediv_one] at hg; exact hg)).mono ?_; rintro e w1 ⟨rfl, rfl⟩
      have HG : Hid (R = (x * 1 / 1, true)) := by have h := HR.out; rw [HU.out] at h; exact h.symm.trans (lenR_ok x 1 1 hg)
      clear hg
      go_wp2
      go_ret2
      exact ⟨by rw [HG.out]; rw [Int.mul_one, Int.ediv_one]; rfl, rfl⟩
    · refine (sgood_no _ _ (by rw [Int.mul_one, Int.ediv_one] at hg; exact hg)).mono ?_; rintro e w1 ⟨rfl, rfl⟩
      have HG : Hid (R = (0, false)) := by have h := HR.out; rw [HU.out] at h; exact h.symm.trans (lenR_bad x 1 1 hg)
      clear hg
      go_wp2
      go_ret2
      exact ⟨by rw [HG.out]; rfl, rfl⟩
  · skip
    by_cases c1 : u = ⟨#[112, 120]⟩
    · have HU : Hid (unO u = some (1, 1)) := by show _ = _; unfold unO; rw [if_neg c0]; rw [if_pos c1]
      obtain ⟨q0, q0b⟩ := empn u c0
      have q1 := beqy u [112, 120] c1
      clear c0
      clear c1
      go_enter Tryd.func9, Tryd.ntmps9
      go_wp2_with fail
      refine (HT.out _).mono ?_; rintro e w1 ⟨rfl, rfl⟩
      go_wp2_with fail
      refine (HD.out _).mono ?_; rintro e w1 ⟨n, y, rfl, rfl, hv⟩
      obtain ⟨hn, hy⟩ : (k : Int) = n ∧ x = y := by
        rcases hv with ⟨_, h1, h2⟩ | ⟨h1, _⟩
        · exact ⟨h1.symm, h2.symm⟩
        · cases h1
      subst hn hy
      clear hv
      go_wp2_with fail
      refine (sdown_any _ _ _ (by omega) (by omega) (by omega) (by omega)).mono ?_; rintro e w1 ⟨rfl, rfl⟩
      go_wp2_with fail
      by_cases hg : okFix (x * 1 / 1) = true
      · refine (sgood_yes _ _ (by rw [Int.mul_one, Int.ediv_one] at hg; exact hg)).mono ?_; rintro e w1 ⟨rfl, rfl⟩
        have HG : Hid (R = (x * 1 / 1, true)) := by have h := HR.out; rw [HU.out] at h; exact h.symm.trans (lenR_ok x 1 1 hg)
        clear hg
        go_wp2
        go_ret2
        exact ⟨by rw [HG.out]; rw [Int.mul_one, Int.ediv_one]; rfl, rfl⟩
      · refine (sgood_no _ _ (by rw [Int.mul_one, Int.ediv_one] at hg; exact hg)).mono ?_; rintro e w1 ⟨rfl, rfl⟩
        have HG : Hid (R = (0, false)) := by have h := HR.out; rw [HU.out] at h; exact h.symm.trans (lenR_bad x 1 1 hg)
        clear hg
        go_wp2
        go_ret2
        exact ⟨by rw [HG.out]; rfl, rfl⟩
    · skip
      by_cases c2 : u = ⟨#[112, 116]⟩
      · have HU : Hid (unO u = some (400, 300)) := by show _ = _; unfold unO; rw [if_neg c0]; rw [if_neg c1]; rw [if_pos c2]
        obtain ⟨q0, q0b⟩ := empn u c0
        have q1 := beqn u [112, 120] c1
        have q2 := beqy u [112, 116] c2
        clear c0
        clear c1
        clear c2
        go_enter Tryd.func9, Tryd.ntmps9
        go_wp2_with fail
        refine (HT.out _).mono ?_; rintro e w1 ⟨rfl, rfl⟩
        go_wp2_with fail
        refine (HD.out _).mono ?_; rintro e w1 ⟨n, y, rfl, rfl, hv⟩
        obtain ⟨hn, hy⟩ : (k : Int) = n ∧ x = y := by
          rcases hv with ⟨_, h1, h2⟩ | ⟨h1, _⟩
          · exact ⟨h1.symm, h2.symm⟩
          · cases h1
        subst hn hy
        clear hv
        go_wp2_with fail
        refine (sdown_any _ _ _ (by omega) (by omega) (by omega) (by omega)).mono ?_; rintro e w1 ⟨rfl, rfl⟩
        go_wp2_with fail
        by_cases hg : okFix (x * 400 / 300) = true
        · refine (sgood_yes _ _ hg).mono ?_; rintro e w1 ⟨rfl, rfl⟩
          have HG : Hid (R = (x * 400 / 300, true)) := by have h := HR.out; rw [HU.out] at h; exact h.symm.trans (lenR_ok x 400 300 hg)
          clear hg
          go_wp2
          go_ret2
          exact ⟨by rw [HG.out]; rfl, rfl⟩
        · refine (sgood_no _ _ hg).mono ?_; rintro e w1 ⟨rfl, rfl⟩
          have HG : Hid (R = (0, false)) := by have h := HR.out; rw [HU.out] at h; exact h.symm.trans (lenR_bad x 400 300 hg)
          clear hg
          go_wp2
          go_ret2
          exact ⟨by rw [HG.out]; rfl, rfl⟩
      · skip
        by_cases c3 : u = ⟨#[112, 99]⟩
        · have HU : Hid (unO u = some (1600, 100)) := by show _ = _; unfold unO; rw [if_neg c0]; rw [if_neg c1]; rw [if_neg c2]; rw [if_pos c3]
          obtain ⟨q0, q0b⟩ := empn u c0
          have q1 := beqn u [112, 120] c1
          have q2 := beqn u [112, 116] c2
          have q3 := beqy u [112, 99] c3
          clear c0
          clear c1
          clear c2
          clear c3
          go_enter Tryd.func9, Tryd.ntmps9
          go_wp2_with fail
          refine (HT.out _).mono ?_; rintro e w1 ⟨rfl, rfl⟩
          go_wp2_with fail
          refine (HD.out _).mono ?_; rintro e w1 ⟨n, y, rfl, rfl, hv⟩
          obtain ⟨hn, hy⟩ : (k : Int) = n ∧ x = y := by
            rcases hv with ⟨_, h1, h2⟩ | ⟨h1, _⟩
            · exact ⟨h1.symm, h2.symm⟩
            · cases h1
          subst hn hy
          clear hv
          go_wp2_with fail
          refine (sdown_any _ _ _ (by omega) (by omega) (by omega) (by omega)).mono ?_; rintro e w1 ⟨rfl, rfl⟩
          go_wp2_with fail
          by_cases hg : okFix (x * 1600 / 100) = true
          · refine (sgood_yes _ _ hg).mono ?_; rintro e w1 ⟨rfl, rfl⟩
            have HG : Hid (R = (x * 1600 / 100, true)) := by have h := HR.out; rw [HU.out] at h; exact h.symm.trans (lenR_ok x 1600 100 hg)
            clear hg
            go_wp2
            go_ret2
            exact ⟨by rw [HG.out]; rfl, rfl⟩
          · refine (sgood_no _ _ hg).mono ?_; rintro e w1 ⟨rfl, rfl⟩
            have HG : Hid (R = (0, false)) := by have h := HR.out; rw [HU.out] at h; exact h.symm.trans (lenR_bad x 1600 100 hg)
            clear hg
            go_wp2
            go_ret2
            exact ⟨by rw [HG.out]; rfl, rfl⟩
        · skip
          by_cases c4 : u = ⟨#[105, 110]⟩
          · have HU : Hid (unO u = some (9600, 100)) := by show _ = _; unfold unO; rw [if_neg c0]; rw [if_neg c1]; rw [if_neg c2]; rw [if_neg c3]; rw [if_pos c4]
            obtain ⟨q0, q0b⟩ := empn u c0
            have q1 := beqn u [112, 120] c1
            have q2 := beqn u [112, 116] c2
            have q3 := beqn u [112, 99] c3
            have q4 := beqy u [105, 110] c4
            clear c0
            clear c1
            clear c2
            clear c3
            clear c4
            go_enter Tryd.func9, Tryd.ntmps9
            go_wp2_with fail
            refine (HT.out _).mono ?_; rintro e w1 ⟨rfl, rfl⟩
            go_wp2_with fail
            refine (HD.out _).mono ?_; rintro e w1 ⟨n, y, rfl, rfl, hv⟩
            obtain ⟨hn, hy⟩ : (k : Int) = n ∧ x = y := by
              rcases hv with ⟨_, h1, h2⟩ | ⟨h1, _⟩
              · exact ⟨h1.symm, h2.symm⟩
              · cases h1
            subst hn hy
            clear hv
            go_wp2_with fail
            refine (sdown_any _ _ _ (by omega) (by omega) (by omega) (by omega)).mono ?_; rintro e w1 ⟨rfl, rfl⟩
            go_wp2_with fail
            by_cases hg : okFix (x * 9600 / 100) = true
            · refine (sgood_yes _ _ hg).mono ?_; rintro e w1 ⟨rfl, rfl⟩
              have HG : Hid (R = (x * 9600 / 100, true)) := by have h := HR.out; rw [HU.out] at h; exact h.symm.trans (lenR_ok x 9600 100 hg)
              clear hg
              go_wp2
              go_ret2
              exact ⟨by rw [HG.out]; rfl, rfl⟩
            · refine (sgood_no _ _ hg).mono ?_; rintro e w1 ⟨rfl, rfl⟩
              have HG : Hid (R = (0, false)) := by have h := HR.out; rw [HU.out] at h; exact h.symm.trans (lenR_bad x 9600 100 hg)
              clear hg
              go_wp2
              go_ret2
              exact ⟨by rw [HG.out]; rfl, rfl⟩
          · skip
            by_cases c5 : u = ⟨#[99, 109]⟩
            · have HU : Hid (unO u = some (9600, 254)) := by show _ = _; unfold unO; rw [if_neg c0]; rw [if_neg c1]; rw [if_neg c2]; rw [if_neg c3]; rw [if_neg c4]; rw [if_pos c5]
              obtain ⟨q0, q0b⟩ := empn u c0
              have q1 := beqn u [112, 120] c1
              have q2 := beqn u [112, 116] c2
              have q3 := beqn u [112, 99] c3
              have q4 := beqn u [105, 110] c4
              have q5 := beqy u [99, 109] c5
              clear c0
              clear c1
              clear c2
              clear c3
              clear c4
              clear c5
              go_enter Tryd.func9, Tryd.ntmps9
              go_wp2_with fail
              refine (HT.out _).mono ?_; rintro e w1 ⟨rfl, rfl⟩
              go_wp2_with fail
              refine (HD.out _).mono ?_; rintro e w1 ⟨n, y, rfl, rfl, hv⟩
              obtain ⟨hn, hy⟩ : (k : Int) = n ∧ x = y := by
                rcases hv with ⟨_, h1, h2⟩ | ⟨h1, _⟩
                · exact ⟨h1.symm, h2.symm⟩
                · cases h1
              subst hn hy
              clear hv
              go_wp2_with fail
              refine (sdown_any _ _ _ (by omega) (by omega) (by omega) (by omega)).mono ?_; rintro e w1 ⟨rfl, rfl⟩
              go_wp2_with fail
              by_cases hg : okFix (x * 9600 / 254) = true
              · refine (sgood_yes _ _ hg).mono ?_; rintro e w1 ⟨rfl, rfl⟩
                have HG : Hid (R = (x * 9600 / 254, true)) := by have h := HR.out; rw [HU.out] at h; exact h.symm.trans (lenR_ok x 9600 254 hg)
                clear hg
                go_wp2
                go_ret2
                exact ⟨by rw [HG.out]; rfl, rfl⟩
              · refine (sgood_no _ _ hg).mono ?_; rintro e w1 ⟨rfl, rfl⟩
                have HG : Hid (R = (0, false)) := by have h := HR.out; rw [HU.out] at h; exact h.symm.trans (lenR_bad x 9600 254 hg)
                clear hg
                go_wp2
                go_ret2
                exact ⟨by rw [HG.out]; rfl, rfl⟩
            · skip
              by_cases c6 : u = ⟨#[109, 109]⟩
              · have HU : Hid (unO u = some (9600, 2540)) := by show _ = _; unfold unO; rw [if_neg c0]; rw [if_neg c1]; rw [if_neg c2]; rw [if_neg c3]; rw [if_neg c4]; rw [if_neg c5]; rw [if_pos c6]
                obtain ⟨q0, q0b⟩ := empn u c0
                have q1 := beqn u [112, 120] c1
                have q2 := beqn u [112, 116] c2
                have q3 := beqn u [112, 99] c3
                have q4 := beqn u [105, 110] c4
                have q5 := beqn u [99, 109] c5
                have q6 := beqy u [109, 109] c6
                clear c0
                clear c1
                clear c2
                clear c3
                clear c4
                clear c5
                clear c6
                go_enter Tryd.func9, Tryd.ntmps9
                go_wp2_with fail
                refine (HT.out _).mono ?_; rintro e w1 ⟨rfl, rfl⟩
                go_wp2_with fail
                refine (HD.out _).mono ?_; rintro e w1 ⟨n, y, rfl, rfl, hv⟩
                obtain ⟨hn, hy⟩ : (k : Int) = n ∧ x = y := by
                  rcases hv with ⟨_, h1, h2⟩ | ⟨h1, _⟩
                  · exact ⟨h1.symm, h2.symm⟩
                  · cases h1
                subst hn hy
                clear hv
                go_wp2_with fail
                refine (sdown_any _ _ _ (by omega) (by omega) (by omega) (by omega)).mono ?_; rintro e w1 ⟨rfl, rfl⟩
                go_wp2_with fail
                by_cases hg : okFix (x * 9600 / 2540) = true
                · refine (sgood_yes _ _ hg).mono ?_; rintro e w1 ⟨rfl, rfl⟩
                  have HG : Hid (R = (x * 9600 / 2540, true)) := by have h := HR.out; rw [HU.out] at h; exact h.symm.trans (lenR_ok x 9600 2540 hg)
                  clear hg
                  go_wp2
                  go_ret2
                  exact ⟨by rw [HG.out]; rfl, rfl⟩
                · refine (sgood_no _ _ hg).mono ?_; rintro e w1 ⟨rfl, rfl⟩
                  have HG : Hid (R = (0, false)) := by have h := HR.out; rw [HU.out] at h; exact h.symm.trans (lenR_bad x 9600 2540 hg)
                  clear hg
                  go_wp2
                  go_ret2
                  exact ⟨by rw [HG.out]; rfl, rfl⟩
              · have HU : Hid (unO u = none) := by show _ = _; unfold unO; rw [if_neg c0]; rw [if_neg c1]; rw [if_neg c2]; rw [if_neg c3]; rw [if_neg c4]; rw [if_neg c5]; rw [if_neg c6]
                obtain ⟨q0, q0b⟩ := empn u c0
                have q1 := beqn u [112, 120] c1
                have q2 := beqn u [112, 116] c2
                have q3 := beqn u [112, 99] c3
                have q4 := beqn u [105, 110] c4
                have q5 := beqn u [99, 109] c5
                have q6 := beqn u [109, 109] c6
                clear c0
                clear c1
                clear c2
                clear c3
                clear c4
                clear c5
                clear c6
                go_enter Tryd.func9, Tryd.ntmps9
                go_wp2_with fail
                refine (HT.out _).mono ?_; rintro e w1 ⟨rfl, rfl⟩
                go_wp2_with fail
                refine (HD.out _).mono ?_; rintro e w1 ⟨n, y, rfl, rfl, hv⟩
                obtain ⟨hn, hy⟩ : (k : Int) = n ∧ x = y := by
                  rcases hv with ⟨_, h1, h2⟩ | ⟨h1, _⟩
                  · exact ⟨h1.symm, h2.symm⟩
                  · cases h1
                subst hn hy
                clear hv
                have HG : Hid (R = (0, false)) := by have h := HR.out; rw [HU.out] at h; exact h.symm
                go_wp2
                go_ret2
                exact ⟨by rw [HG.out]; rfl, rfl⟩

set_option maxHeartbeats 1000000 in
theorem slen (s : ByteArray) (w : World) (hs : s.size ≤ 1048576) : Calls Tryd.prog 9 #[.string s] w fun e w' => e = .returned (.tuple #[.int .i64 (lnV s).1, .bool (lnV s).2]) ∧ w' = w := by
  by_cases h : 600 < s.size
  · have HE : Hid (lnV s = (0, false)) := by show _ = _; unfold lnV; rw [if_pos h]
    go_enter Tryd.func9, Tryd.ntmps9
    go_wp2
    go_ret2
    exact ⟨by rw [HE.out]; rfl, rfl⟩
  · have hle := TB_le s
    have e1 : lnV s = lsV (TB s) := by unfold lnV; rw [if_neg h]
    rw [e1]
    have HT : Hid _ := fun w => strim s w hs
    have HD : Hid _ := fun w => dec_x (TB s) (by omega) w
    have hk := dk_le (TB s).data.toList
    have hbd := rfS_bd ((TB s).data.toList.take (dk (TB s).data.toList))
    have hsz : (TB s).data.toList.length = (TB s).size := by simp
    have h0 : (rfS ((TB s).data.toList.take 0)).2 = false := by rw [List.take_zero]; decide
    cases hr : (rfS ((TB s).data.toList.take (dk (TB s).data.toList))).2 with
    | true =>
      have hk0 : 1 ≤ dk (TB s).data.toList := by
        rcases Nat.eq_zero_or_pos (dk (TB s).data.toList) with e | e
        · rw [e, h0] at hr; cases hr
        · exact e
      have e2 : rfS ((TB s).data.toList.take (dk (TB s).data.toList)) = ((rfS ((TB s).data.toList.take (dk (TB s).data.toList))).1, true) := Prod.ext rfl hr
      refine slen_t s (TB s) _ w (by omega) (by omega) (dk (TB s).data.toList) (by omega) hk0 _ hbd.1 hbd.2 HT ?_ rfl _ ?_
      · show ∀ w, _
        intro w
        have h := HD.out w
        rw [e2] at h
        exact h
      · show _ = _
        unfold lsV
        rw [← e2]
        rfl
    | false =>
      have HE : Hid (lsV (TB s) = (0, false)) := by
        show _ = _
        unfold lsV
        split
        · exact lenR_no hr _ _
        · rfl
      rw [HE.out]
      have hd : decide (600 < (s.size : Int)) = false := by simp; omega
      have HR : Hid ((rfS ((TB s).data.toList.take (dk (TB s).data.toList))).2 = false) := hr
      clear hr
      generalize rfS ((TB s).data.toList.take (dk (TB s).data.toList)) = r at *
      clear hbd h0 HE e1 hk hsz hle
      generalize TB s = t at *
      go_enter Tryd.func9, Tryd.ntmps9
      go_wp2_with fail
      refine (HT.out _).mono ?_; rintro e w1 ⟨rfl, rfl⟩
      go_wp2_with fail
      refine (HD.out _).mono ?_; rintro e w1 ⟨n, y, rfl, rfl, hv⟩
      obtain rfl : n = 0 := by
        rcases hv with ⟨h1, _⟩ | ⟨_, h1⟩
        · rw [HR.out] at h1; cases h1
        · exact h1
      clear hv
      go_wp2
      go_ret2
      exact ⟨rfl, rfl⟩
end Go.Proofs.YtfodmjdhpolnkaaDoor

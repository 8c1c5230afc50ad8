/-
  What the specification's l1Decimal answers, where the text is digits alone, with a minus ahead,, for texts of at most 1048576 bytes.
  What the specification's l1Decimal answers, where the text is digits alone, with a plus ahead,, for texts of at most 1048576 bytes.
  What the specification's l1Decimal answers, where the text is digits alone, without a sign,, for texts of at most 1048576 bytes.
  What the specification's l1Decimal answers, where the text goes on behind its first digits with what is no point and digits, with a minus ahead,, for texts of at most 1048576 bytes.
-/
import Derived.Test.YtpfhnedklihdoaaGreatDoorJAE
namespace Go.Proofs.YtpfhnedklihdoaaGreatDoor
open Go.ChangeShapes Go.WideShapes Go.ChangeAt Go.RowKit

set_option maxHeartbeats 4000000 in
theorem dec_ma (s : ByteArray) (i : Nat) (w : World) (hs : s.size ≤ 1048576) (h0 : 0 < s.size) (hc : (s[0].toNat : Int) = 45) (i1 : i + 1 ≤ s.size) (i2 : s.size ≤ i + 1) (hd : Digs s 1 s.size) :
    Calls Tryz.prog 40 #[.string s] w fun e w' => ∃ n x : Int, e = .returned (.tuple #[.int .i64 n, .int .i64 x]) ∧ w' = w ∧ PA s 1 (-1) i n x := by
  have HD : Hid _ := hd
  clear hd
  have g1 : ((s[0].toNat : Int) == 45) = true := by rw [beq_iff_eq]; exact hc
  clear hc
  go_enter Tryz.func40, Tryz.ntmps40
  go_wp2
  go_loop [4, 6, 7] (fun at_ n ah => ∃ k i : Nat, i + 1 ≤ k ∧ k ≤ i + 1 ∧ k ≤ s.size ∧ at_ = .int .i64 (k : Int) ∧ ah = .int .i64 (i : Int) ∧ n = .int .i64 (nk s 1 9 k)) (fun at_ _ _ => s.size - (intOf at_).toNat)
  case atStart => exact ⟨1, 0, by omega, by omega, by omega, rfl, rfl, by rw [nk_start]⟩
  case round =>
    obtain ⟨k, ii, k1, k2, k3, rfl, rfl, rfl⟩ := hrel
    by_cases hlt : k < s.size
    · obtain ⟨x1, x2⟩ := (isD_iff _).1 (HD.out k (by omega) (by omega) hlt)
      obtain ⟨b1, b2⟩ := nk9 s 1 k s.size HD.out k3
      by_cases h9 : ii < 9
      · have HS : Hid _ := nk_more s 1 9 k (by omega) (by omega) (by omega)
        obtain ⟨m, hm⟩ : ∃ m, nk s 1 9 k = m := ⟨_, rfl⟩
        have HM : Hid _ := hm
        rw [hm] at b1 b2 ⊢
        clear hm
        go_wp2_with (go_at_call 67; refine (digit_yes _ _ (by omega) (by omega)).mono ?_; rintro e w' ⟨rfl, rfl⟩)
        go_round
        case rel => exact ⟨k + 1, ii + 1, by omega, by omega, by omega, by go_num, by go_num, int_eq (by rw [HS.out, HM.out]; omega)⟩
        case measure => simp [intOf]; omega
      · have HS : Hid _ := nk_same s 1 9 k (by omega)
        obtain ⟨m, hm⟩ : ∃ m, nk s 1 9 k = m := ⟨_, rfl⟩
        have HM : Hid _ := hm
        rw [hm] at b1 b2 ⊢
        clear hm
        go_wp2_with (go_at_call 67; refine (digit_yes _ _ (by omega) (by omega)).mono ?_; rintro e w' ⟨rfl, rfl⟩)
        go_round
        case rel => exact ⟨k + 1, ii + 1, by omega, by omega, by omega, by go_num, by go_num, int_eq (by rw [HS.out, HM.out])⟩
        case measure => simp [intOf]; omega
    · have hii : i = ii := by omega
      subst hii
      have hke : s.size = k := by omega
      subst hke
      have HTB : Hid _ := fun (h8 : i ≤ 8) => T_one (nk s 1 9 s.size) (nk8 s 1 s.size s.size i HD.out (Nat.le_refl _) (by omega) h8).1 (nk8 s 1 s.size s.size i HD.out (Nat.le_refl _) (by omega) h8).2
      obtain ⟨m1, m2⟩ := nk9 s 1 s.size s.size HD.out (Nat.le_refl _)
      obtain ⟨m, hm⟩ : ∃ m, nk s 1 9 s.size = m := ⟨_, rfl⟩
      have HM : Hid _ := hm
      rw [hm] at m1 m2 HTB ⊢
      clear hm
      by_cases hV : 1 ≤ i ∧ i ≤ 8
      · obtain ⟨T1, T2⟩ := HTB.out hV.2
        obtain ⟨T, hT⟩ : ∃ T : Int, m * p6 0 = T := ⟨_, rfl⟩
        rw [hT] at T1 T2
        have HT0 : Hid (m * p6 0 = T) := hT
        have HT : Hid (nk s 1 9 s.size * p6 0 = T) := by have h := hT; rw [← HM.out] at h; exact h
        clear hT
        have z : ((i : Int) == 0) = false := by rw [beq_eq_false_iff_ne]; omega
        have d8 : decide (8 < (i : Int)) = false := by simp; omega
        go_wp2
        go_loop [6, 9] (fun n k => ∃ (q : Nat) (t : Int), q ≤ 6 ∧ 0 ≤ q ∧ k = .int .i64 (q : Int) ∧ n = .int .i64 t ∧ 0 ≤ t ∧ t * p6 q = T) (fun _ k => 6 - (intOf k).toNat)
        case atStart => exact ⟨0, m, by omega, Nat.le_refl _, rfl, rfl, m1, HT0.out⟩
        case round =>
          obtain ⟨q, t, q6, qj, rfl, rfl, t0, tT⟩ := hrel
          have TT : Hid _ := tT
          clear tT
          by_cases hq : q < 6
          · have t1 : t < 100000000000000 := by have h1 := le_mul_of t (p6 q) t0 (p6_pos q); rw [TT.out] at h1; omega
            go_wp2
            go_round
            case rel => exact ⟨q + 1, t * 10, by omega, by omega, by go_num, rfl, by omega, by have h1 := TT.out; rw [p6_step q hq] at h1; rw [← h1, Int.mul_assoc]⟩
            case measure => simp [intOf]; omega
          · obtain rfl : q = 6 := by omega
            obtain rfl : t = T := by have h1 := TT.out; rw [p6_six] at h1; omega
            clear TT hq
            have HX : Hid ((-t * 65536 + 500000) / 1000000 = fixOf (-1) t) := by show _ = _; unfold fixOf; rw [show (-1) * t = -t by omega]
            go_wp2_with fail
            refine (sdown_big _ _ _ (by omega) (by omega) (by omega) (by omega)).mono ?_; rintro e w' ⟨rfl, rfl⟩
            rw [HX.out]
            go_wp2_with fail
            by_cases hg : okFix (fixOf (-1) t) = true
            · refine (sgood_yes _ _ hg).mono ?_; rintro e w' ⟨rfl, rfl⟩
              have HG : Hid _ := hg
              clear hg
              go_wp2
              go_ret2
              exact ⟨s.size, fixOf (-1) t, rfl, rfl, Or.inr ⟨hV, by rw [HT.out]; exact HG.out, rfl, by rw [HT.out]⟩⟩
            · refine (sgood_no _ _ hg).mono ?_; rintro e w' ⟨rfl, rfl⟩
              have HG : Hid _ := hg
              clear hg
              go_wp2
              go_ret2
              exact ⟨0, 0, rfl, rfl, Or.inl ⟨rfl, fun _ => by rw [HT.out]; simpa using HG.out⟩⟩
      · have HV : Hid _ := hV
        by_cases h0 : i = 0
        · subst h0
          clear hV
          go_wp2
          go_ret2
          exact ⟨0, 0, rfl, rfl, Or.inl ⟨rfl, fun hv => absurd hv HV.out⟩⟩
        · have z : ((i : Int) == 0) = false := by rw [beq_eq_false_iff_ne]; omega
          by_cases h8 : 8 < i
          · have d8 : decide (8 < (i : Int)) = true := by simp; omega
            clear hV
            go_wp2
            go_ret2
            exact ⟨0, 0, rfl, rfl, Or.inl ⟨rfl, fun hv => absurd hv HV.out⟩⟩
          · exact absurd (by omega) HV.out
end Go.Proofs.YtpfhnedklihdoaaGreatDoor
namespace Go.Proofs.YtpfhnedklihdoaaGreatDoor
open Go.ChangeShapes Go.WideShapes Go.ChangeAt Go.RowKit

set_option maxHeartbeats 4000000 in
theorem dec_pa (s : ByteArray) (i : Nat) (w : World) (hs : s.size ≤ 1048576) (h0 : 0 < s.size) (hc : (s[0].toNat : Int) = 43) (i1 : i + 1 ≤ s.size) (i2 : s.size ≤ i + 1) (hd : Digs s 1 s.size) :
    Calls Tryz.prog 40 #[.string s] w fun e w' => ∃ n x : Int, e = .returned (.tuple #[.int .i64 n, .int .i64 x]) ∧ w' = w ∧ PA s 1 (1) i n x := by
  have HD : Hid _ := hd
  clear hd
  have g1 : ((s[0].toNat : Int) == 45) = false := by rw [beq_eq_false_iff_ne]; omega
  have g2 : ((s[0].toNat : Int) == 43) = true := by rw [beq_iff_eq]; exact hc
  clear hc
  go_enter Tryz.func40, Tryz.ntmps40
  go_wp2
  go_loop [4, 6, 7] (fun at_ n ah => ∃ k i : Nat, i + 1 ≤ k ∧ k ≤ i + 1 ∧ k ≤ s.size ∧ at_ = .int .i64 (k : Int) ∧ ah = .int .i64 (i : Int) ∧ n = .int .i64 (nk s 1 9 k)) (fun at_ _ _ => s.size - (intOf at_).toNat)
  case atStart => exact ⟨1, 0, by omega, by omega, by omega, rfl, rfl, by rw [nk_start]⟩
  case round =>
    obtain ⟨k, ii, k1, k2, k3, rfl, rfl, rfl⟩ := hrel
    by_cases hlt : k < s.size
    · obtain ⟨x1, x2⟩ := (isD_iff _).1 (HD.out k (by omega) (by omega) hlt)
      obtain ⟨b1, b2⟩ := nk9 s 1 k s.size HD.out k3
      by_cases h9 : ii < 9
      · have HS : Hid _ := nk_more s 1 9 k (by omega) (by omega) (by omega)
        obtain ⟨m, hm⟩ : ∃ m, nk s 1 9 k = m := ⟨_, rfl⟩
        have HM : Hid _ := hm
        rw [hm] at b1 b2 ⊢
        clear hm
        go_wp2_with (go_at_call 67; refine (digit_yes _ _ (by omega) (by omega)).mono ?_; rintro e w' ⟨rfl, rfl⟩)
        go_round
        case rel => exact ⟨k + 1, ii + 1, by omega, by omega, by omega, by go_num, by go_num, int_eq (by rw [HS.out, HM.out]; omega)⟩
        case measure => simp [intOf]; omega
      · have HS : Hid _ := nk_same s 1 9 k (by omega)
        obtain ⟨m, hm⟩ : ∃ m, nk s 1 9 k = m := ⟨_, rfl⟩
        have HM : Hid _ := hm
        rw [hm] at b1 b2 ⊢
        clear hm
        go_wp2_with (go_at_call 67; refine (digit_yes _ _ (by omega) (by omega)).mono ?_; rintro e w' ⟨rfl, rfl⟩)
        go_round
        case rel => exact ⟨k + 1, ii + 1, by omega, by omega, by omega, by go_num, by go_num, int_eq (by rw [HS.out, HM.out])⟩
        case measure => simp [intOf]; omega
    · have hii : i = ii := by omega
      subst hii
      have hke : s.size = k := by omega
      subst hke
      have HTB : Hid _ := fun (h8 : i ≤ 8) => T_one (nk s 1 9 s.size) (nk8 s 1 s.size s.size i HD.out (Nat.le_refl _) (by omega) h8).1 (nk8 s 1 s.size s.size i HD.out (Nat.le_refl _) (by omega) h8).2
      obtain ⟨m1, m2⟩ := nk9 s 1 s.size s.size HD.out (Nat.le_refl _)
      obtain ⟨m, hm⟩ : ∃ m, nk s 1 9 s.size = m := ⟨_, rfl⟩
      have HM : Hid _ := hm
      rw [hm] at m1 m2 HTB ⊢
      clear hm
      by_cases hV : 1 ≤ i ∧ i ≤ 8
      · obtain ⟨T1, T2⟩ := HTB.out hV.2
        obtain ⟨T, hT⟩ : ∃ T : Int, m * p6 0 = T := ⟨_, rfl⟩
        rw [hT] at T1 T2
        have HT0 : Hid (m * p6 0 = T) := hT
        have HT : Hid (nk s 1 9 s.size * p6 0 = T) := by have h := hT; rw [← HM.out] at h; exact h
        clear hT
        have z : ((i : Int) == 0) = false := by rw [beq_eq_false_iff_ne]; omega
        have d8 : decide (8 < (i : Int)) = false := by simp; omega
        go_wp2
        go_loop [6, 9] (fun n k => ∃ (q : Nat) (t : Int), q ≤ 6 ∧ 0 ≤ q ∧ k = .int .i64 (q : Int) ∧ n = .int .i64 t ∧ 0 ≤ t ∧ t * p6 q = T) (fun _ k => 6 - (intOf k).toNat)
        case atStart => exact ⟨0, m, by omega, Nat.le_refl _, rfl, rfl, m1, HT0.out⟩
        case round =>
          obtain ⟨q, t, q6, qj, rfl, rfl, t0, tT⟩ := hrel
          have TT : Hid _ := tT
          clear tT
          by_cases hq : q < 6
          · have t1 : t < 100000000000000 := by have h1 := le_mul_of t (p6 q) t0 (p6_pos q); rw [TT.out] at h1; omega
            go_wp2
            go_round
            case rel => exact ⟨q + 1, t * 10, by omega, by omega, by go_num, rfl, by omega, by have h1 := TT.out; rw [p6_step q hq] at h1; rw [← h1, Int.mul_assoc]⟩
            case measure => simp [intOf]; omega
          · obtain rfl : q = 6 := by omega
            obtain rfl : t = T := by have h1 := TT.out; rw [p6_six] at h1; omega
            clear TT hq
            have HX : Hid ((t * 65536 + 500000) / 1000000 = fixOf (1) t) := by show _ = _; unfold fixOf; rw [show (1) * t = t by omega]
            go_wp2_with fail
            refine (sdown_big _ _ _ (by omega) (by omega) (by omega) (by omega)).mono ?_; rintro e w' ⟨rfl, rfl⟩
            rw [HX.out]
            go_wp2_with fail
            by_cases hg : okFix (fixOf (1) t) = true
            · refine (sgood_yes _ _ hg).mono ?_; rintro e w' ⟨rfl, rfl⟩
              have HG : Hid _ := hg
              clear hg
              go_wp2
              go_ret2
              exact ⟨s.size, fixOf (1) t, rfl, rfl, Or.inr ⟨hV, by rw [HT.out]; exact HG.out, rfl, by rw [HT.out]⟩⟩
            · refine (sgood_no _ _ hg).mono ?_; rintro e w' ⟨rfl, rfl⟩
              have HG : Hid _ := hg
              clear hg
              go_wp2
              go_ret2
              exact ⟨0, 0, rfl, rfl, Or.inl ⟨rfl, fun _ => by rw [HT.out]; simpa using HG.out⟩⟩
      · have HV : Hid _ := hV
        by_cases h0 : i = 0
        · subst h0
          clear hV
          go_wp2
          go_ret2
          exact ⟨0, 0, rfl, rfl, Or.inl ⟨rfl, fun hv => absurd hv HV.out⟩⟩
        · have z : ((i : Int) == 0) = false := by rw [beq_eq_false_iff_ne]; omega
          by_cases h8 : 8 < i
          · have d8 : decide (8 < (i : Int)) = true := by simp; omega
            clear hV
            go_wp2
            go_ret2
            exact ⟨0, 0, rfl, rfl, Or.inl ⟨rfl, fun hv => absurd hv HV.out⟩⟩
          · exact absurd (by omega) HV.out
end Go.Proofs.YtpfhnedklihdoaaGreatDoor
namespace Go.Proofs.YtpfhnedklihdoaaGreatDoor
open Go.ChangeShapes Go.WideShapes Go.ChangeAt Go.RowKit

set_option maxHeartbeats 4000000 in
theorem dec_na (s : ByteArray) (i : Nat) (w : World) (hs : s.size ≤ 1048576) (hc : ∀ h : 0 < s.size, (s[0].toNat : Int) ≠ 45 ∧ (s[0].toNat : Int) ≠ 43) (i1 : i + 0 ≤ s.size) (i2 : s.size ≤ i + 0) (hd : Digs s 0 s.size) :
    Calls Tryz.prog 40 #[.string s] w fun e w' => ∃ n x : Int, e = .returned (.tuple #[.int .i64 n, .int .i64 x]) ∧ w' = w ∧ PA s 0 (1) i n x := by
  have HD : Hid _ := hd
  clear hd
  by_cases h0 : 0 < s.size
  · have g1 : ((s[0].toNat : Int) == 45) = false := by rw [beq_eq_false_iff_ne]; exact (hc h0).1
    have g2 : ((s[0].toNat : Int) == 43) = false := by rw [beq_eq_false_iff_ne]; exact (hc h0).2
    clear hc
    go_enter Tryz.func40, Tryz.ntmps40
    go_wp2
    go_loop [4, 6, 7] (fun at_ n ah => ∃ k i : Nat, i + 0 ≤ k ∧ k ≤ i + 0 ∧ k ≤ s.size ∧ at_ = .int .i64 (k : Int) ∧ ah = .int .i64 (i : Int) ∧ n = .int .i64 (nk s 0 9 k)) (fun at_ _ _ => s.size - (intOf at_).toNat)
    case atStart => exact ⟨0, 0, by omega, by omega, by omega, rfl, rfl, by rw [nk_start]⟩
    case round =>
      obtain ⟨k, ii, k1, k2, k3, rfl, rfl, rfl⟩ := hrel
      by_cases hlt : k < s.size
      · obtain ⟨x1, x2⟩ := (isD_iff _).1 (HD.out k (by omega) (by omega) hlt)
        obtain ⟨b1, b2⟩ := nk9 s 0 k s.size HD.out k3
        by_cases h9 : ii < 9
        · have HS : Hid _ := nk_more s 0 9 k (by omega) (by omega) (by omega)
          obtain ⟨m, hm⟩ : ∃ m, nk s 0 9 k = m := ⟨_, rfl⟩
          have HM : Hid _ := hm
          rw [hm] at b1 b2 ⊢
          clear hm
          go_wp2_with (go_at_call 67; refine (digit_yes _ _ (by omega) (by omega)).mono ?_; rintro e w' ⟨rfl, rfl⟩)
          go_round
          case rel => exact ⟨k + 1, ii + 1, by omega, by omega, by omega, by go_num, by go_num, int_eq (by rw [HS.out, HM.out]; omega)⟩
          case measure => simp [intOf]; omega
        · have HS : Hid _ := nk_same s 0 9 k (by omega)
          obtain ⟨m, hm⟩ : ∃ m, nk s 0 9 k = m := ⟨_, rfl⟩
          have HM : Hid _ := hm
          rw [hm] at b1 b2 ⊢
          clear hm
          go_wp2_with (go_at_call 67; refine (digit_yes _ _ (by omega) (by omega)).mono ?_; rintro e w' ⟨rfl, rfl⟩)
          go_round
          case rel => exact ⟨k + 1, ii + 1, by omega, by omega, by omega, by go_num, by go_num, int_eq (by rw [HS.out, HM.out])⟩
          case measure => simp [intOf]; omega
      · have hii : i = ii := by omega
        subst hii
        have hke : s.size = k := by omega
        subst hke
        have HTB : Hid _ := fun (h8 : i ≤ 8) => T_one (nk s 0 9 s.size) (nk8 s 0 s.size s.size i HD.out (Nat.le_refl _) (by omega) h8).1 (nk8 s 0 s.size s.size i HD.out (Nat.le_refl _) (by omega) h8).2
        obtain ⟨m1, m2⟩ := nk9 s 0 s.size s.size HD.out (Nat.le_refl _)
        obtain ⟨m, hm⟩ : ∃ m, nk s 0 9 s.size = m := ⟨_, rfl⟩
        have HM : Hid _ := hm
        rw [hm] at m1 m2 HTB ⊢
        clear hm
        by_cases hV : 1 ≤ i ∧ i ≤ 8
        · obtain ⟨T1, T2⟩ := HTB.out hV.2
          obtain ⟨T, hT⟩ : ∃ T : Int, m * p6 0 = T := ⟨_, rfl⟩
          rw [hT] at T1 T2
          have HT0 : Hid (m * p6 0 = T) := hT
          have HT : Hid (nk s 0 9 s.size * p6 0 = T) := by have h := hT; rw [← HM.out] at h; exact h
          clear hT
          have z : ((i : Int) == 0) = false := by rw [beq_eq_false_iff_ne]; omega
          have d8 : decide (8 < (i : Int)) = false := by simp; omega
          go_wp2
          go_loop [6, 9] (fun n k => ∃ (q : Nat) (t : Int), q ≤ 6 ∧ 0 ≤ q ∧ k = .int .i64 (q : Int) ∧ n = .int .i64 t ∧ 0 ≤ t ∧ t * p6 q = T) (fun _ k => 6 - (intOf k).toNat)
          case atStart => exact ⟨0, m, by omega, Nat.le_refl _, rfl, rfl, m1, HT0.out⟩
          case round =>
            obtain ⟨q, t, q6, qj, rfl, rfl, t0, tT⟩ := hrel
            have TT : Hid _ := tT
            clear tT
            by_cases hq : q < 6
            · have t1 : t < 100000000000000 := by have h1 := le_mul_of t (p6 q) t0 (p6_pos q); rw [TT.out] at h1; omega
              go_wp2
              go_round
              case rel => exact ⟨q + 1, t * 10, by omega, by omega, by go_num, rfl, by omega, by have h1 := TT.out; rw [p6_step q hq] at h1; rw [← h1, Int.mul_assoc]⟩
              case measure => simp [intOf]; omega
            · obtain rfl : q = 6 := by omega
              obtain rfl : t = T := by have h1 := TT.out; rw [p6_six] at h1; omega
              clear TT hq
              have HX : Hid ((t * 65536 + 500000) / 1000000 = fixOf (1) t) := by show _ = _; unfold fixOf; rw [show (1) * t = t by omega]
              go_wp2_with fail
              refine (sdown_big _ _ _ (by omega) (by omega) (by omega) (by omega)).mono ?_; rintro e w' ⟨rfl, rfl⟩
              rw [HX.out]
              go_wp2_with fail
              by_cases hg : okFix (fixOf (1) t) = true
              · refine (sgood_yes _ _ hg).mono ?_; rintro e w' ⟨rfl, rfl⟩
                have HG : Hid _ := hg
                clear hg
                go_wp2
                go_ret2
                exact ⟨s.size, fixOf (1) t, rfl, rfl, Or.inr ⟨hV, by rw [HT.out]; exact HG.out, rfl, by rw [HT.out]⟩⟩
              · refine (sgood_no _ _ hg).mono ?_; rintro e w' ⟨rfl, rfl⟩
                have HG : Hid _ := hg
                clear hg
                go_wp2
                go_ret2
                exact ⟨0, 0, rfl, rfl, Or.inl ⟨rfl, fun _ => by rw [HT.out]; simpa using HG.out⟩⟩
        · have HV : Hid _ := hV
          by_cases h0 : i = 0
          · exact absurd h0 (by omega)
          · have z : ((i : Int) == 0) = false := by rw [beq_eq_false_iff_ne]; omega
            by_cases h8 : 8 < i
            · have d8 : decide (8 < (i : Int)) = true := by simp; omega
              clear hV
              go_wp2
              go_ret2
              exact ⟨0, 0, rfl, rfl, Or.inl ⟨rfl, fun hv => absurd hv HV.out⟩⟩
            · exact absurd (by omega) HV.out
  · clear hc
    go_enter Tryz.func40, Tryz.ntmps40
    go_wp2
    go_loop [4, 6, 7] (fun at_ n ah => ∃ k i : Nat, i + 0 ≤ k ∧ k ≤ i + 0 ∧ k ≤ s.size ∧ at_ = .int .i64 (k : Int) ∧ ah = .int .i64 (i : Int) ∧ n = .int .i64 (nk s 0 9 k)) (fun at_ _ _ => s.size - (intOf at_).toNat)
    case atStart => exact ⟨0, 0, by omega, by omega, by omega, rfl, rfl, by rw [nk_start]⟩
    case round =>
      obtain ⟨k, ii, k1, k2, k3, rfl, rfl, rfl⟩ := hrel
      by_cases hlt : k < s.size
      · exact absurd hlt (by omega)
      · have hii : i = ii := by omega
        subst hii
        have hke : s.size = k := by omega
        subst hke
        obtain ⟨m1, m2⟩ := nk9 s 0 s.size s.size HD.out (Nat.le_refl _)
        obtain ⟨m, hm⟩ : ∃ m, nk s 0 9 s.size = m := ⟨_, rfl⟩
        have HM : Hid _ := hm
        rw [hm] at m1 m2 ⊢
        clear hm
        by_cases hV : 1 ≤ i ∧ i ≤ 8
        · exact absurd hV (by omega)
        · have HV : Hid _ := hV
          by_cases h0 : i = 0
          · subst h0
            clear hV
            go_wp2
            go_ret2
            exact ⟨0, 0, rfl, rfl, Or.inl ⟨rfl, fun hv => absurd hv HV.out⟩⟩
          · exact absurd h0 (by omega)
end Go.Proofs.YtpfhnedklihdoaaGreatDoor
namespace Go.Proofs.YtpfhnedklihdoaaGreatDoor
open Go.ChangeShapes Go.WideShapes Go.ChangeAt Go.RowKit

set_option maxHeartbeats 4000000 in
theorem dec_mb (s : ByteArray) (e1 i : Nat) (w : World) (hs : s.size ≤ 1048576) (h0 : 0 < s.size) (hc : (s[0].toNat : Int) = 45) (i1 : i + 1 ≤ e1) (i2 : e1 ≤ i + 1) (he : e1 < s.size) (hn : isD s[e1] = false) (hd : Digs s 1 e1) (hx : ∀ h : e1 + 1 < s.size, (s[e1].toNat : Int) = 46 → isD s[e1 + 1] = false) :
    Calls Tryz.prog 40 #[.string s] w fun e w' => ∃ n x : Int, e = .returned (.tuple #[.int .i64 n, .int .i64 x]) ∧ w' = w ∧ PE s 1 (-1) e1 i n x := by
  have HD : Hid _ := hd
  clear hd
  have N1 : Hid _ := notD _ hn
  clear hn
  have HXX : Hid _ := hx
  clear hx
  have g1 : ((s[0].toNat : Int) == 45) = true := by rw [beq_iff_eq]; exact hc
  clear hc
  go_enter Tryz.func40, Tryz.ntmps40
  go_wp2
  go_loop [4, 6, 7] (fun at_ n ah => ∃ k i : Nat, i + 1 ≤ k ∧ k ≤ i + 1 ∧ k ≤ e1 ∧ at_ = .int .i64 (k : Int) ∧ ah = .int .i64 (i : Int) ∧ n = .int .i64 (nk s 1 9 k)) (fun at_ _ _ => s.size - (intOf at_).toNat)
  case atStart => exact ⟨1, 0, by omega, by omega, by omega, rfl, rfl, by rw [nk_start]⟩
  case round =>
    obtain ⟨k, ii, k1, k2, k3, rfl, rfl, rfl⟩ := hrel
    by_cases hlt : k < e1
    · obtain ⟨x1, x2⟩ := (isD_iff _).1 (HD.out k (by omega) (by omega) hlt)
      obtain ⟨b1, b2⟩ := nk9 s 1 k e1 HD.out k3
      by_cases h9 : ii < 9
      · have HS : Hid _ := nk_more s 1 9 k (by omega) (by omega) (by omega)
        obtain ⟨m, hm⟩ : ∃ m, nk s 1 9 k = m := ⟨_, rfl⟩
        have HM : Hid _ := hm
        rw [hm] at b1 b2 ⊢
        clear hm
        go_wp2_with (go_at_call 67; refine (digit_yes _ _ (by omega) (by omega)).mono ?_; rintro e w' ⟨rfl, rfl⟩)
        go_round
        case rel => exact ⟨k + 1, ii + 1, by omega, by omega, by omega, by go_num, by go_num, int_eq (by rw [HS.out, HM.out]; omega)⟩
        case measure => simp [intOf]; omega
      · have HS : Hid _ := nk_same s 1 9 k (by omega)
        obtain ⟨m, hm⟩ : ∃ m, nk s 1 9 k = m := ⟨_, rfl⟩
        have HM : Hid _ := hm
        rw [hm] at b1 b2 ⊢
        clear hm
        go_wp2_with (go_at_call 67; refine (digit_yes _ _ (by omega) (by omega)).mono ?_; rintro e w' ⟨rfl, rfl⟩)
        go_round
        case rel => exact ⟨k + 1, ii + 1, by omega, by omega, by omega, by go_num, by go_num, int_eq (by rw [HS.out, HM.out])⟩
        case measure => simp [intOf]; omega
    · have hii : i = ii := by omega
      subst hii
      have hke : e1 = k := by omega
      subst hke
      have HTB : Hid _ := fun (h8 : i ≤ 8) => T_one (nk s 1 9 e1) (nk8 s 1 e1 e1 i HD.out (Nat.le_refl _) (by omega) h8).1 (nk8 s 1 e1 e1 i HD.out (Nat.le_refl _) (by omega) h8).2
      obtain ⟨m1, m2⟩ := nk9 s 1 e1 e1 HD.out (Nat.le_refl _)
      obtain ⟨m, hm⟩ : ∃ m, nk s 1 9 e1 = m := ⟨_, rfl⟩
      have HM : Hid _ := hm
      rw [hm] at m1 m2 HTB ⊢
      clear hm
      by_cases c1 : e1 + 1 < s.size
      · by_cases c2 : (s[e1].toNat : Int) = 46
        · have N3 : Hid _ := notD _ (HXX.out c1 c2)
          have g3 : ((s[e1].toNat : Int) == 46) = true := by rw [beq_iff_eq]; exact c2
          clear c2
          by_cases hV : 1 ≤ i ∧ i ≤ 8
          · obtain ⟨T1, T2⟩ := HTB.out hV.2
            obtain ⟨T, hT⟩ : ∃ T : Int, m * p6 0 = T := ⟨_, rfl⟩
            rw [hT] at T1 T2
            have HT0 : Hid (m * p6 0 = T) := hT
            have HT : Hid (nk s 1 9 e1 * p6 0 = T) := by have h := hT; rw [← HM.out] at h; exact h
            clear hT
            have z : ((i : Int) == 0) = false := by rw [beq_eq_false_iff_ne]; omega
            have d8 : decide (8 < (i : Int)) = false := by simp; omega
            go_wp2_with fail
            refine (digit_no _ _ N1.out).mono ?_; rintro e w' ⟨rfl, rfl⟩
            go_wp2_with fail
            refine (digit_no _ _ N3.out).mono ?_; rintro e w' ⟨rfl, rfl⟩
            go_wp2
            go_loop [6, 9] (fun n k => ∃ (q : Nat) (t : Int), q ≤ 6 ∧ 0 ≤ q ∧ k = .int .i64 (q : Int) ∧ n = .int .i64 t ∧ 0 ≤ t ∧ t * p6 q = T) (fun _ k => 6 - (intOf k).toNat)
            case atStart => exact ⟨0, m, by omega, Nat.le_refl _, rfl, rfl, m1, HT0.out⟩
            case round =>
              obtain ⟨q, t, q6, qj, rfl, rfl, t0, tT⟩ := hrel
              have TT : Hid _ := tT
              clear tT
              by_cases hq : q < 6
              · have t1 : t < 100000000000000 := by have h1 := le_mul_of t (p6 q) t0 (p6_pos q); rw [TT.out] at h1; omega
                go_wp2
                go_round
                case rel => exact ⟨q + 1, t * 10, by omega, by omega, by go_num, rfl, by omega, by have h1 := TT.out; rw [p6_step q hq] at h1; rw [← h1, Int.mul_assoc]⟩
                case measure => simp [intOf]; omega
              · obtain rfl : q = 6 := by omega
                obtain rfl : t = T := by have h1 := TT.out; rw [p6_six] at h1; omega
                clear TT hq
                have HX : Hid ((-t * 65536 + 500000) / 1000000 = fixOf (-1) t) := by show _ = _; unfold fixOf; rw [show (-1) * t = -t by omega]
                go_wp2_with fail
                refine (sdown_big _ _ _ (by omega) (by omega) (by omega) (by omega)).mono ?_; rintro e w' ⟨rfl, rfl⟩
                rw [HX.out]
                go_wp2_with fail
                by_cases hg : okFix (fixOf (-1) t) = true
                · refine (sgood_yes _ _ hg).mono ?_; rintro e w' ⟨rfl, rfl⟩
                  have HG : Hid _ := hg
                  clear hg
                  go_wp2
                  go_ret2
                  exact ⟨e1, fixOf (-1) t, rfl, rfl, Or.inr ⟨hV, by rw [HT.out]; exact HG.out, rfl, by rw [HT.out]⟩⟩
                · refine (sgood_no _ _ hg).mono ?_; rintro e w' ⟨rfl, rfl⟩
                  have HG : Hid _ := hg
                  clear hg
                  go_wp2
                  go_ret2
                  exact ⟨0, 0, rfl, rfl, Or.inl ⟨rfl, fun _ => by rw [HT.out]; simpa using HG.out⟩⟩
          · have HV : Hid _ := hV
            by_cases h0 : i = 0
            · subst h0
              clear hV
              go_wp2_with fail
              refine (digit_no _ _ N1.out).mono ?_; rintro e w' ⟨rfl, rfl⟩
              go_wp2_with fail
              refine (digit_no _ _ N3.out).mono ?_; rintro e w' ⟨rfl, rfl⟩
              go_wp2
              go_ret2
              exact ⟨0, 0, rfl, rfl, Or.inl ⟨rfl, fun hv => absurd hv HV.out⟩⟩
            · have z : ((i : Int) == 0) = false := by rw [beq_eq_false_iff_ne]; omega
              by_cases h8 : 8 < i
              · have d8 : decide (8 < (i : Int)) = true := by simp; omega
                clear hV
                go_wp2_with fail
                refine (digit_no _ _ N1.out).mono ?_; rintro e w' ⟨rfl, rfl⟩
                go_wp2_with fail
                refine (digit_no _ _ N3.out).mono ?_; rintro e w' ⟨rfl, rfl⟩
                go_wp2
                go_ret2
                exact ⟨0, 0, rfl, rfl, Or.inl ⟨rfl, fun hv => absurd hv HV.out⟩⟩
              · exact absurd (by omega) HV.out
        · have g3 : ((s[e1].toNat : Int) == 46) = false := by rw [beq_eq_false_iff_ne]; exact c2
          clear c2
          by_cases hV : 1 ≤ i ∧ i ≤ 8
          · obtain ⟨T1, T2⟩ := HTB.out hV.2
            obtain ⟨T, hT⟩ : ∃ T : Int, m * p6 0 = T := ⟨_, rfl⟩
            rw [hT] at T1 T2
            have HT0 : Hid (m * p6 0 = T) := hT
            have HT : Hid (nk s 1 9 e1 * p6 0 = T) := by have h := hT; rw [← HM.out] at h; exact h
            clear hT
            have z : ((i : Int) == 0) = false := by rw [beq_eq_false_iff_ne]; omega
            have d8 : decide (8 < (i : Int)) = false := by simp; omega
            go_wp2_with fail
            refine (digit_no _ _ N1.out).mono ?_; rintro e w' ⟨rfl, rfl⟩
            go_wp2
            go_loop [6, 9] (fun n k => ∃ (q : Nat) (t : Int), q ≤ 6 ∧ 0 ≤ q ∧ k = .int .i64 (q : Int) ∧ n = .int .i64 t ∧ 0 ≤ t ∧ t * p6 q = T) (fun _ k => 6 - (intOf k).toNat)
            case atStart => exact ⟨0, m, by omega, Nat.le_refl _, rfl, rfl, m1, HT0.out⟩
            case round =>
              obtain ⟨q, t, q6, qj, rfl, rfl, t0, tT⟩ := hrel
              have TT : Hid _ := tT
              clear tT
              by_cases hq : q < 6
              · have t1 : t < 100000000000000 := by have h1 := le_mul_of t (p6 q) t0 (p6_pos q); rw [TT.out] at h1; omega
                go_wp2
                go_round
                case rel => exact ⟨q + 1, t * 10, by omega, by omega, by go_num, rfl, by omega, by have h1 := TT.out; rw [p6_step q hq] at h1; rw [← h1, Int.mul_assoc]⟩
                case measure => simp [intOf]; omega
              · obtain rfl : q = 6 := by omega
                obtain rfl : t = T := by have h1 := TT.out; rw [p6_six] at h1; omega
                clear TT hq
                have HX : Hid ((-t * 65536 + 500000) / 1000000 = fixOf (-1) t) := by show _ = _; unfold fixOf; rw [show (-1) * t = -t by omega]
                go_wp2_with fail
                refine (sdown_big _ _ _ (by omega) (by omega) (by omega) (by omega)).mono ?_; rintro e w' ⟨rfl, rfl⟩
                rw [HX.out]
                go_wp2_with fail
                by_cases hg : okFix (fixOf (-1) t) = true
                · refine (sgood_yes _ _ hg).mono ?_; rintro e w' ⟨rfl, rfl⟩
                  have HG : Hid _ := hg
                  clear hg
                  go_wp2
                  go_ret2
                  exact ⟨e1, fixOf (-1) t, rfl, rfl, Or.inr ⟨hV, by rw [HT.out]; exact HG.out, rfl, by rw [HT.out]⟩⟩
                · refine (sgood_no _ _ hg).mono ?_; rintro e w' ⟨rfl, rfl⟩
                  have HG : Hid _ := hg
                  clear hg
                  go_wp2
                  go_ret2
                  exact ⟨0, 0, rfl, rfl, Or.inl ⟨rfl, fun _ => by rw [HT.out]; simpa using HG.out⟩⟩
          · have HV : Hid _ := hV
            by_cases h0 : i = 0
            · subst h0
              clear hV
              go_wp2_with fail
              refine (digit_no _ _ N1.out).mono ?_; rintro e w' ⟨rfl, rfl⟩
              go_wp2
              go_ret2
              exact ⟨0, 0, rfl, rfl, Or.inl ⟨rfl, fun hv => absurd hv HV.out⟩⟩
            · have z : ((i : Int) == 0) = false := by rw [beq_eq_false_iff_ne]; omega
              by_cases h8 : 8 < i
              · have d8 : decide (8 < (i : Int)) = true := by simp; omega
                clear hV
                go_wp2_with fail
                refine (digit_no _ _ N1.out).mono ?_; rintro e w' ⟨rfl, rfl⟩
                go_wp2
                go_ret2
                exact ⟨0, 0, rfl, rfl, Or.inl ⟨rfl, fun hv => absurd hv HV.out⟩⟩
              · exact absurd (by omega) HV.out
      · skip
        by_cases hV : 1 ≤ i ∧ i ≤ 8
        · obtain ⟨T1, T2⟩ := HTB.out hV.2
          obtain ⟨T, hT⟩ : ∃ T : Int, m * p6 0 = T := ⟨_, rfl⟩
          rw [hT] at T1 T2
          have HT0 : Hid (m * p6 0 = T) := hT
          have HT : Hid (nk s 1 9 e1 * p6 0 = T) := by have h := hT; rw [← HM.out] at h; exact h
          clear hT
          have z : ((i : Int) == 0) = false := by rw [beq_eq_false_iff_ne]; omega
          have d8 : decide (8 < (i : Int)) = false := by simp; omega
          go_wp2_with fail
          refine (digit_no _ _ N1.out).mono ?_; rintro e w' ⟨rfl, rfl⟩
          go_wp2
          go_loop [6, 9] (fun n k => ∃ (q : Nat) (t : Int), q ≤ 6 ∧ 0 ≤ q ∧ k = .int .i64 (q : Int) ∧ n = .int .i64 t ∧ 0 ≤ t ∧ t * p6 q = T) (fun _ k => 6 - (intOf k).toNat)
          case atStart => exact ⟨0, m, by omega, Nat.le_refl _, rfl, rfl, m1, HT0.out⟩
          case round =>
            obtain ⟨q, t, q6, qj, rfl, rfl, t0, tT⟩ := hrel
            have TT : Hid _ := tT
            clear tT
            by_cases hq : q < 6
            · have t1 : t < 100000000000000 := by have h1 := le_mul_of t (p6 q) t0 (p6_pos q); rw [TT.out] at h1; omega
              go_wp2
              go_round
              case rel => exact ⟨q + 1, t * 10, by omega, by omega, by go_num, rfl, by omega, by have h1 := TT.out; rw [p6_step q hq] at h1; rw [← h1, Int.mul_assoc]⟩
              case measure => simp [intOf]; omega
            · obtain rfl : q = 6 := by omega
              obtain rfl : t = T := by have h1 := TT.out; rw [p6_six] at h1; omega
              clear TT hq
              have HX : Hid ((-t * 65536 + 500000) / 1000000 = fixOf (-1) t) := by show _ = _; unfold fixOf; rw [show (-1) * t = -t by omega]
              go_wp2_with fail
              refine (sdown_big _ _ _ (by omega) (by omega) (by omega) (by omega)).mono ?_; rintro e w' ⟨rfl, rfl⟩
              rw [HX.out]
              go_wp2_with fail
              by_cases hg : okFix (fixOf (-1) t) = true
              · refine (sgood_yes _ _ hg).mono ?_; rintro e w' ⟨rfl, rfl⟩
                have HG : Hid _ := hg
                clear hg
                go_wp2
                go_ret2
                exact ⟨e1, fixOf (-1) t, rfl, rfl, Or.inr ⟨hV, by rw [HT.out]; exact HG.out, rfl, by rw [HT.out]⟩⟩
              · refine (sgood_no _ _ hg).mono ?_; rintro e w' ⟨rfl, rfl⟩
                have HG : Hid _ := hg
                clear hg
                go_wp2
                go_ret2
                exact ⟨0, 0, rfl, rfl, Or.inl ⟨rfl, fun _ => by rw [HT.out]; simpa using HG.out⟩⟩
        · have HV : Hid _ := hV
          by_cases h0 : i = 0
          · subst h0
            clear hV
            go_wp2_with fail
            refine (digit_no _ _ N1.out).mono ?_; rintro e w' ⟨rfl, rfl⟩
            go_wp2
            go_ret2
            exact ⟨0, 0, rfl, rfl, Or.inl ⟨rfl, fun hv => absurd hv HV.out⟩⟩
          · have z : ((i : Int) == 0) = false := by rw [beq_eq_false_iff_ne]; omega
            by_cases h8 : 8 < i
            · have d8 : decide (8 < (i : Int)) = true := by simp; omega
              clear hV
              go_wp2_with fail
              refine (digit_no _ _ N1.out).mono ?_; rintro e w' ⟨rfl, rfl⟩
              go_wp2
              go_ret2
              exact ⟨0, 0, rfl, rfl, Or.inl ⟨rfl, fun hv => absurd hv HV.out⟩⟩
            · exact absurd (by omega) HV.out
end Go.Proofs.YtpfhnedklihdoaaGreatDoor

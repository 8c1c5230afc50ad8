/-
  How far the program finds a number to go, and what stands ahead of the next one; for texts of at most 1048576 bytes.
  How far the program finds a number to go, and what stands ahead of the next one; for texts of at most 1048576 bytes.
  What the program's nextNumber answers; for texts of at most 1048576 bytes that are not empty.
  The value in a text, by the program; each theorem names its conditions.
-/
import Derived.Test.YtpfhnedklihdoaaGreatDoorJAV
namespace Go.Proofs.YtpfhnedklihdoaaGreatDoor
open Go.ChangeShapes Go.WideShapes Go.ChangeAt Go.RowKit
set_option linter.unusedVariables false

theorem idig (c : UInt8) (w : World) : Calls Tryz.prog 80 #[.int .u8 (c.toNat : Int)] w fun e w' => e = .returned (.bool (isD c)) ∧ w' = w := by
  by_cases h1 : 48 ≤ c.toNat
  · by_cases h2 : c.toNat ≤ 57
    · have h : isD c = true := by unfold isD; simp [h1, h2]
      rw [h]
      have g1 : (48 : Int) ≤ (c.toNat : Int) := by omega
      have g2 : (c.toNat : Int) ≤ 57 := by omega
      go_enter Tryz.func80, Tryz.ntmps80
      go_wp2
      go_ret
      exact ⟨rfl, rfl⟩
    · have h : isD c = false := by unfold isD; simp [h2]
      rw [h]
      have g2 : decide ((c.toNat : Int) ≤ 57) = false := by simp; omega
      have g1 : (48 : Int) ≤ (c.toNat : Int) := by omega
      clear h1 h2
      go_enter Tryz.func80, Tryz.ntmps80
      go_wp2
      go_ret
      exact ⟨rfl, rfl⟩
  · have h : isD c = false := by unfold isD; simp [h1]
    rw [h]
    have g1 : decide ((48 : Int) ≤ (c.toNat : Int)) = false := by simp; omega
    clear h1
    go_enter Tryz.func80, Tryz.ntmps80
    go_wp2
    go_ret
    exact ⟨rfl, rfl⟩
theorem isgn (c : UInt8) (w : World) : Calls Tryz.prog 57 #[.int .u8 (c.toNat : Int)] w fun e w' => e = .returned (.bool (isS c)) ∧ w' = w := by
  by_cases h1 : c = 45
  · have g1 : ((c.toNat : Int) == 45) = true := by rw [h1]; rfl
    have h : isS c = true := by unfold isS; simp [h1]
    rw [h]
    clear h1
    go_enter Tryz.func57, Tryz.ntmps57
    go_wp2
    go_ret
    exact ⟨rfl, rfl⟩
  · have g1 : ((c.toNat : Int) == 45) = false := by
      rw [beq_eq_false_iff_ne]; intro e; apply h1; apply UInt8.toNat_inj.1; have : ((45 : UInt8).toNat : Int) = 45 := rfl; omega
    by_cases h2 : c = 43
    · have g2 : ((c.toNat : Int) == 43) = true := by rw [h2]; rfl
      have h : isS c = true := by unfold isS; simp [h2]
      rw [h]
      clear h1 h2
      go_enter Tryz.func57, Tryz.ntmps57
      go_wp2
      go_ret
      exact ⟨rfl, rfl⟩
    · have g2 : ((c.toNat : Int) == 43) = false := by
        rw [beq_eq_false_iff_ne]; intro e; apply h2; apply UInt8.toNat_inj.1; have : ((43 : UInt8).toNat : Int) = 43 := rfl; omega
      have h : isS c = false := by unfold isS; simp [h1, h2]
      rw [h]
      clear h1 h2
      go_enter Tryz.func57, Tryz.ntmps57
      go_wp2
      go_ret
      exact ⟨rfl, rfl⟩
theorem tw_at : ∀ (k : Nat) (l : List UInt8), k ≤ l.length → (∀ j b, j < k → l[j]? = some b → isD b = true) → (∀ b, l[k]? = some b → isD b = false) → (l.takeWhile isD).length = k := by
  intro k
  induction k with
  | zero =>
    intro l _ _ h2
    match l with
    | [] => rfl
    | c :: t =>
      have := h2 c rfl
      rw [List.takeWhile_cons, this]
      rfl
  | succ k ih =>
    intro l hl h1 h2
    match l, hl with
    | c :: t, hl =>
      have hc := h1 0 c (by omega) rfl
      have e := ih t (by rw [List.length_cons] at hl; omega) (fun j b hj hb => h1 (j + 1) b (by omega) hb) (fun b hb => h2 b hb)
      rw [List.takeWhile_cons, hc]
      simp [e]
theorem at_of (s : ByteArray) (k : Nat) (b : UInt8) (h : s.data.toList[k]? = some b) (hk : k < s.size) : s[k] = b := by
  have e : s[k] = s.data.toList[k]'(by simpa using hk) := rfl
  rw [List.getElem?_eq_getElem (by simpa using hk)] at h
  exact e.trans (Option.some.inj h)
def twL (s : ByteArray) : Nat := (s.data.toList.takeWhile isD).length
theorem tw_le (l : List UInt8) : (l.takeWhile isD).length ≤ l.length := by
  have : (l.takeWhile isD).length + (l.dropWhile isD).length = l.length := by rw [← List.length_append, List.takeWhile_append_dropWhile]
  omega
theorem idigs (s : ByteArray) (w : World) (hs : s.size ≤ 1048576) : Calls Tryz.prog 58 #[.string s] w fun e w' => e = .returned (.int .i64 (twL s : Int)) ∧ w' = w := by
  go_enter Tryz.func58, Tryz.ntmps58
  go_wp2
  go_loop [3] (fun v => ∃ k : Nat, k ≤ s.size ∧ v = .int .i64 (k : Int) ∧ ∀ j b, j < k → s.data.toList[j]? = some b → isD b = true) (fun v => s.size - (intOf v).toNat)
  case atStart => exact ⟨0, Nat.zero_le _, rfl, fun j b hj => absurd hj (by omega)⟩
  case round =>
    obtain ⟨k, hk, rfl, hall⟩ := hrel
    have HA : Hid _ := hall
    clear hall
    by_cases hlt : k < s.size
    · have HG : Hid _ := at_of s k
      cases hd : isD s[k] with
      | true =>
        have HD : Hid _ := hd
        clear hd
        go_wp2_with fail
        refine (idig s[k] _).mono ?_
        rintro e w' ⟨rfl, rfl⟩
        rw [HD.out]
        go_wp2
        go_round
        case rel => exact ⟨k + 1, by omega, by go_num, fun j b hj hb => by
          rcases Nat.lt_succ_iff_lt_or_eq.1 hj with h | rfl
          · exact HA.out j b h hb
          · rw [← HG.out b hb hlt]; exact HD.out⟩
        case measure => simp [intOf]; omega
      | false =>
        have HD : Hid _ := hd
        clear hd
        have HE : Hid (twL s = k) := tw_at k _ (by simpa using hk) HA.out (fun b hb => by rw [← HG.out b hb hlt]; exact HD.out)
        go_wp2_with fail
        refine (idig s[k] _).mono ?_
        rintro e w' ⟨rfl, rfl⟩
        rw [HD.out]
        go_wp2
        go_ret
        exact ⟨by rw [HE.out]; rfl, rfl⟩
    · have e : k = s.size := by omega
      subst e
      have HE : Hid (twL s = s.size) := tw_at s.size _ (by simp) HA.out (fun b hb => by rw [List.getElem?_eq_none (by simp)] at hb; cases hb)
      go_wp2
      go_ret
      exact ⟨by rw [HE.out]; rfl, rfl⟩
theorem dw_drop (l : List UInt8) : l.dropWhile isD = l.drop (l.takeWhile isD).length := by
  conv => rhs; rw [← List.takeWhile_append_dropWhile (p := isD) (l := l)]
  rw [show (((l.takeWhile isD) ++ (l.dropWhile isD)).takeWhile isD) = l.takeWhile isD by rw [List.takeWhile_append_dropWhile], List.drop_left]
theorem nn_point (l : List UInt8) (h : l[(l.takeWhile isD).length]? = some 46) : nn l = (l.takeWhile isD).length + (1 + ((l.drop ((l.takeWhile isD).length + 1)).takeWhile isD).length) := by
  have hlt : (l.takeWhile isD).length < l.length := by
    rcases Nat.lt_or_ge (l.takeWhile isD).length l.length with h1 | h1
    · exact h1
    · rw [List.getElem?_eq_none h1] at h; cases h
  have e : l.dropWhile isD = 46 :: l.drop ((l.takeWhile isD).length + 1) := by
    rw [dw_drop, List.drop_eq_getElem_cons hlt]
    rw [List.getElem?_eq_getElem hlt] at h
    injection h with h
    rw [h]
  unfold nn
  rw [e]
  show _ + (if (46 : UInt8) = 46 then _ else _) = _
  rw [if_pos rfl]
theorem nn_else (l : List UInt8) (h : ¬ l[(l.takeWhile isD).length]? = some 46) : nn l = (l.takeWhile isD).length := by
  unfold nn
  rw [dw_drop]
  match hd : l.drop (l.takeWhile isD).length with
  | [] => rfl
  | c :: b =>
    show _ + (if c = 46 then _ else _) = _
    rw [if_neg]
    · rfl
    · rintro rfl
      apply h
      have := congrArg List.head? hd
      rw [List.head?_drop] at this
      exact this
end Go.Proofs.YtpfhnedklihdoaaGreatDoor
namespace Go.Proofs.YtpfhnedklihdoaaGreatDoor
open Go.ChangeShapes Go.WideShapes Go.ChangeAt Go.RowKit
set_option linter.unusedVariables false

theorem exl (s : ByteArray) (i : Nat) : (s.extract i s.size).data.toList = s.data.toList.drop i := Lib.extract_to_end s i
theorem nn_pt (s : ByteArray) (p P : Nat) (hP : P = p + twL (s.extract p s.size)) (h : P < s.size) (h46 : s[P] = 46) : p + nn (s.data.toList.drop p) = P + (1 + twL (s.extract (P + 1) s.size)) := by
  unfold twL at *
  rw [exl] at hP
  rw [nn_point (s.data.toList.drop p) ?_]
  · rw [exl, List.drop_drop, show p + (((s.data.toList.drop p).takeWhile isD).length + 1) = P + 1 by omega]
    omega
  · rw [List.getElem?_drop, ← hP, List.getElem?_eq_getElem (by simpa using h)]
    exact congrArg some h46
theorem nn_el (s : ByteArray) (p P : Nat) (hP : P = p + twL (s.extract p s.size)) (h : ∀ h : P < s.size, s[P] ≠ 46) : p + nn (s.data.toList.drop p) = P := by
  unfold twL at *
  rw [exl] at hP
  rw [nn_else (s.data.toList.drop p) ?_]
  · exact hP.symm
  · rw [List.getElem?_drop, ← hP]
    intro e
    obtain ⟨hlt, _⟩ := by_at s P 46 e
    exact h hlt (at_of s P 46 e hlt)
theorem ns_sign (s : ByteArray) (h : 0 < s.size) (hs : isS s[0] = true) : ns s.data.toList = 1 + nn (s.data.toList.drop 1) := by
  obtain ⟨c, e, _⟩ := drop_head s 0 h
  rw [List.drop_zero] at e
  have hc : s[0] = c := at_of s 0 c (by rw [e]; rfl) h
  rw [e, ns_cons, if_pos (by rw [← hc]; exact hs)]
  rfl
theorem ns_plain (s : ByteArray) (h : ∀ h : 0 < s.size, isS s[0] = false) : ns s.data.toList = 0 + nn (s.data.toList.drop 0) := by
  rw [Nat.zero_add, List.drop_zero]
  by_cases h0 : 0 < s.size
  · obtain ⟨c, e, _⟩ := drop_head s 0 h0
    rw [List.drop_zero] at e
    have hc : s[0] = c := at_of s 0 c (by rw [e]; rfl) h0
    have := h h0
    rw [hc] at this
    rw [e, ns_cons, if_neg (by rw [this]; decide)]
  · have : s.data.toList = [] := List.eq_nil_of_length_eq_zero (by rw [← Lib.size_eq]; omega)
    rw [this]; rfl
theorem ne46 (c : UInt8) (h : ¬ c = 46) : ((c.toNat : Int) == 46) = false := by
  rw [beq_eq_false_iff_ne]; intro e; apply h; apply UInt8.toNat_inj.1; have : ((46 : UInt8).toNat : Int) = 46 := rfl; omega
set_option maxHeartbeats 2000000 in
theorem inum (s : ByteArray) (w : World) (hs : s.size ≤ 1048576) : Calls Tryz.prog 36 #[.string s] w fun e w' => e = .returned (.int .i64 (ns s.data.toList : Int)) ∧ w' = w := by
  by_cases h0 : 0 < s.size
  · cases hg : isS s[0] with
    | true =>
      have HG : Hid _ := hg
      have HE : Hid _ := ns_sign s h0 hg
      clear hg
      have HR : Hid _ := fun w => idigs (s.extract 1 s.size) w (by rw [ex_size s 1 s.size (by omega) (Nat.le_refl _)]; omega)
      have hle : twL (s.extract 1 s.size) + 1 ≤ s.size := by
        have h1 := tw_le (s.extract 1 s.size).data.toList
        have h2 : (s.extract 1 s.size).data.toList.length = s.size - 1 := by rw [exl, List.length_drop]; simp
        unfold twL
        omega
      obtain ⟨P, hP⟩ : ∃ P, P = 1 + twL (s.extract 1 s.size) := ⟨_, rfl⟩
      have HP : Hid _ := nn_pt s 1 P hP
      have HQ : Hid _ := nn_el s 1 P hP
      obtain ⟨r, hr⟩ : ∃ r, s.extract 1 s.size = r := ⟨_, rfl⟩
      rw [hr] at HR hle hP
      have hPI : (1 : Int) + (twL r : Int) = (P : Int) := by omega
      generalize twL r = a at *
      by_cases h1 : P < s.size
      · by_cases h46 : s[P] = 46
        · have g46 : ((s[P].toNat : Int) == 46) = true := by rw [h46]; rfl
          have HV : Hid _ := HE.out.trans (HP.out h1 h46)
          have HR2 : Hid _ := fun w => idigs (s.extract (P + 1) s.size) w (by rw [ex_size s (P + 1) s.size (by omega) (Nat.le_refl _)]; omega)
          have hle2 : twL (s.extract (P + 1) s.size) + (P + 1) ≤ s.size := by
            have h1 := tw_le (s.extract (P + 1) s.size).data.toList
            have h2 : (s.extract (P + 1) s.size).data.toList.length = s.size - (P + 1) := by rw [exl, List.length_drop]; simp
            unfold twL
            omega
          obtain ⟨r2, hr2⟩ : ∃ r2, s.extract (P + 1) s.size = r2 := ⟨_, rfl⟩
          rw [hr2] at HR2 hle2 HV
          generalize twL r2 = b at *
          clear h46 HP HQ HE hle hP
          go_enter Tryz.func36, Tryz.ntmps36
          go_wp2_with fail
          refine (isgn s[0] _).mono ?_; rintro e w1 ⟨rfl, rfl⟩
          rw [HG.out]
          go_wp2_with fail
          refine (HR.out _).mono ?_; rintro e w1 ⟨rfl, rfl⟩
          go_wp2_with fail
          refine (HR2.out _).mono ?_; rintro e w1 ⟨rfl, rfl⟩
          go_wp2
          go_ret
          exact ⟨by rw [HV.out]; exact ret_int (by omega), rfl⟩
        · have g46 := ne46 s[P] h46
          have HV : Hid _ := HE.out.trans (HQ.out (fun _ => h46))
          clear h46 HP HQ HE hle hP
          go_enter Tryz.func36, Tryz.ntmps36
          go_wp2_with fail
          refine (isgn s[0] _).mono ?_; rintro e w1 ⟨rfl, rfl⟩
          rw [HG.out]
          go_wp2_with fail
          refine (HR.out _).mono ?_; rintro e w1 ⟨rfl, rfl⟩
          go_wp2
          go_ret
          exact ⟨by rw [HV.out]; exact ret_int (by omega), rfl⟩
      · have HV : Hid _ := HE.out.trans (HQ.out (fun h => absurd h h1))
        clear HP HQ HE hP
        go_enter Tryz.func36, Tryz.ntmps36
        go_wp2_with fail
        refine (isgn s[0] _).mono ?_; rintro e w1 ⟨rfl, rfl⟩
        rw [HG.out]
        go_wp2_with fail
        refine (HR.out _).mono ?_; rintro e w1 ⟨rfl, rfl⟩
        go_wp2
        go_ret
        exact ⟨by rw [HV.out]; exact ret_int (by omega), rfl⟩
    | false =>
      have HG : Hid _ := hg
      have HE : Hid _ := ns_plain s (fun _ => hg)
      have hall := ex_all s
      clear hg
      have HR : Hid _ := fun w => idigs (s.extract 0 s.size) w (by rw [ex_size s 0 s.size (by omega) (Nat.le_refl _)]; omega)
      have hle : twL (s.extract 0 s.size) + 0 ≤ s.size := by
        have h1 := tw_le (s.extract 0 s.size).data.toList
        have h2 : (s.extract 0 s.size).data.toList.length = s.size - 0 := by rw [exl, List.length_drop]; simp
        unfold twL
        omega
      obtain ⟨P, hP⟩ : ∃ P, P = 0 + twL (s.extract 0 s.size) := ⟨_, rfl⟩
      have HP : Hid _ := nn_pt s 0 P hP
      have HQ : Hid _ := nn_el s 0 P hP
      rw [ex_all] at HR hle hP
      have hPI : (twL s : Int) = (P : Int) := by omega
      generalize twL s = a at *
      by_cases h1 : P < s.size
      · by_cases h46 : s[P] = 46
        · have g46 : ((s[P].toNat : Int) == 46) = true := by rw [h46]; rfl
          have HV : Hid _ := HE.out.trans (HP.out h1 h46)
          have HR2 : Hid _ := fun w => idigs (s.extract (P + 1) s.size) w (by rw [ex_size s (P + 1) s.size (by omega) (Nat.le_refl _)]; omega)
          have hle2 : twL (s.extract (P + 1) s.size) + (P + 1) ≤ s.size := by
            have h1 := tw_le (s.extract (P + 1) s.size).data.toList
            have h2 : (s.extract (P + 1) s.size).data.toList.length = s.size - (P + 1) := by rw [exl, List.length_drop]; simp
            unfold twL
            omega
          obtain ⟨r2, hr2⟩ : ∃ r2, s.extract (P + 1) s.size = r2 := ⟨_, rfl⟩
          rw [hr2] at HR2 hle2 HV
          generalize twL r2 = b at *
          clear h46 HP HQ HE hle hP
          go_enter Tryz.func36, Tryz.ntmps36
          go_wp2_with fail
          refine (isgn s[0] _).mono ?_; rintro e w1 ⟨rfl, rfl⟩
          rw [HG.out]
          go_wp2_with fail
          refine (HR.out _).mono ?_; rintro e w1 ⟨rfl, rfl⟩
          go_wp2_with fail
          refine (HR2.out _).mono ?_; rintro e w1 ⟨rfl, rfl⟩
          go_wp2
          go_ret
          exact ⟨by rw [HV.out]; exact ret_int (by omega), rfl⟩
        · have g46 := ne46 s[P] h46
          have HV : Hid _ := HE.out.trans (HQ.out (fun _ => h46))
          clear h46 HP HQ HE hle hP
          go_enter Tryz.func36, Tryz.ntmps36
          go_wp2_with fail
          refine (isgn s[0] _).mono ?_; rintro e w1 ⟨rfl, rfl⟩
          rw [HG.out]
          go_wp2_with fail
          refine (HR.out _).mono ?_; rintro e w1 ⟨rfl, rfl⟩
          go_wp2
          go_ret
          exact ⟨by rw [HV.out]; exact ret_int (by omega), rfl⟩
      · have HV : Hid _ := HE.out.trans (HQ.out (fun h => absurd h h1))
        clear HP HQ HE hP
        go_enter Tryz.func36, Tryz.ntmps36
        go_wp2_with fail
        refine (isgn s[0] _).mono ?_; rintro e w1 ⟨rfl, rfl⟩
        rw [HG.out]
        go_wp2_with fail
        refine (HR.out _).mono ?_; rintro e w1 ⟨rfl, rfl⟩
        go_wp2
        go_ret
        exact ⟨by rw [HV.out]; exact ret_int (by omega), rfl⟩
  · obtain rfl : s = ⟨#[]⟩ := ByteArray.ext (Array.eq_empty_of_size_eq_zero (by have : s.data.size = s.size := rfl; omega))
    have HR : Hid _ := fun w => idigs ⟨#[]⟩ w hs
    have ht : twL ⟨#[]⟩ = 0 := rfl
    rw [ht] at HR
    have hall := ex_all ⟨#[]⟩
    go_enter Tryz.func36, Tryz.ntmps36
    go_wp2_with fail
    refine (HR.out _).mono ?_; rintro e w1 ⟨rfl, rfl⟩
    go_wp2
    go_ret
    exact ⟨rfl, rfl⟩
end Go.Proofs.YtpfhnedklihdoaaGreatDoor
namespace Go.Proofs.YtpfhnedklihdoaaGreatDoor
open Go.ChangeShapes Go.WideShapes Go.ChangeAt Go.RowKit
set_option linter.unusedVariables false

def dropT (s : ByteArray) : ByteArray := ⟨(dropB s.data.toList).toArray⟩
theorem ileft (s : ByteArray) (w : World) : Calls Tryz.prog 64 #[.string s, .string ⟨#[9, 10, 13, 32]⟩] w fun e w' => e = .returned (.string (dropT s)) ∧ Below w.heap.size w w' :=
  Any.strings_TrimLeft_laid Tryz.lays161 (by kernel_rfl) s ⟨#[9, 10, 13, 32]⟩ w (by decide) (ascii_of_all (by decide))
theorem gapT_size (s : ByteArray) : (gapT s).size ≤ s.size := by
  unfold gapT; rw [Lib.size_mk, Lib.size_eq]; exact gapB_len _
theorem gap_cut (s : ByteArray) (h : Lib.hasPrefix (dropT s).data.toList [44] = true) : dropT ⟨(Lib.trimPrefix (dropT s).data.toList [44]).toArray⟩ = gapT s := by
  have e0 : (dropT s).data.toList = dropB s.data.toList := rfl
  rw [e0] at h ⊢
  unfold Lib.trimPrefix
  rw [if_pos h]
  unfold Lib.hasPrefix at h
  unfold dropT gapT gapB
  match hd : dropB s.data.toList with
  | [] => rw [hd] at h; cases h
  | c :: t =>
    rw [hd] at h
    have hc : c = 44 := by
      simp [List.isPrefixOf] at h
      exact h.symm
    show _ = (⟨(if c = 44 then dropB t else c :: t).toArray⟩ : ByteArray)
    rw [if_pos hc]
    rfl
theorem gap_not (s : ByteArray) (h : Lib.hasPrefix (dropT s).data.toList [44] = false) : dropT s = gapT s := by
  have e0 : (dropT s).data.toList = dropB s.data.toList := rfl
  rw [e0] at h
  unfold Lib.hasPrefix at h
  unfold dropT gapT gapB
  match hd : dropB s.data.toList with
  | [] => rfl
  | c :: t =>
    rw [hd] at h
    have hc : ¬ c = 44 := by
      intro e
      subst e
      simp [List.isPrefixOf] at h
    show _ = (⟨(if c = 44 then dropB t else c :: t).toArray⟩ : ByteArray)
    rw [if_neg hc]
theorem part_val (s : ByteArray) (h : 0 < s.size) : partB s.data.toList = (decide ((gapT s).size < s.size) || isS s[0]) := by
  obtain ⟨c, e, _⟩ := drop_head s 0 h
  rw [List.drop_zero] at e
  have hc : s[0] = c := at_of s 0 c (by rw [e]; rfl) h
  unfold partB gapT
  rw [Lib.size_mk, Lib.size_eq, hc]
  congr 1
  rw [e]
  rfl
set_option maxHeartbeats 1000000 in
theorem inext (s : ByteArray) (w : World) (h0 : 0 < s.size) (hs : s.size ≤ 1048576) : Calls Tryz.prog 38 #[.string s] w fun e w' => e = .returned (.tuple #[.string (gapT s), .bool (partB s.data.toList)]) ∧ Below w.heap.size w w' := by
  have HL : Hid _ := fun w => ileft s w
  have HC : Hid _ := fun w => Tryz.strings_CutPrefix (dropT s) ⟨#[44]⟩ w
  have HL2 : Hid _ := fun w => ileft ⟨(Lib.trimPrefix (dropT s).data.toList [44]).toArray⟩ w
  have HG1 : Hid _ := gap_cut s
  have HG2 : Hid _ := gap_not s
  have HV : Hid _ := part_val s h0
  have hgs := gapT_size s
  have e44 : (⟨#[44]⟩ : ByteArray).data.toList = [44] := rfl
  rw [e44] at HC
  clear e44
  cases hp : Lib.hasPrefix (dropT s).data.toList [44] with
  | true =>
    rw [hp] at HC
    have e1 := HG1.out hp
    rw [e1] at HL2
    clear HG1 HG2 hp e1
    generalize (⟨(Lib.trimPrefix (dropT s).data.toList [44]).toArray⟩ : ByteArray) = b at *
    generalize dropT s = d at *
    generalize gapT s = g at *
    by_cases hlt : g.size < s.size
    · have HV2 : Hid (partB s.data.toList = true) := by show _ = _; rw [HV.out, decide_eq_true hlt]; rfl
      clear HV
      go_enter Tryz.func38, Tryz.ntmps38
      go_wp2_with fail
      refine (HL.out _).mono ?_; rintro e w1 ⟨rfl, b1⟩
      have B1 : Hid _ := b1
      clear b1
      go_wp2_with fail
      refine (HC.out _).mono ?_; rintro e w2 ⟨rfl, rfl⟩
      go_wp2_with fail
      refine (HL2.out _).mono ?_; rintro e w3 ⟨rfl, b2⟩
      have B2 : Hid _ := b2
      clear b2
      go_wp2
      go_ret2
      exact ⟨by rw [HV2.out]; rfl, Below.trans B1.out (Below.mono B2.out (Below.size B1.out))⟩
    · have hd : decide ((g.size : Int) < (s.size : Int)) = false := by simp; omega
      have HV2 : Hid (partB s.data.toList = isS s[0]) := by show _ = _; rw [HV.out, decide_eq_false hlt]; rfl
      clear HV
      go_enter Tryz.func38, Tryz.ntmps38
      go_wp2_with fail
      refine (HL.out _).mono ?_; rintro e w1 ⟨rfl, b1⟩
      have B1 : Hid _ := b1
      clear b1
      go_wp2_with fail
      refine (HC.out _).mono ?_; rintro e w2 ⟨rfl, rfl⟩
      go_wp2_with fail
      refine (HL2.out _).mono ?_; rintro e w3 ⟨rfl, b2⟩
      have B2 : Hid _ := b2
      clear b2
      go_wp2_with fail
      refine (isgn s[0] _).mono ?_; rintro e w4 ⟨rfl, rfl⟩
      go_wp2
      go_ret2
      exact ⟨by rw [HV2.out]; rfl, Below.trans B1.out (Below.mono B2.out (Below.size B1.out))⟩
  | false =>
    rw [hp] at HC
    have e1 := HG2.out hp
    rw [e1] at HL HC
    clear HG1 HG2 hp e1 HL2
    generalize (⟨(Lib.trimPrefix (gapT s).data.toList [44]).toArray⟩ : ByteArray) = b at *
    generalize gapT s = g at *
    by_cases hlt : g.size < s.size
    · have HV2 : Hid (partB s.data.toList = true) := by show _ = _; rw [HV.out, decide_eq_true hlt]; rfl
      clear HV
      go_enter Tryz.func38, Tryz.ntmps38
      go_wp2_with fail
      refine (HL.out _).mono ?_; rintro e w1 ⟨rfl, b1⟩
      have B1 : Hid _ := b1
      clear b1
      go_wp2_with fail
      refine (HC.out _).mono ?_; rintro e w2 ⟨rfl, rfl⟩
      go_wp2
      go_ret2
      exact ⟨by rw [HV2.out]; rfl, B1.out⟩
    · have hd : decide ((g.size : Int) < (s.size : Int)) = false := by simp; omega
      have HV2 : Hid (partB s.data.toList = isS s[0]) := by show _ = _; rw [HV.out, decide_eq_false hlt]; rfl
      clear HV
      go_enter Tryz.func38, Tryz.ntmps38
      go_wp2_with fail
      refine (HL.out _).mono ?_; rintro e w1 ⟨rfl, b1⟩
      have B1 : Hid _ := b1
      clear b1
      go_wp2_with fail
      refine (HC.out _).mono ?_; rintro e w2 ⟨rfl, rfl⟩
      go_wp2_with fail
      refine (isgn s[0] _).mono ?_; rintro e w4 ⟨rfl, rfl⟩
      go_wp2
      go_ret2
      exact ⟨by rw [HV2.out]; rfl, B1.out⟩
end Go.Proofs.YtpfhnedklihdoaaGreatDoor
namespace Go.Proofs.YtpfhnedklihdoaaGreatDoor
open Go.ChangeShapes Go.WideShapes Go.ChangeAt Go.RowKit
set_option linter.unusedVariables false

/-- The program's valueIn. -/
theorem ivalue (s : ByteArray) (w : World) (hs : s.size ≤ 1048576) : Calls Tryz.prog 21 #[.string s] w fun e w' => e = .returned (.tuple #[.string (if 600 < s.size then ⟨#[]⟩ else TB s), .bool (!decide (600 < s.size))]) ∧ Below w.heap.size w w' := by
  have HT : Hid _ := fun w => Any.strings_Trim_laid Tryz.lays160 (by kernel_rfl) s ⟨#[9, 10, 13, 32]⟩ w (by omega) (by decide) (ascii_of_all (by decide))
  by_cases h : 600 < s.size
  · rw [if_pos h, decide_eq_true h]
    go_enter Tryz.func21, Tryz.ntmps21
    go_wp2
    go_ret2
    exact ⟨rfl, Below.refl _ _⟩
  · rw [if_neg h, decide_eq_false h]
    have hd : decide (600 < (s.size : Int)) = false := by simp; omega
    go_enter Tryz.func21, Tryz.ntmps21
    go_wp2_with fail
    refine (HT.out _).mono ?_
    rintro e w1 ⟨rfl, hb⟩
    have HB : Hid _ := hb
    clear hb
    go_wp2
    go_ret2
    exact ⟨rfl, HB.out⟩
end Go.Proofs.YtpfhnedklihdoaaGreatDoor

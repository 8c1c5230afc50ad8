/-
  How far the program finds a number to go, and what stands ahead of the next one; for texts of at most 1048576 bytes.
-/
import Derived.Test.YtfodmjdhpolnkaaDoorNuImp
namespace Go.Proofs.YtfodmjdhpolnkaaDoor
open Go.ChangeShapes Go.WideShapes Go.ChangeAt Go.RowKit
set_option linter.unusedVariables false

theorem exl (s : ByteArray) (i : Nat) : (s.extract i s.size).data.toList = s.data.toList.drop i := Lib.extract_to_end s i
theorem nn_pt (s : ByteArray) (p P : Nat) (hP : P = p + twL (s.extract p s.size)) (h : P < s.size) (h46 : s[P] = 46) : p + nn (s.data.toList.drop p) = P + (1 + twL (s.extract (P + 1) s.size)) := by
  unfold twL at *
  rw [exl] at hP
  rw [nn_point (s.data.toList.drop p) ?_]
  · rw [exl, List.drop_drop, show p + (((s.data.toList.drop p).takeWhile isD).length + 1) = P + 1 by omega]
    omega
  · rw [List.getElem?_drop, ← hP, List.getElem?_eq_getElem (by simpa using h)]
    exact congrArg some h46
theorem nn_el (s : ByteArray) (p P : Nat) (hP : P = p + twL (s.extract p s.size)) (h : ∀ h : P < s.size, s[P] ≠ 46) : p + nn (s.data.toList.drop p) = P := by
  unfold twL at *
  rw [exl] at hP
  rw [nn_else (s.data.toList.drop p) ?_]
  · exact hP.symm
  · rw [List.getElem?_drop, ← hP]
    intro e
    obtain ⟨hlt, _⟩ := by_at s P 46 e
    exact h hlt (at_of s P 46 e hlt)
theorem ns_sign (s : ByteArray) (h : 0 < s.size) (hs : isS s[0] = true) : ns s.data.toList = 1 + nn (s.data.toList.drop 1) := by
  obtain ⟨c, e, _⟩ := drop_head s 0 h
  rw [List.drop_zero] at e
  have hc : s[0] = c := at_of s 0 c (by rw [e]; rfl) h
  rw [e, ns_cons, if_pos (by rw [← hc]; exact hs)]
  rfl
theorem ns_plain (s : ByteArray) (h : ∀ h : 0 < s.size, isS s[0] = false) : ns s.data.toList = 0 + nn (s.data.toList.drop 0) := by
  rw [Nat.zero_add, List.drop_zero]
  by_cases h0 : 0 < s.size
  · obtain ⟨c, e, _⟩ := drop_head s 0 h0
    rw [List.drop_zero] at e
    have hc : s[0] = c := at_of s 0 c (by rw [e]; rfl) h0
    have := h h0
    rw [hc] at this
    rw [e, ns_cons, if_neg (by rw [this]; decide)]
  · have : s.data.toList = [] := List.eq_nil_of_length_eq_zero (by rw [← Lib.size_eq]; omega)
    rw [this]; rfl
theorem ne46 (c : UInt8) (h : ¬ c = 46) : ((c.toNat : Int) == 46) = false := by
  rw [beq_eq_false_iff_ne]; intro e; apply h; apply UInt8.toNat_inj.1; have : ((46 : UInt8).toNat : Int) = 46 := rfl; omega
set_option maxHeartbeats 2000000 in
theorem inum (s : ByteArray) (w : World) (hs : s.size ≤ 1048576) : Calls Tryd.prog 61 #[.string s] w fun e w' => e = .returned (.int .i64 (ns s.data.toList : Int)) ∧ w' = w := by
  by_cases h0 : 0 < s.size
  · cases hg : isS s[0] with
    | true =>
      have HG : Hid _ := hg
      have HE : Hid _ := ns_sign s h0 hg
      clear hg
      have HR : Hid _ := fun w => idigs (s.extract 1 s.size) w (by rw [ex_size s 1 s.size (by omega) (Nat.le_refl _)]; omega)
      have hle : twL (s.extract 1 s.size) + 1 ≤ s.size := by
        have h1 := tw_le (s.extract 1 s.size).data.toList
        have h2 : (s.extract 1 s.size).data.toList.length = s.size - 1 := by rw [exl, List.length_drop]; simp
        unfold twL
        omega
      obtain ⟨P, hP⟩ : ∃ P, P = 1 + twL (s.extract 1 s.size) := ⟨_, rfl⟩
      have HP : Hid _ := nn_pt s 1 P hP
      have HQ : Hid _ := nn_el s 1 P hP
      obtain ⟨r, hr⟩ : ∃ r, s.extract 1 s.size = r := ⟨_, rfl⟩
      rw [hr] at HR hle hP
      have hPI : (1 : Int) + (twL r : Int) = (P : Int) := by omega
      generalize twL r = a at *
      by_cases h1 : P < s.size
      · by_cases h46 : s[P] = 46
        · have g46 : ((s[P].toNat : Int) == 46) = true := by rw [h46]; rfl
          have HV : Hid _ := HE.out.trans (HP.out h1 h46)
          have HR2 : Hid _ := fun w => idigs (s.extract (P + 1) s.size) w (by rw [ex_size s (P + 1) s.size (by omega) (Nat.le_refl _)]; omega)
          have hle2 : twL (s.extract (P + 1) s.size) + (P + 1) ≤ s.size := by
            have h1 := tw_le (s.extract (P + 1) s.size).data.toList
            have h2 : (s.extract (P + 1) s.size).data.toList.length = s.size - (P + 1) := by rw [exl, List.length_drop]; simp
            unfold twL
            omega
          obtain ⟨r2, hr2⟩ : ∃ r2, s.extract (P + 1) s.size = r2 := ⟨_, rfl⟩
          rw [hr2] at HR2 hle2 HV
          generalize twL r2 = b at *
          clear h46 HP HQ HE hle hP
          go_enter Tryd.func61, Tryd.ntmps61
          go_wp2_with fail
          refine (isgn s[0] _).mono ?_; rintro e w1 ⟨rfl, rfl⟩
          rw [HG.out]
          go_wp2_with fail
          refine (HR.out _).mono ?_; rintro e w1 ⟨rfl, rfl⟩
          go_wp2_with fail
          refine (HR2.out _).mono ?_; rintro e w1 ⟨rfl, rfl⟩
          go_wp2
          go_ret
          exact ⟨by rw [HV.out]; exact ret_int (by omega), rfl⟩
        · have g46 := ne46 s[P] h46
          have HV : Hid _ := HE.out.trans (HQ.out (fun _ => h46))
          clear h46 HP HQ HE hle hP
          go_enter Tryd.func61, Tryd.ntmps61
          go_wp2_with fail
          refine (isgn s[0] _).mono ?_; rintro e w1 ⟨rfl, rfl⟩
          rw [HG.out]
          go_wp2_with fail
          refine (HR.out _).mono ?_; rintro e w1 ⟨rfl, rfl⟩
          go_wp2
          go_ret
          exact ⟨by rw [HV.out]; exact ret_int (by omega), rfl⟩
      · have HV : Hid _ := HE.out.trans (HQ.out (fun h => absurd h h1))
        clear HP HQ HE hP
        go_enter Tryd.func61, Tryd.ntmps61
        go_wp2_with fail
        refine (isgn s[0] _).mono ?_; rintro e w1 ⟨rfl, rfl⟩
        rw [HG.out]
        go_wp2_with fail
        refine (HR.out _).mono ?_; rintro e w1 ⟨rfl, rfl⟩
        go_wp2
        go_ret
        exact ⟨by rw [HV.out]; exact ret_int (by omega), rfl⟩
    | false =>
      have HG : Hid _ := hg
      have HE : Hid _ := ns_plain s (fun _ => hg)
      have hall := ex_all s
      clear hg
      have HR : Hid _ := fun w => idigs (s.extract 0 s.size) w (by rw [ex_size s 0 s.size (by omega) (Nat.le_refl _)]; omega)
      have hle : twL (s.extract 0 s.size) + 0 ≤ s.size := by
        have h1 := tw_le (s.extract 0 s.size).data.toList
        have h2 : (s.extract 0 s.size).data.toList.length = s.size - 0 := by rw [exl, List.length_drop]; simp
        unfold twL
        omega
      obtain ⟨P, hP⟩ : ∃ P, P = 0 + twL (s.extract 0 s.size) := ⟨_, rfl⟩
      have HP : Hid _ := nn_pt s 0 P hP
      have HQ : Hid _ := nn_el s 0 P hP
      rw [ex_all] at HR hle hP
      have hPI : (twL s : Int) = (P : Int) := by omega
      generalize twL s = a at *
      by_cases h1 : P < s.size
      · by_cases h46 : s[P] = 46
        · have g46 : ((s[P].toNat : Int) == 46) = true := by rw [h46]; rfl
          have HV : Hid _ := HE.out.trans (HP.out h1 h46)
          have HR2 : Hid _ := fun w => idigs (s.extract (P + 1) s.size) w (by rw [ex_size s (P + 1) s.size (by omega) (Nat.le_refl _)]; omega)
          have hle2 : twL (s.extract (P + 1) s.size) + (P + 1) ≤ s.size := by
            have h1 := tw_le (s.extract (P + 1) s.size).data.toList
            have h2 : (s.extract (P + 1) s.size).data.toList.length = s.size - (P + 1) := by rw [exl, List.length_drop]; simp
            unfold twL
            omega
          obtain ⟨r2, hr2⟩ : ∃ r2, s.extract (P + 1) s.size = r2 := ⟨_, rfl⟩
          rw [hr2] at HR2 hle2 HV
          generalize twL r2 = b at *
          clear h46 HP HQ HE hle hP
          go_enter Tryd.func61, Tryd.ntmps61
          go_wp2_with fail
          refine (isgn s[0] _).mono ?_; rintro e w1 ⟨rfl, rfl⟩
          rw [HG.out]
          go_wp2_with fail
          refine (HR.out _).mono ?_; rintro e w1 ⟨rfl, rfl⟩
          go_wp2_with fail
          refine (HR2.out _).mono ?_; rintro e w1 ⟨rfl, rfl⟩
          go_wp2
          go_ret
          exact ⟨by rw [HV.out]; exact ret_int (by omega), rfl⟩
        · have g46 := ne46 s[P] h46
          have HV : Hid _ := HE.out.trans (HQ.out (fun _ => h46))
          clear h46 HP HQ HE hle hP
          go_enter Tryd.func61, Tryd.ntmps61
          go_wp2_with fail
          refine (isgn s[0] _).mono ?_; rintro e w1 ⟨rfl, rfl⟩
          rw [HG.out]
          go_wp2_with fail
          refine (HR.out _).mono ?_; rintro e w1 ⟨rfl, rfl⟩
          go_wp2
          go_ret
          exact ⟨by rw [HV.out]; exact ret_int (by omega), rfl⟩
      · have HV : Hid _ := HE.out.trans (HQ.out (fun h => absurd h h1))
        clear HP HQ HE hP
        go_enter Tryd.func61, Tryd.ntmps61
        go_wp2_with fail
        refine (isgn s[0] _).mono ?_; rintro e w1 ⟨rfl, rfl⟩
        rw [HG.out]
        go_wp2_with fail
        refine (HR.out _).mono ?_; rintro e w1 ⟨rfl, rfl⟩
        go_wp2
        go_ret
        exact ⟨by rw [HV.out]; exact ret_int (by omega), rfl⟩
  · obtain rfl : s = ⟨#[]⟩ := ByteArray.ext (Array.eq_empty_of_size_eq_zero (by have : s.data.size = s.size := rfl; omega))
    have HR : Hid _ := fun w => idigs ⟨#[]⟩ w hs
    have ht : twL ⟨#[]⟩ = 0 := rfl
    rw [ht] at HR
    have hall := ex_all ⟨#[]⟩
    go_enter Tryd.func61, Tryd.ntmps61
    go_wp2_with fail
    refine (HR.out _).mono ?_; rintro e w1 ⟨rfl, rfl⟩
    go_wp2
    go_ret
    exact ⟨rfl, rfl⟩
end Go.Proofs.YtfodmjdhpolnkaaDoor

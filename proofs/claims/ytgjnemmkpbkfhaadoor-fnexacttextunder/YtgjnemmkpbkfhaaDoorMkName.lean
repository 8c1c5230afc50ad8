/-
  Marks' names: the looks at a byte and at a text, the program's and the specification's; each theorem names its conditions.
-/
import Derived.Test.YtgjnemmkpbkfhaaDoorLet
namespace Go.Proofs.YtgjnemmkpbkfhaaDoor
open Go.ChangeShapes Go.WideShapes Go.ChangeAt Go.RowKit
set_option linter.unusedVariables false

def innerB (c : Int) : Bool := decide ((97 ≤ c ∧ c ≤ 122) ∨ (65 ≤ c ∧ c ≤ 90) ∨ c = 95 ∨ (48 ≤ c ∧ c ≤ 57) ∨ c = 45 ∨ c = 58 ∨ c = 46)
theorem sinner (w : World) (c : Int) (h0 : 0 ≤ c) (h1 : c ≤ 255) : Calls Tryd.prog 128 #[.int .u8 c] w fun e w' => e = .returned (.bool (innerB c)) ∧ w' = w := by
  by_cases hf : firstB c = true
  · go_enter Tryd.func128, Tryd.ntmps128
    go_wp2_with (first | (go_at_call 127; refine (sletter _ c h0 h1).mono ?_; rw [hf]; rintro e w' ⟨rfl, rfl⟩) | (go_at_call 118; refine (sdigit _ c h0 h1).mono ?_; rintro e w' ⟨rfl, rfl⟩))
    go_ret
    exact ⟨ret_bool (by simp [firstB] at hf; rw [Bool.eq_iff_iff]; simp [innerB]; omega), rfl⟩
  · have hf' : firstB c = false := by simpa using hf
    clear hf
    by_cases hd : digB c = true
    · go_enter Tryd.func128, Tryd.ntmps128
      go_wp2_with (first | (go_at_call 127; refine (sletter _ c h0 h1).mono ?_; rw [hf']; rintro e w' ⟨rfl, rfl⟩) | (go_at_call 118; refine (sdigit _ c h0 h1).mono ?_; rw [hd]; rintro e w' ⟨rfl, rfl⟩))
      go_ret
      exact ⟨ret_bool (by simp [digB] at hd; rw [Bool.eq_iff_iff]; simp [innerB]; omega), rfl⟩
    · have hd' : digB c = false := by simpa using hd
      clear hd
      go_enter Tryd.func128, Tryd.ntmps128
      go_wp2_with (first | (go_at_call 127; refine (sletter _ c h0 h1).mono ?_; rw [hf']; rintro e w' ⟨rfl, rfl⟩) | (go_at_call 118; refine (sdigit _ c h0 h1).mono ?_; rw [hd']; rintro e w' ⟨rfl, rfl⟩))
      all_goals
        go_ret
        exact ⟨ret_bool (by simp [digB] at hd'; simp [firstB] at hf'; rw [Bool.eq_iff_iff]; simp [innerB]; omega), rfl⟩
theorem iinner (w : World) (c : Int) (h0 : 0 ≤ c) (h1 : c ≤ 255) : Calls Tryd.prog 196 #[.int .u8 c] w fun e w' => e = .returned (.bool (innerB c)) ∧ w' = w := by
  by_cases hf : letB c = true
  · go_enter Tryd.func196, Tryd.ntmps196
    go_wp2_with (first | (go_at_call 195; refine (iletter _ c h0 h1).mono ?_; rw [hf]; rintro e w' ⟨rfl, rfl⟩) | (go_at_call 172; refine (idigit _ c h0 h1).mono ?_; rintro e w' ⟨rfl, rfl⟩))
    go_ret
    exact ⟨ret_bool (by simp [letB] at hf; rw [Bool.eq_iff_iff]; simp [innerB]; omega), rfl⟩
  · have hf' : letB c = false := by simpa using hf
    clear hf
    by_cases hd : digB c = true
    · go_enter Tryd.func196, Tryd.ntmps196
      go_wp2_with (first | (go_at_call 195; refine (iletter _ c h0 h1).mono ?_; rw [hf']; rintro e w' ⟨rfl, rfl⟩) | (go_at_call 172; refine (idigit _ c h0 h1).mono ?_; rw [hd]; rintro e w' ⟨rfl, rfl⟩))
      go_ret
      exact ⟨ret_bool (by simp [digB] at hd; rw [Bool.eq_iff_iff]; simp [innerB]; omega), rfl⟩
    · have hd' : digB c = false := by simpa using hd
      clear hd
      go_enter Tryd.func196, Tryd.ntmps196
      go_wp2_with (first | (go_at_call 195; refine (iletter _ c h0 h1).mono ?_; rw [hf']; rintro e w' ⟨rfl, rfl⟩) | (go_at_call 172; refine (idigit _ c h0 h1).mono ?_; rw [hd']; rintro e w' ⟨rfl, rfl⟩))
      all_goals
        go_ret
        exact ⟨ret_bool (by simp [digB] at hd'; simp [letB] at hf'; rw [Bool.eq_iff_iff]; simp [innerB]; omega), rfl⟩

def NameOk (s : ByteArray) : Prop := (1 ≤ s.size ∧ s.size ≤ 30) ∧ firstB (bt s 0) = true ∧ ∀ i, i < s.size → innerB (bt s i) = true
def nameB (s : ByteArray) : Bool := decide (1 ≤ s.size ∧ s.size ≤ 30) && (firstB (bt s 0) && (List.range s.size).all fun i => innerB (bt s i))
theorem nameB_iff (s : ByteArray) : nameB s = true ↔ NameOk s := by
  unfold nameB NameOk
  rw [Bool.and_eq_true, Bool.and_eq_true, decide_eq_true_eq, List.all_eq_true]
  simp only [List.mem_range]
theorem nameB_yes {s : ByteArray} (h : NameOk s) : nameB s = true := (nameB_iff s).2 h
theorem nameB_no {s : ByteArray} (h : ¬ NameOk s) : nameB s = false := by
  cases e : nameB s with
  | false => rfl
  | true => exact absurd ((nameB_iff s).1 e) h
theorem sname (w : World) (s : ByteArray) (hs : s.size ≤ 1048576) : Calls Tryd.prog 78 #[.string s] w fun e w' => e = .returned (.bool (nameB s)) ∧ w' = w := by
  by_cases hz : 1 ≤ s.size ∧ s.size ≤ 30
  · have hd : decide ((1 : Int) ≤ (s.size : Int) ∧ (s.size : Int) ≤ 30) = true := by simp; omega
    have h0 : 0 < s.size := by omega
    have hb := bt_of s 0 h0
    have hbd := bt_bd s 0
    rw [hb] at hbd
    by_cases hf : firstB (bt s 0) = true
    · have hf' : firstB (s[0].toNat : Int) = true := by rw [← hb]; exact hf
      have HP : Hid _ := hz
      clear hb
      go_enter Tryd.func78, Tryd.ntmps78
      go_wp2_with (first | (go_at_call 44; refine (in_any _ _ _ _).mono ?_; rw [hd]; rintro e w' ⟨rfl, rfl⟩) | (go_at_call 127; refine (sletter _ _ hbd.1 hbd.2).mono ?_; rw [hf']; rintro e w' ⟨rfl, rfl⟩))
      go_loop [3] (fun i => ∃ k : Nat, k ≤ s.size ∧ i = .int .i64 k ∧ ∀ j, j < k → innerB (bt s j) = true) (fun i => s.size - (intOf i).toNat)
      case atStart => exact ⟨0, Nat.zero_le _, rfl, fun j hj => absurd hj (by omega)⟩
      case round =>
        obtain ⟨k, hk, rfl, hin⟩ := hrel
        have HI : Hid (∀ j, j < k → innerB (bt s j) = true) := hin
        clear hin
        by_cases hlt : k < s.size
        · have hbk := bt_of s k hlt
          have hbdk := bt_bd s k
          rw [hbk] at hbdk
          by_cases hi : innerB (bt s k) = true
          · have hi' : innerB (s[k].toNat : Int) = true := by rw [← hbk]; exact hi
            have HJ : Hid (innerB (bt s k) = true) := hi
            clear hbk hi
            go_wp2_with (go_at_call 128; refine (sinner _ _ hbdk.1 hbdk.2).mono ?_; rw [hi']; rintro e w' ⟨rfl, rfl⟩)
            go_round
            case rel =>
              refine ⟨k + 1, by omega, by go_num, fun j hj => ?_⟩
              by_cases e : j = k
              · rw [e]; exact HJ.out
              · exact HI.out j (by omega)
            case measure => simp [intOf]; omega
          · have hi' : innerB (s[k].toNat : Int) = false := by rw [← hbk]; simpa using hi
            have HJ : Hid (¬ innerB (bt s k) = true) := hi
            clear hbk hi
            go_wp2_with (go_at_call 128; refine (sinner _ _ hbdk.1 hbdk.2).mono ?_; rw [hi']; rintro e w' ⟨rfl, rfl⟩)
            go_ret
            exact ⟨ret_bool (nameB_no fun h => HJ.out (h.2.2 k hlt)).symm, rfl⟩
        · have e : k = s.size := by omega
          subst e
          go_wp2
          go_ret
          exact ⟨ret_bool (nameB_yes ⟨HP.out, hf, HI.out⟩).symm, rfl⟩
    · have hf' : firstB (s[0].toNat : Int) = false := by rw [← hb]; simpa using hf
      have HN : Hid (nameB s = false) := nameB_no fun h => hf h.2.1
      clear hb hf
      go_enter Tryd.func78, Tryd.ntmps78
      go_wp2_with (first | (go_at_call 44; refine (in_any _ _ _ _).mono ?_; rw [hd]; rintro e w' ⟨rfl, rfl⟩) | (go_at_call 127; refine (sletter _ _ hbd.1 hbd.2).mono ?_; rw [hf']; rintro e w' ⟨rfl, rfl⟩))
      go_ret
      exact ⟨ret_bool HN.out.symm, rfl⟩
  · have hd : decide ((1 : Int) ≤ (s.size : Int) ∧ (s.size : Int) ≤ 30) = false := by simp; omega
    have HN : Hid (nameB s = false) := nameB_no fun h => hz h.1
    clear hz
    go_enter Tryd.func78, Tryd.ntmps78
    go_wp2_with (go_at_call 44; refine (in_any _ _ _ _).mono ?_; rw [hd]; rintro e w' ⟨rfl, rfl⟩)
    go_ret
    exact ⟨ret_bool HN.out.symm, rfl⟩
end Go.Proofs.YtgjnemmkpbkfhaaDoor

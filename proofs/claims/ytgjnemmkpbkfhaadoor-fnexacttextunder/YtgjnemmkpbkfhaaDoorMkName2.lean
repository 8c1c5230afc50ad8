/-
  Marks' names: the program's look at a text; each theorem names its conditions.
-/
import Derived.Test.YtgjnemmkpbkfhaaDoorMkName
namespace Go.Proofs.YtgjnemmkpbkfhaaDoor
open Go.ChangeShapes Go.WideShapes Go.ChangeAt Go.RowKit
set_option linter.unusedVariables false

theorem first_inner {c : Int} (h : firstB c = true) : innerB c = true := by
  simp [firstB] at h; simp [innerB]; omega
theorem first_let {c : Int} : firstB c = (letB c || decide (c = 95)) := by
  rw [Bool.eq_iff_iff]; simp [firstB, letB]; omega
def InnerTo (s : ByteArray) (k : Nat) : Prop := ∀ i, i < k → innerB (bt s i) = true
theorem InnerTo.step {s : ByteArray} {k : Nat} (h : InnerTo s k) (e : innerB (bt s k) = true) : InnerTo s (k + 1) := by
  intro i hi
  by_cases c : i = k
  · subst c; exact e
  · exact h i (by omega)
theorem isize (w : World) (s : ByteArray) (h1 : 1 ≤ s.size) (h2 : s.size ≤ 1048576) :
    Calls Tryd.prog 166 #[.string s] w fun e w' => ∃ m : Nat, e = .returned (.int .i64 m) ∧ (m = s.size ↔ firstB (bt s 0) = true ∧ InnerTo s s.size) ∧ w' = w := by
  have hn1 := ne_nil (s := s) (by omega)
  have hn2 := ne_emp (s := s) (by omega)
  have h0 : 0 < s.size := by omega
  have hb := bt_of s 0 h0
  have hbd := bt_bd s 0
  rw [hb] at hbd
  by_cases hf : firstB (bt s 0) = true
  · have HF : Hid (firstB (bt s 0) = true) := hf
    rw [first_let, hb] at hf
    have hfl : letB (s[0].toNat : Int) = true ∨ (letB (s[0].toNat : Int) = false ∧ ((s[0].toNat : Int) != 95) = false) := by
      cases hl : letB (s[0].toNat : Int) with
      | true => exact Or.inl rfl
      | false => rw [hl] at hf; simp at hf; exact Or.inr ⟨rfl, by simp; exact hf⟩
    clear hf hb
    rcases hfl with hl | ⟨hl, he⟩
    all_goals
      go_enter Tryd.func166, Tryd.ntmps166
      go_wp2_with (go_at_call 195; refine (iletter _ _ hbd.1 hbd.2).mono ?_; rw [hl]; rintro e w' ⟨rfl, rfl⟩)
      go_loop [3] (fun i => ∃ k : Nat, k ≤ s.size ∧ 1 ≤ k ∧ i = .int .i64 k ∧ InnerTo s k) (fun i => s.size - (intOf i).toNat)
      case atStart => exact ⟨1, by omega, by omega, rfl, fun j hj => by have : j = 0 := by omega
                                                                        rw [this]; exact first_inner HF.out⟩
      case round =>
        obtain ⟨k, hk, hk1, rfl, hin⟩ := hrel
        have HI : Hid (InnerTo s k) := hin
        clear hin
        by_cases hlt : k < s.size
        · have hbk := bt_of s k hlt
          have hbdk := bt_bd s k
          rw [hbk] at hbdk
          by_cases hi : innerB (bt s k) = true
          · have hi' : innerB (s[k].toNat : Int) = true := by rw [← hbk]; exact hi
            have HJ : Hid (innerB (bt s k) = true) := hi
            clear hbk hi
            go_wp2_with (go_at_call 196; refine (iinner _ _ hbdk.1 hbdk.2).mono ?_; rw [hi']; rintro e w' ⟨rfl, rfl⟩)
            go_round
            case rel => exact ⟨k + 1, by omega, by omega, by go_num, HI.out.step HJ.out⟩
            case measure => simp [intOf]; omega
          · have hi' : innerB (s[k].toNat : Int) = false := by rw [← hbk]; simpa using hi
            have HJ : Hid (¬ innerB (bt s k) = true) := hi
            clear hbk hi
            go_wp2_with (go_at_call 196; refine (iinner _ _ hbdk.1 hbdk.2).mono ?_; rw [hi']; rintro e w' ⟨rfl, rfl⟩)
            go_ret
            exact ⟨k, rfl, ⟨fun e => absurd hlt (by omega), fun h => absurd (h.2 k hlt) HJ.out⟩, rfl⟩
        · have e : k = s.size := by omega
          go_wp2
          go_ret
          exact ⟨s.size, rfl, ⟨fun _ => ⟨HF.out, by have := HI.out; rwa [e] at this⟩, fun _ => rfl⟩, rfl⟩
  · have HF : Hid (¬ firstB (bt s 0) = true) := hf
    have hf' : firstB (bt s 0) = false := by simpa using hf
    rw [first_let, hb] at hf'
    simp only [Bool.or_eq_false_iff] at hf'
    obtain ⟨hl, he⟩ := hf'
    have he2 : ((s[0].toNat : Int) != 95) = true := by simpa using he
    clear hf hb he
    go_enter Tryd.func166, Tryd.ntmps166
    go_wp2_with (go_at_call 195; refine (iletter _ _ hbd.1 hbd.2).mono ?_; rw [hl]; rintro e w' ⟨rfl, rfl⟩)
    go_ret
    exact ⟨0, rfl, ⟨fun e => absurd h1 (by omega), fun h => absurd h.1 HF.out⟩, rfl⟩
theorem iname (w : World) (s : ByteArray) (hs : s.size ≤ 1048576) : Calls Tryd.prog 133 #[.string s] w fun e w' => e = .returned (.bool (nameB s)) ∧ w' = w := by
  by_cases h0 : s.size = 0
  · have e : s = ⟨#[]⟩ := ByteArray.ext (Array.eq_empty_of_size_eq_zero h0)
    have HN : Hid (nameB s = false) := nameB_no fun h => by have := h.1.1; omega
    subst e
    go_enter Tryd.func133, Tryd.ntmps133
    go_wp2
    go_ret
    exact ⟨ret_bool HN.out.symm, rfl⟩
  · have hn1 := ne_nil (s := s) (by omega)
    have hn2 := ne_emp (s := s) (by omega)
    by_cases h30 : (s.size : Int) ≤ 30
    · go_enter Tryd.func133, Tryd.ntmps133
      go_wp2_with (go_at_call 166; refine (isize _ _ (by omega) hs).mono ?_; rintro e w' ⟨m, rfl, hm, rfl⟩; have HM : Hid _ := hm; clear hm)
      all_goals
        go_ret
        refine ⟨ret_bool ?_, rfl⟩
        have hm := HM.out
        by_cases c : m = s.size
        · rw [nameB_yes ⟨⟨by omega, by omega⟩, hm.1 c⟩]; simp [c]
        · rw [nameB_no fun h => c (hm.2 h.2)]; simp; omega
    · have HN : Hid (nameB s = false) := nameB_no fun h => by have := h.1.2; omega
      go_enter Tryd.func133, Tryd.ntmps133
      go_wp2
      go_ret
      exact ⟨ret_bool HN.out.symm, rfl⟩
end Go.Proofs.YtgjnemmkpbkfhaaDoor

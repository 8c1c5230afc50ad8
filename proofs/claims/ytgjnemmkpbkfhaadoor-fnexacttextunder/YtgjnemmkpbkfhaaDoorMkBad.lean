/-
  Where a text has its first rune that may not be there, the program's look and the specification's; each theorem names its conditions.
-/
import Derived.Test.YtgjnemmkpbkfhaaDoorMkRune
import Derived.Test.YtgjnemmkpbkfhaaDoorShelf
import Derived.Test.YtgjnemmkpbkfhaaDoorLow
import Derived.Lib.RuneCountTail
import Derived.Lib.MapLaws
namespace Go.Proofs.YtgjnemmkpbkfhaaDoor
open Go.ChangeShapes Go.WideShapes Go.ChangeAt Go.RowKit
set_option linter.unusedVariables false

def Tb (w : World) : Prop := Lib.Utf8Tabs 4 5 w
theorem Tb.nw {w w' : World} (h : Tb w) (k : Nw w w') : Tb w' := by
  refine ⟨fun c hc => ?_, fun i hi => ⟨?_, ?_⟩⟩
  · have e := h.1 c hc
    exact (Below.cell k (World.block_lt_of_cell? w _ e)).trans e
  · have e := (h.2 i hi).1
    exact (Below.cell k (World.block_lt_of_cell? w _ e)).trans e
  · have e := (h.2 i hi).2
    exact (Below.cell k (World.block_lt_of_cell? w _ e)).trans e

def wd (s : ByteArray) (k : Nat) : Nat := (Utf8.decode s k).2
theorem rn_wd (s : ByteArray) (k : Nat) : (rn s k).2 = (wd s k : Int) := by
  unfold rn wd
  split
  · rename_i h; rw [h.2]; rfl
  · rfl
theorem wd_bd (s : ByteArray) (k : Nat) (h : k < s.size) : 1 ≤ wd s k ∧ k + wd s k ≤ s.size := by
  have hl : (s.data.toList.drop k) ≠ [] := by
    intro e
    have := congrArg List.length e
    simp at this
    have h2 : s.data.size = s.size := rfl
    omega
  have h1 := Lib.decodeL_le _ hl
  have h2 := Lib.decodeL_width (s.data.toList.drop k)
  rw [Lib.decodeL_drop] at h1 h2
  have h3 : (s.data.toList.drop k).length = s.size - k := by rw [List.length_drop, Array.length_toList]; rfl
  unfold wd
  omega
theorem rn_tail (s : ByteArray) (k : Nat) : rn (s.extract k s.size) 0 = rn s k := by
  unfold rn; rw [Lib.tail_decode, Nat.add_zero]
/-- Where the first rune stands that may not be there; the end, or more, where there is none. -/
def badFrom (s : ByteArray) : Nat → Nat → Nat
  | 0, k => k
  | f + 1, k => if s.size ≤ k then k else if mayB (rn s k).1 = true then badFrom s f (k + wd s k) else k
def wrong (s : ByteArray) : Nat := badFrom s s.size 0
theorem badFrom_eq (s : ByteArray) : ∀ f g k, s.size - k ≤ f → s.size - k ≤ g → badFrom s f k = badFrom s g k := by
  intro f
  induction f with
  | zero =>
    intro g k h _
    cases g with
    | zero => rfl
    | succ g => rw [badFrom, badFrom, if_pos (by omega)]
  | succ f ih =>
    intro g k h h2
    cases g with
    | zero => rw [badFrom, badFrom, if_pos (by omega)]
    | succ g =>
      rw [badFrom, badFrom]
      by_cases hk : s.size ≤ k
      · rw [if_pos hk, if_pos hk]
      · have hw := wd_bd s k (by omega)
        rw [if_neg hk, if_neg hk]
        split
        · exact ih g _ (by omega) (by omega)
        · rfl
def badAt (s : ByteArray) (k : Nat) : Nat := badFrom s s.size k
theorem badAt_step (s : ByteArray) (k : Nat) (h : k < s.size) (hm : mayB (rn s k).1 = true) : badAt s k = badAt s (k + wd s k) := by
  have hw := wd_bd s k h
  obtain ⟨f, hf⟩ : ∃ f, s.size = f + 1 := ⟨s.size - 1, by omega⟩
  have e : badFrom s s.size k = badFrom s (f + 1) k := badFrom_eq s _ _ k (by omega) (by omega)
  unfold badAt
  rw [e, badFrom, if_neg (by omega), if_pos hm]
  exact badFrom_eq s _ _ _ (by omega) (by omega)
theorem badAt_stop (s : ByteArray) (k : Nat) (h : k < s.size) (hm : ¬ mayB (rn s k).1 = true) : badAt s k = k := by
  obtain ⟨f, hf⟩ : ∃ f, s.size = f + 1 := ⟨s.size - 1, by omega⟩
  have e : badFrom s s.size k = badFrom s (f + 1) k := badFrom_eq s _ _ k (by omega) (by omega)
  unfold badAt
  rw [e, badFrom, if_neg (by omega), if_neg hm]
theorem badAt_end (s : ByteArray) : badAt s s.size = s.size := by
  have e : badFrom s s.size s.size = badFrom s 0 s.size := badFrom_eq s _ _ _ (by omega) (by omega)
  unfold badAt
  rw [e, badFrom]
theorem wrong_at (s : ByteArray) : wrong s = badAt s 0 := rfl

def sbadV (s : ByteArray) : Int := if wrong s < s.size then (wrong s : Int) else -1
set_option maxHeartbeats 1000000 in
theorem sbad (w : World) (s : ByteArray) (hs : s.size ≤ 1048576) : Calls Tryd.prog 80 #[.string s] w fun e w' => e = .returned (.int .i64 (sbadV s)) ∧ w' = w := by
  go_enter Tryd.func80, Tryd.ntmps80
  go_wp2
  go_loop [3] (fun i => ∃ k : Nat, k ≤ s.size ∧ i = .int .i64 k ∧ wrong s = badAt s k) (fun i => s.size - (intOf i).toNat)
  case atStart => exact ⟨0, Nat.zero_le _, rfl, rfl⟩
  case round =>
    obtain ⟨k, hk, rfl, hw⟩ := hrel
    have HW : Hid (wrong s = badAt s k) := hw
    clear hw
    by_cases hlt : k < s.size
    · have hwd := wd_bd s k hlt
      have hx1 : 0 < (s.extract k s.size).size := by rw [Lib.tail_size]; omega
      have hx2 : (s.extract k s.size).size ≤ 1048576 := by rw [Lib.tail_size]; omega
      have HR := rn_tail s k
      have HD := rn_wd s k
      by_cases hm : mayB (rn s k).1 = true
      · have HS : Hid (badAt s k = badAt s (k + wd s k)) := badAt_step s k hlt hm
        go_wp2_with (first | (go_at_call 129; refine (srune _ _ hx1 hx2).mono ?_; rw [HR, HD]; rintro e w' ⟨rfl, rfl⟩) | (go_at_call 130; refine (smay _ _).mono ?_; rw [hm]; rintro e w' ⟨rfl, rfl⟩))
        go_round
        case rel => exact ⟨k + wd s k, by omega, by go_num, by rw [HW.out, HS.out]⟩
        case measure => simp [intOf]; omega
      · have hm' : mayB (rn s k).1 = false := by simpa using hm
        have HS : Hid (wrong s = k) := by show wrong s = k; rw [HW.out]; exact badAt_stop s k hlt hm
        clear hm
        go_wp2_with (first | (go_at_call 129; refine (srune _ _ hx1 hx2).mono ?_; rw [HR, HD]; rintro e w' ⟨rfl, rfl⟩) | (go_at_call 130; refine (smay _ _).mono ?_; rw [hm']; rintro e w' ⟨rfl, rfl⟩))
        go_ret
        exact ⟨ret_int (by unfold sbadV; rw [HS.out, if_pos hlt]), rfl⟩
    · have e : k = s.size := by omega
      have HS : Hid (wrong s = s.size) := by show wrong s = s.size; rw [HW.out, e, badAt_end]
      go_wp2
      go_ret
      exact ⟨ret_int (by unfold sbadV; rw [HS.out, if_neg (by omega)]), rfl⟩

theorem decode_valid (s : ByteArray) (k : Nat) : Lib.validRune ((Utf8.decode s k).1 : Int) = true := by
  rw [Lib.decode_at]
  have h0 := UInt8.toNat_lt (s.get! k)
  generalize (s.get! k).toNat = b0 at *
  generalize (s.get! (k + 1)).toNat = b1
  generalize (s.get! (k + 2)).toNat = b2
  generalize (s.get! (k + 3)).toNat = b3
  generalize s.size - k = n
  unfold Lib.decodeN Lib.validRune
  simp only [decide_eq_true_eq]
  repeat' split
  all_goals (simp only; omega)
theorem igoodRune (w : World) (c : Int) (hv : Lib.validRune c = true) : Calls Tryd.prog 197 #[.int .i32 c] w fun e w' => e = .returned (.bool (mayB c)) ∧ w' = w := by
  go_enter Tryd.func197, Tryd.ntmps197
  go_wp2_with (go_at_call 179; refine (Tryd.utf8_ValidRune _ _).mono ?_; rw [hv]; rintro e w' ⟨rfl, rfl⟩)
  all_goals
    go_ret
    exact ⟨ret_bool (by rw [Bool.eq_iff_iff]; simp [mayB]; omega), rfl⟩

set_option maxHeartbeats 1000000 in
theorem iwrong (w : World) (s : ByteArray) (hs : s.size ≤ 1048576) (ht : Tb w) : Calls Tryd.prog 167 #[.string s] w fun e w' => e = .returned (.int .i64 (wrong s)) ∧ Nw w w' := by
  have HT : Hid (Tb w) := ht
  clear ht
  go_enter Tryd.func167, Tryd.ntmps167
  go_wp2
  go_loopw [3] (fun i wr => ∃ k : Nat, k ≤ s.size ∧ i = .int .i64 k ∧ wrong s = badAt s k ∧ Nw w wr) (fun i _ => s.size - (intOf i).toNat)
  case atStart => exact ⟨0, Nat.zero_le _, rfl, rfl, Below.refl _ _⟩
  case round =>
    obtain ⟨k, hk, rfl, hw, hnw⟩ := hrel
    have HW : Hid (wrong s = badAt s k) := hw
    have HN : Hid (Nw w wr) := hnw
    clear hw hnw
    by_cases hlt : k < s.size
    · have hwd := wd_bd s k hlt
      have HG : Lib.decodeGo (s.extract k s.size) = Utf8.decode s k := by
        unfold Lib.decodeGo
        rw [if_neg (by rw [Lib.tail_size]; omega), Lib.tail_decode, Nat.add_zero]
      have hv := decode_valid s k
      have hle : (Utf8.decode s k).1 ≤ 1114111 := Lib.rune_le s k
      have hrn : rn s k = if (Utf8.decode s k).1 = 65533 ∧ (Utf8.decode s k).2 = 1 then (-1, 1) else (((Utf8.decode s k).1 : Int), ((Utf8.decode s k).2 : Int)) := rfl
      by_cases hm : mayB (rn s k).1 = true
      · have HS : Hid (badAt s k = badAt s (k + wd s k)) := badAt_step s k hlt hm
        by_cases hc : (Utf8.decode s k).1 = 65533 ∧ (Utf8.decode s k).2 = 1
        · rw [hrn, if_pos hc] at hm; simp [mayB] at hm
        · rw [hrn, if_neg hc] at hm
          simp only at hm
          clear hrn
          unfold wd at *
          generalize Utf8.decode s k = d at *
          obtain ⟨c, n⟩ := d
          simp only at *
          have hcc : ((c : Int) == 65533) = false ∨ (((c : Int) == 65533) = true ∧ ((n : Int) == 1) = false) := by
            by_cases e : c = 65533
            · right; exact ⟨by simp [e], by simp; omega⟩
            · left; simp; omega
          clear hc
          rcases hcc with e1 | ⟨e1, e2⟩
          all_goals
            go_wp2_with (first | (go_at_call 186; refine (Tryd.utf8_DecodeRuneInString _ _ (HT.out.nw HN.out)).mono ?_; rw [HG]; rintro e w' ⟨rfl, k1⟩) | (go_at_call 197; refine (igoodRune _ _ hv).mono ?_; rw [hm]; rintro e w' ⟨rfl, rfl⟩))
            go_roundw
            case rel => exact ⟨k + n, by omega, by go_num, by rw [HW.out, HS.out], HN.out.trans k1⟩
            case measure => simp [intOf]; omega
      · have HS : Hid (wrong s = k) := by show wrong s = k; rw [HW.out]; exact badAt_stop s k hlt hm
        by_cases hc : (Utf8.decode s k).1 = 65533 ∧ (Utf8.decode s k).2 = 1
        · obtain ⟨c1, c2⟩ := hc
          have HG2 : Lib.decodeGo (s.extract k s.size) = (65533, 1) := by rw [HG]; exact Prod.ext c1 c2
          clear hrn HG c1 c2 hv hle hm
          go_wp2_with (go_at_call 186; refine (Tryd.utf8_DecodeRuneInString _ _ (HT.out.nw HN.out)).mono ?_; rw [HG2]; rintro e w' ⟨rfl, k1⟩)
          go_ret
          exact ⟨ret_int (by rw [HS.out]), HN.out.trans k1⟩
        · rw [hrn, if_neg hc] at hm
          simp only at hm
          clear hrn
          unfold wd at *
          generalize Utf8.decode s k = d at *
          obtain ⟨c, n⟩ := d
          simp only at *
          have hm' : mayB (c : Int) = false := by simpa using hm
          have e1 : ((c : Int) == 65533) = false := by
            have : c ≠ 65533 := by rintro rfl; simp [mayB] at hm'
            simp; omega
          clear hc hm
          go_wp2_with (first | (go_at_call 186; refine (Tryd.utf8_DecodeRuneInString _ _ (HT.out.nw HN.out)).mono ?_; rw [HG]; rintro e w' ⟨rfl, k1⟩) | (go_at_call 197; refine (igoodRune _ _ hv).mono ?_; rw [hm']; rintro e w' ⟨rfl, rfl⟩))
          go_ret
          exact ⟨ret_int (by rw [HS.out]), HN.out.trans k1⟩
    · have e : k = s.size := by omega
      have HS : Hid (wrong s = s.size) := by show wrong s = s.size; rw [HW.out, e, badAt_end]
      go_wp2
      go_ret
      exact ⟨ret_int (by rw [HS.out, e]), HN.out⟩

def runesB (s : ByteArray) : Bool := decide (wrong s = s.size)
theorem wrong_le (s : ByteArray) : wrong s ≤ s.size := by
  have h : ∀ f k, k ≤ s.size → badFrom s f k ≤ s.size := by
    intro f
    induction f with
    | zero => intro k h; exact h
    | succ f ih =>
      intro k h
      rw [badFrom]
      split
      · omega
      · rename_i hk
        have hw := wd_bd s k (by omega)
        split
        · exact ih _ (by omega)
        · omega
  exact h _ _ (Nat.zero_le _)
theorem sbad_ge (s : ByteArray) : decide (0 ≤ sbadV s) = !runesB s := by
  have := wrong_le s
  unfold sbadV runesB
  by_cases h : wrong s < s.size
  · rw [if_pos h]; simp; omega
  · rw [if_neg h]; simp; omega
theorem igood (w : World) (s : ByteArray) (hs : s.size ≤ 1048576) (ht : Tb w) : Calls Tryd.prog 134 #[.string s] w fun e w' => e = .returned (.bool (runesB s)) ∧ Nw w w' := by
  go_enter Tryd.func134, Tryd.ntmps134
  go_wp2_with (go_at_call 167; refine (iwrong _ _ hs ht).mono ?_; rintro e w' ⟨rfl, k1⟩)
  all_goals
    go_ret
    exact ⟨ret_bool (by rw [Bool.eq_iff_iff]; simp [runesB]; try omega), k1⟩
end Go.Proofs.YtgjnemmkpbkfhaaDoor

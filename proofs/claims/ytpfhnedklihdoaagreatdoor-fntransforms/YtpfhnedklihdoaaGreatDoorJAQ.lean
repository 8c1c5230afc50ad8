/-
  Texts that are empty or not; each theorem names its conditions.
  A text cut at a byte, pure; each theorem names its conditions.
  The first byte of the rest of a text; each theorem names its conditions.
  The specification looks for a byte in a text; each theorem names its conditions.
-/
import Derived.Test.YtpfhnedklihdoaaGreatDoorJAA
import Derived.Lib.SlBytesRow
namespace Go.Proofs.YtpfhnedklihdoaaGreatDoor
open Go.ChangeShapes Go.WideShapes Go.ChangeAt Go.RowKit
set_option linter.unusedVariables false

theorem size_toList (s : ByteArray) : s.toList.length = s.size := by rw [ByteArray.toList_eq]; exact Array.length_toList
theorem ne_nil {s : ByteArray} (h : 0 < s.size) : ¬ s.toList = [] := by
  intro e; have := size_toList s; rw [e] at this; simp at this; omega
theorem ne_emp {s : ByteArray} (h : 0 < s.size) : s.toList.isEmpty = false := by
  have := ne_nil h
  cases hl : s.toList with
  | nil => exact absurd hl this
  | cons => rfl
theorem empty_of {s : ByteArray} (h : s.size = 0) : s = ⟨#[]⟩ := ByteArray.ext (Array.eq_empty_of_size_eq_zero h)
end Go.Proofs.YtpfhnedklihdoaaGreatDoor
namespace Go.Proofs.YtpfhnedklihdoaaGreatDoor
open Go.ChangeShapes Go.WideShapes Go.ChangeAt Go.RowKit
set_option linter.unusedVariables false

theorem data_len (s : ByteArray) : s.data.toList.length = s.size := by show _ = s.data.size; simp
/-! ### A text cut at a byte -/
def brk (c : UInt8) (l : List UInt8) : Nat := (l.takeWhile fun b => b != c).length
theorem brk_cons (c b : UInt8) (l : List UInt8) : brk c (b :: l) = if b = c then 0 else brk c l + 1 := by
  unfold brk
  rw [List.takeWhile_cons]
  by_cases h : b = c
  · simp [h]
  · simp [h]
theorem brk_le (c : UInt8) : ∀ l, brk c l ≤ l.length := fun l => (List.takeWhile_sublist _).length_le
theorem brk_at (c : UInt8) : ∀ (l : List UInt8) (h : brk c l < l.length), l[brk c l] = c := by
  intro l
  induction l with
  | nil => intro h; simp at h
  | cons b l ih =>
    intro h
    by_cases hb : b = c
    · subst hb
      have e : brk b (b :: l) = 0 := by rw [brk_cons, if_pos rfl]
      simp [e]
    · have e : brk c (b :: l) = brk c l + 1 := by rw [brk_cons, if_neg hb]
      simp only [e] at h ⊢
      rw [List.getElem_cons_succ]
      exact ih (by simpa using h)
theorem brk_before (c : UInt8) : ∀ (l : List UInt8) (i : Nat) (h : i < l.length), i < brk c l → l[i] ≠ c := by
  intro l
  induction l with
  | nil => intro i h; simp at h
  | cons b l ih =>
    intro i h hi
    rw [brk_cons] at hi
    split at hi
    · omega
    · rename_i hb
      cases i with
      | zero => exact hb
      | succ i => rw [List.getElem_cons_succ]; exact ih i (by simpa using h) (by omega)
end Go.Proofs.YtpfhnedklihdoaaGreatDoor
namespace Go.Proofs.YtpfhnedklihdoaaGreatDoor
open Go.ChangeShapes Go.WideShapes Go.ChangeAt Go.RowKit
set_option linter.unusedVariables false

theorem hd_byte (s : ByteArray) (k : Nat) (h : k < s.size) : s.data.toList.drop k = s[k] :: s.data.toList.drop (k + 1) := by
  have h1 : k < s.data.toList.length := by rw [data_len]; exact h
  rw [List.drop_eq_getElem_cons h1]
  rfl
theorem hd_none (s : ByteArray) (k : Nat) (h : ¬ k < s.size) : s.data.toList.drop k = [] := List.drop_eq_nil_of_le (by rw [data_len]; omega)
end Go.Proofs.YtpfhnedklihdoaaGreatDoor
namespace Go.Proofs.YtpfhnedklihdoaaGreatDoor
open Go.ChangeShapes Go.WideShapes Go.ChangeAt Go.RowKit
set_option linter.unusedVariables false

/-- Where a byte stands from a place on. -/
def fndB (c : UInt8) (s : ByteArray) (k : Nat) : Nat := k + brk c (s.data.toList.drop k)
theorem fndB_hit {c : UInt8} {s : ByteArray} {k : Nat} (h : k < s.size) (hc : s[k] = c) : fndB c s k = k := by
  unfold fndB
  rw [hd_byte s k h, brk_cons, if_pos hc]; rfl
theorem fndB_miss {c : UInt8} {s : ByteArray} {k : Nat} (h : k < s.size) (hc : s[k] ≠ c) : fndB c s k = fndB c s (k + 1) := by
  unfold fndB
  rw [hd_byte s k h, brk_cons, if_neg hc]; omega
theorem fndB_end {c : UInt8} {s : ByteArray} {k : Nat} (h : ¬ k < s.size) : fndB c s k = k := by
  unfold fndB
  rw [hd_none s k h]; rfl
theorem fndB_le {c : UInt8} {s : ByteArray} {k : Nat} (h : k ≤ s.size) : fndB c s k ≤ s.size := by
  have := brk_le c (s.data.toList.drop k)
  rw [List.length_drop, data_len] at this
  unfold fndB; omega
theorem byte_nne {b c : UInt8} (h : b ≠ c) : ((b.toNat : Int) != (c.toNat : Int)) = true := by
  rw [bne_iff_ne]
  intro e
  exact h (UInt8.toNat_inj.1 (by omega))
theorem byte_nee {b c : UInt8} (h : b = c) : ((b.toNat : Int) != (c.toNat : Int)) = false := by rw [h]; simp
set_option maxHeartbeats 4000000 in
theorem sfind (s : ByteArray) (c : UInt8) (n : Nat) (w : World) (hn : n ≤ s.size) (hs : s.size ≤ 1048576) :
    Calls Tryz.prog 70 #[.string s, .int .i64 (n : Int), .int .u8 (c.toNat : Int)] w fun e w' => e = .returned (.int .i64 (fndB c s n : Nat)) ∧ w' = w := by
  go_enter Tryz.func70, Tryz.ntmps70
  go_wp2
  go_loop [1] (fun v => ∃ k : Nat, v = .int .i64 (k : Int) ∧ k ≤ s.size ∧ fndB c s n = fndB c s k) (fun v => s.size - (intOf v).toNat)
  case atStart => exact ⟨n, rfl, hn, rfl⟩
  case round =>
    obtain ⟨k, rfl, hk, hf⟩ := hrel
    by_cases hlt : k < s.size
    · have hltI : (k : Int) < (s.size : Int) := by omega
      by_cases hc : s[k] = c
      · have g1 := byte_nee hc
        have HE : Hid (fndB c s n = k) := by show _ = _; rw [hf, fndB_hit hlt hc]
        clear hf hc
        go_wp2
        go_ret
        exact ⟨by rw [HE.out]; rfl, rfl⟩
      · have g1 := byte_nne hc
        have HE : Hid (fndB c s n = fndB c s (k + 1)) := by show _ = _; rw [hf, fndB_miss hlt hc]
        clear hf hc
        go_wp2
        go_round
        case rel => exact ⟨k + 1, by go_num, by omega, HE.out⟩
        case measure => simp [intOf]; omega
    · have hltI : ¬ ((k : Int) < (s.size : Int)) := by omega
      have HE : Hid (fndB c s n = k) := by show _ = _; rw [hf, fndB_end hlt]
      clear hf
      go_wp2
      go_ret
      exact ⟨by rw [HE.out]; rfl, rfl⟩
end Go.Proofs.YtpfhnedklihdoaaGreatDoor

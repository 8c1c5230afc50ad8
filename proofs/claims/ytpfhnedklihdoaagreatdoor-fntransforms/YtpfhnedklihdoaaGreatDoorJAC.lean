/-
  What the program's allDigits and numberOf answer, for texts within the bounds named in each theorem.
  What the program's signAhead answers, for texts of at most 1048576 bytes.
  What the library's Cut answers at a point, for texts of at most 1048576 bytes.
  What the program's quotient rounded down is, for the numbers within the bounds named in its theorem.
-/
import Derived.Test.YtpfhnedklihdoaaGreatDoorJAA
import Derived.Test.YtpfhnedklihdoaaGreatDoorJAB
import Derived.Lib.Strings
import Derived.Lib.IndexBytes
import Derived.Laws.Externs
namespace Go.Proofs.YtpfhnedklihdoaaGreatDoor
open Go.ChangeShapes Go.WideShapes Go.ChangeAt Go.RowKit

/-- Digits alone. -/
def allD (l : List UInt8) : Bool := l.all isD

theorem all_snoc (s : ByteArray) (k : Nat) (h : k < s.size) : (s.data.toList.take (k + 1)).all isD = ((s.data.toList.take k).all isD && isD s[k]) := by
  rw [take_snoc s k h, List.all_append]; simp
theorem allD_false (s : ByteArray) (k : Nat) (h : k < s.size) (hd : isD s[k] = false) : s.data.toList.all isD = false := by
  rw [List.all_eq_false]
  exact ⟨s[k], by rw [show s[k] = s.data.toList[k] from rfl]; exact List.getElem_mem _, by simp [hd]⟩

set_option maxHeartbeats 400000 in
theorem allDigits_any (s : ByteArray) (w : World) (hs : s.size ≤ maxLen) :
    Calls Tryz.prog 61 #[.string s] w fun e w' => e = .returned (.bool (allD s.data.toList)) ∧ w' = w := by
  unfold maxLen at hs
  go_enter Tryz.func61, Tryz.ntmps61
  go_wp2
  go_loop [6] (fun i => ∃ k : Nat, k ≤ s.size ∧ i = .int .i64 k ∧ (s.data.toList.take k).all isD = true) (fun i => s.size - (intOf i).toNat)
  case atStart => exact ⟨0, Nat.zero_le _, rfl, rfl⟩
  case round =>
    obtain ⟨k, hk, rfl, ha⟩ := hrel
    have HA : Hid _ := ha
    clear ha
    by_cases hlt : k < s.size
    · by_cases h1 : 48 ≤ (s[k].toNat : Int)
      · by_cases h2 : (s[k].toNat : Int) ≤ 57
        · go_wp2
          go_round
          case rel => exact ⟨k + 1, by omega, by go_num, by rw [all_snoc s k hlt, HA.out, (isD_iff _).2 ⟨h1, h2⟩]; rfl⟩
          case measure => simp [intOf]; omega
        · have HF : Hid (allD s.data.toList = false) := allD_false s k hlt (by rw [Bool.eq_false_iff]; intro h; exact h2 ((isD_iff _).1 h).2)
          go_wp2
          go_ret
          exact ⟨by rw [HF.out]; rfl, rfl⟩
      · have HF : Hid (allD s.data.toList = false) := allD_false s k hlt (by rw [Bool.eq_false_iff]; intro h; exact h1 ((isD_iff _).1 h).1)
        go_wp2
        go_ret
        exact ⟨by rw [HF.out]; rfl, rfl⟩
    · have HT : Hid (allD s.data.toList = true) := by
        have := HA.out; rw [List.take_of_length_le (by simp; omega)] at this; exact this
      go_wp2
      go_ret
      exact ⟨by rw [HT.out]; rfl, rfl⟩

theorem num_take (s : ByteArray) (k : Nat) (h : k < s.size) : num (s.data.toList.take (k + 1)) = num (s.data.toList.take k) * 10 + ((s[k].toNat : Int) - 48) := by
  rw [take_snoc s k h, num_snoc]
theorem dig_at (s : ByteArray) (ha : allD s.data.toList = true) (k : Nat) (h : k < s.size) : 48 ≤ (s[k].toNat : Int) ∧ (s[k].toNat : Int) ≤ 57 := by
  have h1 := List.all_eq_true.1 ha s[k] (by rw [show s[k] = s.data.toList[k] from rfl]; exact List.getElem_mem _)
  exact (isD_iff _).1 h1
theorem num_take_bd (s : ByteArray) (ha : allD s.data.toList = true) (k : Nat) (h14 : k ≤ 15) : 0 ≤ num (s.data.toList.take k) ∧ num (s.data.toList.take k) < 1000000000000000 := by
  have h1 := num_bd (s.data.toList.take k) (by rw [List.all_eq_true]; intro x hx; exact List.all_eq_true.1 ha x (List.mem_of_mem_take hx))
  have h2 : (s.data.toList.take k).length ≤ 15 := by rw [List.length_take]; omega
  have h3 : (10 : Int) ^ (s.data.toList.take k).length ≤ 10 ^ 15 := by
    have := Nat.pow_le_pow_right (n := 10) (by omega) h2
    exact_mod_cast this
  omega

set_option maxHeartbeats 400000 in
theorem numberOf_any (s : ByteArray) (w : World) (hs : s.size ≤ 14) (ha : allD s.data.toList = true) :
    Calls Tryz.prog 62 #[.string s] w fun e w' => e = .returned (.int .i64 (num s.data.toList)) ∧ w' = w := by
  have HA : Hid _ := ha
  clear ha
  go_enter Tryz.func62, Tryz.ntmps62
  go_wp2
  go_loop [3, 7] (fun n i => ∃ k : Nat, k ≤ s.size ∧ i = .int .i64 k ∧ n = .int .i64 (num (s.data.toList.take k))) (fun _ i => s.size - (intOf i).toNat)
  case atStart => exact ⟨0, Nat.zero_le _, rfl, rfl⟩
  case round =>
    obtain ⟨k, hk, rfl, rfl⟩ := hrel
    by_cases hlt : k < s.size
    · obtain ⟨d1, d2⟩ := dig_at s HA.out k hlt
      obtain ⟨b1, b2⟩ := num_take_bd s HA.out k (by omega)
      have HS : Hid _ := num_take s k hlt
      generalize num (s.data.toList.take k) = n at *
      go_wp2
      go_round
      case rel => exact ⟨k + 1, by omega, by go_num, by rw [HS.out]⟩
      case measure => simp [intOf]; omega
    · have HT : Hid (num (s.data.toList.take k) = num s.data.toList) := by
        show _ = _; rw [List.take_of_length_le (by simp; omega)]
      go_wp2
      go_ret
      exact ⟨ret_int HT.out, rfl⟩
end Go.Proofs.YtpfhnedklihdoaaGreatDoor
namespace Go.Proofs.YtpfhnedklihdoaaGreatDoor
open Go.ChangeShapes Go.WideShapes Go.ChangeAt Go.RowKit

theorem head_eq (s : ByteArray) (c : UInt8) (h : 1 ≤ s.size) : ((s.extract 0 1).toList == [c]) = decide (s.data.toList.head? = some c) := by
  rw [Lib.toList_data, Lib.extract_data]
  have : s.data.toList.length = s.size := by simp
  match hl : s.data.toList with
  | [] => rw [hl] at this; simp at this; omega
  | x :: t => by_cases e : x = c <;> simp [e]

set_option maxHeartbeats 400000 in
theorem hp_yes (s : ByteArray) (c : UInt8) (w : World) (hs : s.size ≤ 1048576) (h1 : 1 ≤ s.size) (h : s.data.toList.head? = some c) :
    Calls Tryz.prog 94 #[.string s, .string ⟨#[c]⟩] w fun e w' => e = .returned (.bool true) ∧ w' = w := by
  have e : ((s.extract 0 1).toList == [c]) = true := by rw [head_eq s c h1, h]; simp
  clear h
  go_enter Tryz.func94, Tryz.ntmps94
  go_wp2
  go_ret
  exact ⟨rfl, rfl⟩
set_option maxHeartbeats 400000 in
theorem hp_no (s : ByteArray) (c : UInt8) (w : World) (hs : s.size ≤ 1048576) (h : s.data.toList.head? ≠ some c) :
    Calls Tryz.prog 94 #[.string s, .string ⟨#[c]⟩] w fun e w' => e = .returned (.bool false) ∧ w' = w := by
  by_cases h1 : 1 ≤ s.size
  · have e : ((s.extract 0 1).toList == [c]) = false := by rw [head_eq s c h1]; simp [h]
    clear h
    go_enter Tryz.func94, Tryz.ntmps94
    go_wp2
    go_ret
    exact ⟨rfl, rfl⟩
  · clear h
    go_enter Tryz.func94, Tryz.ntmps94
    go_wp2
    go_ret
    exact ⟨rfl, rfl⟩

theorem has_yes (s : ByteArray) (c : UInt8) (w : World) (hs : s.size ≤ 1048576) (h1 : 1 ≤ s.size) (h : s.data.toList.head? = some c) :
    Calls Tryz.prog 81 #[.string s, .string ⟨#[c]⟩] w fun e w' => e = .returned (.bool true) ∧ w' = w := by
  have H : Hid _ := h
  clear h
  go_enter Tryz.func81, Tryz.ntmps81
  go_wp2_with (go_at_call 94; refine (hp_yes s c _ hs h1 H.out).mono ?_; rintro e w' ⟨rfl, rfl⟩)
  go_ret
  exact ⟨rfl, rfl⟩
theorem has_no (s : ByteArray) (c : UInt8) (w : World) (hs : s.size ≤ 1048576) (h : s.data.toList.head? ≠ some c) :
    Calls Tryz.prog 81 #[.string s, .string ⟨#[c]⟩] w fun e w' => e = .returned (.bool false) ∧ w' = w := by
  have H : Hid _ := h
  clear h
  go_enter Tryz.func81, Tryz.ntmps81
  go_wp2_with (go_at_call 94; refine (hp_no s c _ hs H.out).mono ?_; rintro e w' ⟨rfl, rfl⟩)
  go_ret
  exact ⟨rfl, rfl⟩
theorem tp_yes (s : ByteArray) (c : UInt8) (w : World) (hs : s.size ≤ 1048576) (h1 : 1 ≤ s.size) (h : s.data.toList.head? = some c) :
    Calls Tryz.prog 95 #[.string s, .string ⟨#[c]⟩] w fun e w' => e = .returned (.string (s.extract 1 s.size)) ∧ w' = w := by
  have H : Hid _ := h
  clear h
  go_enter Tryz.func95, Tryz.ntmps95
  go_wp2_with (go_at_call 94; refine (hp_yes s c _ hs h1 H.out).mono ?_; rintro e w' ⟨rfl, rfl⟩)
  go_ret
  exact ⟨rfl, rfl⟩
theorem tp_no (s : ByteArray) (c : UInt8) (w : World) (hs : s.size ≤ 1048576) (h : s.data.toList.head? ≠ some c) :
    Calls Tryz.prog 95 #[.string s, .string ⟨#[c]⟩] w fun e w' => e = .returned (.string s) ∧ w' = w := by
  have H : Hid _ := h
  clear h
  go_enter Tryz.func95, Tryz.ntmps95
  go_wp2_with (go_at_call 94; refine (hp_no s c _ hs H.out).mono ?_; rintro e w' ⟨rfl, rfl⟩)
  go_ret
  exact ⟨rfl, rfl⟩
theorem trim_yes (s : ByteArray) (c : UInt8) (w : World) (hs : s.size ≤ 1048576) (h1 : 1 ≤ s.size) (h : s.data.toList.head? = some c) :
    Calls Tryz.prog 82 #[.string s, .string ⟨#[c]⟩] w fun e w' => e = .returned (.string (s.extract 1 s.size)) ∧ w' = w := by
  have H : Hid _ := h
  clear h
  go_enter Tryz.func82, Tryz.ntmps82
  go_wp2_with (go_at_call 95; refine (tp_yes s c _ hs h1 H.out).mono ?_; rintro e w' ⟨rfl, rfl⟩)
  go_ret
  exact ⟨rfl, rfl⟩
theorem trim_no (s : ByteArray) (c : UInt8) (w : World) (hs : s.size ≤ 1048576) (h : s.data.toList.head? ≠ some c) :
    Calls Tryz.prog 82 #[.string s, .string ⟨#[c]⟩] w fun e w' => e = .returned (.string s) ∧ w' = w := by
  have H : Hid _ := h
  clear h
  go_enter Tryz.func82, Tryz.ntmps82
  go_wp2_with (go_at_call 95; refine (tp_no s c _ hs H.out).mono ?_; rintro e w' ⟨rfl, rfl⟩)
  go_ret
  exact ⟨rfl, rfl⟩

set_option maxHeartbeats 400000 in
theorem sign_minus (s : ByteArray) (w : World) (hs : s.size ≤ 1048576) (h1 : 1 ≤ s.size) (h : s.data.toList.head? = some 45) :
    Calls Tryz.prog 59 #[.string s] w fun e w' => e = .returned (.tuple #[.int .i64 (-1), .string (s.extract 1 s.size)]) ∧ Kp w w' := by
  have H : Hid _ := h
  clear h
  go_enter Tryz.func59, Tryz.ntmps59
  go_wp2_with fail
  refine (has_yes s 45 _ hs h1 H.out).mono ?_; rintro e w' ⟨rfl, rfl⟩
  go_wp2
  go_region
  all_goals go_wp2
  all_goals go_ret2
  all_goals exact ⟨rfl, (Kp.refl _).drew⟩

set_option maxHeartbeats 400000 in
theorem sign_plus (s : ByteArray) (w : World) (hs : s.size ≤ 1048576) (h1 : 1 ≤ s.size) (h : s.data.toList.head? = some 43) :
    Calls Tryz.prog 59 #[.string s] w fun e w' => e = .returned (.tuple #[.int .i64 1, .string (s.extract 1 s.size)]) ∧ Kp w w' := by
  have h45 : s.data.toList.head? ≠ some 45 := by rw [h]; decide
  have H : Hid _ := h
  have H2 : Hid _ := h45
  clear h h45
  go_enter Tryz.func59, Tryz.ntmps59
  go_wp2_with fail
  refine (has_no s 45 _ hs H2.out).mono ?_; rintro e w' ⟨rfl, rfl⟩
  go_wp2_with fail
  refine (trim_yes s 43 _ hs h1 H.out).mono ?_; rintro e w' ⟨rfl, rfl⟩
  go_wp2
  go_ret2
  exact ⟨rfl, Kp.refl _⟩
set_option maxHeartbeats 400000 in
theorem sign_none (s : ByteArray) (w : World) (hs : s.size ≤ 1048576) (h1 : s.data.toList.head? ≠ some 45) (h2 : s.data.toList.head? ≠ some 43) :
    Calls Tryz.prog 59 #[.string s] w fun e w' => e = .returned (.tuple #[.int .i64 1, .string s]) ∧ Kp w w' := by
  have H : Hid _ := h1
  have H2 : Hid _ := h2
  clear h1 h2
  go_enter Tryz.func59, Tryz.ntmps59
  go_wp2_with fail
  refine (has_no s 45 _ hs H.out).mono ?_; rintro e w' ⟨rfl, rfl⟩
  go_wp2_with fail
  refine (trim_no s 43 _ hs H2.out).mono ?_; rintro e w' ⟨rfl, rfl⟩
  go_wp2
  go_ret2
  exact ⟨rfl, Kp.refl _⟩
end Go.Proofs.YtpfhnedklihdoaaGreatDoor
namespace Go.Proofs.YtpfhnedklihdoaaGreatDoor
open Go.ChangeShapes Go.WideShapes Go.ChangeAt Go.RowKit

theorem ixs (s : ByteArray) (c : UInt8) (w : World) : (callFunc 105 #[.string s, .int .u8 (c.toNat : Int)]).run Tryz.prog w = .ok (.value (.int .i64 (firstIdx s c))) w := by
  rw [run_callFunc_extern Tryz.func105 (by kernel_rfl) (by kernel_rfl) (by kernel_rfl) (e := Extern.BytealgIndexByte.indexByte) (by kernel_rfl), run_indexByte_string]
  simp [Result.andThen]

set_option maxHeartbeats 400000 in
theorem ib_any (s : ByteArray) (w : World) :
    Calls Tryz.prog 103 #[.string s, .int .u8 46] w fun e w' => e = .returned (.int .i64 (firstIdx s 46)) ∧ w' = w := by
  have H : Hid _ := ixs s 46
  go_enter Tryz.func103, Tryz.ntmps103
  go_wp2_with (simp only [show (46 : Int) = ((46 : UInt8).toNat : Int) from rfl, H.out])
  go_ret
  exact ⟨rfl, rfl⟩

theorem bang (s : ByteArray) (i : Nat) (h : i < s.size) : s[i]! = s.data.toList[i]'(by simpa using h) := by
  rw [getElem!_pos s i h]; rfl

theorem idx_some (s : ByteArray) (a b : List UInt8) (c : UInt8) (h : s.data.toList = a ++ c :: b) (ha : ∀ x ∈ a, x ≠ c) : firstIdx s c = a.length := by
  have hsz : s.size = a.length + (b.length + 1) := by have := congrArg List.length h; simpa using this
  unfold firstIdx
  have e : (List.range s.size).find? (fun i => s[i]! == c) = some a.length := by
    rw [List.find?_range_eq_some]
    refine ⟨?_, by simp; omega, ?_⟩
    · rw [bang s _ (by omega)]; simp [h]
    · intro j hj
      rw [bang s _ (by omega)]
      have : s.data.toList[j]'(by simp; omega) = a[j] := by simp [h, List.getElem_append_left hj]
      rw [this]
      simp only [Bool.not_eq_true', beq_eq_false_iff_ne]
      exact ha _ (List.getElem_mem _)
  rw [e]
theorem idx_none (s : ByteArray) (c : UInt8) (h : ∀ x ∈ s.data.toList, x ≠ c) : firstIdx s c = -1 := by
  unfold firstIdx
  have e : (List.range s.size).find? (fun i => s[i]! == c) = none := by
    rw [List.find?_eq_none]
    intro i hi
    have hi' : i < s.size := by simpa using hi
    rw [bang s _ hi']
    simp only [beq_iff_eq]
    exact h _ (List.getElem_mem _)
  rw [e]

set_option maxHeartbeats 1000000 in
theorem index_any (s : ByteArray) (w : World) :
    Calls Tryz.prog 96 #[.string s, .string ⟨#[46]⟩] w fun e w' => e = .returned (.int .i64 (firstIdx s 46)) ∧ w' = w := by
  by_cases he : ([46] == s.toList) = true
  · have HZ : Hid (firstIdx s 46 = 0) := by
      have h1 : s.data.toList = [] ++ 46 :: [] := by rw [← Lib.toList_data]; exact (beq_iff_eq.1 he).symm
      exact idx_some s [] [] 46 h1 (by simp)
    go_enter Tryz.func96, Tryz.ntmps96
    go_wp2_with (go_at_call 103; fail)
    go_ret
    exact ⟨ret_int HZ.out.symm, rfl⟩
  · have hf : ([46] == s.toList) = false := by simpa using he
    clear he
    go_enter Tryz.func96, Tryz.ntmps96
    go_wp2_with (go_at_call 103; refine (ib_any s _).mono ?_; rintro e w' ⟨rfl, rfl⟩)
    go_ret
    exact ⟨rfl, rfl⟩

set_option maxHeartbeats 1000000 in
theorem scut_yes (s : ByteArray) (k : Nat) (w : World) (hs : s.size ≤ 1048576) (hk : k < s.size) (h : firstIdx s 46 = k) :
    Calls Tryz.prog 83 #[.string s, .string ⟨#[46]⟩] w fun e w' => e = .returned (.tuple #[.string (s.extract 0 k), .string (s.extract (k + 1) s.size), .bool true]) ∧ Kp w w' := by
  have H : Hid _ := h
  clear h
  go_enter Tryz.func83, Tryz.ntmps83
  go_wp2_with fail
  refine (index_any s _).mono ?_; rintro e w' ⟨rfl, rfl⟩
  rw [H.out]
  go_wp2
  go_region
  all_goals go_wp2
  all_goals go_ret3
  all_goals exact ⟨rfl, (Kp.refl _).drew⟩
set_option maxHeartbeats 1000000 in
theorem scut_no (s : ByteArray) (w : World) (h : firstIdx s 46 = -1) :
    Calls Tryz.prog 83 #[.string s, .string ⟨#[46]⟩] w fun e w' => e = .returned (.tuple #[.string s, .string ⟨#[]⟩, .bool false]) ∧ Kp w w' := by
  have H : Hid _ := h
  clear h
  go_enter Tryz.func83, Tryz.ntmps83
  go_wp2_with fail
  refine (index_any s _).mono ?_; rintro e w' ⟨rfl, rfl⟩
  rw [H.out]
  go_wp2
  all_goals go_ret3
  all_goals exact ⟨rfl, Kp.refl _⟩

set_option maxHeartbeats 1000000 in
theorem cut_yes (s : ByteArray) (k : Nat) (w : World) (hs : s.size ≤ 1048576) (hk : k < s.size) (h : firstIdx s 46 = k) :
    Calls Tryz.prog 60 #[.string s, .string ⟨#[46]⟩] w fun e w' => e = .returned (.tuple #[.string (s.extract 0 k), .string (s.extract (k + 1) s.size), .bool true]) ∧ Kp w w' := by
  have H : Hid _ := h
  clear h
  go_enter Tryz.func60, Tryz.ntmps60
  go_wp2_with fail
  refine (scut_yes s k _ hs hk H.out).mono ?_; rintro e w1 ⟨rfl, hk⟩
  have HK : Hid _ := hk
  clear hk
  go_wp2
  go_ret3
  exact ⟨rfl, HK.out⟩
set_option maxHeartbeats 1000000 in
theorem cut_no (s : ByteArray) (w : World) (h : firstIdx s 46 = -1) :
    Calls Tryz.prog 60 #[.string s, .string ⟨#[46]⟩] w fun e w' => e = .returned (.tuple #[.string s, .string ⟨#[]⟩, .bool false]) ∧ Kp w w' := by
  have H : Hid _ := h
  clear h
  go_enter Tryz.func60, Tryz.ntmps60
  go_wp2_with fail
  refine (scut_no s _ H.out).mono ?_; rintro e w1 ⟨rfl, hk⟩
  have HK : Hid _ := hk
  clear hk
  go_wp2
  go_ret3
  exact ⟨rfl, HK.out⟩
end Go.Proofs.YtpfhnedklihdoaaGreatDoor
namespace Go.Proofs.YtpfhnedklihdoaaGreatDoor
open Go.ChangeShapes Go.WideShapes Go.ChangeAt Go.RowKit

set_option maxHeartbeats 400000 in
theorem divDown_any (a b : Int) (w : World) (hb : 0 < b) (hb' : b ≤ 4611686018427387904) (h1 : -4611686018427387904 ≤ a) (h2 : a ≤ 4611686018427387904) :
    Calls Tryz.prog 84 #[.int .i64 a, .int .i64 b] w fun e w' => e = .returned (.int .i64 (a / b)) ∧ w' = w := by
  by_cases ha : 0 ≤ a
  · have hd := ediv_bd a b ha hb
    have hm := Int.emod_nonneg a (b := b) (by omega)
    have hm' := Int.emod_lt_of_pos a hb
    go_enter Tryz.func84, Tryz.ntmps84
    go_wp2
    all_goals go_ret
    all_goals exact ⟨rfl, rfl⟩
  · have e1 := tdiv_neg_of a b (by omega)
    have e2 := tmod_neg_of a b (by omega)
    have e3 := ediv_neg_of a b hb
    have hd := ediv_bd (-a) b (by omega) hb
    have hm := Int.emod_nonneg (-a) (b := b) (by omega)
    have hm' := Int.emod_lt_of_pos (-a) hb
    by_cases hz : (-a) % b = 0
    · rw [if_pos hz] at e3
      rw [e3]
      clear e3
      generalize (-a) / b = q at *
      generalize (-a) % b = r at *
      go_enter Tryz.func84, Tryz.ntmps84
      go_wp2
      all_goals go_ret
      all_goals exact ⟨rfl, rfl⟩
    · rw [if_neg hz] at e3
      rw [e3]
      clear e3
      generalize (-a) / b = q at *
      generalize (-a) % b = r at *
      go_enter Tryz.func84, Tryz.ntmps84
      go_wp2
      all_goals go_ret
      all_goals exact ⟨rfl, rfl⟩
end Go.Proofs.YtpfhnedklihdoaaGreatDoor

/-
  What the program's signAhead answers, for texts of at most 1048576 bytes.
-/
import Derived.Test.YtfodmjdhpolnkaaDoorRfDigits
import Derived.Lib.Strings
import Derived.Lib.IndexBytes
namespace Go.Proofs.YtfodmjdhpolnkaaDoor
open Go.ChangeShapes Go.WideShapes Go.ChangeAt Go.RowKit

theorem head_eq (s : ByteArray) (c : UInt8) (h : 1 ≤ s.size) : ((s.extract 0 1).toList == [c]) = decide (s.data.toList.head? = some c) := by
  rw [Lib.toList_data, Lib.extract_data]
  have : s.data.toList.length = s.size := by simp
  match hl : s.data.toList with
  | [] => rw [hl] at this; simp at this; omega
  | x :: t => by_cases e : x = c <;> simp [e]

set_option maxHeartbeats 400000 in
theorem hp_yes (s : ByteArray) (c : UInt8) (w : World) (hs : s.size ≤ 1048576) (h1 : 1 ≤ s.size) (h : s.data.toList.head? = some c) :
    Calls Tryd.prog 94 #[.string s, .string ⟨#[c]⟩] w fun e w' => e = .returned (.bool true) ∧ w' = w := by
  have e : ((s.extract 0 1).toList == [c]) = true := by rw [head_eq s c h1, h]; simp
  clear h
  go_enter Tryd.func94, Tryd.ntmps94
  go_wp2
  go_ret
  exact ⟨rfl, rfl⟩
set_option maxHeartbeats 400000 in
theorem hp_no (s : ByteArray) (c : UInt8) (w : World) (hs : s.size ≤ 1048576) (h : s.data.toList.head? ≠ some c) :
    Calls Tryd.prog 94 #[.string s, .string ⟨#[c]⟩] w fun e w' => e = .returned (.bool false) ∧ w' = w := by
  by_cases h1 : 1 ≤ s.size
  · have e : ((s.extract 0 1).toList == [c]) = false := by rw [head_eq s c h1]; simp [h]
    clear h
    go_enter Tryd.func94, Tryd.ntmps94
    go_wp2
    go_ret
    exact ⟨rfl, rfl⟩
  · clear h
    go_enter Tryd.func94, Tryd.ntmps94
    go_wp2
    go_ret
    exact ⟨rfl, rfl⟩

theorem has_yes (s : ByteArray) (c : UInt8) (w : World) (hs : s.size ≤ 1048576) (h1 : 1 ≤ s.size) (h : s.data.toList.head? = some c) :
    Calls Tryd.prog 86 #[.string s, .string ⟨#[c]⟩] w fun e w' => e = .returned (.bool true) ∧ w' = w := by
  have H : Hid _ := h
  clear h
  go_enter Tryd.func86, Tryd.ntmps86
  go_wp2_with (go_at_call 94; refine (hp_yes s c _ hs h1 H.out).mono ?_; rintro e w' ⟨rfl, rfl⟩)
  go_ret
  exact ⟨rfl, rfl⟩
theorem has_no (s : ByteArray) (c : UInt8) (w : World) (hs : s.size ≤ 1048576) (h : s.data.toList.head? ≠ some c) :
    Calls Tryd.prog 86 #[.string s, .string ⟨#[c]⟩] w fun e w' => e = .returned (.bool false) ∧ w' = w := by
  have H : Hid _ := h
  clear h
  go_enter Tryd.func86, Tryd.ntmps86
  go_wp2_with (go_at_call 94; refine (hp_no s c _ hs H.out).mono ?_; rintro e w' ⟨rfl, rfl⟩)
  go_ret
  exact ⟨rfl, rfl⟩
theorem tp_yes (s : ByteArray) (c : UInt8) (w : World) (hs : s.size ≤ 1048576) (h1 : 1 ≤ s.size) (h : s.data.toList.head? = some c) :
    Calls Tryd.prog 108 #[.string s, .string ⟨#[c]⟩] w fun e w' => e = .returned (.string (s.extract 1 s.size)) ∧ w' = w := by
  have H : Hid _ := h
  clear h
  go_enter Tryd.func108, Tryd.ntmps108
  go_wp2_with (go_at_call 94; refine (hp_yes s c _ hs h1 H.out).mono ?_; rintro e w' ⟨rfl, rfl⟩)
  go_ret
  exact ⟨rfl, rfl⟩
theorem tp_no (s : ByteArray) (c : UInt8) (w : World) (hs : s.size ≤ 1048576) (h : s.data.toList.head? ≠ some c) :
    Calls Tryd.prog 108 #[.string s, .string ⟨#[c]⟩] w fun e w' => e = .returned (.string s) ∧ w' = w := by
  have H : Hid _ := h
  clear h
  go_enter Tryd.func108, Tryd.ntmps108
  go_wp2_with (go_at_call 94; refine (hp_no s c _ hs H.out).mono ?_; rintro e w' ⟨rfl, rfl⟩)
  go_ret
  exact ⟨rfl, rfl⟩
theorem trim_yes (s : ByteArray) (c : UInt8) (w : World) (hs : s.size ≤ 1048576) (h1 : 1 ≤ s.size) (h : s.data.toList.head? = some c) :
    Calls Tryd.prog 87 #[.string s, .string ⟨#[c]⟩] w fun e w' => e = .returned (.string (s.extract 1 s.size)) ∧ w' = w := by
  have H : Hid _ := h
  clear h
  go_enter Tryd.func87, Tryd.ntmps87
  go_wp2_with (go_at_call 108; refine (tp_yes s c _ hs h1 H.out).mono ?_; rintro e w' ⟨rfl, rfl⟩)
  go_ret
  exact ⟨rfl, rfl⟩
theorem trim_no (s : ByteArray) (c : UInt8) (w : World) (hs : s.size ≤ 1048576) (h : s.data.toList.head? ≠ some c) :
    Calls Tryd.prog 87 #[.string s, .string ⟨#[c]⟩] w fun e w' => e = .returned (.string s) ∧ w' = w := by
  have H : Hid _ := h
  clear h
  go_enter Tryd.func87, Tryd.ntmps87
  go_wp2_with (go_at_call 108; refine (tp_no s c _ hs H.out).mono ?_; rintro e w' ⟨rfl, rfl⟩)
  go_ret
  exact ⟨rfl, rfl⟩

set_option maxHeartbeats 400000 in
theorem sign_minus (s : ByteArray) (w : World) (hs : s.size ≤ 1048576) (h1 : 1 ≤ s.size) (h : s.data.toList.head? = some 45) :
    Calls Tryd.prog 55 #[.string s] w fun e w' => e = .returned (.tuple #[.int .i64 (-1), .string (s.extract 1 s.size)]) ∧ Kp w w' := by
  have H : Hid _ := h
  clear h
  go_enter Tryd.func55, Tryd.ntmps55
  go_wp2_with fail
  refine (has_yes s 45 _ hs h1 H.out).mono ?_; rintro e w' ⟨rfl, rfl⟩
  go_wp2
  go_region
  all_goals go_wp2
  all_goals go_ret2
  all_goals exact ⟨rfl, (Kp.refl _).drew⟩

set_option maxHeartbeats 400000 in
theorem sign_plus (s : ByteArray) (w : World) (hs : s.size ≤ 1048576) (h1 : 1 ≤ s.size) (h : s.data.toList.head? = some 43) :
    Calls Tryd.prog 55 #[.string s] w fun e w' => e = .returned (.tuple #[.int .i64 1, .string (s.extract 1 s.size)]) ∧ Kp w w' := by
  have h45 : s.data.toList.head? ≠ some 45 := by rw [h]; decide
  have H : Hid _ := h
  have H2 : Hid _ := h45
  clear h h45
  go_enter Tryd.func55, Tryd.ntmps55
  go_wp2_with fail
  refine (has_no s 45 _ hs H2.out).mono ?_; rintro e w' ⟨rfl, rfl⟩
  go_wp2_with fail
  refine (trim_yes s 43 _ hs h1 H.out).mono ?_; rintro e w' ⟨rfl, rfl⟩
  go_wp2
  go_ret2
  exact ⟨rfl, Kp.refl _⟩
set_option maxHeartbeats 400000 in
theorem sign_none (s : ByteArray) (w : World) (hs : s.size ≤ 1048576) (h1 : s.data.toList.head? ≠ some 45) (h2 : s.data.toList.head? ≠ some 43) :
    Calls Tryd.prog 55 #[.string s] w fun e w' => e = .returned (.tuple #[.int .i64 1, .string s]) ∧ Kp w w' := by
  have H : Hid _ := h1
  have H2 : Hid _ := h2
  clear h1 h2
  go_enter Tryd.func55, Tryd.ntmps55
  go_wp2_with fail
  refine (has_no s 45 _ hs H.out).mono ?_; rintro e w' ⟨rfl, rfl⟩
  go_wp2_with fail
  refine (trim_no s 43 _ hs H2.out).mono ?_; rintro e w' ⟨rfl, rfl⟩
  go_wp2
  go_ret2
  exact ⟨rfl, Kp.refl _⟩
end Go.Proofs.YtfodmjdhpolnkaaDoor

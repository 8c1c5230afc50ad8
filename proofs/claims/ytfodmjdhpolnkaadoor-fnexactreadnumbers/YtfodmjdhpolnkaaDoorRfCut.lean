/-
  What the library's Cut answers at a point, for texts of at most 1048576 bytes.
-/
import Derived.Test.YtfodmjdhpolnkaaDoorRfSign
import Derived.Laws.Externs
namespace Go.Proofs.YtfodmjdhpolnkaaDoor
open Go.ChangeShapes Go.WideShapes Go.ChangeAt Go.RowKit

theorem ixs (s : ByteArray) (c : UInt8) (w : World) : (callFunc 134 #[.string s, .int .u8 (c.toNat : Int)]).run Tryd.prog w = .ok (.value (.int .i64 (firstIdx s c))) w := by
  rw [run_callFunc_extern Tryd.func134 (by kernel_rfl) (by kernel_rfl) (by kernel_rfl) (e := Extern.BytealgIndexByte.indexByte) (by kernel_rfl), run_indexByte_string]
  simp [Result.andThen]

set_option maxHeartbeats 400000 in
theorem ib_any (s : ByteArray) (w : World) :
    Calls Tryd.prog 123 #[.string s, .int .u8 46] w fun e w' => e = .returned (.int .i64 (firstIdx s 46)) ∧ w' = w := by
  have H : Hid _ := ixs s 46
  go_enter Tryd.func123, Tryd.ntmps123
  go_wp2_with (simp only [show (46 : Int) = ((46 : UInt8).toNat : Int) from rfl, H.out])
  go_ret
  exact ⟨rfl, rfl⟩

theorem bang (s : ByteArray) (i : Nat) (h : i < s.size) : s[i]! = s.data.toList[i]'(by simpa using h) := by
  rw [getElem!_pos s i h]; rfl

theorem idx_some (s : ByteArray) (a b : List UInt8) (c : UInt8) (h : s.data.toList = a ++ c :: b) (ha : ∀ x ∈ a, x ≠ c) : firstIdx s c = a.length := by
  have hsz : s.size = a.length + (b.length + 1) := by have := congrArg List.length h; simpa using this
  unfold firstIdx
  have e : (List.range s.size).find? (fun i => s[i]! == c) = some a.length := by
    rw [List.find?_range_eq_some]
    refine ⟨?_, by simp; omega, ?_⟩
    · rw [bang s _ (by omega)]; simp [h]
    · intro j hj
      rw [bang s _ (by omega)]
      have : s.data.toList[j]'(by simp; omega) = a[j] := by simp [h, List.getElem_append_left hj]
      rw [this]
      simp only [Bool.not_eq_true', beq_eq_false_iff_ne]
      exact ha _ (List.getElem_mem _)
  rw [e]
theorem idx_none (s : ByteArray) (c : UInt8) (h : ∀ x ∈ s.data.toList, x ≠ c) : firstIdx s c = -1 := by
  unfold firstIdx
  have e : (List.range s.size).find? (fun i => s[i]! == c) = none := by
    rw [List.find?_eq_none]
    intro i hi
    have hi' : i < s.size := by simpa using hi
    rw [bang s _ hi']
    simp only [beq_iff_eq]
    exact h _ (List.getElem_mem _)
  rw [e]

set_option maxHeartbeats 1000000 in
theorem index_any (s : ByteArray) (w : World) :
    Calls Tryd.prog 109 #[.string s, .string ⟨#[46]⟩] w fun e w' => e = .returned (.int .i64 (firstIdx s 46)) ∧ w' = w := by
  by_cases he : ([46] == s.toList) = true
  · have HZ : Hid (firstIdx s 46 = 0) := by
      have h1 : s.data.toList = [] ++ 46 :: [] := by rw [← Lib.toList_data]; exact (beq_iff_eq.1 he).symm
      exact idx_some s [] [] 46 h1 (by simp)
    go_enter Tryd.func109, Tryd.ntmps109
    go_wp2_with (go_at_call 123; fail)
    go_ret
    exact ⟨ret_int HZ.out.symm, rfl⟩
  · have hf : ([46] == s.toList) = false := by simpa using he
    clear he
    go_enter Tryd.func109, Tryd.ntmps109
    go_wp2_with (go_at_call 123; refine (ib_any s _).mono ?_; rintro e w' ⟨rfl, rfl⟩)
    go_ret
    exact ⟨rfl, rfl⟩

set_option maxHeartbeats 1000000 in
theorem scut_yes (s : ByteArray) (k : Nat) (w : World) (hs : s.size ≤ 1048576) (hk : k < s.size) (h : firstIdx s 46 = k) :
    Calls Tryd.prog 88 #[.string s, .string ⟨#[46]⟩] w fun e w' => e = .returned (.tuple #[.string (s.extract 0 k), .string (s.extract (k + 1) s.size), .bool true]) ∧ Kp w w' := by
  have H : Hid _ := h
  clear h
  go_enter Tryd.func88, Tryd.ntmps88
  go_wp2_with fail
  refine (index_any s _).mono ?_; rintro e w' ⟨rfl, rfl⟩
  rw [H.out]
  go_wp2
  go_region
  all_goals go_wp2
  all_goals go_ret3
  all_goals exact ⟨rfl, (Kp.refl _).drew⟩
set_option maxHeartbeats 1000000 in
theorem scut_no (s : ByteArray) (w : World) (h : firstIdx s 46 = -1) :
    Calls Tryd.prog 88 #[.string s, .string ⟨#[46]⟩] w fun e w' => e = .returned (.tuple #[.string s, .string ⟨#[]⟩, .bool false]) ∧ Kp w w' := by
  have H : Hid _ := h
  clear h
  go_enter Tryd.func88, Tryd.ntmps88
  go_wp2_with fail
  refine (index_any s _).mono ?_; rintro e w' ⟨rfl, rfl⟩
  rw [H.out]
  go_wp2
  all_goals go_ret3
  all_goals exact ⟨rfl, Kp.refl _⟩

set_option maxHeartbeats 1000000 in
theorem cut_yes (s : ByteArray) (k : Nat) (w : World) (hs : s.size ≤ 1048576) (hk : k < s.size) (h : firstIdx s 46 = k) :
    Calls Tryd.prog 56 #[.string s, .string ⟨#[46]⟩] w fun e w' => e = .returned (.tuple #[.string (s.extract 0 k), .string (s.extract (k + 1) s.size), .bool true]) ∧ Kp w w' := by
  have H : Hid _ := h
  clear h
  go_enter Tryd.func56, Tryd.ntmps56
  go_wp2_with fail
  refine (scut_yes s k _ hs hk H.out).mono ?_; rintro e w1 ⟨rfl, hk⟩
  have HK : Hid _ := hk
  clear hk
  go_wp2
  go_ret3
  exact ⟨rfl, HK.out⟩
set_option maxHeartbeats 1000000 in
theorem cut_no (s : ByteArray) (w : World) (h : firstIdx s 46 = -1) :
    Calls Tryd.prog 56 #[.string s, .string ⟨#[46]⟩] w fun e w' => e = .returned (.tuple #[.string s, .string ⟨#[]⟩, .bool false]) ∧ Kp w w' := by
  have H : Hid _ := h
  clear h
  go_enter Tryd.func56, Tryd.ntmps56
  go_wp2_with fail
  refine (scut_no s _ H.out).mono ?_; rintro e w1 ⟨rfl, hk⟩
  have HK : Hid _ := hk
  clear hk
  go_wp2
  go_ret3
  exact ⟨rfl, HK.out⟩
end Go.Proofs.YtfodmjdhpolnkaaDoor

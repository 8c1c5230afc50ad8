/-
  What the program's ReadFixed answers, out of what its helpers answer, for texts of at most 1048576 bytes.
-/
import Derived.Test.YtfodmjdhpolnkaaDoorRfCut
import Derived.Test.YtfodmjdhpolnkaaDoorRfDown
namespace Go.Proofs.YtfodmjdhpolnkaaDoor
open Go.ChangeShapes Go.WideShapes Go.ChangeAt Go.RowKit

/-- a / b to the nearest, of two as near the greater. -/
def nearV (a b : Int) : Int := if b < 0 then (2 * -a + -b) / (2 * -b) else (2 * a + b) / (2 * b)

set_option maxHeartbeats 400000 in
theorem nearest_any (a b : Int) (w : World) (hb : b ≠ 0) (hb1 : -1152921504606846976 ≤ b) (hb2 : b ≤ 1152921504606846976) (h1 : -1152921504606846976 ≤ a) (h2 : a ≤ 1152921504606846976) :
    Calls Tryd.prog 59 #[.int .i64 a, .int .i64 b] w fun e w' => e = .returned (.int .i64 (nearV a b)) ∧ w' = w := by
  by_cases hn : b < 0
  · have e : nearV a b = (2 * -a + -b) / (2 * -b) := by unfold nearV; rw [if_pos hn]
    rw [e]; clear e
    go_enter Tryd.func59, Tryd.ntmps59
    go_wp2_with (go_at_call 35; refine (divDown_any _ _ _ (by omega) (by omega) (by omega) (by omega)).mono ?_; rintro e w' ⟨rfl, rfl⟩)
    go_ret
    exact ⟨rfl, rfl⟩
  · have e : nearV a b = (2 * a + b) / (2 * b) := by unfold nearV; rw [if_neg hn]
    rw [e]; clear e
    go_enter Tryd.func59, Tryd.ntmps59
    go_wp2_with (go_at_call 35; refine (divDown_any _ _ _ (by omega) (by omega) (by omega) (by omega)).mono ?_; rintro e w' ⟨rfl, rfl⟩)
    go_ret
    exact ⟨rfl, rfl⟩


/-- What signAhead and Cut answer. -/
def SignIs (s : ByteArray) (σ : Int) (r : ByteArray) : Prop := ∀ w, Calls Tryd.prog 55 #[.string s] w fun e w' => e = .returned (.tuple #[.int .i64 σ, .string r]) ∧ Kp w w'
def CutIs (r A B : ByteArray) (pt : Bool) : Prop := ∀ w, Calls Tryd.prog 56 #[.string r, .string ⟨#[46]⟩] w fun e w' => e = .returned (.tuple #[.string A, .string B, .bool pt]) ∧ Kp w w'


set_option maxHeartbeats 1000000 in
theorem read_c1 (s r A B : ByteArray) (σ : Int) (pt : Bool) (w : World) (hsg : SignIs s σ r) (hct : CutIs r A B pt) (hA : A.size ≤ 1048576) (h : allD A.data.toList = false) :
    Calls Tryd.prog 34 #[.string s] w fun e w' => e = .returned (.tuple #[.int .i64 0, .bool false]) ∧ Kp w w' := by
  have H : Hid _ := h
  clear h
  go_enter Tryd.func34, Tryd.ntmps34
  go_wp2_with fail
  refine (hsg _).mono ?_; rintro e w1 ⟨rfl, hk⟩
  have HK : Hid (Kp w w1) := hk
  clear hk
  go_wp2_with fail
  refine (hct _).mono ?_; rintro e w2 ⟨rfl, hk⟩
  have HK2 : Hid (Kp w1 w2) := hk
  clear hk
  go_wp2_with fail
  refine (allDigits_any A _ (by unfold maxLen; omega)).mono ?_; rintro e w3 ⟨rfl, rfl⟩
  rw [H.out]
  go_wp2
  go_ret2
  exact ⟨rfl, Kp.trans HK.out HK2.out⟩

set_option maxHeartbeats 1000000 in
theorem read_c2 (s r A B : ByteArray) (σ : Int) (pt : Bool) (w : World) (hsg : SignIs s σ r) (hct : CutIs r A B pt) (hA : A.size ≤ 1048576) (hB : B.size ≤ 1048576) (h : allD A.data.toList = true) (h' : allD B.data.toList = false) :
    Calls Tryd.prog 34 #[.string s] w fun e w' => e = .returned (.tuple #[.int .i64 0, .bool false]) ∧ Kp w w' := by
  have H : Hid _ := h
  have H' : Hid _ := h'
  clear h h'
  go_enter Tryd.func34, Tryd.ntmps34
  go_wp2_with fail
  refine (hsg _).mono ?_; rintro e w1 ⟨rfl, hk⟩
  have HK : Hid (Kp w w1) := hk
  clear hk
  go_wp2_with fail
  refine (hct _).mono ?_; rintro e w2 ⟨rfl, hk⟩
  have HK2 : Hid (Kp w1 w2) := hk
  clear hk
  go_wp2_with fail
  refine (allDigits_any A _ (by unfold maxLen; omega)).mono ?_; rintro e w3 ⟨rfl, rfl⟩
  rw [H.out]
  go_wp2_with fail
  refine (allDigits_any B _ (by unfold maxLen; omega)).mono ?_; rintro e w3 ⟨rfl, rfl⟩
  rw [H'.out]
  go_wp2
  go_ret2
  exact ⟨rfl, Kp.trans HK.out HK2.out⟩

set_option maxHeartbeats 1000000 in
theorem read_c3 (s r A B : ByteArray) (σ : Int) (pt : Bool) (w : World) (hsg : SignIs s σ r) (hct : CutIs r A B pt) (hA : A.size ≤ 1048576) (hB : B.size ≤ 1048576) (h : allD A.data.toList = true) (h' : allD B.data.toList = true) (h8 : 8 < A.size) :
    Calls Tryd.prog 34 #[.string s] w fun e w' => e = .returned (.tuple #[.int .i64 0, .bool false]) ∧ Kp w w' := by
  have H : Hid _ := h
  have H' : Hid _ := h'
  clear h h'
  have d8 : decide (8 < (A.size : Int)) = true := by simp; omega
  go_enter Tryd.func34, Tryd.ntmps34
  go_wp2_with fail
  refine (hsg _).mono ?_; rintro e w1 ⟨rfl, hk⟩
  have HK : Hid (Kp w w1) := hk
  clear hk
  go_wp2_with fail
  refine (hct _).mono ?_; rintro e w2 ⟨rfl, hk⟩
  have HK2 : Hid (Kp w1 w2) := hk
  clear hk
  go_wp2_with fail
  refine (allDigits_any A _ (by unfold maxLen; omega)).mono ?_; rintro e w3 ⟨rfl, rfl⟩
  rw [H.out]
  go_wp2_with fail
  refine (allDigits_any B _ (by unfold maxLen; omega)).mono ?_; rintro e w3 ⟨rfl, rfl⟩
  rw [H'.out]
  go_wp2
  go_ret2
  exact ⟨rfl, Kp.trans HK.out HK2.out⟩

set_option maxHeartbeats 1000000 in
theorem read_c4 (s r A B : ByteArray) (σ : Int) (pt : Bool) (w : World) (hsg : SignIs s σ r) (hct : CutIs r A B pt) (hA : A.size ≤ 8) (hB : B.size ≤ 1048576) (h : allD A.data.toList = true) (h' : allD B.data.toList = true) (h6 : 6 < B.size) :
    Calls Tryd.prog 34 #[.string s] w fun e w' => e = .returned (.tuple #[.int .i64 0, .bool false]) ∧ Kp w w' := by
  have H : Hid _ := h
  have H' : Hid _ := h'
  clear h h'
  have d8 : decide (8 < (A.size : Int)) = false := by simp; omega
  have d6 : decide (6 < (B.size : Int)) = true := by simp; omega
  go_enter Tryd.func34, Tryd.ntmps34
  go_wp2_with fail
  refine (hsg _).mono ?_; rintro e w1 ⟨rfl, hk⟩
  have HK : Hid (Kp w w1) := hk
  clear hk
  go_wp2_with fail
  refine (hct _).mono ?_; rintro e w2 ⟨rfl, hk⟩
  have HK2 : Hid (Kp w1 w2) := hk
  clear hk
  go_wp2_with fail
  refine (allDigits_any A _ (by unfold maxLen; omega)).mono ?_; rintro e w3 ⟨rfl, rfl⟩
  rw [H.out]
  go_wp2_with fail
  refine (allDigits_any B _ (by unfold maxLen; omega)).mono ?_; rintro e w3 ⟨rfl, rfl⟩
  rw [H'.out]
  go_wp2
  go_ret2
  exact ⟨rfl, Kp.trans HK.out HK2.out⟩

theorem empty_yes (B : ByteArray) (h : B.size = 0) : B.toList.isEmpty = true := by
  rw [Lib.toList_data, List.isEmpty_iff_length_eq_zero]; simpa using h
theorem empty_no (B : ByteArray) (h : 1 ≤ B.size) : B.toList.isEmpty = false := by
  rw [Lib.toList_data, Bool.eq_false_iff]; intro e
  have e2 := List.isEmpty_iff_length_eq_zero.1 e
  have : B.data.toList.length = B.size := by simp
  omega

set_option maxHeartbeats 1000000 in
theorem read_c5 (s r A B : ByteArray) (σ : Int) (w : World) (hsg : SignIs s σ r) (hct : CutIs r A B true) (hA : A.size ≤ 8) (hB : B.size ≤ 6) (h : allD A.data.toList = true) (h' : allD B.data.toList = true) (h0 : B.size = 0) :
    Calls Tryd.prog 34 #[.string s] w fun e w' => e = .returned (.tuple #[.int .i64 0, .bool false]) ∧ Kp w w' := by
  have H : Hid _ := h
  have H' : Hid _ := h'
  clear h h'
  have d8 : decide (8 < (A.size : Int)) = false := by simp; omega
  have d6 : decide (6 < (B.size : Int)) = false := by simp; omega
  have he := empty_yes B h0
  clear h0
  go_enter Tryd.func34, Tryd.ntmps34
  go_wp2_with fail
  refine (hsg _).mono ?_; rintro e w1 ⟨rfl, hk⟩
  have HK : Hid (Kp w w1) := hk
  clear hk
  go_wp2_with fail
  refine (hct _).mono ?_; rintro e w2 ⟨rfl, hk⟩
  have HK2 : Hid (Kp w1 w2) := hk
  clear hk
  go_wp2_with fail
  refine (allDigits_any A _ (by unfold maxLen; omega)).mono ?_; rintro e w3 ⟨rfl, rfl⟩
  rw [H.out]
  go_wp2_with fail
  refine (allDigits_any B _ (by unfold maxLen; omega)).mono ?_; rintro e w3 ⟨rfl, rfl⟩
  rw [H'.out]
  go_wp2
  go_ret2
  exact ⟨rfl, Kp.trans HK.out HK2.out⟩

set_option maxHeartbeats 1000000 in
theorem read_c6 (s r A B : ByteArray) (σ : Int) (w : World) (hsg : SignIs s σ r) (hct : CutIs r A B false) (hA : A.size ≤ 8) (hB : B.size ≤ 6) (h : allD A.data.toList = true) (h' : allD B.data.toList = true) (h0 : A.size = 0) :
    Calls Tryd.prog 34 #[.string s] w fun e w' => e = .returned (.tuple #[.int .i64 0, .bool false]) ∧ Kp w w' := by
  have H : Hid _ := h
  have H' : Hid _ := h'
  clear h h'
  have d8 : decide (8 < (A.size : Int)) = false := by simp; omega
  have d6 : decide (6 < (B.size : Int)) = false := by simp; omega
  have he := empty_yes A h0
  clear h0
  go_enter Tryd.func34, Tryd.ntmps34
  go_wp2_with fail
  refine (hsg _).mono ?_; rintro e w1 ⟨rfl, hk⟩
  have HK : Hid (Kp w w1) := hk
  clear hk
  go_wp2_with fail
  refine (hct _).mono ?_; rintro e w2 ⟨rfl, hk⟩
  have HK2 : Hid (Kp w1 w2) := hk
  clear hk
  go_wp2_with fail
  refine (allDigits_any A _ (by unfold maxLen; omega)).mono ?_; rintro e w3 ⟨rfl, rfl⟩
  rw [H.out]
  go_wp2_with fail
  refine (allDigits_any B _ (by unfold maxLen; omega)).mono ?_; rintro e w3 ⟨rfl, rfl⟩
  rw [H'.out]
  go_wp2
  go_ret2
  exact ⟨rfl, Kp.trans HK.out HK2.out⟩

theorem num_zeros (k : Nat) : num (List.replicate k 48) = 0 := by
  induction k with
  | zero => rfl
  | succ k ih => rw [List.replicate_succ, num_cons, ih]; simp
theorem num_pad (l : List UInt8) (k : Nat) : num (l ++ List.replicate k 48) = num l * 10 ^ k := by
  rw [num_append, num_zeros, List.length_replicate]; omega
theorem pad_data (B : ByteArray) : (B ++ (ByteArray.mk #[48, 48, 48, 48, 48, 48]).extract B.size 6).data.toList = B.data.toList ++ List.replicate (6 - B.size) 48 := by
  rw [ByteArray.data_append, Array.toList_append, Lib.extract_data]
  congr 1
  show List.take (6 - B.size) (List.drop B.size (List.replicate 6 48)) = _
  rw [List.drop_replicate, List.take_of_length_le (by simp)]
theorem pad_size (B : ByteArray) (h : B.size ≤ 6) : (B ++ (ByteArray.mk #[48, 48, 48, 48, 48, 48]).extract B.size 6).size = 6 := by
  have e := congrArg List.length (pad_data B)
  simp only [List.length_append, List.length_replicate, Array.length_toList, ByteArray.size_data] at e
  omega
theorem pad_all (B : ByteArray) (h : allD B.data.toList = true) : allD (B ++ (ByteArray.mk #[48, 48, 48, 48, 48, 48]).extract B.size 6).data.toList = true := by
  unfold allD at *
  rw [pad_data, List.all_append, h, Bool.true_and, List.all_eq_true]
  intro x hx
  rw [List.eq_of_mem_replicate hx]; decide
theorem num8 (A : ByteArray) (h : allD A.data.toList = true) (hs : A.size ≤ 8) : 0 ≤ num A.data.toList ∧ num A.data.toList < 100000000 := by
  have h1 := num_bd A.data.toList h
  have h3 : (10 : Int) ^ A.data.toList.length ≤ 10 ^ 8 := by
    have := Nat.pow_le_pow_right (n := 10) (by omega) (show A.data.toList.length ≤ 8 by simpa using hs)
    exact_mod_cast this
  omega
theorem num6 (A : ByteArray) (h : allD A.data.toList = true) (hs : A.size = 6) : 0 ≤ num A.data.toList ∧ num A.data.toList < 1000000 := by
  have h1 := num_bd A.data.toList h
  rw [show A.data.toList.length = 6 by simpa using hs] at h1
  omega

/-- The fixed number that is nearest to so many millionths. -/
def fixOf (σ N : Int) : Int := (σ * N * 65536 + 500000) / 1000000
def okFix (x : Int) : Bool := decide (-1099511627776 ≤ x) && decide (x ≤ 1099511627776)
def fin (σ N : Int) : Int × Bool := if okFix (fixOf σ N) = true then (fixOf σ N, true) else (0, false)
end Go.Proofs.YtfodmjdhpolnkaaDoor

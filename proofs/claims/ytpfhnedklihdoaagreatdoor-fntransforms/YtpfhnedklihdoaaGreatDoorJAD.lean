/-
  Quotients that are rounded down, by the specification; each theorem names its conditions.
  Quotients that are rounded down, of both; each theorem names its conditions.
  What the program's ReadFixed answers, out of what its helpers answer, for texts of at most 1048576 bytes.
  What the program's ReadFixed answers where the text tells a number, for texts of at most 1048576 bytes.
-/
import Derived.Test.YtpfhnedklihdoaaGreatDoorJAA
import Derived.Test.YtpfhnedklihdoaaGreatDoorJAC
namespace Go.Proofs.YtpfhnedklihdoaaGreatDoor
open Go.ChangeShapes Go.WideShapes Go.ChangeAt Go.RowKit

set_option maxHeartbeats 400000 in
theorem sdown_any (a b : Int) (w : World) (hb : 0 < b) (hb' : b ≤ 4611686018427387904) (h1 : -4611686018427387904 ≤ a) (h2 : a ≤ 4611686018427387904) :
    Calls Tryz.prog 68 #[.int .i64 a, .int .i64 b] w fun e w' => e = .returned (.int .i64 (a / b)) ∧ w' = w := by
  have hdb : decide (b < 0) = false := by simp; omega
  by_cases ha : 0 ≤ a
  · have hd := ediv_bd a b ha hb
    have hm := Int.emod_nonneg a (b := b) (by omega)
    have hm' := Int.emod_lt_of_pos a hb
    have hda : decide (a < 0) = false := by simp; omega
    by_cases hz : a % b = 0
    · have hq : (a % b != 0) = false := by simp [hz]
      clear hz
      go_enter Tryz.func68, Tryz.ntmps68
      go_wp2
      go_ret
      exact ⟨rfl, rfl⟩
    · have hq : (a % b != 0) = true := by simp [hz]
      clear hz
      go_enter Tryz.func68, Tryz.ntmps68
      go_wp2
      go_ret
      exact ⟨rfl, rfl⟩
  · have e1 := tdiv_neg_of a b (by omega)
    have e2 := tmod_neg_of a b (by omega)
    have e3 := ediv_neg_of a b hb
    have hd := ediv_bd (-a) b (by omega) hb
    have hm := Int.emod_nonneg (-a) (b := b) (by omega)
    have hm' := Int.emod_lt_of_pos (-a) hb
    have hda : decide (a < 0) = true := by simp; omega
    by_cases hz : (-a) % b = 0
    · rw [if_pos hz] at e3
      rw [e3]
      clear e3
      generalize (-a) / b = q at *
      rw [hz] at e2 hm hm'
      clear hz hm hm'
      go_enter Tryz.func68, Tryz.ntmps68
      go_wp2
      go_ret
      exact ⟨rfl, rfl⟩
    · rw [if_neg hz] at e3
      rw [e3]
      clear e3
      generalize (-a) / b = q at *
      generalize (-a) % b = r at *
      have hq : (-r != 0) = true := by simp; omega
      clear hz
      go_enter Tryz.func68, Tryz.ntmps68
      go_wp2
      go_ret
      exact ⟨rfl, rfl⟩
end Go.Proofs.YtpfhnedklihdoaaGreatDoor

namespace Go.Proofs.YtpfhnedklihdoaaGreatDoor
open Go.ChangeShapes Go.WideShapes Go.ChangeAt Go.RowKit

/-- a / b to the nearest, of two as near the greater. -/
def nearV (a b : Int) : Int := if b < 0 then (2 * -a + -b) / (2 * -b) else (2 * a + b) / (2 * b)

set_option maxHeartbeats 400000 in
theorem nearest_any (a b : Int) (w : World) (hb : b ≠ 0) (hb1 : -1152921504606846976 ≤ b) (hb2 : b ≤ 1152921504606846976) (h1 : -1152921504606846976 ≤ a) (h2 : a ≤ 1152921504606846976) :
    Calls Tryz.prog 63 #[.int .i64 a, .int .i64 b] w fun e w' => e = .returned (.int .i64 (nearV a b)) ∧ w' = w := by
  by_cases hn : b < 0
  · have e : nearV a b = (2 * -a + -b) / (2 * -b) := by unfold nearV; rw [if_pos hn]
    rw [e]; clear e
    go_enter Tryz.func63, Tryz.ntmps63
    go_wp2_with (go_at_call 84; refine (divDown_any _ _ _ (by omega) (by omega) (by omega) (by omega)).mono ?_; rintro e w' ⟨rfl, rfl⟩)
    go_ret
    exact ⟨rfl, rfl⟩
  · have e : nearV a b = (2 * a + b) / (2 * b) := by unfold nearV; rw [if_neg hn]
    rw [e]; clear e
    go_enter Tryz.func63, Tryz.ntmps63
    go_wp2_with (go_at_call 84; refine (divDown_any _ _ _ (by omega) (by omega) (by omega) (by omega)).mono ?_; rintro e w' ⟨rfl, rfl⟩)
    go_ret
    exact ⟨rfl, rfl⟩


/-- What signAhead and Cut answer. -/
def SignIs (s : ByteArray) (σ : Int) (r : ByteArray) : Prop := ∀ w, Calls Tryz.prog 59 #[.string s] w fun e w' => e = .returned (.tuple #[.int .i64 σ, .string r]) ∧ Kp w w'
def CutIs (r A B : ByteArray) (pt : Bool) : Prop := ∀ w, Calls Tryz.prog 60 #[.string r, .string ⟨#[46]⟩] w fun e w' => e = .returned (.tuple #[.string A, .string B, .bool pt]) ∧ Kp w w'


set_option maxHeartbeats 1000000 in
theorem read_c1 (s r A B : ByteArray) (σ : Int) (pt : Bool) (w : World) (hsg : SignIs s σ r) (hct : CutIs r A B pt) (hA : A.size ≤ 1048576) (h : allD A.data.toList = false) :
    Calls Tryz.prog 37 #[.string s] w fun e w' => e = .returned (.tuple #[.int .i64 0, .bool false]) ∧ Kp w w' := by
  have H : Hid _ := h
  clear h
  go_enter Tryz.func37, Tryz.ntmps37
  go_wp2_with fail
  refine (hsg _).mono ?_; rintro e w1 ⟨rfl, hk⟩
  have HK : Hid (Kp w w1) := hk
  clear hk
  go_wp2_with fail
  refine (hct _).mono ?_; rintro e w2 ⟨rfl, hk⟩
  have HK2 : Hid (Kp w1 w2) := hk
  clear hk
  go_wp2_with fail
  refine (allDigits_any A _ (by unfold maxLen; omega)).mono ?_; rintro e w3 ⟨rfl, rfl⟩
  rw [H.out]
  go_wp2
  go_ret2
  exact ⟨rfl, Kp.trans HK.out HK2.out⟩

set_option maxHeartbeats 1000000 in
theorem read_c2 (s r A B : ByteArray) (σ : Int) (pt : Bool) (w : World) (hsg : SignIs s σ r) (hct : CutIs r A B pt) (hA : A.size ≤ 1048576) (hB : B.size ≤ 1048576) (h : allD A.data.toList = true) (h' : allD B.data.toList = false) :
    Calls Tryz.prog 37 #[.string s] w fun e w' => e = .returned (.tuple #[.int .i64 0, .bool false]) ∧ Kp w w' := by
  have H : Hid _ := h
  have H' : Hid _ := h'
  clear h h'
  go_enter Tryz.func37, Tryz.ntmps37
  go_wp2_with fail
  refine (hsg _).mono ?_; rintro e w1 ⟨rfl, hk⟩
  have HK : Hid (Kp w w1) := hk
  clear hk
  go_wp2_with fail
  refine (hct _).mono ?_; rintro e w2 ⟨rfl, hk⟩
  have HK2 : Hid (Kp w1 w2) := hk
  clear hk
  go_wp2_with fail
  refine (allDigits_any A _ (by unfold maxLen; omega)).mono ?_; rintro e w3 ⟨rfl, rfl⟩
  rw [H.out]
  go_wp2_with fail
  refine (allDigits_any B _ (by unfold maxLen; omega)).mono ?_; rintro e w3 ⟨rfl, rfl⟩
  rw [H'.out]
  go_wp2
  go_ret2
  exact ⟨rfl, Kp.trans HK.out HK2.out⟩

set_option maxHeartbeats 1000000 in
theorem read_c3 (s r A B : ByteArray) (σ : Int) (pt : Bool) (w : World) (hsg : SignIs s σ r) (hct : CutIs r A B pt) (hA : A.size ≤ 1048576) (hB : B.size ≤ 1048576) (h : allD A.data.toList = true) (h' : allD B.data.toList = true) (h8 : 8 < A.size) :
    Calls Tryz.prog 37 #[.string s] w fun e w' => e = .returned (.tuple #[.int .i64 0, .bool false]) ∧ Kp w w' := by
  have H : Hid _ := h
  have H' : Hid _ := h'
  clear h h'
  have d8 : decide (8 < (A.size : Int)) = true := by simp; omega
  go_enter Tryz.func37, Tryz.ntmps37
  go_wp2_with fail
  refine (hsg _).mono ?_; rintro e w1 ⟨rfl, hk⟩
  have HK : Hid (Kp w w1) := hk
  clear hk
  go_wp2_with fail
  refine (hct _).mono ?_; rintro e w2 ⟨rfl, hk⟩
  have HK2 : Hid (Kp w1 w2) := hk
  clear hk
  go_wp2_with fail
  refine (allDigits_any A _ (by unfold maxLen; omega)).mono ?_; rintro e w3 ⟨rfl, rfl⟩
  rw [H.out]
  go_wp2_with fail
  refine (allDigits_any B _ (by unfold maxLen; omega)).mono ?_; rintro e w3 ⟨rfl, rfl⟩
  rw [H'.out]
  go_wp2
  go_ret2
  exact ⟨rfl, Kp.trans HK.out HK2.out⟩

set_option maxHeartbeats 1000000 in
theorem read_c4 (s r A B : ByteArray) (σ : Int) (pt : Bool) (w : World) (hsg : SignIs s σ r) (hct : CutIs r A B pt) (hA : A.size ≤ 8) (hB : B.size ≤ 1048576) (h : allD A.data.toList = true) (h' : allD B.data.toList = true) (h6 : 6 < B.size) :
    Calls Tryz.prog 37 #[.string s] w fun e w' => e = .returned (.tuple #[.int .i64 0, .bool false]) ∧ Kp w w' := by
  have H : Hid _ := h
  have H' : Hid _ := h'
  clear h h'
  have d8 : decide (8 < (A.size : Int)) = false := by simp; omega
  have d6 : decide (6 < (B.size : Int)) = true := by simp; omega
  go_enter Tryz.func37, Tryz.ntmps37
  go_wp2_with fail
  refine (hsg _).mono ?_; rintro e w1 ⟨rfl, hk⟩
  have HK : Hid (Kp w w1) := hk
  clear hk
  go_wp2_with fail
  refine (hct _).mono ?_; rintro e w2 ⟨rfl, hk⟩
  have HK2 : Hid (Kp w1 w2) := hk
  clear hk
  go_wp2_with fail
  refine (allDigits_any A _ (by unfold maxLen; omega)).mono ?_; rintro e w3 ⟨rfl, rfl⟩
  rw [H.out]
  go_wp2_with fail
  refine (allDigits_any B _ (by unfold maxLen; omega)).mono ?_; rintro e w3 ⟨rfl, rfl⟩
  rw [H'.out]
  go_wp2
  go_ret2
  exact ⟨rfl, Kp.trans HK.out HK2.out⟩

theorem empty_yes (B : ByteArray) (h : B.size = 0) : B.toList.isEmpty = true := by
  rw [Lib.toList_data, List.isEmpty_iff_length_eq_zero]; simpa using h
theorem empty_no (B : ByteArray) (h : 1 ≤ B.size) : B.toList.isEmpty = false := by
  rw [Lib.toList_data, Bool.eq_false_iff]; intro e
  have e2 := List.isEmpty_iff_length_eq_zero.1 e
  have : B.data.toList.length = B.size := by simp
  omega

set_option maxHeartbeats 1000000 in
theorem read_c5 (s r A B : ByteArray) (σ : Int) (w : World) (hsg : SignIs s σ r) (hct : CutIs r A B true) (hA : A.size ≤ 8) (hB : B.size ≤ 6) (h : allD A.data.toList = true) (h' : allD B.data.toList = true) (h0 : B.size = 0) :
    Calls Tryz.prog 37 #[.string s] w fun e w' => e = .returned (.tuple #[.int .i64 0, .bool false]) ∧ Kp w w' := by
  have H : Hid _ := h
  have H' : Hid _ := h'
  clear h h'
  have d8 : decide (8 < (A.size : Int)) = false := by simp; omega
  have d6 : decide (6 < (B.size : Int)) = false := by simp; omega
  have he := empty_yes B h0
  clear h0
  go_enter Tryz.func37, Tryz.ntmps37
  go_wp2_with fail
  refine (hsg _).mono ?_; rintro e w1 ⟨rfl, hk⟩
  have HK : Hid (Kp w w1) := hk
  clear hk
  go_wp2_with fail
  refine (hct _).mono ?_; rintro e w2 ⟨rfl, hk⟩
  have HK2 : Hid (Kp w1 w2) := hk
  clear hk
  go_wp2_with fail
  refine (allDigits_any A _ (by unfold maxLen; omega)).mono ?_; rintro e w3 ⟨rfl, rfl⟩
  rw [H.out]
  go_wp2_with fail
  refine (allDigits_any B _ (by unfold maxLen; omega)).mono ?_; rintro e w3 ⟨rfl, rfl⟩
  rw [H'.out]
  go_wp2
  go_ret2
  exact ⟨rfl, Kp.trans HK.out HK2.out⟩

set_option maxHeartbeats 1000000 in
theorem read_c6 (s r A B : ByteArray) (σ : Int) (w : World) (hsg : SignIs s σ r) (hct : CutIs r A B false) (hA : A.size ≤ 8) (hB : B.size ≤ 6) (h : allD A.data.toList = true) (h' : allD B.data.toList = true) (h0 : A.size = 0) :
    Calls Tryz.prog 37 #[.string s] w fun e w' => e = .returned (.tuple #[.int .i64 0, .bool false]) ∧ Kp w w' := by
  have H : Hid _ := h
  have H' : Hid _ := h'
  clear h h'
  have d8 : decide (8 < (A.size : Int)) = false := by simp; omega
  have d6 : decide (6 < (B.size : Int)) = false := by simp; omega
  have he := empty_yes A h0
  clear h0
  go_enter Tryz.func37, Tryz.ntmps37
  go_wp2_with fail
  refine (hsg _).mono ?_; rintro e w1 ⟨rfl, hk⟩
  have HK : Hid (Kp w w1) := hk
  clear hk
  go_wp2_with fail
  refine (hct _).mono ?_; rintro e w2 ⟨rfl, hk⟩
  have HK2 : Hid (Kp w1 w2) := hk
  clear hk
  go_wp2_with fail
  refine (allDigits_any A _ (by unfold maxLen; omega)).mono ?_; rintro e w3 ⟨rfl, rfl⟩
  rw [H.out]
  go_wp2_with fail
  refine (allDigits_any B _ (by unfold maxLen; omega)).mono ?_; rintro e w3 ⟨rfl, rfl⟩
  rw [H'.out]
  go_wp2
  go_ret2
  exact ⟨rfl, Kp.trans HK.out HK2.out⟩

theorem num_zeros (k : Nat) : num (List.replicate k 48) = 0 := by
  induction k with
  | zero => rfl
  | succ k ih => rw [List.replicate_succ, num_cons, ih]; simp
theorem num_pad (l : List UInt8) (k : Nat) : num (l ++ List.replicate k 48) = num l * 10 ^ k := by
  rw [num_append, num_zeros, List.length_replicate]; omega
theorem pad_data (B : ByteArray) : (B ++ (ByteArray.mk #[48, 48, 48, 48, 48, 48]).extract B.size 6).data.toList = B.data.toList ++ List.replicate (6 - B.size) 48 := by
  rw [ByteArray.data_append, Array.toList_append, Lib.extract_data]
  congr 1
  show List.take (6 - B.size) (List.drop B.size (List.replicate 6 48)) = _
  rw [List.drop_replicate, List.take_of_length_le (by simp)]
theorem pad_size (B : ByteArray) (h : B.size ≤ 6) : (B ++ (ByteArray.mk #[48, 48, 48, 48, 48, 48]).extract B.size 6).size = 6 := by
  have e := congrArg List.length (pad_data B)
  simp only [List.length_append, List.length_replicate, Array.length_toList, ByteArray.size_data] at e
  omega
theorem pad_all (B : ByteArray) (h : allD B.data.toList = true) : allD (B ++ (ByteArray.mk #[48, 48, 48, 48, 48, 48]).extract B.size 6).data.toList = true := by
  unfold allD at *
  rw [pad_data, List.all_append, h, Bool.true_and, List.all_eq_true]
  intro x hx
  rw [List.eq_of_mem_replicate hx]; decide
theorem num8 (A : ByteArray) (h : allD A.data.toList = true) (hs : A.size ≤ 8) : 0 ≤ num A.data.toList ∧ num A.data.toList < 100000000 := by
  have h1 := num_bd A.data.toList h
  have h3 : (10 : Int) ^ A.data.toList.length ≤ 10 ^ 8 := by
    have := Nat.pow_le_pow_right (n := 10) (by omega) (show A.data.toList.length ≤ 8 by simpa using hs)
    exact_mod_cast this
  omega
theorem num6 (A : ByteArray) (h : allD A.data.toList = true) (hs : A.size = 6) : 0 ≤ num A.data.toList ∧ num A.data.toList < 1000000 := by
  have h1 := num_bd A.data.toList h
  rw [show A.data.toList.length = 6 by simpa using hs] at h1
  omega

/-- The fixed number that is nearest to so many millionths. -/
def fixOf (σ N : Int) : Int := (σ * N * 65536 + 500000) / 1000000
def okFix (x : Int) : Bool := decide (-1099511627776 ≤ x) && decide (x ≤ 1099511627776)
def fin (σ N : Int) : Int × Bool := if okFix (fixOf σ N) = true then (fixOf σ N, true) else (0, false)
end Go.Proofs.YtpfhnedklihdoaaGreatDoor
namespace Go.Proofs.YtpfhnedklihdoaaGreatDoor
open Go.ChangeShapes Go.WideShapes Go.ChangeAt Go.RowKit

theorem igood_yes (x : Int) (w : World) (h1 : -1099511627776 ≤ x) (h2 : x ≤ 1099511627776) : Calls Tryz.prog 27 #[.int .i64 x] w fun e w' => e = .returned (.bool true) ∧ w' = w := by
  go_enter Tryz.func27, Tryz.ntmps27
  go_wp2
  go_ret
  exact ⟨rfl, rfl⟩
theorem igood_no (x : Int) (w : World) (h : ¬ (-1099511627776 ≤ x ∧ x ≤ 1099511627776)) : Calls Tryz.prog 27 #[.int .i64 x] w fun e w' => e = .returned (.bool false) ∧ w' = w := by
  by_cases h1 : -1099511627776 ≤ x
  · have h2 : 1099511627776 < x := by omega
    have h3 : decide (x ≤ 1099511627776) = false := by simp; omega
    clear h
    go_enter Tryz.func27, Tryz.ntmps27
    go_wp2
    go_ret
    exact ⟨rfl, rfl⟩
  · clear h
    go_enter Tryz.func27, Tryz.ntmps27
    go_wp2
    go_ret
    exact ⟨rfl, rfl⟩
theorem fin_yes (σ N : Int) (h1 : -1099511627776 ≤ fixOf σ N) (h2 : fixOf σ N ≤ 1099511627776) : fin σ N = (fixOf σ N, true) := by
  unfold fin okFix; rw [if_pos (by simp [h1, h2])]
theorem fin_no (σ N : Int) (h : ¬ (-1099511627776 ≤ fixOf σ N ∧ fixOf σ N ≤ 1099511627776)) : fin σ N = (0, false) := by
  unfold fin okFix; rw [if_neg (by simp only [Bool.and_eq_true, decide_eq_true_eq]; exact h)]
theorem near_mil (A : Int) : nearV A 1000000 = (2 * A + 1000000) / 2000000 := by unfold nearV; rw [if_neg (by omega)]; rfl

set_option maxHeartbeats 1000000 in
theorem val_pp (s r A B : ByteArray) (w : World) (hsg : SignIs s (1) r) (hct : CutIs r A B true) (hA : A.size ≤ 8) (hB : B.size ≤ 6) (h1 : 1 ≤ B.size) (h : allD A.data.toList = true) (h' : allD B.data.toList = true) :
    Calls Tryz.prog 37 #[.string s] w fun e w' => e = .returned (.tuple #[.int .i64 (fin (1) (num A.data.toList * 1000000 + num (B ++ (ByteArray.mk #[48, 48, 48, 48, 48, 48]).extract B.size 6).data.toList)).1, .bool (fin (1) (num A.data.toList * 1000000 + num (B ++ (ByteArray.mk #[48, 48, 48, 48, 48, 48]).extract B.size 6).data.toList)).2]) ∧ Kp w w' := by
  have nA := num8 A h hA
  have nM := num6 (B ++ (ByteArray.mk #[48, 48, 48, 48, 48, 48]).extract B.size 6) (pad_all B h') (pad_size B hB)
  have HN : Hid _ := numberOf_any (B ++ (ByteArray.mk #[48, 48, 48, 48, 48, 48]).extract B.size 6)
  have HPA : Hid _ := pad_all B h'
  have HPS : Hid _ := pad_size B hB
  obtain ⟨M, hM⟩ : ∃ M, num (B ++ (ByteArray.mk #[48, 48, 48, 48, 48, 48]).extract B.size 6).data.toList = M := ⟨_, rfl⟩
  obtain ⟨a, ha⟩ : ∃ a, num A.data.toList = a := ⟨_, rfl⟩
  rw [hM] at nM ⊢
  rw [ha] at nA ⊢
  have HM : Hid _ := hM
  have Ha : Hid _ := ha
  have H : Hid _ := h
  have H' : Hid _ := h'
  clear h hM ha h'
  obtain ⟨a1, a2⟩ := nA
  obtain ⟨m1, m2⟩ := nM
  obtain ⟨V, hV⟩ : ∃ V, nearV (M * 65536) 1000000 = V := ⟨_, rfl⟩
  have v1 : -70000 ≤ V := by rw [← hV, near_mil]; omega
  have v2 : V ≤ 70000 := by rw [← hV, near_mil]; omega
  have HX : Hid (a * 65536 + V = fixOf (1) (a * 1000000 + M)) := by show _ = _; rw [← hV, near_mil]; unfold fixOf; omega
  have HV : Hid _ := hV
  clear hV
  have d8 : decide (8 < (A.size : Int)) = false := by simp; omega
  have d6 : decide (6 < (B.size : Int)) = false := by simp; omega
  have he := empty_no B h1
  go_enter Tryz.func37, Tryz.ntmps37
  go_wp2_with fail
  refine (hsg _).mono ?_; rintro e w1 ⟨rfl, hk⟩
  have HK : Hid (Kp w w1) := hk
  clear hk
  go_wp2_with fail
  refine (hct _).mono ?_; rintro e w2 ⟨rfl, hk⟩
  have HK2 : Hid (Kp w1 w2) := hk
  clear hk
  go_wp2_with fail
  refine (allDigits_any A _ (by unfold maxLen; omega)).mono ?_; rintro e w3 ⟨rfl, rfl⟩
  rw [H.out]
  go_wp2_with fail
  refine (allDigits_any B _ (by unfold maxLen; omega)).mono ?_; rintro e w3 ⟨rfl, rfl⟩
  rw [H'.out]
  go_wp2_with fail
  refine (HN.out _ (by rw [HPS.out]; omega) HPA.out).mono ?_; rintro e w3 ⟨rfl, rfl⟩
  rw [HM.out]
  go_wp2_with fail
  refine (numberOf_any A _ (by omega) H.out).mono ?_; rintro e w3 ⟨rfl, rfl⟩
  rw [Ha.out]
  go_wp2_with fail
  refine (nearest_any _ _ _ (by omega) (by omega) (by omega) (by omega) (by omega)).mono ?_; rintro e w3 ⟨rfl, rfl⟩
  rw [HV.out]
  go_wp2_with fail
  by_cases hg : -1099511627776 ≤ a * 65536 + V ∧ a * 65536 + V ≤ 1099511627776
  · have HF : Hid _ := fin_yes (1) (a * 1000000 + M) (by rw [← HX.out]; exact hg.1) (by rw [← HX.out]; exact hg.2)
    refine (igood_yes _ _ hg.1 hg.2).mono ?_; rintro e w3 ⟨rfl, rfl⟩
    clear hg
    go_wp2
    go_ret2
    exact ⟨by rw [HF.out, ← HX.out]; rfl, Kp.trans HK.out HK2.out⟩
  · have HF : Hid _ := fin_no (1) (a * 1000000 + M) (by rw [← HX.out]; exact hg)
    refine (igood_no _ _ hg).mono ?_; rintro e w3 ⟨rfl, rfl⟩
    clear hg
    go_wp2
    go_ret2
    exact ⟨by rw [HF.out]; rfl, Kp.trans HK.out HK2.out⟩

set_option maxHeartbeats 1000000 in
theorem val_mp (s r A B : ByteArray) (w : World) (hsg : SignIs s (-1) r) (hct : CutIs r A B true) (hA : A.size ≤ 8) (hB : B.size ≤ 6) (h1 : 1 ≤ B.size) (h : allD A.data.toList = true) (h' : allD B.data.toList = true) :
    Calls Tryz.prog 37 #[.string s] w fun e w' => e = .returned (.tuple #[.int .i64 (fin (-1) (num A.data.toList * 1000000 + num (B ++ (ByteArray.mk #[48, 48, 48, 48, 48, 48]).extract B.size 6).data.toList)).1, .bool (fin (-1) (num A.data.toList * 1000000 + num (B ++ (ByteArray.mk #[48, 48, 48, 48, 48, 48]).extract B.size 6).data.toList)).2]) ∧ Kp w w' := by
  have nA := num8 A h hA
  have nM := num6 (B ++ (ByteArray.mk #[48, 48, 48, 48, 48, 48]).extract B.size 6) (pad_all B h') (pad_size B hB)
  have HN : Hid _ := numberOf_any (B ++ (ByteArray.mk #[48, 48, 48, 48, 48, 48]).extract B.size 6)
  have HPA : Hid _ := pad_all B h'
  have HPS : Hid _ := pad_size B hB
  obtain ⟨M, hM⟩ : ∃ M, num (B ++ (ByteArray.mk #[48, 48, 48, 48, 48, 48]).extract B.size 6).data.toList = M := ⟨_, rfl⟩
  obtain ⟨a, ha⟩ : ∃ a, num A.data.toList = a := ⟨_, rfl⟩
  rw [hM] at nM ⊢
  rw [ha] at nA ⊢
  have HM : Hid _ := hM
  have Ha : Hid _ := ha
  have H : Hid _ := h
  have H' : Hid _ := h'
  clear h hM ha h'
  obtain ⟨a1, a2⟩ := nA
  obtain ⟨m1, m2⟩ := nM
  obtain ⟨V, hV⟩ : ∃ V, nearV (-M * 65536) 1000000 = V := ⟨_, rfl⟩
  have v1 : -70000 ≤ V := by rw [← hV, near_mil]; omega
  have v2 : V ≤ 70000 := by rw [← hV, near_mil]; omega
  have HX : Hid (-a * 65536 + V = fixOf (-1) (a * 1000000 + M)) := by show _ = _; rw [← hV, near_mil]; unfold fixOf; omega
  have HV : Hid _ := hV
  clear hV
  have d8 : decide (8 < (A.size : Int)) = false := by simp; omega
  have d6 : decide (6 < (B.size : Int)) = false := by simp; omega
  have he := empty_no B h1
  go_enter Tryz.func37, Tryz.ntmps37
  go_wp2_with fail
  refine (hsg _).mono ?_; rintro e w1 ⟨rfl, hk⟩
  have HK : Hid (Kp w w1) := hk
  clear hk
  go_wp2_with fail
  refine (hct _).mono ?_; rintro e w2 ⟨rfl, hk⟩
  have HK2 : Hid (Kp w1 w2) := hk
  clear hk
  go_wp2_with fail
  refine (allDigits_any A _ (by unfold maxLen; omega)).mono ?_; rintro e w3 ⟨rfl, rfl⟩
  rw [H.out]
  go_wp2_with fail
  refine (allDigits_any B _ (by unfold maxLen; omega)).mono ?_; rintro e w3 ⟨rfl, rfl⟩
  rw [H'.out]
  go_wp2_with fail
  refine (HN.out _ (by rw [HPS.out]; omega) HPA.out).mono ?_; rintro e w3 ⟨rfl, rfl⟩
  rw [HM.out]
  go_wp2_with fail
  refine (numberOf_any A _ (by omega) H.out).mono ?_; rintro e w3 ⟨rfl, rfl⟩
  rw [Ha.out]
  go_wp2_with fail
  refine (nearest_any _ _ _ (by omega) (by omega) (by omega) (by omega) (by omega)).mono ?_; rintro e w3 ⟨rfl, rfl⟩
  rw [HV.out]
  go_wp2_with fail
  by_cases hg : -1099511627776 ≤ -a * 65536 + V ∧ -a * 65536 + V ≤ 1099511627776
  · have HF : Hid _ := fin_yes (-1) (a * 1000000 + M) (by rw [← HX.out]; exact hg.1) (by rw [← HX.out]; exact hg.2)
    refine (igood_yes _ _ hg.1 hg.2).mono ?_; rintro e w3 ⟨rfl, rfl⟩
    clear hg
    go_wp2
    go_ret2
    exact ⟨by rw [HF.out, ← HX.out]; rfl, Kp.trans HK.out HK2.out⟩
  · have HF : Hid _ := fin_no (-1) (a * 1000000 + M) (by rw [← HX.out]; exact hg)
    refine (igood_no _ _ hg).mono ?_; rintro e w3 ⟨rfl, rfl⟩
    clear hg
    go_wp2
    go_ret2
    exact ⟨by rw [HF.out]; rfl, Kp.trans HK.out HK2.out⟩

set_option maxHeartbeats 1000000 in
theorem val_pn (s r A : ByteArray) (w : World) (hsg : SignIs s (1) r) (hct : CutIs r A ⟨#[]⟩ false) (hA : A.size ≤ 8) (h1 : 1 ≤ A.size) (h : allD A.data.toList = true) :
    Calls Tryz.prog 37 #[.string s] w fun e w' => e = .returned (.tuple #[.int .i64 (fin (1) (num A.data.toList * 1000000 + num (ByteArray.mk #[48, 48, 48, 48, 48, 48]).data.toList)).1, .bool (fin (1) (num A.data.toList * 1000000 + num (ByteArray.mk #[48, 48, 48, 48, 48, 48]).data.toList)).2]) ∧ Kp w w' := by
  have nA := num8 A h hA
  have hz : num (ByteArray.mk #[48, 48, 48, 48, 48, 48]).data.toList = 0 := rfl
  obtain ⟨M, hM⟩ : ∃ M, num (ByteArray.mk #[48, 48, 48, 48, 48, 48]).data.toList = M := ⟨_, rfl⟩
  obtain ⟨a, ha⟩ : ∃ a, num A.data.toList = a := ⟨_, rfl⟩
  rw [hM] at hz ⊢
  rw [ha] at nA ⊢
  have HM : Hid _ := hM
  have Ha : Hid _ := ha
  have H : Hid _ := h
  clear h hM ha
  obtain ⟨a1, a2⟩ := nA
  subst hz
  obtain ⟨V, hV⟩ : ∃ V, nearV 0 1000000 = V := ⟨_, rfl⟩
  have v1 : -70000 ≤ V := by rw [← hV, near_mil]; omega
  have v2 : V ≤ 70000 := by rw [← hV, near_mil]; omega
  have HX : Hid (a * 65536 + V = fixOf (1) (a * 1000000 + 0)) := by show _ = _; rw [← hV, near_mil]; unfold fixOf; omega
  have HV : Hid _ := hV
  clear hV
  have d8 : decide (8 < (A.size : Int)) = false := by simp; omega
  have he := empty_no A h1
  go_enter Tryz.func37, Tryz.ntmps37
  go_wp2_with fail
  refine (hsg _).mono ?_; rintro e w1 ⟨rfl, hk⟩
  have HK : Hid (Kp w w1) := hk
  clear hk
  go_wp2_with fail
  refine (hct _).mono ?_; rintro e w2 ⟨rfl, hk⟩
  have HK2 : Hid (Kp w1 w2) := hk
  clear hk
  go_wp2_with fail
  refine (allDigits_any A _ (by unfold maxLen; omega)).mono ?_; rintro e w3 ⟨rfl, rfl⟩
  rw [H.out]
  go_wp2_with fail
  refine (allDigits_any (ByteArray.mk #[]) _ (by unfold maxLen; decide)).mono ?_; rintro e w3 ⟨rfl, rfl⟩
  rw [show allD (ByteArray.mk #[]).data.toList = true from rfl]
  go_wp2_with fail
  refine (numberOf_any (ByteArray.mk #[48, 48, 48, 48, 48, 48]) _ (by decide) (by decide)).mono ?_; rintro e w3 ⟨rfl, rfl⟩
  rw [HM.out]
  go_wp2_with fail
  refine (numberOf_any A _ (by omega) H.out).mono ?_; rintro e w3 ⟨rfl, rfl⟩
  rw [Ha.out]
  go_wp2_with fail
  refine (nearest_any _ _ _ (by omega) (by omega) (by omega) (by omega) (by omega)).mono ?_; rintro e w3 ⟨rfl, rfl⟩
  rw [HV.out]
  go_wp2_with fail
  by_cases hg : -1099511627776 ≤ a * 65536 + V ∧ a * 65536 + V ≤ 1099511627776
  · have HF : Hid _ := fin_yes (1) (a * 1000000 + 0) (by rw [← HX.out]; exact hg.1) (by rw [← HX.out]; exact hg.2)
    refine (igood_yes _ _ hg.1 hg.2).mono ?_; rintro e w3 ⟨rfl, rfl⟩
    clear hg
    go_wp2
    go_ret2
    exact ⟨by rw [HF.out, ← HX.out]; rfl, Kp.trans HK.out HK2.out⟩
  · have HF : Hid _ := fin_no (1) (a * 1000000 + 0) (by rw [← HX.out]; exact hg)
    refine (igood_no _ _ hg).mono ?_; rintro e w3 ⟨rfl, rfl⟩
    clear hg
    go_wp2
    go_ret2
    exact ⟨by rw [HF.out]; rfl, Kp.trans HK.out HK2.out⟩

set_option maxHeartbeats 1000000 in
theorem val_mn (s r A : ByteArray) (w : World) (hsg : SignIs s (-1) r) (hct : CutIs r A ⟨#[]⟩ false) (hA : A.size ≤ 8) (h1 : 1 ≤ A.size) (h : allD A.data.toList = true) :
    Calls Tryz.prog 37 #[.string s] w fun e w' => e = .returned (.tuple #[.int .i64 (fin (-1) (num A.data.toList * 1000000 + num (ByteArray.mk #[48, 48, 48, 48, 48, 48]).data.toList)).1, .bool (fin (-1) (num A.data.toList * 1000000 + num (ByteArray.mk #[48, 48, 48, 48, 48, 48]).data.toList)).2]) ∧ Kp w w' := by
  have nA := num8 A h hA
  have hz : num (ByteArray.mk #[48, 48, 48, 48, 48, 48]).data.toList = 0 := rfl
  obtain ⟨M, hM⟩ : ∃ M, num (ByteArray.mk #[48, 48, 48, 48, 48, 48]).data.toList = M := ⟨_, rfl⟩
  obtain ⟨a, ha⟩ : ∃ a, num A.data.toList = a := ⟨_, rfl⟩
  rw [hM] at hz ⊢
  rw [ha] at nA ⊢
  have HM : Hid _ := hM
  have Ha : Hid _ := ha
  have H : Hid _ := h
  clear h hM ha
  obtain ⟨a1, a2⟩ := nA
  subst hz
  obtain ⟨V, hV⟩ : ∃ V, nearV 0 1000000 = V := ⟨_, rfl⟩
  have v1 : -70000 ≤ V := by rw [← hV, near_mil]; omega
  have v2 : V ≤ 70000 := by rw [← hV, near_mil]; omega
  have HX : Hid (-a * 65536 + V = fixOf (-1) (a * 1000000 + 0)) := by show _ = _; rw [← hV, near_mil]; unfold fixOf; omega
  have HV : Hid _ := hV
  clear hV
  have d8 : decide (8 < (A.size : Int)) = false := by simp; omega
  have he := empty_no A h1
  go_enter Tryz.func37, Tryz.ntmps37
  go_wp2_with fail
  refine (hsg _).mono ?_; rintro e w1 ⟨rfl, hk⟩
  have HK : Hid (Kp w w1) := hk
  clear hk
  go_wp2_with fail
  refine (hct _).mono ?_; rintro e w2 ⟨rfl, hk⟩
  have HK2 : Hid (Kp w1 w2) := hk
  clear hk
  go_wp2_with fail
  refine (allDigits_any A _ (by unfold maxLen; omega)).mono ?_; rintro e w3 ⟨rfl, rfl⟩
  rw [H.out]
  go_wp2_with fail
  refine (allDigits_any (ByteArray.mk #[]) _ (by unfold maxLen; decide)).mono ?_; rintro e w3 ⟨rfl, rfl⟩
  rw [show allD (ByteArray.mk #[]).data.toList = true from rfl]
  go_wp2_with fail
  refine (numberOf_any (ByteArray.mk #[48, 48, 48, 48, 48, 48]) _ (by decide) (by decide)).mono ?_; rintro e w3 ⟨rfl, rfl⟩
  rw [HM.out]
  go_wp2_with fail
  refine (numberOf_any A _ (by omega) H.out).mono ?_; rintro e w3 ⟨rfl, rfl⟩
  rw [Ha.out]
  go_wp2_with fail
  refine (nearest_any _ _ _ (by omega) (by omega) (by omega) (by omega) (by omega)).mono ?_; rintro e w3 ⟨rfl, rfl⟩
  rw [HV.out]
  go_wp2_with fail
  by_cases hg : -1099511627776 ≤ -a * 65536 + V ∧ -a * 65536 + V ≤ 1099511627776
  · have HF : Hid _ := fin_yes (-1) (a * 1000000 + 0) (by rw [← HX.out]; exact hg.1) (by rw [← HX.out]; exact hg.2)
    refine (igood_yes _ _ hg.1 hg.2).mono ?_; rintro e w3 ⟨rfl, rfl⟩
    clear hg
    go_wp2
    go_ret2
    exact ⟨by rw [HF.out, ← HX.out]; rfl, Kp.trans HK.out HK2.out⟩
  · have HF : Hid _ := fin_no (-1) (a * 1000000 + 0) (by rw [← HX.out]; exact hg)
    refine (igood_no _ _ hg).mono ?_; rintro e w3 ⟨rfl, rfl⟩
    clear hg
    go_wp2
    go_ret2
    exact ⟨by rw [HF.out]; rfl, Kp.trans HK.out HK2.out⟩
end Go.Proofs.YtpfhnedklihdoaaGreatDoor

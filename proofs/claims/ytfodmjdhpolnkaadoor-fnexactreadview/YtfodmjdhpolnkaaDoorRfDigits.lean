/-
  What the program's allDigits and numberOf answer, for texts within the bounds named in each theorem.
-/
import Derived.Test.YtfodmjdhpolnkaaDoorBase
import Derived.Test.YtfodmjdhpolnkaaDoorRfText
namespace Go.Proofs.YtfodmjdhpolnkaaDoor
open Go.ChangeShapes Go.WideShapes Go.ChangeAt Go.RowKit

/-- Digits alone. -/
def allD (l : List UInt8) : Bool := l.all isD

theorem all_snoc (s : ByteArray) (k : Nat) (h : k < s.size) : (s.data.toList.take (k + 1)).all isD = ((s.data.toList.take k).all isD && isD s[k]) := by
  rw [take_snoc s k h, List.all_append]; simp
theorem all_false (s : ByteArray) (k : Nat) (h : k < s.size) (hd : isD s[k] = false) : s.data.toList.all isD = false := by
  rw [List.all_eq_false]
  exact ⟨s[k], by rw [show s[k] = s.data.toList[k] from rfl]; exact List.getElem_mem _, by simp [hd]⟩

set_option maxHeartbeats 400000 in
theorem allDigits_any (s : ByteArray) (w : World) (hs : s.size ≤ maxLen) :
    Calls Tryd.prog 57 #[.string s] w fun e w' => e = .returned (.bool (allD s.data.toList)) ∧ w' = w := by
  unfold maxLen at hs
  go_enter Tryd.func57, Tryd.ntmps57
  go_wp2
  go_loop [6] (fun i => ∃ k : Nat, k ≤ s.size ∧ i = .int .i64 k ∧ (s.data.toList.take k).all isD = true) (fun i => s.size - (intOf i).toNat)
  case atStart => exact ⟨0, Nat.zero_le _, rfl, rfl⟩
  case round =>
    obtain ⟨k, hk, rfl, ha⟩ := hrel
    have HA : Hid _ := ha
    clear ha
    by_cases hlt : k < s.size
    · by_cases h1 : 48 ≤ (s[k].toNat : Int)
      · by_cases h2 : (s[k].toNat : Int) ≤ 57
        · go_wp2
          go_round
          case rel => exact ⟨k + 1, by omega, by go_num, by rw [all_snoc s k hlt, HA.out, (isD_iff _).2 ⟨h1, h2⟩]; rfl⟩
          case measure => simp [intOf]; omega
        · have HF : Hid (allD s.data.toList = false) := all_false s k hlt (by rw [Bool.eq_false_iff]; intro h; exact h2 ((isD_iff _).1 h).2)
          go_wp2
          go_ret
          exact ⟨by rw [HF.out]; rfl, rfl⟩
      · have HF : Hid (allD s.data.toList = false) := all_false s k hlt (by rw [Bool.eq_false_iff]; intro h; exact h1 ((isD_iff _).1 h).1)
        go_wp2
        go_ret
        exact ⟨by rw [HF.out]; rfl, rfl⟩
    · have HT : Hid (allD s.data.toList = true) := by
        have := HA.out; rw [List.take_of_length_le (by simp; omega)] at this; exact this
      go_wp2
      go_ret
      exact ⟨by rw [HT.out]; rfl, rfl⟩

theorem num_take (s : ByteArray) (k : Nat) (h : k < s.size) : num (s.data.toList.take (k + 1)) = num (s.data.toList.take k) * 10 + ((s[k].toNat : Int) - 48) := by
  rw [take_snoc s k h, num_snoc]
theorem dig_at (s : ByteArray) (ha : allD s.data.toList = true) (k : Nat) (h : k < s.size) : 48 ≤ (s[k].toNat : Int) ∧ (s[k].toNat : Int) ≤ 57 := by
  have h1 := List.all_eq_true.1 ha s[k] (by rw [show s[k] = s.data.toList[k] from rfl]; exact List.getElem_mem _)
  exact (isD_iff _).1 h1
theorem num_take_bd (s : ByteArray) (ha : allD s.data.toList = true) (k : Nat) (h14 : k ≤ 15) : 0 ≤ num (s.data.toList.take k) ∧ num (s.data.toList.take k) < 1000000000000000 := by
  have h1 := num_bd (s.data.toList.take k) (by rw [List.all_eq_true]; intro x hx; exact List.all_eq_true.1 ha x (List.mem_of_mem_take hx))
  have h2 : (s.data.toList.take k).length ≤ 15 := by rw [List.length_take]; omega
  have h3 : (10 : Int) ^ (s.data.toList.take k).length ≤ 10 ^ 15 := by
    have := Nat.pow_le_pow_right (n := 10) (by omega) h2
    exact_mod_cast this
  omega

set_option maxHeartbeats 400000 in
theorem numberOf_any (s : ByteArray) (w : World) (hs : s.size ≤ 14) (ha : allD s.data.toList = true) :
    Calls Tryd.prog 58 #[.string s] w fun e w' => e = .returned (.int .i64 (num s.data.toList)) ∧ w' = w := by
  have HA : Hid _ := ha
  clear ha
  go_enter Tryd.func58, Tryd.ntmps58
  go_wp2
  go_loop [3, 7] (fun n i => ∃ k : Nat, k ≤ s.size ∧ i = .int .i64 k ∧ n = .int .i64 (num (s.data.toList.take k))) (fun _ i => s.size - (intOf i).toNat)
  case atStart => exact ⟨0, Nat.zero_le _, rfl, rfl⟩
  case round =>
    obtain ⟨k, hk, rfl, rfl⟩ := hrel
    by_cases hlt : k < s.size
    · obtain ⟨d1, d2⟩ := dig_at s HA.out k hlt
      obtain ⟨b1, b2⟩ := num_take_bd s HA.out k (by omega)
      have HS : Hid _ := num_take s k hlt
      generalize num (s.data.toList.take k) = n at *
      go_wp2
      go_round
      case rel => exact ⟨k + 1, by omega, by go_num, by rw [HS.out]⟩
      case measure => simp [intOf]; omega
    · have HT : Hid (num (s.data.toList.take k) = num s.data.toList) := by
        show _ = _; rw [List.take_of_length_le (by simp; omega)]
      go_wp2
      go_ret
      exact ⟨ret_int HT.out, rfl⟩
end Go.Proofs.YtfodmjdhpolnkaaDoor

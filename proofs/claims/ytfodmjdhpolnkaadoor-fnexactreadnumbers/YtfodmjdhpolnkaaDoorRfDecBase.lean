/-
  Small facts for the walk through the specification's l1Decimal; each theorem names its conditions.
-/
import Derived.Test.YtfodmjdhpolnkaaDoorRfImpl
namespace Go.Proofs.YtfodmjdhpolnkaaDoor
open Go.ChangeShapes Go.WideShapes Go.ChangeAt Go.RowKit

theorem int_eq {a b : Int} (h : a = b) : Value.int .i64 a = Value.int .i64 b := by rw [h]
set_option maxHeartbeats 400000 in
theorem sdown_big (a b : Int) (w : World) (hb : 0 < b) (hb' : b ≤ 4611686018427387904) (h1 : -9223372036854775000 ≤ a) (h2 : a ≤ 9223372036854775000) :
    Calls Tryd.prog 30 #[.int .i64 a, .int .i64 b] w fun e w' => e = .returned (.int .i64 (a / b)) ∧ w' = w := by
  have hdb : decide (b < 0) = false := by simp; omega
  by_cases ha : 0 ≤ a
  · have hd := ediv_bd a b ha hb
    have hm := Int.emod_nonneg a (b := b) (by omega)
    have hm' := Int.emod_lt_of_pos a hb
    have hda : decide (a < 0) = false := by simp; omega
    by_cases hz : a % b = 0
    · have hq : (a % b != 0) = false := by simp [hz]
      clear hz
      go_enter Tryd.func30, Tryd.ntmps30
      go_wp2
      go_ret
      exact ⟨rfl, rfl⟩
    · have hq : (a % b != 0) = true := by simp [hz]
      clear hz
      go_enter Tryd.func30, Tryd.ntmps30
      go_wp2
      go_ret
      exact ⟨rfl, rfl⟩
  · have e1 := tdiv_neg_of a b (by omega)
    have e2 := tmod_neg_of a b (by omega)
    have e3 := ediv_neg_of a b hb
    have hd := ediv_bd (-a) b (by omega) hb
    have hm := Int.emod_nonneg (-a) (b := b) (by omega)
    have hm' := Int.emod_lt_of_pos (-a) hb
    have hda : decide (a < 0) = true := by simp; omega
    by_cases hz : (-a) % b = 0
    · rw [if_pos hz] at e3
      rw [e3]
      clear e3
      generalize (-a) / b = q at *
      rw [hz] at e2 hm hm'
      clear hz hm hm'
      go_enter Tryd.func30, Tryd.ntmps30
      go_wp2
      go_ret
      exact ⟨rfl, rfl⟩
    · rw [if_neg hz] at e3
      rw [e3]
      clear e3
      generalize (-a) / b = q at *
      generalize (-a) % b = r at *
      have hq : (-r != 0) = true := by simp; omega
      clear hz
      go_enter Tryd.func30, Tryd.ntmps30
      go_wp2
      go_ret
      exact ⟨rfl, rfl⟩

theorem digit_yes (c : Int) (w : World) (h1 : 48 ≤ c) (h2 : c ≤ 57) : Calls Tryd.prog 52 #[.int .u8 c] w fun e w' => e = .returned (.bool true) ∧ w' = w := by
  go_enter Tryd.func52, Tryd.ntmps52
  go_wp2
  go_ret
  exact ⟨rfl, rfl⟩
theorem digit_no (c : Int) (w : World) (h : ¬ (48 ≤ c ∧ c ≤ 57)) : Calls Tryd.prog 52 #[.int .u8 c] w fun e w' => e = .returned (.bool false) ∧ w' = w := by
  by_cases h1 : 48 ≤ c
  · have h2 : 57 < c := by omega
    have h3 : decide (c ≤ 57) = false := by simp; omega
    clear h
    go_enter Tryd.func52, Tryd.ntmps52
    go_wp2
    go_ret
    exact ⟨rfl, rfl⟩
  · clear h
    go_enter Tryd.func52, Tryd.ntmps52
    go_wp2
    go_ret
    exact ⟨rfl, rfl⟩
theorem notD (c : UInt8) (h : isD c = false) : ¬ (48 ≤ (c.toNat : Int) ∧ (c.toNat : Int) ≤ 57) := by
  intro hh; rw [(isD_iff c).2 hh] at h; cases h
theorem sgood_yes (x : Int) (w : World) (h : okFix x = true) : Calls Tryd.prog 31 #[.int .i64 x] w fun e w' => e = .returned (.bool true) ∧ w' = w := by
  unfold okFix at h
  simp only [Bool.and_eq_true, decide_eq_true_eq] at h
  obtain ⟨h1, h2⟩ := h
  go_enter Tryd.func31, Tryd.ntmps31
  go_wp2
  go_ret
  exact ⟨rfl, rfl⟩
theorem sgood_no (x : Int) (w : World) (h : ¬ okFix x = true) : Calls Tryd.prog 31 #[.int .i64 x] w fun e w' => e = .returned (.bool false) ∧ w' = w := by
  unfold okFix at h
  simp only [Bool.and_eq_true, decide_eq_true_eq] at h
  by_cases h1 : -1099511627776 ≤ x
  · have h2 : 1099511627776 < x := by omega
    have h3 : decide (x ≤ 1099511627776) = false := by simp; omega
    clear h
    go_enter Tryd.func31, Tryd.ntmps31
    go_wp2
    go_ret
    exact ⟨rfl, rfl⟩
  · clear h
    go_enter Tryd.func31, Tryd.ntmps31
    go_wp2
    go_ret
    exact ⟨rfl, rfl⟩
theorem le_mul_of (t P : Int) (h : 0 ≤ t) (hP : 1 ≤ P) : t ≤ t * P := by
  have := Int.mul_le_mul_of_nonneg_left hP h; omega
theorem nk9 (s : ByteArray) (p k e : Nat) (hd : Digs s p e) (hk : k ≤ e) : 0 ≤ nk s p 9 k ∧ nk s p 9 k < 1000000000 := by
  have h1 := nk_bd s p 9 k e hd hk
  have h2 := pow_le (min (k - p) 9) 9 (by omega)
  omega
theorem nk8 (s : ByteArray) (p k e i : Nat) (hd : Digs s p e) (hk : k ≤ e) (h1 : k ≤ i + p) (h8 : i ≤ 8) : 0 ≤ nk s p 9 k ∧ nk s p 9 k < 100000000 := by
  have h1 := nk_bd s p 9 k e hd hk
  have h2 := pow_le (min (k - p) 9) 8 (by omega)
  omega
/-- Digits behind a point, onto a number. -/
def mm (s : ByteArray) (q : Nat) (m : Int) (k : Nat) : Int := m * 10 ^ (min (k - q) 6) + nk s q 6 k
theorem mm_start (s : ByteArray) (q : Nat) (m : Int) : mm s q m q = m := by unfold mm; rw [nk_start, Nat.sub_self, Nat.zero_min]; simp
theorem mm_more (s : ByteArray) (q k : Nat) (m : Int) (hp : q ≤ k) (h : k < s.size) (hm : k - q < 6) : mm s q m (k + 1) = mm s q m k * 10 + ((s[k].toNat : Int) - 48) := by
  unfold mm
  rw [nk_more s q 6 k hp h hm, show min (k + 1 - q) 6 = min (k - q) 6 + 1 by omega, Int.pow_succ, Int.add_mul, Int.mul_assoc]
  omega
theorem mm_same (s : ByteArray) (q k : Nat) (m : Int) (hm : ¬ k - q < 6) : mm s q m (k + 1) = mm s q m k := by
  unfold mm
  rw [nk_same s q 6 k hm, show min (k + 1 - q) 6 = min (k - q) 6 by omega]
theorem mm_bd (s : ByteArray) (q k e : Nat) (m : Int) (hd : Digs s q e) (hk : k ≤ e) (m0 : 0 ≤ m) (m1 : m < 1000000000) : 0 ≤ mm s q m k ∧ mm s q m k < 1000000000000000 := by
  have h1 := nk_bd s q 6 k e hd hk
  have h2 := pow_le (min (k - q) 6) 6 (by omega)
  have h3 := pow_pos10 (min (k - q) 6)
  unfold mm
  generalize (10 : Int) ^ min (k - q) 6 = P at *
  have h4 : 0 ≤ m * P := Int.mul_nonneg m0 (by omega)
  have h5 : m * P ≤ 999999999 * P := Int.mul_le_mul_of_nonneg_right (by omega) (by omega)
  omega
theorem T_one (m : Int) (h0 : 0 ≤ m) (h1 : m < 100000000) : 0 ≤ m * p6 0 ∧ m * p6 0 < 100000000000000 := by
  have : p6 0 = 1000000 := rfl
  rw [this]; omega
theorem mm_ten (s : ByteArray) (q k j : Nat) (m : Int) (h1 : j + q ≤ k) (h2 : k ≤ j + q) (h6 : j ≤ 6) : mm s q m k * p6 j = m * 1000000 + nk s q 6 k * p6 j := by
  unfold mm p6
  rw [show min (k - q) 6 = j by omega, Int.add_mul, Int.mul_assoc, ← Int.pow_add, show j + (6 - j) = 6 by omega]
  rfl
theorem T_two (s : ByteArray) (q k e j : Nat) (m : Int) (hd : Digs s q e) (hk : k ≤ e) (h1 : j + q ≤ k) (h2 : k ≤ j + q) (h6 : j ≤ 6) (m0 : 0 ≤ m) (m1 : m < 100000000) : 0 ≤ mm s q m k * p6 j ∧ mm s q m k * p6 j < 100000000000000 := by
  rw [mm_ten s q k j m h1 h2 h6]
  have h3 := nk_bd s q 6 k e hd hk
  rw [show min (k - q) 6 = j by omega] at h3
  have h4 := p6_pos j
  have h5 : nk s q 6 k * p6 j < 1000000 := by
    have a1 := Int.mul_lt_mul_of_pos_right h3.2 (show 0 < p6 j by omega)
    have a2 : (10 : Int) ^ j * p6 j = 1000000 := by unfold p6; rw [← Int.pow_add, show j + (6 - j) = 6 by omega]; rfl
    omega
  have h6 : 0 ≤ nk s q 6 k * p6 j := Int.mul_nonneg h3.1 (by omega)
  omega
/-- What l1Decimal answers: digits alone; digits, a point and digits; others. -/
def PA (s : ByteArray) (p : Nat) (σ : Int) (i : Nat) (n x : Int) : Prop :=
  n = 0 ∧ (1 ≤ i ∧ i ≤ 8 → okFix (fixOf σ (nk s p 9 s.size * p6 0)) = false) ∨ (1 ≤ i ∧ i ≤ 8) ∧ okFix (fixOf σ (nk s p 9 s.size * p6 0)) = true ∧ n = s.size ∧ x = fixOf σ (nk s p 9 s.size * p6 0)
def PC (s : ByteArray) (p : Nat) (σ : Int) (e1 i j : Nat) (n x : Int) : Prop :=
  n = 0 ∧ (1 ≤ i + j ∧ i ≤ 8 ∧ j ≤ 6 → okFix (fixOf σ (mm s (e1 + 1) (nk s p 9 e1) s.size * p6 j)) = false) ∨ (1 ≤ i + j ∧ i ≤ 8 ∧ j ≤ 6) ∧ okFix (fixOf σ (mm s (e1 + 1) (nk s p 9 e1) s.size * p6 j)) = true ∧ n = s.size ∧ x = fixOf σ (mm s (e1 + 1) (nk s p 9 e1) s.size * p6 j)
def PB (s : ByteArray) (n x : Int) : Prop := n < s.size ∧ x = x
/-- The same, where the text goes on behind e. -/
def PE (s : ByteArray) (p : Nat) (σ : Int) (e i : Nat) (n x : Int) : Prop :=
  n = 0 ∧ (1 ≤ i ∧ i ≤ 8 → okFix (fixOf σ (nk s p 9 e * p6 0)) = false) ∨ (1 ≤ i ∧ i ≤ 8) ∧ okFix (fixOf σ (nk s p 9 e * p6 0)) = true ∧ n = e ∧ x = fixOf σ (nk s p 9 e * p6 0)
def PF (s : ByteArray) (p : Nat) (σ : Int) (e1 e2 i j : Nat) (n x : Int) : Prop :=
  n = 0 ∧ (1 ≤ i + j ∧ i ≤ 8 ∧ j ≤ 6 → okFix (fixOf σ (mm s (e1 + 1) (nk s p 9 e1) e2 * p6 j)) = false) ∨ (1 ≤ i + j ∧ i ≤ 8 ∧ j ≤ 6) ∧ okFix (fixOf σ (mm s (e1 + 1) (nk s p 9 e1) e2 * p6 j)) = true ∧ n = e2 ∧ x = fixOf σ (mm s (e1 + 1) (nk s p 9 e1) e2 * p6 j)
theorem PE.pb {s : ByteArray} {p : Nat} {σ : Int} {e i : Nat} {n x : Int} (h : PE s p σ e i n x) (he : e < s.size) : PB s n x := by
  rcases h with ⟨hn, _⟩ | ⟨_, _, hn, _⟩ <;> exact ⟨by omega, rfl⟩
theorem PF.pb {s : ByteArray} {p : Nat} {σ : Int} {e1 e2 i j : Nat} {n x : Int} (h : PF s p σ e1 e2 i j n x) (he : e2 < s.size) : PB s n x := by
  rcases h with ⟨hn, _⟩ | ⟨_, _, hn, _⟩ <;> exact ⟨by omega, rfl⟩
end Go.Proofs.YtfodmjdhpolnkaaDoor

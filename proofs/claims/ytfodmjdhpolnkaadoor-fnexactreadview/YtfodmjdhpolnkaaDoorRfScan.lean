/-
  Plain facts on a text that is read byte by byte: the number of its first digits, and what a reader of fixed numbers answers; no condition.
-/
import Derived.Test.YtfodmjdhpolnkaaDoorRfVals
namespace Go.Proofs.YtfodmjdhpolnkaaDoor

/-- The number of at most m digits from p up to k. -/
def nk (s : ByteArray) (p m k : Nat) : Int := num ((s.data.toList.drop p).take (min (k - p) m))

theorem nk_start (s : ByteArray) (p m : Nat) : nk s p m p = 0 := by unfold nk; rw [Nat.sub_self, Nat.zero_min]; rfl
theorem nk_more (s : ByteArray) (p m k : Nat) (hp : p ≤ k) (h : k < s.size) (hm : k - p < m) : nk s p m (k + 1) = nk s p m k * 10 + ((s[k].toNat : Int) - 48) := by
  unfold nk
  have e1 : min (k + 1 - p) m = (k - p) + 1 := by omega
  have e2 : min (k - p) m = k - p := by omega
  have hl : s.data.toList.length = s.size := by simp
  rw [e1, e2, List.take_succ_eq_append_getElem (by rw [List.length_drop]; omega), num_snoc, List.getElem_drop]
  have e3 : s.data.toList[p + (k - p)]'(by omega) = s[k] := by
    have : p + (k - p) = k := by omega
    simp only [this]; rfl
  rw [e3]
theorem nk_same (s : ByteArray) (p m k : Nat) (hm : ¬ k - p < m) : nk s p m (k + 1) = nk s p m k := by
  unfold nk
  rw [show min (k + 1 - p) m = m by omega, show min (k - p) m = m by omega]
/-- All bytes from p up to e are digits. -/
def Digs (s : ByteArray) (p e : Nat) : Prop := ∀ k (h : k < s.size), p ≤ k → k < e → isD s[k] = true
theorem nk_bd (s : ByteArray) (p m k e : Nat) (hd : Digs s p e) (hk : k ≤ e) : 0 ≤ nk s p m k ∧ nk s p m k < 10 ^ (min (k - p) m) := by
  have h1 := num_bd ((s.data.toList.drop p).take (min (k - p) m)) (by
    rw [List.all_eq_true]
    intro x hx
    obtain ⟨i, hi, rfl⟩ := List.getElem_of_mem hx
    have hl : s.data.toList.length = s.size := by simp
    rw [List.length_take, List.length_drop] at hi
    rw [List.getElem_take, List.getElem_drop]
    exact hd (p + i) (by omega) (by omega) (by omega))
  have h2 : ((s.data.toList.drop p).take (min (k - p) m)).length ≤ min (k - p) m := List.length_take_le _ _
  have h3 : (10 : Int) ^ ((s.data.toList.drop p).take (min (k - p) m)).length ≤ 10 ^ (min (k - p) m) := by
    have := Nat.pow_le_pow_right (n := 10) (by omega) h2
    exact_mod_cast this
  unfold nk
  omega
theorem pow_le (a b : Nat) (h : a ≤ b) : (10 : Int) ^ a ≤ 10 ^ b := by
  have := Nat.pow_le_pow_right (n := 10) (by omega) h
  exact_mod_cast this

/-- So many tens. -/
def p6 (j : Nat) : Int := 10 ^ (6 - j)
theorem p6_pos (j : Nat) : 1 ≤ p6 j := by have := pow_pos10 (6 - j); unfold p6; omega
theorem p6_step (j : Nat) (h : j < 6) : p6 j = 10 * p6 (j + 1) := by
  unfold p6
  rw [show 6 - j = (6 - (j + 1)) + 1 by omega, Int.pow_succ]; omega
theorem p6_six : p6 6 = 1 := rfl

/-- What a reader of fixed numbers answers: of what stands behind the sign. -/
def rf (σ : Int) (l : List UInt8) : Int × Bool :=
  match l.dropWhile isD with
  | [] => if 1 ≤ l.length ∧ l.length ≤ 8 then fin σ (num l * 1000000) else (0, false)
  | c :: b => if c = 46 ∧ allD b = true ∧ 1 ≤ b.length ∧ b.length ≤ 6 ∧ (l.takeWhile isD).length ≤ 8 then fin σ (num (l.takeWhile isD) * 1000000 + num b * 10 ^ (6 - b.length)) else (0, false)

theorem dw_split (a : List UInt8) (c : UInt8) (b : List UInt8) (ha : allD a = true) (hc : isD c = false) : (a ++ c :: b).dropWhile isD = c :: b ∧ (a ++ c :: b).takeWhile isD = a := by
  induction a with
  | nil => simp [hc]
  | cons x a ih =>
    unfold allD at ha
    simp only [List.all_cons, Bool.and_eq_true] at ha
    have h := ih ha.2
    simp [ha.1, h.1, h.2]
theorem dw_all (a : List UInt8) (ha : allD a = true) : a.dropWhile isD = [] := by
  induction a with
  | nil => rfl
  | cons x a ih =>
    unfold allD at ha
    simp only [List.all_cons, Bool.and_eq_true] at ha
    simp [ha.1, ih ha.2]
theorem rf_all (σ : Int) (a : List UInt8) (ha : allD a = true) : rf σ a = if 1 ≤ a.length ∧ a.length ≤ 8 then fin σ (num a * 1000000) else (0, false) := by
  unfold rf; rw [dw_all a ha]
theorem rf_split (σ : Int) (a : List UInt8) (c : UInt8) (b : List UInt8) (ha : allD a = true) (hc : isD c = false) :
    rf σ (a ++ c :: b) = if c = 46 ∧ allD b = true ∧ 1 ≤ b.length ∧ b.length ≤ 6 ∧ a.length ≤ 8 then fin σ (num a * 1000000 + num b * 10 ^ (6 - b.length)) else (0, false) := by
  unfold rf; rw [(dw_split a c b ha hc).1, (dw_split a c b ha hc).2]
/-- Every text is digits and then nothing or a byte that is none. -/
theorem parts (l : List UInt8) : ∃ a t, l = a ++ t ∧ allD a = true ∧ (t = [] ∨ ∃ c b, t = c :: b ∧ isD c = false) := by
  induction l with
  | nil => exact ⟨[], [], rfl, rfl, Or.inl rfl⟩
  | cons x l ih =>
    by_cases h : isD x = true
    · obtain ⟨a, t, h1, h2, h3⟩ := ih
      exact ⟨x :: a, t, by rw [h1]; rfl, by unfold allD at *; simp [h, h2], h3⟩
    · exact ⟨[], x :: l, rfl, rfl, Or.inr ⟨x, l, rfl, by simpa using h⟩⟩
end Go.Proofs.YtfodmjdhpolnkaaDoor

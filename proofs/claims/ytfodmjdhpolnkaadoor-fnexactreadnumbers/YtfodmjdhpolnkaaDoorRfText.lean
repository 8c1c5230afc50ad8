/-
  Plain facts on lists of bytes: digits, the number that they tell; no condition.
-/
namespace Go.Proofs.YtfodmjdhpolnkaaDoor

/-- A digit. -/
def isD (c : UInt8) : Bool := decide (48 ≤ c.toNat) && decide (c.toNat ≤ 57)
/-- The number that digits tell. -/
def num (l : List UInt8) : Int := l.foldl (fun n c => n * 10 + ((c.toNat : Int) - 48)) 0

theorem isD_iff (c : UInt8) : isD c = true ↔ 48 ≤ (c.toNat : Int) ∧ (c.toNat : Int) ≤ 57 := by
  unfold isD; simp; omega
theorem num_snoc (l : List UInt8) (c : UInt8) : num (l ++ [c]) = num l * 10 + ((c.toNat : Int) - 48) := by
  unfold num; rw [List.foldl_append]; rfl
theorem num_nil : num [] = 0 := rfl
theorem pow_pos10 (k : Nat) : 0 < (10 : Int) ^ k := Int.pow_pos (by omega)
theorem foldl_from (m : List UInt8) : ∀ n : Int, m.foldl (fun n c => n * 10 + ((c.toNat : Int) - 48)) n = n * 10 ^ m.length + num m := by
  induction m with
  | nil => intro n; simp [num]
  | cons c m ih =>
    intro n
    have e : num (c :: m) = (0 * 10 + ((c.toNat : Int) - 48)) * 10 ^ m.length + num m := ih _
    rw [List.foldl_cons, ih, e, List.length_cons, Int.pow_succ, Int.add_mul, Int.add_mul, Int.mul_assoc, Int.mul_comm (10 ^ m.length) 10]
    omega
theorem num_append (l m : List UInt8) : num (l ++ m) = num l * 10 ^ m.length + num m := by
  rw [← foldl_from]; unfold num; rw [List.foldl_append]
theorem num_cons (c : UInt8) (m : List UInt8) : num (c :: m) = ((c.toNat : Int) - 48) * 10 ^ m.length + num m := by
  have h := num_append [c] m
  rw [List.singleton_append] at h
  rw [h]; simp [num]
theorem num_bd (l : List UInt8) : l.all isD = true → 0 ≤ num l ∧ num l < 10 ^ l.length := by
  induction l with
  | nil => intro _; simp [num_nil]
  | cons c l ih =>
    intro h
    simp only [List.all_cons, Bool.and_eq_true] at h
    have h1 := ih h.2
    have h2 := (isD_iff c).1 h.1
    have h3 := pow_pos10 l.length
    rw [num_cons, List.length_cons, Int.pow_succ]
    generalize (10 : Int) ^ l.length = P at *
    have h4 : 0 ≤ ((c.toNat : Int) - 48) * P := Int.mul_nonneg (by omega) (by omega)
    have h5 : ((c.toNat : Int) - 48) * P ≤ 9 * P := Int.mul_le_mul_of_nonneg_right (by omega) (by omega)
    omega
theorem take_snoc (s : ByteArray) (k : Nat) (h : k < s.size) : s.data.toList.take (k + 1) = s.data.toList.take k ++ [s[k]] := by
  rw [List.take_succ_eq_append_getElem (by simpa using h)]; rfl
end Go.Proofs.YtfodmjdhpolnkaaDoor

/-
  Lists of numbers by their places, the number of lengths, and the codes of a row of lengths: pure facts, without the program; no condition but those of each line.
-/
import Derived.Test.YteehoihkbcbbgaaDoorBytes
namespace Go.Proofs.YteehoihkbcbbgaaDoor
open Go.ChangeShapes Go.WideShapes Go.ChangeAt Go.RowKit
set_option linter.unusedVariables false

/-- n cells, by their places. -/
def tab (n : Nat) (F : Nat → Int) : Array Value := ((List.range n).map (fun j => Value.int .i64 (F j))).toArray
theorem tab_size (n : Nat) (F : Nat → Int) : (tab n F).size = n := by simp [tab]
theorem tab_get (n : Nat) (F : Nat → Int) (i : Nat) (h : i < n) : (tab n F)[i]? = some (.int .i64 (F i)) := by
  simp [tab, h]
theorem tab_none (n : Nat) (F : Nat → Int) (i : Nat) (h : ¬ i < n) : (tab n F)[i]? = none := by
  simp [tab]; omega
theorem tab_congr (n : Nat) (F G : Nat → Int) (h : ∀ j, j < n → F j = G j) : tab n F = tab n G := by
  unfold tab
  congr 1
  apply List.map_congr_left
  intro j hj
  rw [h j (by simpa using hj)]
theorem tab_set (n : Nat) (F G : Nat → Int) (i : Nat) (v : Int) (hi : i < n) (h : ∀ j, j < n → j ≠ i → F j = G j) (hv : G i = v) : (tab n F).setIfInBounds i (.int .i64 v) = tab n G := by
  apply Array.ext_getElem?
  intro k
  rw [Array.getElem?_setIfInBounds]
  by_cases hk : k < n
  · rw [tab_get n G k hk]
    by_cases e : i = k
    · subst e; simp [tab_size, hi, hv]
    · rw [if_neg e, tab_get n F k hk, h k hk (fun x => e x.symm)]
  · rw [tab_none n G k hk]
    by_cases e : i = k
    · exact absurd hi (e ▸ hk)
    · rw [if_neg e, tab_none n F k hk]
theorem tab_zero (n : Nat) : madeCells #[Value.int .i64 0] n = tab n (fun _ => 0) := by
  unfold tab madeCells
  apply Array.ext_getElem?
  intro i
  by_cases h : i < n <;> simp [Nat.mod_one, h]
theorem tab16 (F : Nat → Int) : tab 16 F = #[.int .i64 (F 0), .int .i64 (F 1), .int .i64 (F 2), .int .i64 (F 3), .int .i64 (F 4), .int .i64 (F 5), .int .i64 (F 6), .int .i64 (F 7), .int .i64 (F 8), .int .i64 (F 9), .int .i64 (F 10), .int .i64 (F 11), .int .i64 (F 12), .int .i64 (F 13), .int .i64 (F 14), .int .i64 (F 15)] := rfl
theorem cellsOf_tab (zs : List Int) : cellsOf .i64 zs = tab zs.length (fun j => zs.getD j 0) := by
  apply Array.ext_getElem?
  intro i
  by_cases h : i < zs.length
  · rw [tab_get _ _ _ h, cellsOf_get _ _ _ h]
  · rw [tab_none _ _ _ h]; simp [cellsOf]; omega

/-- How often the length l stands among the first i (what has no code is not counted). -/
def cn (xs : List Int) (i : Nat) (l : Nat) : Int := if l = 0 then 0 else ((xs.take i).count (l : Int) : Int)
theorem cn_zero (xs : List Int) (l : Nat) : cn xs 0 l = 0 := by unfold cn; split <;> simp
theorem take_succ_getD (xs : List Int) (i : Nat) (h : i < xs.length) : xs.take (i + 1) = xs.take i ++ [xs.getD i 0] := by
  rw [List.take_succ_eq_append_getElem h]; simp [h]
theorem cn_succ (xs : List Int) (i l : Nat) (h : i < xs.length) : cn xs (i + 1) l = cn xs i l + if l ≠ 0 ∧ xs.getD i 0 = l then 1 else 0 := by
  unfold cn
  by_cases hl : l = 0
  · simp [hl]
  · rw [if_neg hl, if_neg hl, take_succ_getD xs i h, List.count_append]
    by_cases e : xs.getD i 0 = (l : Int)
    · rw [if_pos ⟨hl, e⟩, e]; simp
    · rw [if_neg (fun x => e x.2)]
      have : List.count (l : Int) [xs.getD i 0] = 0 := by rw [List.count_eq_zero]; simp; exact fun x => e (by simpa using x.symm)
      rw [this]; simp
theorem cn_bd (xs : List Int) (i l : Nat) : 0 ≤ cn xs i l ∧ cn xs i l ≤ i := by
  unfold cn
  split
  · omega
  · have := List.count_le_length (a := (l : Int)) (l := xs.take i)
    have h2 : (xs.take i).length ≤ i := by simp; omega
    omega
/-- The first code of each length. -/
def nx (xs : List Int) : Nat → Int
  | 0 => 0
  | l + 1 => (nx xs l + cn xs xs.length l) * 2
theorem nx_bd (xs : List Int) (h : xs.length ≤ 300) (l : Nat) : l ≤ 15 → 0 ≤ nx xs l ∧ nx xs l + 600 ≤ 600 * 2 ^ l := by
  induction l with
  | zero => intro _; exact ⟨Int.le_refl _, by show (0 : Int) + 600 ≤ 600 * 2 ^ 0; simp⟩
  | succ l ih =>
    intro hl
    have a := ih (by omega)
    have b := cn_bd xs xs.length l
    have e : (2 : Int) ^ (l + 1) = 2 ^ l * 2 := Int.pow_succ 2 l
    show 0 ≤ (nx xs l + cn xs xs.length l) * 2 ∧ (nx xs l + cn xs xs.length l) * 2 + 600 ≤ _
    rw [e]
    omega
/-- The code at a place. -/
def cd (xs : List Int) (i : Nat) : Int := if 0 < xs.getD i 0 then nx xs (xs.getD i 0).toNat + cn xs i (xs.getD i 0).toNat else 0
def codesL (xs : List Int) : List Int := (List.range xs.length).map (cd xs)
theorem codesL_len (xs : List Int) : (codesL xs).length = xs.length := by simp [codesL]
theorem codesL_cells (xs : List Int) : tab xs.length (cd xs) = cellsOf .i64 (codesL xs) := by
  rw [cellsOf_tab, codesL_len]
  apply tab_congr
  intro j hj
  simp [codesL, hj]
/-- All lengths are in 0..15. -/
def fit (xs : List Int) : Bool := decide (xs.length ≤ 300) && xs.all (fun x => decide (0 ≤ x) && decide (x ≤ 15))
theorem fit_len {xs : List Int} (h : fit xs = true) : xs.length ≤ 300 := by simp [fit] at h; exact h.1
theorem fit_at {xs : List Int} (h : fit xs = true) (i : Nat) : 0 ≤ xs.getD i 0 ∧ xs.getD i 0 ≤ 15 := by
  by_cases hi : i < xs.length
  · simp [fit] at h
    have := h.2 xs[i] (List.getElem_mem _)
    simp [hi]; exact this
  · rw [List.getD_eq_getElem?_getD, List.getElem?_eq_none (by omega)]; simp
theorem fit_no {xs : List Int} (hl : xs.length ≤ 300) (i : Nat) (hi : i < xs.length) (h : ¬ (0 ≤ xs.getD i 0 ∧ xs.getD i 0 ≤ 15)) : fit xs = false := by
  rw [Bool.eq_false_iff]; intro hf; exact h (fit_at hf i)
/-- The sum that tells whether a row is complete: over the first i. -/
def kr (xs : List Int) : Nat → Int
  | 0 => 0
  | i + 1 => kr xs i + if 0 < xs.getD i 0 then 2 ^ (15 - (xs.getD i 0).toNat) else 0
/-- The same by lengths. -/
def ks (xs : List Int) (i : Nat) : Nat → Int
  | 0 => 0
  | l + 1 => ks xs i l + cn xs i l * 2 ^ (15 - l)
theorem ks_zero (xs : List Int) (l : Nat) : ks xs 0 l = 0 := by
  induction l with
  | zero => rfl
  | succ l ih => show ks xs 0 l + cn xs 0 l * 2 ^ (15 - l) = 0; rw [ih, cn_zero]; simp
theorem ks_step (xs : List Int) (i : Nat) (hi : i < xs.length) (h0 : 0 ≤ xs.getD i 0) (l : Nat) :
    ks xs (i + 1) l = ks xs i l + if 0 < xs.getD i 0 ∧ (xs.getD i 0).toNat < l then 2 ^ (15 - (xs.getD i 0).toNat) else 0 := by
  induction l with
  | zero => show (0 : Int) = 0 + _; rw [if_neg (by omega)]; rfl
  | succ l ih =>
    show ks xs (i + 1) l + cn xs (i + 1) l * 2 ^ (15 - l) = ks xs i l + cn xs i l * 2 ^ (15 - l) + _
    rw [ih, cn_succ xs i l hi, Int.add_mul]
    by_cases h : 0 < xs.getD i 0
    · by_cases e : (xs.getD i 0).toNat = l
      · have e' : xs.getD i 0 = (l : Int) := by omega
        rw [if_neg (by omega), if_pos ⟨by omega, e'⟩, if_pos ⟨h, by omega⟩, e]; simp [Int.add_assoc]
      · have e' : ¬ (l ≠ 0 ∧ xs.getD i 0 = (l : Int)) := by omega
        rw [if_neg e']
        by_cases h2 : (xs.getD i 0).toNat < l
        · rw [if_pos ⟨h, h2⟩, if_pos ⟨h, by omega⟩]; simp; omega
        · rw [if_neg (by omega), if_neg (by omega)]; simp
    · rw [if_neg (by omega), if_neg (by omega), if_neg (by omega)]; simp
theorem ks_kr (xs : List Int) (hf : fit xs = true) (i : Nat) : i ≤ xs.length → ks xs i 16 = kr xs i := by
  induction i with
  | zero => intro _; rw [ks_zero]; rfl
  | succ i ih =>
    intro hi
    have b := fit_at hf i
    rw [ks_step xs i (by omega) b.1, ih (by omega)]
    show _ = kr xs i + _
    by_cases h : 0 < xs.getD i 0
    · rw [if_pos ⟨h, by omega⟩, if_pos h]
    · rw [if_neg (by omega), if_neg h]
theorem pow_bd (k : Nat) (h : k ≤ 15) : (1 : Int) ≤ 2 ^ k ∧ (2 : Int) ^ k ≤ 32768 := by
  have : ∀ i : Fin 16, (1 : Int) ≤ 2 ^ i.val ∧ (2 : Int) ^ i.val ≤ 32768 := by decide
  exact this ⟨k, by omega⟩
theorem kr_bd (xs : List Int) (i : Nat) : 0 ≤ kr xs i ∧ kr xs i ≤ 32768 * i := by
  induction i with
  | zero => exact ⟨Int.le_refl _, by show (0 : Int) ≤ _; omega⟩
  | succ i ih =>
    have := pow_bd (15 - (xs.getD i 0).toNat) (by omega)
    show 0 ≤ kr xs i + _ ∧ kr xs i + _ ≤ _
    split <;> omega
theorem ks_bd (xs : List Int) (i l : Nat) (hi : i ≤ 300) : 0 ≤ ks xs i l ∧ ks xs i l ≤ 300 * 32768 * l := by
  induction l with
  | zero => exact ⟨Int.le_refl _, by show (0 : Int) ≤ _; omega⟩
  | succ l ih =>
    have a := pow_bd (15 - l) (by omega)
    have b := cn_bd xs i l
    have m := Int.mul_nonneg b.1 (show (0 : Int) ≤ 2 ^ (15 - l) by omega)
    have m2 := Int.mul_le_mul (show cn xs i l ≤ 300 by omega) a.2 (by omega) (by omega)
    show 0 ≤ ks xs i l + _ ∧ ks xs i l + _ ≤ _
    omega
/-- The codes, where there are any. -/
def full (xs : List Int) : Bool := decide (kr xs xs.length = 32768)
end Go.Proofs.YteehoihkbcbbgaaDoor

/-
  What lies below a node, on lists; each theorem names its conditions.
-/
import Derived.Test.YtgjnemmkpbkfhaaDoorMkGood
namespace Go.Proofs.YtgjnemmkpbkfhaaDoor
open Go.ChangeShapes Go.WideShapes Go.ChangeAt Go.RowKit
set_option linter.unusedVariables false

theorem meetsN_trans (l : List ND) (n : Nat) (hu : Ups l n) (hn : n ≤ l.length) (x u : Int) : ∀ (f : Nat) (k : Int), k < f → k < n → meetsN l u k = true → meetsN l x u = true → meetsN l x k = true := by
  intro f
  induction f with
  | zero => intro k h _ hm _; rw [meetsN_neg l u k (by omega)] at hm; simp at hm
  | succ f ih =>
    intro k h hk hm hx
    by_cases c : k < 0
    · rw [meetsN_neg l u k c] at hm; simp at hm
    · by_cases e : k = u
      · rw [e]; exact hx
      · have hh := hu k.toNat (by omega)
        rw [meetsN_up l u k n hu hn (by omega) hk e] at hm
        have h2 := ih _ (by omega) (by omega) hm hx
        by_cases e2 : k = x
        · rw [e2]; exact meetsN_same l x (by omega)
        · rw [meetsN_up l x k n hu hn (by omega) hk e2]; exact h2
theorem meetsN_small (l : List ND) (n : Nat) (hu : Ups l n) (hn : n ≤ l.length) (x k : Int) (h1 : k < x) (hk : k < n) (h0 : 0 ≤ x) : meetsN l x k = false := by
  cases h : meetsN l x k with
  | false => rfl
  | true =>
    have := meetsN_le l x n hu hn (k.toNat + 1) k (by omega) hk h
    omega
/-- The nodes behind k whose ups have all been k or more are below k. -/
theorem under_in (l : List ND) (n : Nat) (hu : Ups l n) (hn : n ≤ l.length) (k : Nat) : ∀ (m i : Nat), i < m → k < i → i < n → (∀ j, k < j → j ≤ i → (k : Int) ≤ upAt l j) → meetsN l k i = true := by
  intro m
  induction m with
  | zero => intro i h; omega
  | succ m ih =>
    intro i hm hk hi hj
    have h1 := hj i hk (Nat.le_refl _)
    have h2 := hu i hi
    rw [meetsN_up l k i n hu hn (by omega) (by omega) (by omega)]
    have e : ((i : Int)).toNat = i := by omega
    rw [e]
    by_cases c : upAt l i = k
    · rw [c]; exact meetsN_same l k (by omega)
    · have e2 : upAt l i = ((upAt l i).toNat : Int) := by omega
      rw [e2]
      exact ih _ (by omega) (by omega) (by omega) fun j h3 h4 => hj j h3 (by omega)
/-- From the first node on whose up is less, none is below k. -/
theorem under_out {l : List ND} (hg : GoodP l) (k i0 : Nat) (h0 : k < i0) (hl : i0 < l.length) (hup : upAt l i0 < k) : ∀ d, i0 + d < l.length → meetsN l k ((i0 + d : Nat) : Int) = false := by
  have hu := ups_of l l.length (Nat.le_refl _) hg.2
  intro d
  induction d with
  | zero =>
    intro _
    have h2 := hu i0 hl
    rw [meetsN_up l k _ l.length hu (Nat.le_refl _) (by omega) (by omega) (by omega)]
    have e : (((i0 + 0 : Nat) : Int)).toNat = i0 := by omega
    rw [e]
    exact meetsN_small l l.length hu (Nat.le_refl _) _ _ hup (by omega) (by omega)
  | succ d ih =>
    intro hlt
    have ih := ih (by omega)
    have h2 := hu (i0 + (d + 1)) hlt
    cases h : meetsN l k ((i0 + (d + 1) : Nat) : Int) with
    | false => rfl
    | true =>
      rw [meetsN_up l k _ l.length hu (Nat.le_refl _) (by omega) (by omega) (by omega)] at h
      have e : (((i0 + (d + 1) : Nat) : Int)).toNat = i0 + d + 1 := by omega
      rw [e] at h
      have hok := hg.2 (i0 + d + 1) (by omega)
      simp only [okB, Bool.and_eq_true] at hok
      have hp := hok.2
      unfold placeB at hp
      simp only [Bool.and_eq_true] at hp
      have := meetsN_trans l l.length hu (Nat.le_refl _) k (upAt l (i0 + d + 1)) (i0 + d + 1) ((i0 + d : Nat) : Int) (by omega) (by omega) hp.1 h
      rw [ih] at this; cases this
/-- What is below k ends at n: all ahead of it have ups of k or more, and it has not (or is the end). -/
structure EndAt (l : List ND) (k n : Nat) : Prop where
  lt : k < n
  le : n ≤ l.length
  ins : ∀ j, k < j → j < n → (k : Int) ≤ upAt l j
  out : n < l.length → upAt l n < k
end Go.Proofs.YtgjnemmkpbkfhaaDoor

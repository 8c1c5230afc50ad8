/-
  What an element uses, on lists: its href, the node with an id, what is used below a node; each theorem names its conditions.
-/
import Derived.Test.YthnmebmjmjfflaaDoorTgI
import Derived.Test.YthnmebmjmjfflaaDoorUnP
namespace Go.Proofs.YthnmebmjmjfflaaDoor
open Go.ChangeShapes Go.WideShapes Go.ChangeAt Go.RowKit
set_option linter.unusedVariables false

/-- What the node j names. -/
def tgt (l : List ND) (j : Nat) : Int := nodeI l (refV (nodeAt l j).attrs)
def isUse (l : List ND) (j : Nat) : Bool := decide ((nodeAt l j).name = useT)
def useB (l : List ND) (j i : Nat) : Bool := isUse l j && decide (tgt l j = (i : Int))
/-- Whether i is used by one of the n nodes from k on that are k or below it. -/
def usT (l : List ND) (k n i : Nat) : Bool := (List.range n).any fun d => meetsN l k ((k + d : Nat) : Int) && useB l (k + d) i
theorem usT_zero (l : List ND) (k i : Nat) : usT l k 0 i = false := rfl
theorem usT_step (l : List ND) (k n i : Nat) : usT l k (n + 1) i = (usT l k n i || (meetsN l k ((k + n : Nat) : Int) && useB l (k + n) i)) := by
  unfold usT
  rw [List.range_succ, List.any_append]
  simp
def uses (l : List ND) (k i : Nat) : Bool := usT l k (l.length - k) i
theorem useB_lt {l : List ND} {j i : Nat} (h : useB l j i = true) : i < l.length := by
  unfold useB at h
  rw [Bool.and_eq_true, decide_eq_true_eq] at h
  rcases nodeI_bd l (refV (nodeAt l j).attrs) with hb | hb
  · have := h.2; unfold tgt at this; omega
  · have := h.2; unfold tgt at this; omega
theorem usT_lt {l : List ND} {k n i : Nat} (h : usT l k n i = true) : i < l.length := by
  unfold usT at h
  rw [List.any_eq_true] at h
  obtain ⟨d, _, hd⟩ := h
  rw [Bool.and_eq_true] at hd
  exact useB_lt hd.2
theorem uses_lt {l : List ND} {k i : Nat} (h : uses l k i = true) : i < l.length := usT_lt h
theorem usT_no {l : List ND} {k n i : Nat} (h : meetsN l k ((k + n : Nat) : Int) = false ∨ isUse l (k + n) = false ∨ tgt l (k + n) = -1) : usT l k (n + 1) i = usT l k n i := by
  rw [usT_step]
  rcases h with h | h | h
  · rw [h]; simp
  · unfold useB; rw [h]; simp
  · unfold useB; rw [h]
    have : decide ((-1 : Int) = (i : Int)) = false := decide_eq_false (by omega)
    rw [this]; simp
theorem usT_yes {l : List ND} {k n t : Nat} (h1 : meetsN l k ((k + n : Nat) : Int) = true) (h2 : isUse l (k + n) = true) (h3 : tgt l (k + n) = (t : Int)) (i : Nat) : usT l k (n + 1) i = (usT l k n i || decide (i = t)) := by
  rw [usT_step, h1]
  unfold useB
  rw [h2, h3]
  simp only [Bool.true_and]
  congr 1
  rw [decide_eq_decide]
  omega
/-- Behind the end of what is below k nothing more is used. -/
theorem usT_rest {l : List ND} (hg : GoodP l) (k n : Nat) (h0 : 0 < n) (hl : k + n < l.length) (hup : upAt l (k + n) < k) (i : Nat) : ∀ d, k + n + d ≤ l.length → usT l k (n + d) i = usT l k n i := by
  intro d
  induction d with
  | zero => intro _; rfl
  | succ d ih =>
    intro h
    have h2 := under_out hg k (k + n) (by omega) hl hup d (by omega)
    have e : n + (d + 1) = (n + d) + 1 := by omega
    have e2 : k + (n + d) = k + n + d := by omega
    rw [e, usT_no (Or.inl (by rw [e2]; exact h2))]
    exact ih (by omega)
/-- The numbers that are used, rising. -/
def usL (l : List ND) (k n : Nat) : List Int := ((List.range n).filter (uses l k)).map Int.ofNat
theorem usL_yes {l : List ND} {k n : Nat} (h : uses l k n = true) : usL l k (n + 1) = usL l k n ++ [(n : Int)] := by
  unfold usL; rw [List.range_succ, List.filter_append, List.map_append]; simp [h]
theorem usL_no {l : List ND} {k n : Nat} (h : uses l k n = false) : usL l k (n + 1) = usL l k n := by
  unfold usL; rw [List.range_succ, List.filter_append, List.map_append]; simp [h]
theorem usL_len (l : List ND) (k n : Nat) : (usL l k n).length ≤ n := by
  unfold usL
  rw [List.length_map]
  exact Nat.le_trans (List.length_filter_le _ _) (by simp)
/-- Bits told by a function. -/
def bitsF (f : Nat → Bool) : Nat → Nat
  | 0 => 0
  | n + 1 => bitsF f n + if f n = true then 2 ^ n else 0
theorem bitsF_lt (f : Nat → Bool) : ∀ n, bitsF f n < 2 ^ n := by
  intro n
  induction n with
  | zero => simp [bitsF]
  | succ n ih => rw [bitsF, Nat.pow_succ]; split <;> omega
theorem bitsF_at (f : Nat → Bool) : ∀ n i, (bitsF f n).testBit i = (decide (i < n) && f i) := by
  intro n
  induction n with
  | zero => intro i; simp [bitsF]
  | succ n ih =>
    intro i
    have hlt := bitsF_lt f n
    rw [bitsF]
    by_cases hf : f n = true
    · rw [if_pos hf]
      have h2 := Nat.two_pow_add_eq_or_of_lt hlt 1
      rw [Nat.mul_one] at h2
      rw [show bitsF f n + 2 ^ n = 2 ^ n + bitsF f n by omega, h2, Nat.testBit_or, Nat.testBit_two_pow, ih i]
      by_cases e : n = i
      · subst e; simp [hf]
      · have e2 : decide (i < n + 1) = decide (i < n) := by rw [decide_eq_decide]; omega
        rw [e2, decide_eq_false e, Bool.false_or]
    · rw [if_neg hf, Nat.add_zero, ih i]
      by_cases e : i = n
      · subst e
        have : f i = false := by simpa using hf
        rw [this]; simp
      · have : decide (i < n + 1) = decide (i < n) := by rw [decide_eq_decide]; omega
        rw [this]
theorem bitsF_congr {f g : Nat → Bool} : ∀ n, (∀ i, i < n → f i = g i) → bitsF f n = bitsF g n := by
  intro n
  induction n with
  | zero => intro _; rfl
  | succ n ih => intro h; rw [bitsF, bitsF, ih (fun i hi => h i (by omega)), h n (Nat.lt_succ_self _)]
theorem bitsF_or (f g : Nat → Bool) (n : Nat) : bitsF f n ||| bitsF g n = bitsF (fun i => f i || g i) n := by
  apply Nat.eq_of_testBit_eq
  intro i
  rw [Nat.testBit_or, bitsF_at, bitsF_at, bitsF_at]
  cases decide (i < n) <;> simp
theorem bitsF_put (f : Nat → Bool) (n t : Nat) (ht : t < n) : bitsF f n ||| 2 ^ t = bitsF (fun i => f i || decide (i = t)) n := by
  apply Nat.eq_of_testBit_eq
  intro i
  rw [Nat.testBit_or, bitsF_at, bitsF_at, Nat.testBit_two_pow]
  by_cases e : t = i
  · subst e; simp [ht]
  · have e2 : ¬ i = t := fun h => e h.symm
    simp [e, e2]
end Go.Proofs.YthnmebmjmjfflaaDoor

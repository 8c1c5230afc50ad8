/-
  Words of a text with blanks between, told by runes and told by bytes: pure facts, without the program; no condition but those of each line.
-/
import Derived.Lib.FieldsP
import Derived.Lib.SpaceUEq
import Derived.Lib.DecodeN
import Derived.Laws.RangeAny
namespace Go.Proofs.YtnkmdmmlpidcmaaDoor
set_option linter.unusedVariables false

def blankN (x : Nat) : Bool := decide (x = 9 ∨ x = 10 ∨ x = 13 ∨ x = 32)
def byN (s : ByteArray) (i : Nat) : Nat := (s.get! i).toNat
theorem byN_of (s : ByteArray) (i : Nat) (h : i < s.size) : byN s i = s[i].toNat := by
  have h' : i < s.data.size := h
  have e : s.get! i = s[i] := by
    show s.data[i]! = s.data[i]
    exact getElem!_pos s.data i h'
  unfold byN
  rw [e]
theorem blankN_high {x : Nat} (h : 128 ≤ x) : blankN x = false := by unfold blankN; exact decide_eq_false (by omega)
/-- The spans of the words, by bytes. -/
def spB (s : ByteArray) : Nat → Nat → Option Nat → List (Nat × Nat) → List (Nat × Nat) × Option Nat
  | 0, _, st, acc => (acc, st)
  | f + 1, pos, st, acc =>
    if pos < s.size then
      (if blankN (byN s pos) then
        (match st with
         | some a => spB s f (pos + 1) none (acc ++ [(a, pos)])
         | none => spB s f (pos + 1) none acc)
       else
        (match st with
         | some a => spB s f (pos + 1) (some a) acc
         | none => spB s f (pos + 1) (some pos) acc))
    else (acc, st)
theorem spB_end (s : ByteArray) (f pos : Nat) (st : Option Nat) (acc : List (Nat × Nat)) (h : ¬ pos < s.size) : spB s f pos st acc = (acc, st) := by
  cases f with
  | zero => rfl
  | succ f => simp [spB, h]
theorem spB_blank_some (s : ByteArray) (f pos a : Nat) (acc : List (Nat × Nat)) (h : pos < s.size) (hb : blankN (byN s pos) = true) : spB s (f + 1) pos (some a) acc = spB s f (pos + 1) none (acc ++ [(a, pos)]) := by
  simp [spB, h, hb]
theorem spB_blank_none (s : ByteArray) (f pos : Nat) (acc : List (Nat × Nat)) (h : pos < s.size) (hb : blankN (byN s pos) = true) : spB s (f + 1) pos none acc = spB s f (pos + 1) none acc := by
  simp [spB, h, hb]
theorem spB_word_some (s : ByteArray) (f pos a : Nat) (acc : List (Nat × Nat)) (h : pos < s.size) (hb : blankN (byN s pos) = false) : spB s (f + 1) pos (some a) acc = spB s f (pos + 1) (some a) acc := by
  simp [spB, h, hb]
theorem spB_word_none (s : ByteArray) (f pos : Nat) (acc : List (Nat × Nat)) (h : pos < s.size) (hb : blankN (byN s pos) = false) : spB s (f + 1) pos none acc = spB s f (pos + 1) (some pos) acc := by
  simp [spB, h, hb]
theorem spB_skip (s : ByteArray) : ∀ (k f pos a : Nat) (acc : List (Nat × Nat)), pos + k ≤ s.size → (∀ j, j < k → blankN (byN s (pos + j)) = false) → spB s (f + k) pos (some a) acc = spB s f (pos + k) (some a) acc
  | 0, f, pos, a, acc, _, _ => rfl
  | k + 1, f, pos, a, acc, h, hj => by
    rw [show f + (k + 1) = (f + k) + 1 by omega, spB_word_some s _ pos _ _ (by omega) (by simpa using hj 0 (by omega)), spB_skip s k f (pos + 1) a acc (by omega) (fun j h2 => by have := hj (j + 1) (by omega); rwa [show pos + (j + 1) = pos + 1 + j by omega] at this), show pos + 1 + k = pos + (k + 1) by omega]
theorem spans_bytes (s : ByteArray) : ∀ (f g pos : Nat) (st : Option Nat) (acc : List (Nat × Nat)), s.size ≤ pos + f → s.size ≤ pos + g → Lib.spansFromP blankN s f pos st acc = spB s g pos st acc
  | 0, g, pos, st, acc, h, _ => by rw [spB_end _ _ _ _ _ (by omega)]; rfl
  | f + 1, g, pos, st, acc, h, hg => by
    by_cases hlt : pos < s.size
    · have hby := byN_of s pos hlt
      obtain ⟨g', rfl⟩ : ∃ g', g = g' + 1 := ⟨g - 1, by omega⟩
      by_cases ha : (s[pos]'hlt).toNat < 128
      · have hd := decode_ascii s pos hlt ha
        simp only [Lib.spansFromP, hlt, if_true, hd]
        cases hb : blankN (s[pos]'hlt).toNat
        · cases st with
          | none => rw [spB_word_none s _ _ _ hlt (by rw [hby]; exact hb)]; simp only [Bool.false_eq_true, if_false]; exact spans_bytes s f g' _ _ _ (by omega) (by omega)
          | some a => rw [spB_word_some s _ _ _ _ hlt (by rw [hby]; exact hb)]; simp only [Bool.false_eq_true, if_false]; exact spans_bytes s f g' _ _ _ (by omega) (by omega)
        · cases st with
          | none => rw [spB_blank_none s _ _ _ hlt (by rw [hby]; exact hb)]; simp only [if_true]; exact spans_bytes s f g' _ _ _ (by omega) (by omega)
          | some a => rw [spB_blank_some s _ _ _ _ hlt (by rw [hby]; exact hb)]; simp only [if_true]; exact spans_bytes s f g' _ _ _ (by omega) (by omega)
      · obtain ⟨h1, h2⟩ := decode_high s pos hlt (by omega)
        have hc := Lib.decodeN_conts (s.size - pos) (s.get! pos).toNat (s.get! (pos + 1)).toNat (s.get! (pos + 2)).toNat (s.get! (pos + 3)).toNat
        rw [← Lib.decode_at] at hc
        obtain ⟨c2, c3, c4, c5⟩ := hc
        have hb0 : blankN (byN s pos) = false := blankN_high (by rw [hby]; omega)
        simp only [Lib.spansFromP, hlt, if_true, blankN_high h1, Bool.false_eq_true, if_false]
        generalize (Utf8.decode s pos).2 = K at *
        have hin : ∀ j, j < K - 1 → blankN (byN s (pos + 1 + j)) = false := by
          intro j hj
          apply blankN_high
          unfold byN
          rcases (show j = 0 ∨ j = 1 ∨ j = 2 by omega) with rfl | rfl | rfl
          · have := (c2 (by omega)).1; show 128 ≤ (s.get! (pos + 1)).toNat; omega
          · have := (c3 (by omega)).1; show 128 ≤ (s.get! (pos + 2)).toNat; omega
          · have := (c4 (by omega)).1; show 128 ≤ (s.get! (pos + 3)).toNat; omega
        have hK : pos + K ≤ s.size := by
          rcases (show K = 1 ∨ K = 2 ∨ K = 3 ∨ K = 4 by omega) with rfl | rfl | rfl | rfl
          · omega
          · have := (c2 (by omega)).2; omega
          · have := (c3 (by omega)).2; omega
          · have := (c4 (by omega)).2; omega
        obtain ⟨g2, rfl⟩ : ∃ g2, g' = g2 + (K - 1) := ⟨g' - (K - 1), by omega⟩
        cases st with
        | none =>
          rw [spB_word_none s _ _ _ hlt hb0, spB_skip s (K - 1) g2 (pos + 1) pos acc (by omega) hin, show pos + 1 + (K - 1) = pos + K by omega]
          exact spans_bytes s f g2 _ _ _ (by omega) (by omega)
        | some a =>
          rw [spB_word_some s _ _ _ _ hlt hb0, spB_skip s (K - 1) g2 (pos + 1) a acc (by omega) hin, show pos + 1 + (K - 1) = pos + K by omega]
          exact spans_bytes s f g2 _ _ _ (by omega) (by omega)
    · rw [spB_end _ _ _ _ _ hlt, Lib.spansFromP_end _ _ _ _ _ _ hlt]
/-- The words of a text. -/
def wordsOf (s : ByteArray) : List ByteArray := (Lib.closeSpans s (spB s s.size 0 none [])).map fun x => s.extract x.1 x.2
theorem fields_words (s : ByteArray) : Lib.goFieldsP blankN s = wordsOf s := by
  unfold Lib.goFieldsP Lib.spansOfP wordsOf
  rw [spans_bytes s s.size s.size 0 none [] (by omega) (by omega)]
theorem wordsOf_len (s : ByteArray) : (wordsOf s).length ≤ s.size + 1 := by
  have key : ∀ (f pos : Nat) (st : Option Nat) (acc : List (Nat × Nat)), (spB s f pos st acc).1.length ≤ acc.length + f := by
    intro f
    induction f with
    | zero => intro pos st acc; exact Nat.le_refl _
    | succ f ih =>
      intro pos st acc
      unfold spB
      split
      · split
        · cases st with
          | none => have := ih (pos + 1) none acc; simp only; omega
          | some a => have := ih (pos + 1) none (acc ++ [(a, pos)]); simp at this ⊢; omega
        · cases st with
          | none => have := ih (pos + 1) (some pos) acc; simp only; omega
          | some a => have := ih (pos + 1) (some a) acc; simp only; omega
      · simp
  have h := key s.size 0 none []
  unfold wordsOf Lib.closeSpans
  rw [List.length_map]
  split
  · simp at h ⊢; omega
  · simp at h ⊢; omega
end Go.Proofs.YtnkmdmmlpidcmaaDoor

/-
  Words of a text with blanks between, told by runes and told by bytes: pure facts, without the program; no condition but those of each line.
  Plain facts on lists of bytes: digits, the number that they tell; no condition.
  What the program's allDigits and numberOf answer, for texts within the bounds named in each theorem.
  What an append leaves as it was; each theorem names its conditions.
-/
import Derived.Lib.FieldsP
import Derived.Lib.SpaceUEq
import Derived.Lib.DecodeN
import Derived.Laws.RangeAny
import Derived.Test.YtnkmdmmlpidcmaaDoorJAA
import Derived.Test.YtnkmdmmlpidcmaaDoorJAB
import Derived.Maps.AppendAt
import Derived.OwnWalk
import Derived.Handy
namespace Go.Proofs.YtnkmdmmlpidcmaaDoor
set_option linter.unusedVariables false

def blankN (x : Nat) : Bool := decide (x = 9 ∨ x = 10 ∨ x = 13 ∨ x = 32)
def byN (s : ByteArray) (i : Nat) : Nat := (s.get! i).toNat
theorem byN_of (s : ByteArray) (i : Nat) (h : i < s.size) : byN s i = s[i].toNat := by
  have h' : i < s.data.size := h
  have e : s.get! i = s[i] := by
    show s.data[i]! = s.data[i]
    exact getElem!_pos s.data i h'
  unfold byN
  rw [e]
theorem blankN_high {x : Nat} (h : 128 ≤ x) : blankN x = false := by unfold blankN; exact decide_eq_false (by omega)
/-- The spans of the words, by bytes. -/
def spB (s : ByteArray) : Nat → Nat → Option Nat → List (Nat × Nat) → List (Nat × Nat) × Option Nat
  | 0, _, st, acc => (acc, st)
  | f + 1, pos, st, acc =>
    if pos < s.size then
      (if blankN (byN s pos) then
        (match st with
         | some a => spB s f (pos + 1) none (acc ++ [(a, pos)])
         | none => spB s f (pos + 1) none acc)
       else
        (match st with
         | some a => spB s f (pos + 1) (some a) acc
         | none => spB s f (pos + 1) (some pos) acc))
    else (acc, st)
theorem spB_end (s : ByteArray) (f pos : Nat) (st : Option Nat) (acc : List (Nat × Nat)) (h : ¬ pos < s.size) : spB s f pos st acc = (acc, st) := by
  cases f with
  | zero => rfl
  | succ f => simp [spB, h]
theorem spB_blank_some (s : ByteArray) (f pos a : Nat) (acc : List (Nat × Nat)) (h : pos < s.size) (hb : blankN (byN s pos) = true) : spB s (f + 1) pos (some a) acc = spB s f (pos + 1) none (acc ++ [(a, pos)]) := by
  simp [spB, h, hb]
theorem spB_blank_none (s : ByteArray) (f pos : Nat) (acc : List (Nat × Nat)) (h : pos < s.size) (hb : blankN (byN s pos) = true) : spB s (f + 1) pos none acc = spB s f (pos + 1) none acc := by
  simp [spB, h, hb]
theorem spB_word_some (s : ByteArray) (f pos a : Nat) (acc : List (Nat × Nat)) (h : pos < s.size) (hb : blankN (byN s pos) = false) : spB s (f + 1) pos (some a) acc = spB s f (pos + 1) (some a) acc := by
  simp [spB, h, hb]
theorem spB_word_none (s : ByteArray) (f pos : Nat) (acc : List (Nat × Nat)) (h : pos < s.size) (hb : blankN (byN s pos) = false) : spB s (f + 1) pos none acc = spB s f (pos + 1) (some pos) acc := by
  simp [spB, h, hb]
theorem spB_skip (s : ByteArray) : ∀ (k f pos a : Nat) (acc : List (Nat × Nat)), pos + k ≤ s.size → (∀ j, j < k → blankN (byN s (pos + j)) = false) → spB s (f + k) pos (some a) acc = spB s f (pos + k) (some a) acc
  | 0, f, pos, a, acc, _, _ => rfl
  | k + 1, f, pos, a, acc, h, hj => by
    rw [show f + (k + 1) = (f + k) + 1 by omega, spB_word_some s _ pos _ _ (by omega) (by simpa using hj 0 (by omega)), spB_skip s k f (pos + 1) a acc (by omega) (fun j h2 => by have := hj (j + 1) (by omega); rwa [show pos + (j + 1) = pos + 1 + j by omega] at this), show pos + 1 + k = pos + (k + 1) by omega]
theorem spans_bytes (s : ByteArray) : ∀ (f g pos : Nat) (st : Option Nat) (acc : List (Nat × Nat)), s.size ≤ pos + f → s.size ≤ pos + g → Lib.spansFromP blankN s f pos st acc = spB s g pos st acc
  | 0, g, pos, st, acc, h, _ => by rw [spB_end _ _ _ _ _ (by omega)]; rfl
  | f + 1, g, pos, st, acc, h, hg => by
    by_cases hlt : pos < s.size
    · have hby := byN_of s pos hlt
      obtain ⟨g', rfl⟩ : ∃ g', g = g' + 1 := ⟨g - 1, by omega⟩
      by_cases ha : (s[pos]'hlt).toNat < 128
      · have hd := decode_ascii s pos hlt ha
        simp only [Lib.spansFromP, hlt, if_true, hd]
        cases hb : blankN (s[pos]'hlt).toNat
        · cases st with
          | none => rw [spB_word_none s _ _ _ hlt (by rw [hby]; exact hb)]; simp only [Bool.false_eq_true, if_false]; exact spans_bytes s f g' _ _ _ (by omega) (by omega)
          | some a => rw [spB_word_some s _ _ _ _ hlt (by rw [hby]; exact hb)]; simp only [Bool.false_eq_true, if_false]; exact spans_bytes s f g' _ _ _ (by omega) (by omega)
        · cases st with
          | none => rw [spB_blank_none s _ _ _ hlt (by rw [hby]; exact hb)]; simp only [if_true]; exact spans_bytes s f g' _ _ _ (by omega) (by omega)
          | some a => rw [spB_blank_some s _ _ _ _ hlt (by rw [hby]; exact hb)]; simp only [if_true]; exact spans_bytes s f g' _ _ _ (by omega) (by omega)
      · obtain ⟨h1, h2⟩ := decode_high s pos hlt (by omega)
        have hc := Lib.decodeN_conts (s.size - pos) (s.get! pos).toNat (s.get! (pos + 1)).toNat (s.get! (pos + 2)).toNat (s.get! (pos + 3)).toNat
        rw [← Lib.decode_at] at hc
        obtain ⟨c2, c3, c4, c5⟩ := hc
        have hb0 : blankN (byN s pos) = false := blankN_high (by rw [hby]; omega)
        simp only [Lib.spansFromP, hlt, if_true, blankN_high h1, Bool.false_eq_true, if_false]
        generalize (Utf8.decode s pos).2 = K at *
        have hin : ∀ j, j < K - 1 → blankN (byN s (pos + 1 + j)) = false := by
          intro j hj
          apply blankN_high
          unfold byN
          rcases (show j = 0 ∨ j = 1 ∨ j = 2 by omega) with rfl | rfl | rfl
          · have := (c2 (by omega)).1; show 128 ≤ (s.get! (pos + 1)).toNat; omega
          · have := (c3 (by omega)).1; show 128 ≤ (s.get! (pos + 2)).toNat; omega
          · have := (c4 (by omega)).1; show 128 ≤ (s.get! (pos + 3)).toNat; omega
        have hK : pos + K ≤ s.size := by
          rcases (show K = 1 ∨ K = 2 ∨ K = 3 ∨ K = 4 by omega) with rfl | rfl | rfl | rfl
          · omega
          · have := (c2 (by omega)).2; omega
          · have := (c3 (by omega)).2; omega
          · have := (c4 (by omega)).2; omega
        obtain ⟨g2, rfl⟩ : ∃ g2, g' = g2 + (K - 1) := ⟨g' - (K - 1), by omega⟩
        cases st with
        | none =>
          rw [spB_word_none s _ _ _ hlt hb0, spB_skip s (K - 1) g2 (pos + 1) pos acc (by omega) hin, show pos + 1 + (K - 1) = pos + K by omega]
          exact spans_bytes s f g2 _ _ _ (by omega) (by omega)
        | some a =>
          rw [spB_word_some s _ _ _ _ hlt hb0, spB_skip s (K - 1) g2 (pos + 1) a acc (by omega) hin, show pos + 1 + (K - 1) = pos + K by omega]
          exact spans_bytes s f g2 _ _ _ (by omega) (by omega)
    · rw [spB_end _ _ _ _ _ hlt, Lib.spansFromP_end _ _ _ _ _ _ hlt]
/-- The words of a text. -/
def wordsOf (s : ByteArray) : List ByteArray := (Lib.closeSpans s (spB s s.size 0 none [])).map fun x => s.extract x.1 x.2
theorem fields_words (s : ByteArray) : Lib.goFieldsP blankN s = wordsOf s := by
  unfold Lib.goFieldsP Lib.spansOfP wordsOf
  rw [spans_bytes s s.size s.size 0 none [] (by omega) (by omega)]
theorem wordsOf_len (s : ByteArray) : (wordsOf s).length ≤ s.size + 1 := by
  have key : ∀ (f pos : Nat) (st : Option Nat) (acc : List (Nat × Nat)), (spB s f pos st acc).1.length ≤ acc.length + f := by
    intro f
    induction f with
    | zero => intro pos st acc; exact Nat.le_refl _
    | succ f ih =>
      intro pos st acc
      unfold spB
      split
      · split
        · cases st with
          | none => have := ih (pos + 1) none acc; simp only; omega
          | some a => have := ih (pos + 1) none (acc ++ [(a, pos)]); simp at this ⊢; omega
        · cases st with
          | none => have := ih (pos + 1) (some pos) acc; simp only; omega
          | some a => have := ih (pos + 1) (some a) acc; simp only; omega
      · simp
  have h := key s.size 0 none []
  unfold wordsOf Lib.closeSpans
  rw [List.length_map]
  split
  · simp at h ⊢; omega
  · simp at h ⊢; omega
end Go.Proofs.YtnkmdmmlpidcmaaDoor
namespace Go.Proofs.YtnkmdmmlpidcmaaDoor

/-- A digit. -/
def isD (c : UInt8) : Bool := decide (48 ≤ c.toNat) && decide (c.toNat ≤ 57)
/-- The number that digits tell. -/
def num (l : List UInt8) : Int := l.foldl (fun n c => n * 10 + ((c.toNat : Int) - 48)) 0

theorem isD_iff (c : UInt8) : isD c = true ↔ 48 ≤ (c.toNat : Int) ∧ (c.toNat : Int) ≤ 57 := by
  unfold isD; simp; omega
theorem num_snoc (l : List UInt8) (c : UInt8) : num (l ++ [c]) = num l * 10 + ((c.toNat : Int) - 48) := by
  unfold num; rw [List.foldl_append]; rfl
theorem num_nil : num [] = 0 := rfl
theorem pow_pos10 (k : Nat) : 0 < (10 : Int) ^ k := Int.pow_pos (by omega)
theorem foldl_from (m : List UInt8) : ∀ n : Int, m.foldl (fun n c => n * 10 + ((c.toNat : Int) - 48)) n = n * 10 ^ m.length + num m := by
  induction m with
  | nil => intro n; simp [num]
  | cons c m ih =>
    intro n
    have e : num (c :: m) = (0 * 10 + ((c.toNat : Int) - 48)) * 10 ^ m.length + num m := ih _
    rw [List.foldl_cons, ih, e, List.length_cons, Int.pow_succ, Int.add_mul, Int.add_mul, Int.mul_assoc, Int.mul_comm (10 ^ m.length) 10]
    omega
theorem num_append (l m : List UInt8) : num (l ++ m) = num l * 10 ^ m.length + num m := by
  rw [← foldl_from]; unfold num; rw [List.foldl_append]
theorem num_cons (c : UInt8) (m : List UInt8) : num (c :: m) = ((c.toNat : Int) - 48) * 10 ^ m.length + num m := by
  have h := num_append [c] m
  rw [List.singleton_append] at h
  rw [h]; simp [num]
theorem num_bd (l : List UInt8) : l.all isD = true → 0 ≤ num l ∧ num l < 10 ^ l.length := by
  induction l with
  | nil => intro _; simp [num_nil]
  | cons c l ih =>
    intro h
    simp only [List.all_cons, Bool.and_eq_true] at h
    have h1 := ih h.2
    have h2 := (isD_iff c).1 h.1
    have h3 := pow_pos10 l.length
    rw [num_cons, List.length_cons, Int.pow_succ]
    generalize (10 : Int) ^ l.length = P at *
    have h4 : 0 ≤ ((c.toNat : Int) - 48) * P := Int.mul_nonneg (by omega) (by omega)
    have h5 : ((c.toNat : Int) - 48) * P ≤ 9 * P := Int.mul_le_mul_of_nonneg_right (by omega) (by omega)
    omega
theorem take_snoc (s : ByteArray) (k : Nat) (h : k < s.size) : s.data.toList.take (k + 1) = s.data.toList.take k ++ [s[k]] := by
  rw [List.take_succ_eq_append_getElem (by simpa using h)]; rfl
end Go.Proofs.YtnkmdmmlpidcmaaDoor
namespace Go.Proofs.YtnkmdmmlpidcmaaDoor
open Go.ChangeShapes Go.WideShapes Go.ChangeAt Go.RowKit

/-- Digits alone. -/
def allD (l : List UInt8) : Bool := l.all isD

theorem all_snoc (s : ByteArray) (k : Nat) (h : k < s.size) : (s.data.toList.take (k + 1)).all isD = ((s.data.toList.take k).all isD && isD s[k]) := by
  rw [take_snoc s k h, List.all_append]; simp
theorem allD_false (s : ByteArray) (k : Nat) (h : k < s.size) (hd : isD s[k] = false) : s.data.toList.all isD = false := by
  rw [List.all_eq_false]
  exact ⟨s[k], by rw [show s[k] = s.data.toList[k] from rfl]; exact List.getElem_mem _, by simp [hd]⟩

set_option maxHeartbeats 400000 in
theorem allDigits_any (s : ByteArray) (w : World) (hs : s.size ≤ maxLen) :
    Calls Tryd.prog 88 #[.string s] w fun e w' => e = .returned (.bool (allD s.data.toList)) ∧ w' = w := by
  unfold maxLen at hs
  go_enter Tryd.func88, Tryd.ntmps88
  go_wp2
  go_loop [6] (fun i => ∃ k : Nat, k ≤ s.size ∧ i = .int .i64 k ∧ (s.data.toList.take k).all isD = true) (fun i => s.size - (intOf i).toNat)
  case atStart => exact ⟨0, Nat.zero_le _, rfl, rfl⟩
  case round =>
    obtain ⟨k, hk, rfl, ha⟩ := hrel
    have HA : Hid _ := ha
    clear ha
    by_cases hlt : k < s.size
    · by_cases h1 : 48 ≤ (s[k].toNat : Int)
      · by_cases h2 : (s[k].toNat : Int) ≤ 57
        · go_wp2
          go_round
          case rel => exact ⟨k + 1, by omega, by go_num, by rw [all_snoc s k hlt, HA.out, (isD_iff _).2 ⟨h1, h2⟩]; rfl⟩
          case measure => simp [intOf]; omega
        · have HF : Hid (allD s.data.toList = false) := allD_false s k hlt (by rw [Bool.eq_false_iff]; intro h; exact h2 ((isD_iff _).1 h).2)
          go_wp2
          go_ret
          exact ⟨by rw [HF.out]; rfl, rfl⟩
      · have HF : Hid (allD s.data.toList = false) := allD_false s k hlt (by rw [Bool.eq_false_iff]; intro h; exact h1 ((isD_iff _).1 h).1)
        go_wp2
        go_ret
        exact ⟨by rw [HF.out]; rfl, rfl⟩
    · have HT : Hid (allD s.data.toList = true) := by
        have := HA.out; rw [List.take_of_length_le (by simp; omega)] at this; exact this
      go_wp2
      go_ret
      exact ⟨by rw [HT.out]; rfl, rfl⟩

theorem num_take (s : ByteArray) (k : Nat) (h : k < s.size) : num (s.data.toList.take (k + 1)) = num (s.data.toList.take k) * 10 + ((s[k].toNat : Int) - 48) := by
  rw [take_snoc s k h, num_snoc]
theorem dig_at (s : ByteArray) (ha : allD s.data.toList = true) (k : Nat) (h : k < s.size) : 48 ≤ (s[k].toNat : Int) ∧ (s[k].toNat : Int) ≤ 57 := by
  have h1 := List.all_eq_true.1 ha s[k] (by rw [show s[k] = s.data.toList[k] from rfl]; exact List.getElem_mem _)
  exact (isD_iff _).1 h1
theorem num_take_bd (s : ByteArray) (ha : allD s.data.toList = true) (k : Nat) (h14 : k ≤ 15) : 0 ≤ num (s.data.toList.take k) ∧ num (s.data.toList.take k) < 1000000000000000 := by
  have h1 := num_bd (s.data.toList.take k) (by rw [List.all_eq_true]; intro x hx; exact List.all_eq_true.1 ha x (List.mem_of_mem_take hx))
  have h2 : (s.data.toList.take k).length ≤ 15 := by rw [List.length_take]; omega
  have h3 : (10 : Int) ^ (s.data.toList.take k).length ≤ 10 ^ 15 := by
    have := Nat.pow_le_pow_right (n := 10) (by omega) h2
    exact_mod_cast this
  omega

set_option maxHeartbeats 400000 in
theorem numberOf_any (s : ByteArray) (w : World) (hs : s.size ≤ 14) (ha : allD s.data.toList = true) :
    Calls Tryd.prog 89 #[.string s] w fun e w' => e = .returned (.int .i64 (num s.data.toList)) ∧ w' = w := by
  have HA : Hid _ := ha
  clear ha
  go_enter Tryd.func89, Tryd.ntmps89
  go_wp2
  go_loop [3, 7] (fun n i => ∃ k : Nat, k ≤ s.size ∧ i = .int .i64 k ∧ n = .int .i64 (num (s.data.toList.take k))) (fun _ i => s.size - (intOf i).toNat)
  case atStart => exact ⟨0, Nat.zero_le _, rfl, rfl⟩
  case round =>
    obtain ⟨k, hk, rfl, rfl⟩ := hrel
    by_cases hlt : k < s.size
    · obtain ⟨d1, d2⟩ := dig_at s HA.out k hlt
      obtain ⟨b1, b2⟩ := num_take_bd s HA.out k (by omega)
      have HS : Hid _ := num_take s k hlt
      generalize num (s.data.toList.take k) = n at *
      go_wp2
      go_round
      case rel => exact ⟨k + 1, by omega, by go_num, by rw [HS.out]⟩
      case measure => simp [intOf]; omega
    · have HT : Hid (num (s.data.toList.take k) = num s.data.toList) := by
        show _ = _; rw [List.take_of_length_le (by simp; omega)]
      go_wp2
      go_ret
      exact ⟨ret_int HT.out, rfl⟩
end Go.Proofs.YtnkmdmmlpidcmaaDoor
namespace Go.Proofs.YtnkmdmmlpidcmaaDoor
open Go.ChangeShapes Go.WideShapes Go.ChangeAt Go.RowKit
set_option linter.unusedVariables false

/-- Behind an append to v, which is v' now. -/
def Ext (v v' : Value) (w w' : World) : Prop := w.grownBy w' v.ownBlock ∧ (v'.ownBlock = v.ownBlock ∨ ∃ g, v'.ownBlock = some g ∧ w.heap.size ≤ g)
theorem Ext.refl (v : Value) (w : World) : Ext v v w w := ⟨⟨rfl, rfl, rfl, Nat.le_refl _, fun _ _ _ => rfl⟩, Or.inl rfl⟩
theorem Ext.size {v v' : Value} {w w' : World} (h : Ext v v' w w') : w.heap.size ≤ w'.heap.size := h.1.size
theorem Ext.trans {v v1 v2 : Value} {w w1 w2 : World} (h : Ext v v1 w w1) (k : Ext v1 v2 w1 w2) : Ext v v2 w w2 := by
  refine ⟨⟨k.1.os.trans h.1.os, k.1.tape.trans h.1.tape, k.1.output.trans h.1.output, Nat.le_trans h.1.size k.1.size, fun b hb hne => ?_⟩, ?_⟩
  · rw [k.1.block b (Nat.lt_of_lt_of_le hb h.1.size) ?_, h.1.block b hb hne]
    rcases h.2 with e | ⟨g, e, hg⟩
    · rw [e]; exact hne
    · rw [e]; intro e2; injection e2; omega
  · rcases k.2 with e | ⟨g, e, hg⟩
    · rcases h.2 with e2 | ⟨g, e2, hg⟩
      · exact Or.inl (e.trans e2)
      · exact Or.inr ⟨g, e.trans e2, hg⟩
    · exact Or.inr ⟨g, e, Nat.le_trans h.1.size hg⟩
theorem Nw.ext {v v' : Value} {a b c : World} (h : Nw a b) (k : Ext v v' b c) : Ext v v' a c := by
  have hs := Below.size h
  refine ⟨⟨k.1.os.trans (Below.os h), k.1.tape.trans (Below.tape h), k.1.output.trans (Below.output h), Nat.le_trans hs k.1.size, fun b hb hne => ?_⟩, ?_⟩
  · rw [k.1.block b (by omega) hne, Below.block h b hb]
  · rcases k.2 with e | ⟨g, e, hg⟩
    · exact Or.inl e
    · exact Or.inr ⟨g, e, by omega⟩
theorem Ext.nw {v v' : Value} {a b c : World} (h : Ext v v' a b) (k : Nw b c) : Ext v v' a c := by
  have hs := h.1.size
  refine ⟨⟨(Below.os k).trans h.1.os, (Below.tape k).trans h.1.tape, (Below.output k).trans h.1.output, Nat.le_trans hs (Below.size k), fun b hb hne => ?_⟩, h.2⟩
  rw [Below.block k b (by omega), h.1.block b hb hne]
theorem Ext.below {v v' : Value} {w w' : World} {B : Nat} (h : Ext v v' w w') (hv : ∀ g, v.ownBlock = some g → B ≤ g) (hB : B ≤ w.heap.size) : Below B w w' :=
  ⟨h.1.os, h.1.tape, h.1.output, h.1.size, fun k hk => h.1.block k (by omega) (fun e => by have := hv k e.symm; omega)⟩
theorem Ext.apart {v v' : Value} {w w' : World} {b : Nat} (h : Ext v v' w w') (hb : b < w.heap.size) (hne : v.ownBlock ≠ some b) : v'.ownBlock ≠ some b := by
  rcases h.2 with e | ⟨g, e, hg⟩
  · rw [e]; exact hne
  · rw [e]; intro e2; injection e2; omega
theorem Ext.cell {v v' : Value} {w w' : World} {b : Nat} (h : Ext v v' w w') (hb : b < w.heap.size) (hne : v.ownBlock ≠ some b) (o : Nat) : w'.cell? ⟨b, o, none⟩ = w.cell? ⟨b, o, none⟩ :=
  World.cell?_of_block (w := w) (a := ⟨b, o, none⟩) (h.1.block b hb (fun e => hne e.symm))

theorem set_grown {w : World} {b o : Nat} {u : Value} : w.grownBy (w.setCell ⟨b, o, none⟩ u) (some b) :=
  ⟨rfl, rfl, rfl, by simp [World.setCell], fun i hi hne => Below.heap_setCell _ _ _ _ (by intro e; apply hne; rw [e])⟩
end Go.Proofs.YtnkmdmmlpidcmaaDoor

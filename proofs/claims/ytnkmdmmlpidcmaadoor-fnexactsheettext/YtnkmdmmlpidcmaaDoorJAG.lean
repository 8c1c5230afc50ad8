/-
  Words, parts and pieces of a text as lists of bytes and as texts: pure facts; each theorem names its conditions.
  Words of a text with blanks between, told by runes and told by bytes: pure facts, without the program; no condition but those of each line.
  What the library's Index, Cut, Count and Split answer at a separator of one byte, for texts of at most 1048576 bytes.
  An element with memory of its own appended to a row; each theorem names its conditions.
-/
import Derived.Test.YtnkmdmmlpidcmaaDoorJAF
import Derived.Laws.Externs
import Derived.Lib.FieldsP
import Derived.Lib.SpaceUEq
import Derived.Lib.DecodeN
import Derived.Laws.RangeAny
import Derived.Test.YtnkmdmmlpidcmaaDoorJAD
import Derived.Lib.Bytealg
import Derived.Test.YtnkmdmmlpidcmaaDoorJAC
namespace Go.Proofs.YtnkmdmmlpidcmaaDoor
open Go.ChangeShapes Go.WideShapes Go.ChangeAt Go.RowKit
set_option linter.unusedVariables false

/-- A text out of its bytes. -/
def bA (l : List UInt8) : ByteArray := ⟨l.toArray⟩
theorem bA_data (s : ByteArray) : bA s.data.toList = s := by cases s; simp [bA]
theorem bA_list (l : List UInt8) : (bA l).data.toList = l := by simp [bA]
theorem bA_size (l : List UInt8) : (bA l).size = l.length := by show l.toArray.size = _; simp
theorem data_len (s : ByteArray) : s.data.toList.length = s.size := by show _ = s.data.size; simp
theorem ext_bA (s : ByteArray) (a b : Nat) : s.extract a b = bA ((s.data.toList.take b).drop a) := by
  apply ByteArray.ext
  rw [ByteArray.data_extract]
  unfold bA
  simp only
  rw [← Array.toList_inj]
  rw [Array.toList_extract, List.extract_eq_take_drop]
  simp [List.drop_take]
theorem getB (s : ByteArray) (i : Nat) (h : i < s.size) : s[i] = s.data.toList[i]'(by rw [data_len]; exact h) := by
  show s.data[i] = _
  simp
theorem wbL_wB (b : UInt8) : wbL b = wB (b.toNat : Int) := by
  unfold wbL wB
  rw [Bool.eq_iff_iff]
  simp only [decide_eq_true_eq]
  omega
theorem dgL_digB (b : UInt8) : dgL b = digB (b.toNat : Int) := by
  unfold dgL digB
  rw [Bool.eq_iff_iff]
  simp only [decide_eq_true_eq]
  omega
theorem lead0 : ∀ (l : List UInt8) (h : 0 < l.length), leadD l = dgL (l[0]'h)
  | [], h => by simp at h
  | b :: r, _ => rfl
theorem wordB_L (s : ByteArray) : wordB s = wordL s.data.toList := by
  rw [Bool.eq_iff_iff, wordB_iff]
  unfold WordOk wordL
  simp only [Bool.and_eq_true, decide_eq_true_eq, Bool.not_eq_true', data_len]
  constructor
  · rintro ⟨h1, h2, h3⟩
    refine ⟨h1, ?_, ?_⟩
    · have h0 : 0 < s.size := by omega
      rw [bt_of s 0 h0, getB s 0 h0, ← dgL_digB] at h2
      rw [lead0 _ (by rw [data_len]; exact h0)]
      exact h2
    · rw [List.all_eq_true]
      intro b hb
      obtain ⟨i, hi, rfl⟩ := List.mem_iff_getElem.1 hb
      rw [data_len] at hi
      have := h3 i hi
      rw [bt_of s i hi, getB s i hi, ← wbL_wB] at this
      exact this
  · rintro ⟨h1, h2, h3⟩
    have h0 : 0 < s.size := by omega
    refine ⟨h1, ?_, fun i hi => ?_⟩
    · rw [bt_of s 0 h0, getB s 0 h0, ← dgL_digB]
      rw [lead0 _ (by rw [data_len]; exact h0)] at h2
      exact h2
    · rw [bt_of s i hi, getB s i hi, ← wbL_wB]
      exact List.all_eq_true.1 h3 _ (List.getElem_mem _)
theorem lead_run {s : ByteArray} {n : Nat} (h : IsLead s n) : runOf s n = runL s.data.toList := by
  obtain ⟨h1, h2, h3⟩ := h
  have hn : (s.data.toList.takeWhile wbL).length = n := by
    have ha : (s.data.toList.take n).all wbL = true := by
      rw [List.all_eq_true]
      intro b hb
      obtain ⟨i, hi, rfl⟩ := List.mem_iff_getElem.1 hb
      rw [List.length_take, data_len] at hi
      have := h2 i (by omega)
      rw [bt_of s i (by omega), getB s i (by omega), ← wbL_wB] at this
      rw [List.getElem_take]
      exact this
    have hr : stopL (s.data.toList.drop n) := by
      intro b r e
      have hlt : n < s.size := by
        have := congrArg List.length e
        rw [List.length_drop, data_len] at this
        simp at this
        omega
      have := h3 hlt
      rw [bt_of s n hlt, getB s n hlt, ← wbL_wB] at this
      rw [List.drop_eq_getElem_cons (by rw [data_len]; exact hlt)] at e
      injection e with e1 _
      rw [← e1]
      exact this
    have := take_all ha hr
    rw [List.take_append_drop] at this
    rw [this, List.length_take, data_len]
    omega
  unfold runOf runL
  rw [hn]
  have hd : (digB (bt s 0) = true) = (leadD s.data.toList = true) ∨ n = 0 := by
    by_cases h0 : 0 < s.size
    · left
      rw [bt_of s 0 h0, getB s 0 h0, ← dgL_digB, lead0 _ (by rw [data_len]; exact h0)]
    · right; omega
  rcases hd with hd | hd
  · simp only [hd]
  · simp [hd]
def toL (p : PD) : PL := ⟨p.ty.data.toList, p.id.data.toList, p.cls.map (·.data.toList)⟩
def ofL (p : PL) : PD := ⟨bA p.ty, bA p.id, p.cls.map bA⟩
theorem toL_ofL (p : PL) : toL (ofL p) = p := by
  obtain ⟨ty, ud, cls⟩ := p
  unfold toL ofL
  simp only [bA_list, List.map_map]
  congr 1
  have e : ((fun x : ByteArray => x.data.toList) ∘ bA) = id := funext fun l => bA_list l
  rw [e]
  exact List.map_id _
theorem emp_list (t : ByteArray) : t.toList.isEmpty = true ↔ t.data.toList = [] := by
  rw [ByteArray.toList_eq, List.isEmpty_iff]
theorem partB_L (p : PD) : partB p = true ↔ GoodL (toL p) := by
  obtain ⟨ty, id, cls⟩ := p
  unfold partB typeB idB someB
  simp only [Bool.and_eq_true, Bool.or_eq_true, decide_eq_true_eq, clsB_iff, wordB_L, emp_list, Bool.not_eq_true', beq_iff_eq]
  have ne : ∀ t : ByteArray, t.toList.isEmpty = false ↔ t.data.toList ≠ [] := by
    intro t
    rw [← Bool.not_eq_true, emp_list]
  constructor
  · rintro ⟨h1, h2, h3, h4, h5⟩
    refine ⟨by simpa [toL] using h1, ?_, ?_, h4, ?_⟩
    · intro c hc
      obtain ⟨x, hx, rfl⟩ := List.mem_map.1 hc
      obtain ⟨i, hi, rfl⟩ := List.mem_iff_getElem.1 hx
      have := h2 i hi
      rw [wordB_L] at this
      simpa [strAt, hi] using this
    · rcases h3 with (h | h) | h
      · exact Or.inl h
      · rw [ByteArray.toList_eq] at h; exact Or.inr (Or.inl h)
      · exact Or.inr (Or.inr h)
    · rcases h5 with (h | h) | h
      · exact Or.inl ((ne _).1 h)
      · exact Or.inr (Or.inl ((ne _).1 h))
      · refine Or.inr (Or.inr ?_)
        intro e
        have := congrArg List.length e
        simp [toL] at this
        rw [this] at h
        simp at h
  · rintro ⟨h1, h2, h3, h4, h5⟩
    refine ⟨by simpa [toL] using h1, ?_, ?_, h4, ?_⟩
    · intro i hi
      have := h2 (strAt cls i).data.toList (List.mem_map.2 ⟨strAt cls i, by simp [strAt, hi], rfl⟩)
      rw [wordB_L]
      exact this
    · rcases h3 with h | h | h
      · exact Or.inl (Or.inl h)
      · exact Or.inl (Or.inr (by rw [ByteArray.toList_eq]; exact h))
      · exact Or.inr h
    · rcases h5 with h | h | h
      · exact Or.inl (Or.inl ((ne _).2 h))
      · exact Or.inl (Or.inr ((ne _).2 h))
      · refine Or.inr ?_
        cases cls with
        | nil => exact absurd rfl h
        | cons a b => simp
/-- A part read from a word. -/
def prP (s : ByteArray) : Option PD := (prs s.data.toList).map ofL
def prD (s : ByteArray) : PD := (prP s).getD noPD
/-! ### A text cut at a byte -/
def brk (c : UInt8) (l : List UInt8) : Nat := (l.takeWhile fun b => b != c).length
theorem brk_cons (c b : UInt8) (l : List UInt8) : brk c (b :: l) = if b = c then 0 else brk c l + 1 := by
  unfold brk
  rw [List.takeWhile_cons]
  by_cases h : b = c
  · simp [h]
  · simp [h]
theorem brk_le (c : UInt8) : ∀ l, brk c l ≤ l.length := fun l => (List.takeWhile_sublist _).length_le
theorem brk_at (c : UInt8) : ∀ (l : List UInt8) (h : brk c l < l.length), l[brk c l] = c := by
  intro l
  induction l with
  | nil => intro h; simp at h
  | cons b l ih =>
    intro h
    by_cases hb : b = c
    · subst hb
      have e : brk b (b :: l) = 0 := by rw [brk_cons, if_pos rfl]
      simp [e]
    · have e : brk c (b :: l) = brk c l + 1 := by rw [brk_cons, if_neg hb]
      simp only [e] at h ⊢
      rw [List.getElem_cons_succ]
      exact ih (by simpa using h)
theorem brk_before (c : UInt8) : ∀ (l : List UInt8) (i : Nat) (h : i < l.length), i < brk c l → l[i] ≠ c := by
  intro l
  induction l with
  | nil => intro i h; simp at h
  | cons b l ih =>
    intro i h hi
    rw [brk_cons] at hi
    split at hi
    · omega
    · rename_i hb
      cases i with
      | zero => exact hb
      | succ i => rw [List.getElem_cons_succ]; exact ih i (by simpa using h) (by omega)
theorem firstIdx_brk (s : ByteArray) (c : UInt8) : firstIdx s c = if brk c s.data.toList < s.size then (brk c s.data.toList : Int) else -1 := by
  unfold firstIdx
  by_cases h : brk c s.data.toList < s.size
  · rw [if_pos h]
    have e : (List.range s.size).find? (fun i => s[i]! == c) = some (brk c s.data.toList) := by
      rw [List.find?_range_eq_some]
      refine ⟨?_, by simpa using h, ?_⟩
      · rw [getElem!_pos s _ h, getB s _ h, beq_iff_eq]
        exact brk_at c _ _
      · intro j hj
        have hj2 : j < s.size := by omega
        rw [getElem!_pos s _ hj2, getB s _ hj2]
        simp only [Bool.not_eq_true', beq_eq_false_iff_ne]
        exact brk_before c _ j _ hj
    rw [e]
  · rw [if_neg h]
    have e : (List.range s.size).find? (fun i => s[i]! == c) = none := by
      rw [List.find?_eq_none]
      intro i hi
      have hi' : i < s.size := by simpa using hi
      rw [getElem!_pos s _ hi', getB s _ hi']
      simp only [beq_iff_eq]
      exact brk_before c _ i _ (by omega)
    rw [e]
/-- The pieces of a text that is parted at a byte. -/
def pcs (c : UInt8) : List UInt8 → List (List UInt8)
  | [] => [[]]
  | b :: l => if b = c then [] :: pcs c l else match pcs c l with | [] => [[b]] | x :: r => (b :: x) :: r
theorem pcs_ne (c : UInt8) (l : List UInt8) : pcs c l ≠ [] := by
  cases l with
  | nil => simp [pcs]
  | cons b l =>
    unfold pcs
    split
    · simp
    · split <;> simp
theorem pcs_hit (c : UInt8) : ∀ (l : List UInt8), brk c l < l.length → pcs c l = l.take (brk c l) :: pcs c (l.drop (brk c l + 1)) := by
  intro l
  induction l with
  | nil => intro h; simp at h
  | cons b l ih =>
    intro h
    rw [brk_cons] at h ⊢
    by_cases hb : b = c
    · rw [if_pos hb] at h ⊢
      subst hb
      simp [pcs]
    · rw [if_neg hb] at h ⊢
      have := ih (by simpa using h)
      rw [pcs, if_neg hb, this]
      simp
theorem pcs_miss (c : UInt8) : ∀ (l : List UInt8), ¬ brk c l < l.length → pcs c l = [l] := by
  intro l
  induction l with
  | nil => intro _; rfl
  | cons b l ih =>
    intro h
    rw [brk_cons] at h
    by_cases hb : b = c
    · rw [if_pos hb] at h; simp at h
    · rw [if_neg hb] at h
      have := ih (by simp at h; omega)
      rw [pcs, if_neg hb, this]
theorem pcs_len (c : UInt8) : ∀ (l : List UInt8), (pcs c l).length = l.count c + 1 := by
  intro l
  induction l with
  | nil => rfl
  | cons b l ih =>
    rw [pcs, List.count_cons]
    by_cases hb : b = c
    · rw [if_pos hb]; simp [hb, ih]
    · rw [if_neg hb]
      have hb2 : (b == c) = false := by simpa using hb
      rw [hb2]
      cases hp : pcs c l with
      | nil => exact absurd hp (pcs_ne c l)
      | cons x r => rw [hp] at ih; simp at ih ⊢; omega
theorem dots_pcs : ∀ (l : List UInt8), pcs 46 l = (dots l).1 :: (dots l).2 := by
  intro l
  induction l with
  | nil => rfl
  | cons b l ih =>
    rw [pcs, dots]
    by_cases hb : b = 46
    · rw [if_pos hb, if_pos hb, ih]
    · rw [if_neg hb, if_neg hb, ih]
theorem cutH_brk : ∀ (l : List UInt8), cutH l = if brk 35 l < l.length then (l.take (brk 35 l), l.drop (brk 35 l + 1), true) else (l, [], false) := by
  intro l
  induction l with
  | nil => rfl
  | cons b l ih =>
    rw [cutH, brk_cons]
    by_cases hb : b = 35
    · rw [if_pos hb, if_pos hb]; simp
    · rw [if_neg hb, if_neg hb, ih]
      by_cases h : brk 35 l < l.length
      · rw [if_pos h, if_pos (by simpa using h)]; simp
      · rw [if_neg h, if_neg (by simpa using h)]
end Go.Proofs.YtnkmdmmlpidcmaaDoor
namespace Go.Proofs.YtnkmdmmlpidcmaaDoor
set_option linter.unusedVariables false

def blankN (x : Nat) : Bool := decide (x = 9 ∨ x = 10 ∨ x = 13 ∨ x = 32)
def byN (s : ByteArray) (i : Nat) : Nat := (s.get! i).toNat
theorem byN_of (s : ByteArray) (i : Nat) (h : i < s.size) : byN s i = s[i].toNat := by
  have h' : i < s.data.size := h
  have e : s.get! i = s[i] := by
    show s.data[i]! = s.data[i]
    exact getElem!_pos s.data i h'
  unfold byN
  rw [e]
theorem blankN_high {x : Nat} (h : 128 ≤ x) : blankN x = false := by unfold blankN; exact decide_eq_false (by omega)
/-- The spans of the words, by bytes. -/
def spB (s : ByteArray) : Nat → Nat → Option Nat → List (Nat × Nat) → List (Nat × Nat) × Option Nat
  | 0, _, st, acc => (acc, st)
  | f + 1, pos, st, acc =>
    if pos < s.size then
      (if blankN (byN s pos) then
        (match st with
         | some a => spB s f (pos + 1) none (acc ++ [(a, pos)])
         | none => spB s f (pos + 1) none acc)
       else
        (match st with
         | some a => spB s f (pos + 1) (some a) acc
         | none => spB s f (pos + 1) (some pos) acc))
    else (acc, st)
theorem spB_end (s : ByteArray) (f pos : Nat) (st : Option Nat) (acc : List (Nat × Nat)) (h : ¬ pos < s.size) : spB s f pos st acc = (acc, st) := by
  cases f with
  | zero => rfl
  | succ f => simp [spB, h]
theorem spB_blank_some (s : ByteArray) (f pos a : Nat) (acc : List (Nat × Nat)) (h : pos < s.size) (hb : blankN (byN s pos) = true) : spB s (f + 1) pos (some a) acc = spB s f (pos + 1) none (acc ++ [(a, pos)]) := by
  simp [spB, h, hb]
theorem spB_blank_none (s : ByteArray) (f pos : Nat) (acc : List (Nat × Nat)) (h : pos < s.size) (hb : blankN (byN s pos) = true) : spB s (f + 1) pos none acc = spB s f (pos + 1) none acc := by
  simp [spB, h, hb]
theorem spB_word_some (s : ByteArray) (f pos a : Nat) (acc : List (Nat × Nat)) (h : pos < s.size) (hb : blankN (byN s pos) = false) : spB s (f + 1) pos (some a) acc = spB s f (pos + 1) (some a) acc := by
  simp [spB, h, hb]
theorem spB_word_none (s : ByteArray) (f pos : Nat) (acc : List (Nat × Nat)) (h : pos < s.size) (hb : blankN (byN s pos) = false) : spB s (f + 1) pos none acc = spB s f (pos + 1) (some pos) acc := by
  simp [spB, h, hb]
theorem spB_skip (s : ByteArray) : ∀ (k f pos a : Nat) (acc : List (Nat × Nat)), pos + k ≤ s.size → (∀ j, j < k → blankN (byN s (pos + j)) = false) → spB s (f + k) pos (some a) acc = spB s f (pos + k) (some a) acc
  | 0, f, pos, a, acc, _, _ => rfl
  | k + 1, f, pos, a, acc, h, hj => by
    rw [show f + (k + 1) = (f + k) + 1 by omega, spB_word_some s _ pos _ _ (by omega) (by simpa using hj 0 (by omega)), spB_skip s k f (pos + 1) a acc (by omega) (fun j h2 => by have := hj (j + 1) (by omega); rwa [show pos + (j + 1) = pos + 1 + j by omega] at this), show pos + 1 + k = pos + (k + 1) by omega]
theorem spans_bytes (s : ByteArray) : ∀ (f g pos : Nat) (st : Option Nat) (acc : List (Nat × Nat)), s.size ≤ pos + f → s.size ≤ pos + g → Lib.spansFromP blankN s f pos st acc = spB s g pos st acc
  | 0, g, pos, st, acc, h, _ => by rw [spB_end _ _ _ _ _ (by omega)]; rfl
  | f + 1, g, pos, st, acc, h, hg => by
    by_cases hlt : pos < s.size
    · have hby := byN_of s pos hlt
      obtain ⟨g', rfl⟩ : ∃ g', g = g' + 1 := ⟨g - 1, by omega⟩
      by_cases ha : (s[pos]'hlt).toNat < 128
      · have hd := decode_ascii s pos hlt ha
        simp only [Lib.spansFromP, hlt, if_true, hd]
        cases hb : blankN (s[pos]'hlt).toNat
        · cases st with
          | none => rw [spB_word_none s _ _ _ hlt (by rw [hby]; exact hb)]; simp only [Bool.false_eq_true, if_false]; exact spans_bytes s f g' _ _ _ (by omega) (by omega)
          | some a => rw [spB_word_some s _ _ _ _ hlt (by rw [hby]; exact hb)]; simp only [Bool.false_eq_true, if_false]; exact spans_bytes s f g' _ _ _ (by omega) (by omega)
        · cases st with
          | none => rw [spB_blank_none s _ _ _ hlt (by rw [hby]; exact hb)]; simp only [if_true]; exact spans_bytes s f g' _ _ _ (by omega) (by omega)
          | some a => rw [spB_blank_some s _ _ _ _ hlt (by rw [hby]; exact hb)]; simp only [if_true]; exact spans_bytes s f g' _ _ _ (by omega) (by omega)
      · obtain ⟨h1, h2⟩ := decode_high s pos hlt (by omega)
        have hc := Lib.decodeN_conts (s.size - pos) (s.get! pos).toNat (s.get! (pos + 1)).toNat (s.get! (pos + 2)).toNat (s.get! (pos + 3)).toNat
        rw [← Lib.decode_at] at hc
        obtain ⟨c2, c3, c4, c5⟩ := hc
        have hb0 : blankN (byN s pos) = false := blankN_high (by rw [hby]; omega)
        simp only [Lib.spansFromP, hlt, if_true, blankN_high h1, Bool.false_eq_true, if_false]
        generalize (Utf8.decode s pos).2 = K at *
        have hin : ∀ j, j < K - 1 → blankN (byN s (pos + 1 + j)) = false := by
          intro j hj
          apply blankN_high
          unfold byN
          rcases (show j = 0 ∨ j = 1 ∨ j = 2 by omega) with rfl | rfl | rfl
          · have := (c2 (by omega)).1; show 128 ≤ (s.get! (pos + 1)).toNat; omega
          · have := (c3 (by omega)).1; show 128 ≤ (s.get! (pos + 2)).toNat; omega
          · have := (c4 (by omega)).1; show 128 ≤ (s.get! (pos + 3)).toNat; omega
        have hK : pos + K ≤ s.size := by
          rcases (show K = 1 ∨ K = 2 ∨ K = 3 ∨ K = 4 by omega) with rfl | rfl | rfl | rfl
          · omega
          · have := (c2 (by omega)).2; omega
          · have := (c3 (by omega)).2; omega
          · have := (c4 (by omega)).2; omega
        obtain ⟨g2, rfl⟩ : ∃ g2, g' = g2 + (K - 1) := ⟨g' - (K - 1), by omega⟩
        cases st with
        | none =>
          rw [spB_word_none s _ _ _ hlt hb0, spB_skip s (K - 1) g2 (pos + 1) pos acc (by omega) hin, show pos + 1 + (K - 1) = pos + K by omega]
          exact spans_bytes s f g2 _ _ _ (by omega) (by omega)
        | some a =>
          rw [spB_word_some s _ _ _ _ hlt hb0, spB_skip s (K - 1) g2 (pos + 1) a acc (by omega) hin, show pos + 1 + (K - 1) = pos + K by omega]
          exact spans_bytes s f g2 _ _ _ (by omega) (by omega)
    · rw [spB_end _ _ _ _ _ hlt, Lib.spansFromP_end _ _ _ _ _ _ hlt]
/-- The words of a text. -/
def wordsOf (s : ByteArray) : List ByteArray := (Lib.closeSpans s (spB s s.size 0 none [])).map fun x => s.extract x.1 x.2
theorem fields_words (s : ByteArray) : Lib.goFieldsP blankN s = wordsOf s := by
  unfold Lib.goFieldsP Lib.spansOfP wordsOf
  rw [spans_bytes s s.size s.size 0 none [] (by omega) (by omega)]
theorem wordsOf_len (s : ByteArray) : (wordsOf s).length ≤ s.size + 1 := by
  have key : ∀ (f pos : Nat) (st : Option Nat) (acc : List (Nat × Nat)), (spB s f pos st acc).1.length ≤ acc.length + f := by
    intro f
    induction f with
    | zero => intro pos st acc; exact Nat.le_refl _
    | succ f ih =>
      intro pos st acc
      unfold spB
      split
      · split
        · cases st with
          | none => have := ih (pos + 1) none acc; simp only; omega
          | some a => have := ih (pos + 1) none (acc ++ [(a, pos)]); simp at this ⊢; omega
        · cases st with
          | none => have := ih (pos + 1) (some pos) acc; simp only; omega
          | some a => have := ih (pos + 1) (some a) acc; simp only; omega
      · simp
  have h := key s.size 0 none []
  unfold wordsOf Lib.closeSpans
  rw [List.length_map]
  split
  · simp at h ⊢; omega
  · simp at h ⊢; omega
end Go.Proofs.YtnkmdmmlpidcmaaDoor
namespace Go.Proofs.YtnkmdmmlpidcmaaDoor
open Go.ChangeShapes Go.WideShapes Go.ChangeAt Go.RowKit
set_option linter.unusedVariables false

theorem ix1s (s : ByteArray) (c : UInt8) (w : World) : (callFunc 168 #[.string s, .int .u8 (c.toNat : Int)]).run Tryd.prog w = .ok (.value (.int .i64 (firstIdx s c))) w := by
  rw [run_callFunc_extern Tryd.func168 (by kernel_rfl) (by kernel_rfl) (by kernel_rfl) (e := Extern.BytealgIndexByte.indexByte) (by kernel_rfl), run_indexByte_string]
  simp [Result.andThen]
theorem cn1s (s : ByteArray) (c : UInt8) (w : World) : (callFunc 148 #[.string s, .int .u8 (c.toNat : Int)]).run Tryd.prog w = .ok (.value (.int .i64 (s.data.toList.count c : Nat))) w := by
  rw [run_callFunc_extern Tryd.func148 (by kernel_rfl) (by kernel_rfl) (by kernel_rfl) (e := Extern.BytealgCount.count) (by kernel_rfl), Lib.run_countString]
  simp [Result.andThen, Lib.countByte]
set_option maxHeartbeats 400000 in
theorem ib1 (s : ByteArray) (c : UInt8) (w : World) :
    Calls Tryd.prog 155 #[.string s, .int .u8 (c.toNat : Int)] w fun e w' => e = .returned (.int .i64 (firstIdx s c)) ∧ w' = w := by
  have H : Hid _ := ix1s s c
  go_enter Tryd.func155, Tryd.ntmps155
  go_wp2_with (simp only [H.out])
  go_ret
  exact ⟨rfl, rfl⟩
theorem one_eq {s : ByteArray} {c : UInt8} (h : ([c] == s.toList) = true) : s = ⟨#[c]⟩ := by
  rw [beq_iff_eq, ByteArray.toList_eq] at h
  rw [← bA_data s, ← h]
  rfl
set_option maxHeartbeats 1000000 in
theorem ixl1 (s : ByteArray) (c : UInt8) (w : World) :
    Calls Tryd.prog 127 #[.string s, .string ⟨#[c]⟩] w fun e w' => e = .returned (.int .i64 (firstIdx s c)) ∧ w' = w := by
  by_cases he : ([c] == s.toList) = true
  · have HZ : Hid (firstIdx s c = 0) := by
      show firstIdx s c = 0
      obtain rfl := one_eq he
      rw [firstIdx_brk]
      have : brk c (⟨#[c]⟩ : ByteArray).data.toList = 0 := by simp [brk]
      rw [this]; rfl
    go_enter Tryd.func127, Tryd.ntmps127
    go_wp2_with (go_at_call 155; fail)
    go_ret
    exact ⟨ret_int HZ.out.symm, rfl⟩
  · have hf : ([c] == s.toList) = false := by simpa using he
    clear he
    go_enter Tryd.func127, Tryd.ntmps127
    go_wp2_with (go_at_call 155; refine (ib1 s c _).mono ?_; rintro e w' ⟨rfl, rfl⟩)
    go_ret
    exact ⟨rfl, rfl⟩
theorem ix1 (s : ByteArray) (c : UInt8) (w : World) :
    Calls Tryd.prog 121 #[.string s, .string ⟨#[c]⟩] w fun e w' => e = .returned (.int .i64 (firstIdx s c)) ∧ w' = w := by
  go_enter Tryd.func121, Tryd.ntmps121
  go_wp2_with (go_at_call 127; refine (ixl1 s c _).mono ?_; rintro e w' ⟨rfl, rfl⟩)
  go_ret
  exact ⟨rfl, rfl⟩
set_option maxRecDepth 100000 in
theorem cnt1 (s : ByteArray) (c : UInt8) (w : World) :
    Calls Tryd.prog 120 #[.string s, .string ⟨#[c]⟩] w fun e w' => e = .returned (.int .i64 (s.data.toList.count c : Nat)) ∧ w' = w := by
  have h1 : 0 < (⟨#[c]⟩ : ByteArray).size := Nat.zero_lt_one
  have H : Hid (∀ w : World, (callFunc 148 #[.string s, .int .u8 (((⟨#[c]⟩ : ByteArray)[0]'h1).toNat : Int)]).run Tryd.prog w = .ok (.value (.int .i64 (s.data.toList.count c : Nat))) w) := cn1s s c
  generalize s.data.toList.count c = N at *
  go_enter Tryd.func120, Tryd.ntmps120
  go_wp2_with (simp only [H.out])
  go_ret
  exact ⟨rfl, rfl⟩
/-- What Cut answers. -/
def cutV (c : UInt8) (s : ByteArray) : Value := if brk c s.data.toList < s.size then .tuple #[.string (s.extract 0 (brk c s.data.toList)), .string (s.extract (brk c s.data.toList + 1) s.size), .bool true] else .tuple #[.string s, .string ⟨#[]⟩, .bool false]
set_option maxHeartbeats 1000000 in
theorem cutl1 (s : ByteArray) (c : UInt8) (w : World) (hs : s.size ≤ 1048576) :
    Calls Tryd.prog 97 #[.string s, .string ⟨#[c]⟩] w fun e w' => e = .returned (cutV c s) ∧ Nw w w' := by
  by_cases h : brk c s.data.toList < s.size
  · have HV : Hid (cutV c s = .tuple #[.string (s.extract 0 (brk c s.data.toList)), .string (s.extract (brk c s.data.toList + 1) s.size), .bool true]) := by show cutV c s = _; unfold cutV; rw [if_pos h]
    have HI : Hid (firstIdx s c = (brk c s.data.toList : Nat)) := by show firstIdx s c = _; rw [firstIdx_brk, if_pos h]
    generalize brk c s.data.toList = k at *
    have hne : (⟨#[c]⟩ : ByteArray).size = 1 := rfl
    go_enter Tryd.func97, Tryd.ntmps97
    go_wp2_with fail
    refine (ixl1 s c _).mono ?_
    rintro e w' ⟨rfl, rfl⟩
    rw [HI.out]
    go_wp2
    go_region
    all_goals go_wp2
    all_goals go_ret3
    all_goals
      refine ⟨by rw [HV.out]; try rfl, ?_⟩
      exact (Below.refl _ _).drew
  · have HV : Hid (cutV c s = .tuple #[.string s, .string ⟨#[]⟩, .bool false]) := by show cutV c s = _; unfold cutV; rw [if_neg h]
    have HI : Hid (firstIdx s c = -1) := by show firstIdx s c = _; rw [firstIdx_brk, if_neg h]
    clear h
    go_enter Tryd.func97, Tryd.ntmps97
    go_wp2_with fail
    refine (ixl1 s c _).mono ?_
    rintro e w' ⟨rfl, rfl⟩
    rw [HI.out]
    go_wp2
    go_ret3
    exact ⟨by rw [HV.out]; rfl, Below.refl _ _⟩
theorem cut1 (s : ByteArray) (c : UInt8) (w : World) (hs : s.size ≤ 1048576) :
    Calls Tryd.prog 56 #[.string s, .string ⟨#[c]⟩] w fun e w' => e = .returned (cutV c s) ∧ Nw w w' := by
  by_cases h : brk c s.data.toList < s.size
  · have HV : Hid (cutV c s = .tuple #[.string (s.extract 0 (brk c s.data.toList)), .string (s.extract (brk c s.data.toList + 1) s.size), .bool true]) := by show cutV c s = _; unfold cutV; rw [if_pos h]
    go_enter Tryd.func56, Tryd.ntmps56
    go_wp2_with (go_at_call 97; refine (cutl1 s c _ hs).mono ?_; rintro e w' ⟨rfl, k1⟩; rw [HV.out])
    go_ret3
    exact ⟨by rw [HV.out]; rfl, k1⟩
  · have HV : Hid (cutV c s = .tuple #[.string s, .string ⟨#[]⟩, .bool false]) := by show cutV c s = _; unfold cutV; rw [if_neg h]
    go_enter Tryd.func56, Tryd.ntmps56
    go_wp2_with (go_at_call 97; refine (cutl1 s c _ hs).mono ?_; rintro e w' ⟨rfl, k1⟩; rw [HV.out])
    go_ret3
    exact ⟨by rw [HV.out]; rfl, k1⟩
/-! ### Split -/
theorem pcs_cnt {c : UInt8} {l : List UInt8} (h : 0 < l.count c) : brk c l < l.length := by
  by_cases hb : brk c l < l.length
  · exact hb
  · have := pcs_len c l
    rw [pcs_miss c l hb] at this
    simp at this
    omega
theorem ext_tail (s : ByteArray) (k : Nat) : s.extract k s.size = bA (s.data.toList.drop k) := by
  rw [ext_bA]
  have : s.data.toList.take s.size = s.data.toList := by rw [← data_len]; exact List.take_length
  rw [this]
theorem ext_head (s : ByteArray) (k : Nat) : s.extract 0 k = bA (s.data.toList.take k) := by rw [ext_bA, List.drop_zero]
def pcB (c : UInt8) (s : ByteArray) : List ByteArray := (pcs c s.data.toList).map bA
theorem pcB_len (c : UInt8) (s : ByteArray) : (pcB c s).length = s.data.toList.count c + 1 := by unfold pcB; rw [List.length_map, pcs_len]
theorem pcB_hit (c : UInt8) (s : ByteArray) (h : brk c s.data.toList < s.size) : pcB c s = s.extract 0 (brk c s.data.toList) :: pcB c (s.extract (brk c s.data.toList + 1) s.size) := by
  unfold pcB
  rw [pcs_hit c _ (by rw [data_len]; exact h), ext_tail, ext_head, bA_list]
  rfl
theorem pcB_miss (c : UInt8) (s : ByteArray) (h : ¬ brk c s.data.toList < s.size) : pcB c s = [s] := by
  unfold pcB
  rw [pcs_miss c _ (by rw [data_len]; exact h), List.map_singleton, bA_data]
theorem count_le_size (c : UInt8) (s : ByteArray) : s.data.toList.count c ≤ s.size := by rw [← data_len]; exact List.count_le_length
set_option maxRecDepth 100000 in
set_option maxHeartbeats 4000000 in
theorem gsplit1 (s : ByteArray) (c : UInt8) (w : World) (hs : s.size ≤ 1048576) :
    Calls Tryd.prog 92 #[.string s, .string ⟨#[c]⟩, .int .i64 0, .int .i64 (-1)] w fun e w' => e = .returned (.slice (some ⟨w.heap.size, 0, none⟩) (pcB c s).length (pcB c s).length) ∧ Nw w w' ∧ LayS w' w.heap.size (pcB c s) (pcB c s).length := by
  have hle := count_le_size c s
  have hlen := pcB_len c s
  have HN : Hid ((pcB c s).length = s.data.toList.count c + 1) := hlen
  rw [hlen]
  clear hlen
  generalize hcnt : s.data.toList.count c = cnt at *
  have hmk := run_mk 52 9 _ 1 16 Tryd.underlying52 Tryd.info9 (cnt + 1) (by omega) (by omega)
  have hcs : (Value.string ⟨#[]⟩).cells = #[.string ⟨#[]⟩] := rfl
  rw [hcs, Nat.mul_one, show ((cnt + 1 : Nat) : Int) = (cnt : Int) + 1 from rfl] at hmk
  have HC : Hid (Calls Tryd.prog 120 #[.string s, .string ⟨#[c]⟩] w fun e w' => e = .returned (.int .i64 (cnt : Nat)) ∧ w' = w) := by
    have := cnt1 s c w
    rw [hcnt] at this
    exact this
  have HCN : Hid (s.data.toList.count c = cnt) := hcnt
  clear hcnt
  have hne : (⟨#[c]⟩ : ByteArray).size = 1 := rfl
  have hmn : min (cnt : Int) (s.size : Int) = (cnt : Int) := by omega
  have HST : ∀ t, Hid (LayS (w.alloc (.cells (madeCells #[.string ⟨#[]⟩] (cnt + 1)) t)) w.heap.size (pcB c s) 0) := fun t => by
    have := LayS.start w (pcB c s) t
    rw [HN.out] at this
    exact this
  go_enter Tryd.func92, Tryd.ntmps92
  go_wp2_with (go_at_call 120; refine HC.out.mono ?_; rintro e w' ⟨rfl, hq⟩; have hq2 := hq.symm; clear hq; subst hq2)
  clear HC hmk hcs
  go_loopw [0, 10] (fun x i wr => ∃ (k : Nat) (r : ByteArray), k ≤ cnt ∧ i = .int .i64 k ∧ x = .string r ∧ r.size ≤ s.size ∧ r.data.toList.count c = cnt - k ∧ (∀ j, strAt (pcB c s) (k + j) = strAt (pcB c r) j) ∧ Nw w wr ∧ LayS wr w.heap.size (pcB c s) k) (fun _ i _ => cnt - (intOf i).toNat)
  case atStart => exact ⟨0, s, Nat.zero_le _, rfl, rfl, Nat.le_refl _, HCN.out, fun j => by rw [Nat.zero_add], (Below.refl _ _).alloc (Nat.le_refl _) _, (HST _).out⟩
  case round =>
    obtain ⟨k, r, hk, rfl, rfl, hrs, hrc, hrp, hw, hl⟩ := hrel
    have HW : Hid (Nw w wr) := hw
    have HL : Hid (LayS wr w.heap.size (pcB c s) k) := hl
    have HRP : Hid (∀ j, strAt (pcB c s) (k + j) = strAt (pcB c r) j) := hrp
    have HRC : Hid (r.data.toList.count c = cnt - k) := hrc
    have z0 := hl.2.2.1 k (Nat.le_refl _) (by rw [HN.out]; omega)
    have zf := hl.2.2.2
    have hg : w.heap.size < wr.heap.size := hl.1
    clear hw hl hrp hrc
    by_cases hlt : k < cnt
    · have hb : brk c r.data.toList < r.size := by
        rw [← data_len]
        exact pcs_cnt (by rw [HRC.out]; omega)
      have HI : Hid (firstIdx r c = (brk c r.data.toList : Nat)) := by show firstIdx r c = _; rw [firstIdx_brk, if_pos hb]
      have HH : Hid _ := pcB_hit c r hb
      generalize brk c r.data.toList = m at *
      have hltI : (k : Int) < (cnt : Int) := by omega
      go_wp2_with (go_at_call 121; refine (ix1 r c _).mono ?_; rw [HI.out]; rintro e w' ⟨rfl, hq⟩; have hq2 := hq.symm; clear hq; subst hq2)
      go_roundw
      case rel =>
        have hx : strAt (pcB c s) k = r.extract 0 m := by have := HRP.out 0; rw [HH.out] at this; exact this
        have hc2 : (r.extract (m + 1) r.size).data.toList.count c = cnt - (k + 1) := by
          have e1 := pcB_len c r
          have e2 := pcB_len c (r.extract (m + 1) r.size)
          rw [HH.out, HRC.out, List.length_cons, e2] at e1
          omega
        refine ⟨k + 1, r.extract (m + 1) r.size, by omega, by go_num, by first | rfl | simp, by rw [ByteArray.size_extract]; omega, hc2, fun j => ?_, HW.out.setCell (Nat.le_refl _) _, ?_⟩
        · have := HRP.out (j + 1)
          rw [HH.out] at this
          rw [show k + 1 + j = k + (j + 1) by omega, this]
          rfl
        · have := LayS.step HL.out (by rw [HN.out]; omega)
          rw [hx] at this
          simpa using this
      case measure => simp [intOf]; omega
    · have e : k = cnt := by omega
      subst e
      have hb : ¬ brk c r.data.toList < r.size := by
        intro h
        have e1 := pcB_len c r
        rw [pcB_hit c r h, HRC.out, List.length_cons, pcB_len] at e1
        omega
      have hx : strAt (pcB c s) k = r := by have := HRP.out 0; rw [pcB_miss c r hb] at this; exact this
      have HL2 : Hid _ := LayS.step HL.out (by rw [HN.out]; omega)
      rw [hx] at HL2
      clear hx hb
      go_wp2
      go_ret
      exact ⟨by first | rfl | simp, HW.out.setCell (Nat.le_refl _) _, HL2.out⟩
end Go.Proofs.YtnkmdmmlpidcmaaDoor
namespace Go.Proofs.YtnkmdmmlpidcmaaDoor
open Go.ChangeShapes Go.WideShapes Go.ChangeAt Go.RowKit
set_option linter.unusedVariables false

theorem wp_rw {α : Type} {E : Els α} (hE : KeptE E) {t ts : TypeId} {n bytes : Nat} {z : Value} (ht : Tryd.prog.underlying ts = some (.slice t)) (hinfo : (Tryd.prog.info? t).map (fun i => (i.zero, i.size, i.bytes)) = some (some z, n, bytes)) (hz : z.cells.size = n) (hn : 0 < n) (hby : bytes ≤ 1000)
    {ops : Array Oper} {rest : List Oper} {o : Oper} {a : Act} {Q : Exit → Act → World → Prop} (w0 w : World) (hgd : o.guard = none) (s x : Operand)
    (ho : o.op = .call { callee := .builtin .append, args := #[s, x], argTypes := #[ts, ts] }) (B : Nat) (v : Value) (els : List (El α)) (hs : a.eval s = v) (h0 : RowO t n E w0 B v els) (k : Nw w0 w) (hB : B ≤ w0.heap.size)
    (g : Nat) (hx : a.eval x = .slice (some ⟨g, 0, none⟩) 1 1) (y : α) (cs : List Value) (hc : ∀ j u, cs[j]? = some u → w.cell? ⟨g, j, none⟩ = some u) (hcs : cs.length = n) (h1 : ∀ u ∈ cs, u.oneCell' = true) (hy : E w cs y (iv w0 w)) (hl : els.length ≤ 10000000)
    (h : ∀ v' w', RowO t n E w' B v' (els ++ [⟨y, cs, iv w0 w⟩]) → Ext v v' w w' → wpList Tryd.prog ops Q rest (a.put o.dst v') w') : wpList Tryd.prog ops Q (o :: rest) a w := by
  obtain ⟨i0, hi, hzz'⟩ := Option.map_eq_some_iff.1 hinfo
  simp only [Prod.mk.injEq] at hzz'
  obtain ⟨hz0, hz1, hz2⟩ := hzz'
  have hB2 : B ≤ w.heap.size := Nat.le_trans hB (Below.size k)
  have hmul : (els.length + 1) * bytes ≤ 140737488355328 := by
    have : (els.length + 1) * bytes ≤ 10000001 * 1000 := Nat.mul_le_mul (by omega) hby
    omega
  refine wpList_append_own_at w hgd s x ts ho B t i0 z n bytes ht hi hz0 hz1 hz2 hz hn v els.length (els.flatMap (·.cs)) hs (h0.nw hE k).own ⟨g, 0, none⟩ 1 1 cs hx (by rw [Nat.one_mul]; exact hcs) (fun j u hj => by rw [add_at, Nat.zero_add]; exact hc j u hj) h1 (by unfold maxLen; omega) hmul hB2 ?_
  intro v' w' h2 h3 _ h5
  have hext : Ext v v' w w' := ⟨h3, h5.imp id fun e => ⟨_, e, Nat.le_refl _⟩⟩
  exact h v' w' (RowO.put hE h0 k hB hy hcs h2 hext) hext
theorem iv_mono {w w1 w2 : World} (h : w1.heap.size ≤ w2.heap.size) : ∀ b, iv w w1 b → iv w w2 b := fun b hb => ⟨hb.1, Nat.lt_of_lt_of_le hb.2 h⟩
theorem iv_low {w0 w w1 : World} (h : w0.heap.size ≤ w.heap.size) : ∀ b, iv w w1 b → iv w0 w1 b := fun b hb => ⟨Nat.le_trans h hb.1, hb.2⟩
end Go.Proofs.YtnkmdmmlpidcmaaDoor

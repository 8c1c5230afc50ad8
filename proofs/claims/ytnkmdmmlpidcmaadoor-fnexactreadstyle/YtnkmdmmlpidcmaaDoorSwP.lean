/-
  Words, parts and pieces of a text as lists of bytes and as texts: pure facts; each theorem names its conditions.
-/
import Derived.Test.YtnkmdmmlpidcmaaDoorSlP
import Derived.Test.YtnkmdmmlpidcmaaDoorPart
import Derived.Laws.Externs
namespace Go.Proofs.YtnkmdmmlpidcmaaDoor
open Go.ChangeShapes Go.WideShapes Go.ChangeAt Go.RowKit
set_option linter.unusedVariables false

/-- A text out of its bytes. -/
def bA (l : List UInt8) : ByteArray := ⟨l.toArray⟩
theorem bA_data (s : ByteArray) : bA s.data.toList = s := by cases s; simp [bA]
theorem bA_list (l : List UInt8) : (bA l).data.toList = l := by simp [bA]
theorem bA_size (l : List UInt8) : (bA l).size = l.length := by show l.toArray.size = _; simp
theorem data_len (s : ByteArray) : s.data.toList.length = s.size := by show _ = s.data.size; simp
theorem ext_bA (s : ByteArray) (a b : Nat) : s.extract a b = bA ((s.data.toList.take b).drop a) := by
  apply ByteArray.ext
  rw [ByteArray.data_extract]
  unfold bA
  simp only
  rw [← Array.toList_inj]
  rw [Array.toList_extract, List.extract_eq_take_drop]
  simp [List.drop_take]
theorem getB (s : ByteArray) (i : Nat) (h : i < s.size) : s[i] = s.data.toList[i]'(by rw [data_len]; exact h) := by
  show s.data[i] = _
  simp
theorem wbL_wB (b : UInt8) : wbL b = wB (b.toNat : Int) := by
  unfold wbL wB
  rw [Bool.eq_iff_iff]
  simp only [decide_eq_true_eq]
  omega
theorem dgL_digB (b : UInt8) : dgL b = digB (b.toNat : Int) := by
  unfold dgL digB
  rw [Bool.eq_iff_iff]
  simp only [decide_eq_true_eq]
  omega
theorem lead0 : ∀ (l : List UInt8) (h : 0 < l.length), leadD l = dgL (l[0]'h)
  | [], h => by simp at h
  | b :: r, _ => rfl
theorem wordB_L (s : ByteArray) : wordB s = wordL s.data.toList := by
  rw [Bool.eq_iff_iff, wordB_iff]
  unfold WordOk wordL
  simp only [Bool.and_eq_true, decide_eq_true_eq, Bool.not_eq_true', data_len]
  constructor
  · rintro ⟨h1, h2, h3⟩
    refine ⟨h1, ?_, ?_⟩
    · have h0 : 0 < s.size := by omega
      rw [bt_of s 0 h0, getB s 0 h0, ← dgL_digB] at h2
      rw [lead0 _ (by rw [data_len]; exact h0)]
      exact h2
    · rw [List.all_eq_true]
      intro b hb
      obtain ⟨i, hi, rfl⟩ := List.mem_iff_getElem.1 hb
      rw [data_len] at hi
      have := h3 i hi
      rw [bt_of s i hi, getB s i hi, ← wbL_wB] at this
      exact this
  · rintro ⟨h1, h2, h3⟩
    have h0 : 0 < s.size := by omega
    refine ⟨h1, ?_, fun i hi => ?_⟩
    · rw [bt_of s 0 h0, getB s 0 h0, ← dgL_digB]
      rw [lead0 _ (by rw [data_len]; exact h0)] at h2
      exact h2
    · rw [bt_of s i hi, getB s i hi, ← wbL_wB]
      exact List.all_eq_true.1 h3 _ (List.getElem_mem _)
theorem lead_run {s : ByteArray} {n : Nat} (h : IsLead s n) : runOf s n = runL s.data.toList := by
  obtain ⟨h1, h2, h3⟩ := h
  have hn : (s.data.toList.takeWhile wbL).length = n := by
    have ha : (s.data.toList.take n).all wbL = true := by
      rw [List.all_eq_true]
      intro b hb
      obtain ⟨i, hi, rfl⟩ := List.mem_iff_getElem.1 hb
      rw [List.length_take, data_len] at hi
      have := h2 i (by omega)
      rw [bt_of s i (by omega), getB s i (by omega), ← wbL_wB] at this
      rw [List.getElem_take]
      exact this
    have hr : stopL (s.data.toList.drop n) := by
      intro b r e
      have hlt : n < s.size := by
        have := congrArg List.length e
        rw [List.length_drop, data_len] at this
        simp at this
        omega
      have := h3 hlt
      rw [bt_of s n hlt, getB s n hlt, ← wbL_wB] at this
      rw [List.drop_eq_getElem_cons (by rw [data_len]; exact hlt)] at e
      injection e with e1 _
      rw [← e1]
      exact this
    have := take_all ha hr
    rw [List.take_append_drop] at this
    rw [this, List.length_take, data_len]
    omega
  unfold runOf runL
  rw [hn]
  have hd : (digB (bt s 0) = true) = (leadD s.data.toList = true) ∨ n = 0 := by
    by_cases h0 : 0 < s.size
    · left
      rw [bt_of s 0 h0, getB s 0 h0, ← dgL_digB, lead0 _ (by rw [data_len]; exact h0)]
    · right; omega
  rcases hd with hd | hd
  · simp only [hd]
  · simp [hd]
def toL (p : PD) : PL := ⟨p.ty.data.toList, p.id.data.toList, p.cls.map (·.data.toList)⟩
def ofL (p : PL) : PD := ⟨bA p.ty, bA p.id, p.cls.map bA⟩
theorem toL_ofL (p : PL) : toL (ofL p) = p := by
  obtain ⟨ty, ud, cls⟩ := p
  unfold toL ofL
  simp only [bA_list, List.map_map]
  congr 1
  have e : ((fun x : ByteArray => x.data.toList) ∘ bA) = id := funext fun l => bA_list l
  rw [e]
  exact List.map_id _
theorem emp_list (t : ByteArray) : t.toList.isEmpty = true ↔ t.data.toList = [] := by
  rw [ByteArray.toList_eq, List.isEmpty_iff]
theorem partB_L (p : PD) : partB p = true ↔ GoodL (toL p) := by
  obtain ⟨ty, id, cls⟩ := p
  unfold partB typeB idB someB
  simp only [Bool.and_eq_true, Bool.or_eq_true, decide_eq_true_eq, clsB_iff, wordB_L, emp_list, Bool.not_eq_true', beq_iff_eq]
  have ne : ∀ t : ByteArray, t.toList.isEmpty = false ↔ t.data.toList ≠ [] := by
    intro t
    rw [← Bool.not_eq_true, emp_list]
  constructor
  · rintro ⟨h1, h2, h3, h4, h5⟩
    refine ⟨by simpa [toL] using h1, ?_, ?_, h4, ?_⟩
    · intro c hc
      obtain ⟨x, hx, rfl⟩ := List.mem_map.1 hc
      obtain ⟨i, hi, rfl⟩ := List.mem_iff_getElem.1 hx
      have := h2 i hi
      rw [wordB_L] at this
      simpa [strAt, hi] using this
    · rcases h3 with (h | h) | h
      · exact Or.inl h
      · rw [ByteArray.toList_eq] at h; exact Or.inr (Or.inl h)
      · exact Or.inr (Or.inr h)
    · rcases h5 with (h | h) | h
      · exact Or.inl ((ne _).1 h)
      · exact Or.inr (Or.inl ((ne _).1 h))
      · refine Or.inr (Or.inr ?_)
        intro e
        have := congrArg List.length e
        simp [toL] at this
        rw [this] at h
        simp at h
  · rintro ⟨h1, h2, h3, h4, h5⟩
    refine ⟨by simpa [toL] using h1, ?_, ?_, h4, ?_⟩
    · intro i hi
      have := h2 (strAt cls i).data.toList (List.mem_map.2 ⟨strAt cls i, by simp [strAt, hi], rfl⟩)
      rw [wordB_L]
      exact this
    · rcases h3 with h | h | h
      · exact Or.inl (Or.inl h)
      · exact Or.inl (Or.inr (by rw [ByteArray.toList_eq]; exact h))
      · exact Or.inr h
    · rcases h5 with h | h | h
      · exact Or.inl (Or.inl ((ne _).2 h))
      · exact Or.inl (Or.inr ((ne _).2 h))
      · refine Or.inr ?_
        cases cls with
        | nil => exact absurd rfl h
        | cons a b => simp
/-- A part read from a word. -/
def prP (s : ByteArray) : Option PD := (prs s.data.toList).map ofL
def prD (s : ByteArray) : PD := (prP s).getD noPD
/-! ### A text cut at a byte -/
def brk (c : UInt8) (l : List UInt8) : Nat := (l.takeWhile fun b => b != c).length
theorem brk_cons (c b : UInt8) (l : List UInt8) : brk c (b :: l) = if b = c then 0 else brk c l + 1 := by
  unfold brk
  rw [List.takeWhile_cons]
  by_cases h : b = c
  · simp [h]
  · simp [h]
theorem brk_le (c : UInt8) : ∀ l, brk c l ≤ l.length := fun l => (List.takeWhile_sublist _).length_le
theorem brk_at (c : UInt8) : ∀ (l : List UInt8) (h : brk c l < l.length), l[brk c l] = c := by
  intro l
  induction l with
  | nil => intro h; simp at h
  | cons b l ih =>
    intro h
    by_cases hb : b = c
    · subst hb
      have e : brk b (b :: l) = 0 := by rw [brk_cons, if_pos rfl]
      simp [e]
    · have e : brk c (b :: l) = brk c l + 1 := by rw [brk_cons, if_neg hb]
      simp only [e] at h ⊢
      rw [List.getElem_cons_succ]
      exact ih (by simpa using h)
theorem brk_before (c : UInt8) : ∀ (l : List UInt8) (i : Nat) (h : i < l.length), i < brk c l → l[i] ≠ c := by
  intro l
  induction l with
  | nil => intro i h; simp at h
  | cons b l ih =>
    intro i h hi
    rw [brk_cons] at hi
    split at hi
    · omega
    · rename_i hb
      cases i with
      | zero => exact hb
      | succ i => rw [List.getElem_cons_succ]; exact ih i (by simpa using h) (by omega)
theorem firstIdx_brk (s : ByteArray) (c : UInt8) : firstIdx s c = if brk c s.data.toList < s.size then (brk c s.data.toList : Int) else -1 := by
  unfold firstIdx
  by_cases h : brk c s.data.toList < s.size
  · rw [if_pos h]
    have e : (List.range s.size).find? (fun i => s[i]! == c) = some (brk c s.data.toList) := by
      rw [List.find?_range_eq_some]
      refine ⟨?_, by simpa using h, ?_⟩
      · rw [getElem!_pos s _ h, getB s _ h, beq_iff_eq]
        exact brk_at c _ _
      · intro j hj
        have hj2 : j < s.size := by omega
        rw [getElem!_pos s _ hj2, getB s _ hj2]
        simp only [Bool.not_eq_true', beq_eq_false_iff_ne]
        exact brk_before c _ j _ hj
    rw [e]
  · rw [if_neg h]
    have e : (List.range s.size).find? (fun i => s[i]! == c) = none := by
      rw [List.find?_eq_none]
      intro i hi
      have hi' : i < s.size := by simpa using hi
      rw [getElem!_pos s _ hi', getB s _ hi']
      simp only [beq_iff_eq]
      exact brk_before c _ i _ (by omega)
    rw [e]
/-- The pieces of a text that is parted at a byte. -/
def pcs (c : UInt8) : List UInt8 → List (List UInt8)
  | [] => [[]]
  | b :: l => if b = c then [] :: pcs c l else match pcs c l with | [] => [[b]] | x :: r => (b :: x) :: r
theorem pcs_ne (c : UInt8) (l : List UInt8) : pcs c l ≠ [] := by
  cases l with
  | nil => simp [pcs]
  | cons b l =>
    unfold pcs
    split
    · simp
    · split <;> simp
theorem pcs_hit (c : UInt8) : ∀ (l : List UInt8), brk c l < l.length → pcs c l = l.take (brk c l) :: pcs c (l.drop (brk c l + 1)) := by
  intro l
  induction l with
  | nil => intro h; simp at h
  | cons b l ih =>
    intro h
    rw [brk_cons] at h ⊢
    by_cases hb : b = c
    · rw [if_pos hb] at h ⊢
      subst hb
      simp [pcs]
    · rw [if_neg hb] at h ⊢
      have := ih (by simpa using h)
      rw [pcs, if_neg hb, this]
      simp
theorem pcs_miss (c : UInt8) : ∀ (l : List UInt8), ¬ brk c l < l.length → pcs c l = [l] := by
  intro l
  induction l with
  | nil => intro _; rfl
  | cons b l ih =>
    intro h
    rw [brk_cons] at h
    by_cases hb : b = c
    · rw [if_pos hb] at h; simp at h
    · rw [if_neg hb] at h
      have := ih (by simp at h; omega)
      rw [pcs, if_neg hb, this]
theorem pcs_len (c : UInt8) : ∀ (l : List UInt8), (pcs c l).length = l.count c + 1 := by
  intro l
  induction l with
  | nil => rfl
  | cons b l ih =>
    rw [pcs, List.count_cons]
    by_cases hb : b = c
    · rw [if_pos hb]; simp [hb, ih]
    · rw [if_neg hb]
      have hb2 : (b == c) = false := by simpa using hb
      rw [hb2]
      cases hp : pcs c l with
      | nil => exact absurd hp (pcs_ne c l)
      | cons x r => rw [hp] at ih; simp at ih ⊢; omega
theorem dots_pcs : ∀ (l : List UInt8), pcs 46 l = (dots l).1 :: (dots l).2 := by
  intro l
  induction l with
  | nil => rfl
  | cons b l ih =>
    rw [pcs, dots]
    by_cases hb : b = 46
    · rw [if_pos hb, if_pos hb, ih]
    · rw [if_neg hb, if_neg hb, ih]
theorem cutH_brk : ∀ (l : List UInt8), cutH l = if brk 35 l < l.length then (l.take (brk 35 l), l.drop (brk 35 l + 1), true) else (l, [], false) := by
  intro l
  induction l with
  | nil => rfl
  | cons b l ih =>
    rw [cutH, brk_cons]
    by_cases hb : b = 35
    · rw [if_pos hb, if_pos hb]; simp
    · rw [if_neg hb, if_neg hb, ih]
      by_cases h : brk 35 l < l.length
      · rw [if_pos h, if_pos (by simpa using h)]; simp
      · rw [if_neg h, if_neg (by simpa using h)]
end Go.Proofs.YtnkmdmmlpidcmaaDoor

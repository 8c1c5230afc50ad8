/-
  Words of a text with blanks between, told by runes and told by bytes: pure facts, without the program; no condition but those of each line.
  Words of a text while they are told; each theorem names its conditions.
  A selector read from a text: pure facts; each theorem names its conditions.
  Marks laid into rows of parts and looked for; each theorem names its conditions.
-/
import Derived.Lib.FieldsP
import Derived.Lib.SpaceUEq
import Derived.Lib.DecodeN
import Derived.Laws.RangeAny
import Derived.Test.YtnkmdmmlpidcmaaGreatDoorJAE
import Derived.Test.YtnkmdmmlpidcmaaGreatDoorJAD
import Derived.Test.YtnkmdmmlpidcmaaGreatDoorJAG
import Derived.Test.YtnkmdmmlpidcmaaGreatDoorJAC
import Derived.Test.YtnkmdmmlpidcmaaGreatDoorJAF
namespace Go.Proofs.YtnkmdmmlpidcmaaGreatDoor
set_option linter.unusedVariables false

def blankN (x : Nat) : Bool := decide (x = 9 ∨ x = 10 ∨ x = 13 ∨ x = 32)
def byN (s : ByteArray) (i : Nat) : Nat := (s.get! i).toNat
theorem byN_of (s : ByteArray) (i : Nat) (h : i < s.size) : byN s i = s[i].toNat := by
  have h' : i < s.data.size := h
  have e : s.get! i = s[i] := by
    show s.data[i]! = s.data[i]
    exact getElem!_pos s.data i h'
  unfold byN
  rw [e]
theorem blankN_high {x : Nat} (h : 128 ≤ x) : blankN x = false := by unfold blankN; exact decide_eq_false (by omega)
/-- The spans of the words, by bytes. -/
def spB (s : ByteArray) : Nat → Nat → Option Nat → List (Nat × Nat) → List (Nat × Nat) × Option Nat
  | 0, _, st, acc => (acc, st)
  | f + 1, pos, st, acc =>
    if pos < s.size then
      (if blankN (byN s pos) then
        (match st with
         | some a => spB s f (pos + 1) none (acc ++ [(a, pos)])
         | none => spB s f (pos + 1) none acc)
       else
        (match st with
         | some a => spB s f (pos + 1) (some a) acc
         | none => spB s f (pos + 1) (some pos) acc))
    else (acc, st)
theorem spB_end (s : ByteArray) (f pos : Nat) (st : Option Nat) (acc : List (Nat × Nat)) (h : ¬ pos < s.size) : spB s f pos st acc = (acc, st) := by
  cases f with
  | zero => rfl
  | succ f => simp [spB, h]
theorem spB_blank_some (s : ByteArray) (f pos a : Nat) (acc : List (Nat × Nat)) (h : pos < s.size) (hb : blankN (byN s pos) = true) : spB s (f + 1) pos (some a) acc = spB s f (pos + 1) none (acc ++ [(a, pos)]) := by
  simp [spB, h, hb]
theorem spB_blank_none (s : ByteArray) (f pos : Nat) (acc : List (Nat × Nat)) (h : pos < s.size) (hb : blankN (byN s pos) = true) : spB s (f + 1) pos none acc = spB s f (pos + 1) none acc := by
  simp [spB, h, hb]
theorem spB_word_some (s : ByteArray) (f pos a : Nat) (acc : List (Nat × Nat)) (h : pos < s.size) (hb : blankN (byN s pos) = false) : spB s (f + 1) pos (some a) acc = spB s f (pos + 1) (some a) acc := by
  simp [spB, h, hb]
theorem spB_word_none (s : ByteArray) (f pos : Nat) (acc : List (Nat × Nat)) (h : pos < s.size) (hb : blankN (byN s pos) = false) : spB s (f + 1) pos none acc = spB s f (pos + 1) (some pos) acc := by
  simp [spB, h, hb]
theorem spB_skip (s : ByteArray) : ∀ (k f pos a : Nat) (acc : List (Nat × Nat)), pos + k ≤ s.size → (∀ j, j < k → blankN (byN s (pos + j)) = false) → spB s (f + k) pos (some a) acc = spB s f (pos + k) (some a) acc
  | 0, f, pos, a, acc, _, _ => rfl
  | k + 1, f, pos, a, acc, h, hj => by
    rw [show f + (k + 1) = (f + k) + 1 by omega, spB_word_some s _ pos _ _ (by omega) (by simpa using hj 0 (by omega)), spB_skip s k f (pos + 1) a acc (by omega) (fun j h2 => by have := hj (j + 1) (by omega); rwa [show pos + (j + 1) = pos + 1 + j by omega] at this), show pos + 1 + k = pos + (k + 1) by omega]
theorem spans_bytes (s : ByteArray) : ∀ (f g pos : Nat) (st : Option Nat) (acc : List (Nat × Nat)), s.size ≤ pos + f → s.size ≤ pos + g → Lib.spansFromP blankN s f pos st acc = spB s g pos st acc
  | 0, g, pos, st, acc, h, _ => by rw [spB_end _ _ _ _ _ (by omega)]; rfl
  | f + 1, g, pos, st, acc, h, hg => by
    by_cases hlt : pos < s.size
    · have hby := byN_of s pos hlt
      obtain ⟨g', rfl⟩ : ∃ g', g = g' + 1 := ⟨g - 1, by omega⟩
      by_cases ha : (s[pos]'hlt).toNat < 128
      · have hd := decode_ascii s pos hlt ha
        simp only [Lib.spansFromP, hlt, if_true, hd]
        cases hb : blankN (s[pos]'hlt).toNat
        · cases st with
          | none => rw [spB_word_none s _ _ _ hlt (by rw [hby]; exact hb)]; simp only [Bool.false_eq_true, if_false]; exact spans_bytes s f g' _ _ _ (by omega) (by omega)
          | some a => rw [spB_word_some s _ _ _ _ hlt (by rw [hby]; exact hb)]; simp only [Bool.false_eq_true, if_false]; exact spans_bytes s f g' _ _ _ (by omega) (by omega)
        · cases st with
          | none => rw [spB_blank_none s _ _ _ hlt (by rw [hby]; exact hb)]; simp only [if_true]; exact spans_bytes s f g' _ _ _ (by omega) (by omega)
          | some a => rw [spB_blank_some s _ _ _ _ hlt (by rw [hby]; exact hb)]; simp only [if_true]; exact spans_bytes s f g' _ _ _ (by omega) (by omega)
      · obtain ⟨h1, h2⟩ := decode_high s pos hlt (by omega)
        have hc := Lib.decodeN_conts (s.size - pos) (s.get! pos).toNat (s.get! (pos + 1)).toNat (s.get! (pos + 2)).toNat (s.get! (pos + 3)).toNat
        rw [← Lib.decode_at] at hc
        obtain ⟨c2, c3, c4, c5⟩ := hc
        have hb0 : blankN (byN s pos) = false := blankN_high (by rw [hby]; omega)
        simp only [Lib.spansFromP, hlt, if_true, blankN_high h1, Bool.false_eq_true, if_false]
        generalize (Utf8.decode s pos).2 = K at *
        have hin : ∀ j, j < K - 1 → blankN (byN s (pos + 1 + j)) = false := by
          intro j hj
          apply blankN_high
          unfold byN
          rcases (show j = 0 ∨ j = 1 ∨ j = 2 by omega) with rfl | rfl | rfl
          · have := (c2 (by omega)).1; show 128 ≤ (s.get! (pos + 1)).toNat; omega
          · have := (c3 (by omega)).1; show 128 ≤ (s.get! (pos + 2)).toNat; omega
          · have := (c4 (by omega)).1; show 128 ≤ (s.get! (pos + 3)).toNat; omega
        have hK : pos + K ≤ s.size := by
          rcases (show K = 1 ∨ K = 2 ∨ K = 3 ∨ K = 4 by omega) with rfl | rfl | rfl | rfl
          · omega
          · have := (c2 (by omega)).2; omega
          · have := (c3 (by omega)).2; omega
          · have := (c4 (by omega)).2; omega
        obtain ⟨g2, rfl⟩ : ∃ g2, g' = g2 + (K - 1) := ⟨g' - (K - 1), by omega⟩
        cases st with
        | none =>
          rw [spB_word_none s _ _ _ hlt hb0, spB_skip s (K - 1) g2 (pos + 1) pos acc (by omega) hin, show pos + 1 + (K - 1) = pos + K by omega]
          exact spans_bytes s f g2 _ _ _ (by omega) (by omega)
        | some a =>
          rw [spB_word_some s _ _ _ _ hlt hb0, spB_skip s (K - 1) g2 (pos + 1) a acc (by omega) hin, show pos + 1 + (K - 1) = pos + K by omega]
          exact spans_bytes s f g2 _ _ _ (by omega) (by omega)
    · rw [spB_end _ _ _ _ _ hlt, Lib.spansFromP_end _ _ _ _ _ _ hlt]
/-- The words of a text. -/
def wordsOf (s : ByteArray) : List ByteArray := (Lib.closeSpans s (spB s s.size 0 none [])).map fun x => s.extract x.1 x.2
theorem fields_words (s : ByteArray) : Lib.goFieldsP blankN s = wordsOf s := by
  unfold Lib.goFieldsP Lib.spansOfP wordsOf
  rw [spans_bytes s s.size s.size 0 none [] (by omega) (by omega)]
theorem wordsOf_len (s : ByteArray) : (wordsOf s).length ≤ s.size + 1 := by
  have key : ∀ (f pos : Nat) (st : Option Nat) (acc : List (Nat × Nat)), (spB s f pos st acc).1.length ≤ acc.length + f := by
    intro f
    induction f with
    | zero => intro pos st acc; exact Nat.le_refl _
    | succ f ih =>
      intro pos st acc
      unfold spB
      split
      · split
        · cases st with
          | none => have := ih (pos + 1) none acc; simp only; omega
          | some a => have := ih (pos + 1) none (acc ++ [(a, pos)]); simp at this ⊢; omega
        · cases st with
          | none => have := ih (pos + 1) (some pos) acc; simp only; omega
          | some a => have := ih (pos + 1) (some a) acc; simp only; omega
      · simp
  have h := key s.size 0 none []
  unfold wordsOf Lib.closeSpans
  rw [List.length_map]
  split
  · simp at h ⊢; omega
  · simp at h ⊢; omega
end Go.Proofs.YtnkmdmmlpidcmaaGreatDoor
namespace Go.Proofs.YtnkmdmmlpidcmaaGreatDoor
open Go.ChangeShapes Go.WideShapes Go.ChangeAt Go.RowKit
set_option linter.unusedVariables false

theorem sblank (w : World) (x : Nat) (h : x ≤ 255) : Calls Tryz.prog 106 #[.int .u8 (x : Int)] w fun e w' => e = .returned (.bool (blankN x)) ∧ w' = w := by
  go_enter Tryz.func106, Tryz.ntmps106
  go_wp2
  all_goals
    go_ret
    exact ⟨ret_bool (by rw [Bool.eq_iff_iff]; simp [blankN]; omega), rfl⟩
/-- The word that is open. -/
def opnT (s : ByteArray) (st : Option Nat) (pos : Nat) : ByteArray := match st with | some a => s.extract a pos | none => ⟨#[]⟩
def cutT (s : ByteArray) (acc : List (Nat × Nat)) : List ByteArray := acc.map fun x => s.extract x.1 x.2
theorem cutT_snoc (s : ByteArray) (acc : List (Nat × Nat)) (a b : Nat) : cutT s (acc ++ [(a, b)]) = cutT s acc ++ [s.extract a b] := by simp [cutT]
theorem cutT_len (s : ByteArray) (acc : List (Nat × Nat)) : (cutT s acc).length = acc.length := by simp [cutT]
structure WdSt (s : ByteArray) (pos : Nat) (st : Option Nat) (acc : List (Nat × Nat)) : Prop where
  le : pos ≤ s.size
  open_ : ∀ a, st = some a → a < pos
  len : acc.length ≤ pos
  rest : spB s (s.size - pos) pos st acc = spB s s.size 0 none []
theorem WdSt.start (s : ByteArray) : WdSt s 0 none [] := ⟨Nat.zero_le _, (fun a h => by cases h), Nat.zero_le _, rfl⟩
theorem WdSt.word_none {s : ByteArray} {pos : Nat} {acc : List (Nat × Nat)} (h : WdSt s pos none acc) (hlt : pos < s.size) (hb : blankN (byN s pos) = false) : WdSt s (pos + 1) (some pos) acc := by
  refine ⟨hlt, fun a e => by injection e; omega, by have := h.len; omega, ?_⟩
  rw [← h.rest, show s.size - pos = (s.size - (pos + 1)) + 1 by omega, spB_word_none s _ _ _ hlt hb]
theorem WdSt.word_some {s : ByteArray} {pos a : Nat} {acc : List (Nat × Nat)} (h : WdSt s pos (some a) acc) (hlt : pos < s.size) (hb : blankN (byN s pos) = false) : WdSt s (pos + 1) (some a) acc := by
  refine ⟨hlt, fun b e => by have := h.open_ b e; omega, by have := h.len; omega, ?_⟩
  rw [← h.rest, show s.size - pos = (s.size - (pos + 1)) + 1 by omega, spB_word_some s _ _ _ _ hlt hb]
theorem WdSt.blank_none {s : ByteArray} {pos : Nat} {acc : List (Nat × Nat)} (h : WdSt s pos none acc) (hlt : pos < s.size) (hb : blankN (byN s pos) = true) : WdSt s (pos + 1) none acc := by
  refine ⟨hlt, (fun a e => by cases e), by have := h.len; omega, ?_⟩
  rw [← h.rest, show s.size - pos = (s.size - (pos + 1)) + 1 by omega, spB_blank_none s _ _ _ hlt hb]
theorem WdSt.blank_some {s : ByteArray} {pos a : Nat} {acc : List (Nat × Nat)} (h : WdSt s pos (some a) acc) (hlt : pos < s.size) (hb : blankN (byN s pos) = true) : WdSt s (pos + 1) none (acc ++ [(a, pos)]) := by
  refine ⟨hlt, (fun a e => by cases e), by have := h.len; simp; omega, ?_⟩
  rw [← h.rest, show s.size - pos = (s.size - (pos + 1)) + 1 by omega, spB_blank_some s _ _ _ _ hlt hb]
theorem WdSt.end_none {s : ByteArray} {pos : Nat} {acc : List (Nat × Nat)} (h : WdSt s pos none acc) (hlt : ¬ pos < s.size) : wordsOf s = cutT s acc := by
  unfold wordsOf cutT
  rw [← h.rest, spB_end _ _ _ _ _ hlt]; rfl
theorem WdSt.end_some {s : ByteArray} {pos a : Nat} {acc : List (Nat × Nat)} (h : WdSt s pos (some a) acc) (hlt : ¬ pos < s.size) : wordsOf s = cutT s acc ++ [s.extract a pos] := by
  have e : pos = s.size := by have := h.le; omega
  unfold wordsOf cutT
  rw [← h.rest, spB_end _ _ _ _ _ hlt, e]
  simp [Lib.closeSpans]
end Go.Proofs.YtnkmdmmlpidcmaaGreatDoor
namespace Go.Proofs.YtnkmdmmlpidcmaaGreatDoor
open Go.ChangeShapes Go.WideShapes Go.ChangeAt Go.RowKit
set_option linter.unusedVariables false

def okW (s : ByteArray) : Bool := (prP s).isSome
def selOkW (ws : List ByteArray) : Bool := decide (1 ≤ ws.length ∧ ws.length ≤ 5) && ws.all okW
def selOk (s : ByteArray) : Bool := selOkW (wordsOf s)
def selLW (ws : List ByteArray) : List PD := if selOkW ws then ws.map prD else []
def selL (s : ByteArray) : List PD := selLW (wordsOf s)
/-- What a reader of a selector says. -/
def SelSays (s : ByteArray) (w w' : World) (e : Ending) : Prop := ∃ v, e = .returned (.tuple #[v, .bool (selOk s)]) ∧ RowM 3 EPart w' v (selL s) (iv w w')
theorem prD_of {s : ByteArray} {p : PD} (h : prP s = some p) : prD s = p ∧ okW s = true := by unfold prD okW; rw [h]; exact ⟨rfl, rfl⟩
theorem okW_no {s : ByteArray} (h : prP s = none) : okW s = false := by unfold okW; rw [h]; rfl
theorem selOkW_bad {ws : List ByteArray} {x : ByteArray} (hx : x ∈ ws) (h : okW x = false) : selOkW ws = false := by
  unfold selOkW
  have : ws.all okW = false := by
    rw [List.all_eq_false]
    exact ⟨x, hx, by rw [h]; simp⟩
  rw [this, Bool.and_false]
theorem selOkW_many {ws : List ByteArray} (h : 5 < ws.length) : selOkW ws = false := by
  unfold selOkW
  rw [decide_eq_false (by omega), Bool.false_and]
theorem selOkW_none : selOkW [] = false := rfl
theorem selOkW_yes {ws : List ByteArray} (h1 : 1 ≤ ws.length) (h5 : ws.length ≤ 5) (h : ws.all okW = true) : selOkW ws = true := by
  unfold selOkW
  rw [decide_eq_true ⟨h1, h5⟩, h]; rfl
theorem selLW_no {ws : List ByteArray} (h : selOkW ws = false) : selLW ws = [] := by unfold selLW; rw [h]; rfl
theorem selLW_yes {ws : List ByteArray} (h : selOkW ws = true) : selLW ws = ws.map prD := by unfold selLW; rw [h]; rfl
/-- Behind all words. -/
theorem selW_end {ws : List ByteArray} (h5 : ws.length ≤ 5) (h : ws.all okW = true) : selOkW ws = decide (0 < ws.length) ∧ selLW ws = ws.map prD := by
  by_cases h1 : 1 ≤ ws.length
  · have := selOkW_yes h1 h5 h
    exact ⟨by rw [this, decide_eq_true (by omega)], selLW_yes this⟩
  · have e : ws = [] := List.eq_nil_of_length_eq_zero (by omega)
    subst e
    exact ⟨rfl, rfl⟩
theorem wordsOf_size (s : ByteArray) (i : Nat) : (strAt (wordsOf s) i).size ≤ s.size := by
  unfold strAt wordsOf
  by_cases h : i < (Lib.closeSpans s (spB s s.size 0 none [])).length
  · simp [h]; omega
  · simp [h]; exact Nat.zero_le _
/-- What has been told stays. -/
theorem spB_pre (s : ByteArray) : ∀ (f pos : Nat) (st : Option Nat) (acc : List (Nat × Nat)), acc <+: (spB s f pos st acc).1 := by
  intro f
  induction f with
  | zero => intro pos st acc; exact List.prefix_refl _
  | succ f ih =>
    intro pos st acc
    unfold spB
    split
    · split
      · cases st with
        | none => exact ih _ _ _
        | some a => exact (List.prefix_append _ _).trans (ih _ _ _)
      · cases st with
        | none => exact ih _ _ _
        | some a => exact ih _ _ _
    · exact List.prefix_refl _
theorem WdSt.pre {s : ByteArray} {pos : Nat} {st : Option Nat} {acc : List (Nat × Nat)} (h : WdSt s pos st acc) : cutT s acc <+: wordsOf s := by
  have h1 := spB_pre s (s.size - pos) pos st acc
  rw [h.rest] at h1
  unfold wordsOf cutT
  refine (h1.map _).trans ?_
  unfold Lib.closeSpans
  split
  · rw [List.map_append]; exact List.prefix_append _ _
  · exact List.prefix_refl _
end Go.Proofs.YtnkmdmmlpidcmaaGreatDoor
namespace Go.Proofs.YtnkmdmmlpidcmaaGreatDoor
open Go.ChangeShapes Go.WideShapes Go.ChangeAt Go.RowKit
set_option linter.unusedVariables false

theorem set_far {w : World} {g i j : Nat} {u : Value} (h : i ≠ j) : (w.setCell ⟨g, i, none⟩ u).cell? ⟨g, j, none⟩ = w.cell? ⟨g, j, none⟩ := World.cell?_setCell_other _ _ _ _ (fun e => by injection e; omega)
set_option maxHeartbeats 4000000 in
theorem markPt_any (w : World) (v : Value) (K : Nat) (l : List PD) (F : Nat → Prop) (hK : 1 ≤ K) (hK2 : K + cntPs l ≤ 1000000) (h : RowM 3 EPart w v l F) :
    Calls Tryz.prog 85 #[v, .int .i64 (K : Int)] w fun e w' => e = .returned (.int .i64 ((K + cntPs l : Nat) : Int)) ∧ Wr F w w' ∧ RowM 3 EPart w' v (mkPs K l) F := by
  rcases h with ⟨rfl, rfl⟩ | ⟨g, c, els, rfl, hc, hx, hA⟩
  · go_enter Tryz.func85, Tryz.ntmps85
    go_wp2
    go_loopw [1, 5] (fun x i wr => x = .int .i64 (K : Int) ∧ i = .int .i64 0 ∧ wr = w) (fun _ _ _ => 0)
    case atStart => exact ⟨rfl, rfl, rfl⟩
    case round =>
      obtain ⟨rfl, rfl, rfl⟩ := hrel
      go_wp2
      go_ret
      exact ⟨rfl, Wr.refl _ _, Or.inl ⟨rfl, rfl⟩⟩
  · have HA : Hid (RowA 3 EPart w g els F) := hA
    have HX : Hid (els.map El.x = l) := hx
    have hl := cntPs_len l
    clear hA hx
    have HC : Hid (l.length ≤ c) := hc
    go_enter Tryz.func85, Tryz.ntmps85
    go_wp2
    go_loopw [1, 5] (fun x i wr => ∃ (j : Nat) (es : List (El PD)), j ≤ l.length ∧ i = .int .i64 j ∧ x = .int .i64 ((K + cntPs (l.take j) : Nat) : Int) ∧ Wr F w wr ∧ es.map El.x = (mkPs K l).take j ++ l.drop j ∧ RowA 3 EPart wr g es F) (fun _ i _ => l.length - (intOf i).toNat)
    case atStart => exact ⟨0, els, Nat.zero_le _, rfl, rfl, Wr.refl _ _, HX.out, HA.out⟩
    case round =>
      obtain ⟨j, es, hj, rfl, rfl, hw, he, hA⟩ := hrel
      have HW : Hid (Wr F w wr) := hw
      have HE : Hid (es.map El.x = (mkPs K l).take j ++ l.drop j) := he
      by_cases hlt : j < l.length
      · obtain ⟨e, hje, hex⟩ := el_at he j (by rw [List.length_append, List.length_take, List.length_drop, mkPs_len]; omega) noPD
        have hex2 : e.x = partAt l j := by
          rw [hex]
          show ((mkPs K l).take j ++ l.drop j).getD j noPD = l.getD j noPD
          rw [List.getD_eq_getElem?_getD, marked_at _ _ _ (mkPs_len l K) hlt, ← List.getD_eq_getElem?_getD]
        obtain ⟨⟨u, hcs, hu⟩, hlen, hFe⟩ := hA.el e (List.mem_of_getElem? hje)
        have c0 := hA.cell j e hje 0 (.string e.x.ty) (by rw [hcs]; rfl)
        have c1 := hA.cell j e hje 1 (.string e.x.id) (by rw [hcs]; rfl)
        have c2 := hA.cell j e hje 2 u (by rw [hcs]; rfl)
        have hst := cntPs_step l j hlt
        have hle := cntPs_le l (j + 1)
        have HMK : Hid _ := mkPs_at l K j hlt
        have hg := hA.lt
        have hfz := hA.fz
        rw [hex2] at hu c0 c1
        rw [Nat.add_zero] at c0
        have HU : Hid (RowM 1 EStr wr u (partAt l j).cls e.F) := hu
        have HRA : Hid (RowA 3 EPart wr g es F) := hA
        have HJE : Hid (es[j]? = some e) := hje
        have HFE : Hid (∀ b, e.F b → F b ∧ b ≠ g) := hFe
        have HIF : Hid (F g) := hA.inF
        obtain ⟨ua, uc, hue, _⟩ := hu.slice
        subst hue
        have hcn : cntP (partAt l j) = 2 + (partAt l j).cls.length := rfl
        rw [hcn] at hst
        rw [hst] at hle
        have HST : Hid (cntPs (l.take (j + 1)) = cntPs (l.take j) + (2 + (partAt l j).cls.length)) := hst
        have HSM : Hid _ := fun x hx => set_marked (mkPs K l) l j x (mkPs_len l K) hlt hx
        clear hst hcn hu hA hje hFe hex hex2 hcs hlen he hw
        generalize partAt l j = p at *
        generalize cntPs (l.take j) = C at *
        go_wp2_with fail
        refine Calls.mono (markText_any _ (K + C) (by omega) (by omega)) ?_
        rintro e1 w1 ⟨rfl, k1⟩
        have hg1 : g < w1.heap.size := Nat.lt_of_lt_of_le hg (Below.size k1)
        have d0 := ((bcell k1).1 _ (j * 3) hg).trans c0
        have d1 := ((bcell k1).1 _ (j * 3 + 1) hg).trans c1
        have d2 := ((bcell k1).1 _ (j * 3 + 2) hg).trans c2
        have df : ∀ o, w1.frozen? ⟨g, o, none⟩ = false := fun o => ((bcell k1).2 _ o hg).trans (hfz o)
        have HK1 : Hid (Nw wr w1) := k1
        clear k1 c0 c1 c2
        go_wp2_with fail
        refine Calls.mono (markText_any _ (K + C + 1) (by omega) (by omega)) ?_
        rintro e2 w2 ⟨rfl, k2⟩
        have hgS : g < (w1.setCell ⟨g, j * 3, none⟩ (.string (markT (K + C)))).heap.size := by simpa [World.setCell] using hg1
        have hg2 : g < w2.heap.size := Nat.lt_of_lt_of_le hgS (Below.size k2)
        have f0 := ((bcell k2).1 _ (j * 3) hgS).trans (World.cell?_setCell_same w1 ⟨g, j * 3, none⟩ _ d0)
        have f1 := ((bcell k2).1 _ (j * 3 + 1) hgS).trans ((set_far (by omega)).trans d1)
        have f2 := ((bcell k2).1 _ (j * 3 + 2) hgS).trans ((set_far (by omega)).trans d2)
        have ff : ∀ o, w2.frozen? ⟨g, o, none⟩ = false := fun o => ((bcell k2).2 _ o hgS).trans (by rw [World.frozen?_setCell]; exact df o)
        have HK2 : Hid (Nw (w1.setCell ⟨g, j * 3, none⟩ (.string (markT (K + C)))) w2) := k2
        clear k2 d0 d1 d2 df
        go_wp2_with fail
        have HU1 : Hid (RowM 1 EStr (w2.setCell ⟨g, j * 3 + 1, none⟩ (.string (markT (K + C + 1)))) (.slice ua p.cls.length uc) p.cls e.F) := by
          have a1 := HU.out.nw EStr.kept HK1.out
          have a2 := a1.kept EStr.kept (Wr.set (F := fun b => b = g) (Wr.refl _ _) rfl (j * 3) (.string (markT (K + C)))) (fun b hb => (HFE.out b hb).2)
          have a3 := a2.nw EStr.kept HK2.out
          exact a3.kept EStr.kept (Wr.set (F := fun b => b = g) (Wr.refl _ _) rfl (j * 3 + 1) (.string (markT (K + C + 1)))) (fun b hb => (HFE.out b hb).2)
        refine Calls.mono (markSt_any _ (.slice ua p.cls.length uc) (K + C + 2) p.cls e.F (by omega) (by omega) (by omega) HU1.out) ?_
        rintro e3 w3 ⟨rfl, k3, m3⟩
        have HWR : Hid (Wr (fun b => b = g ∨ e.F b) wr w3) := by
          have b1 : Wr (fun b => b = g ∨ e.F b) wr w1 := Wr.nw HK1.out
          have b2 := b1.set (Or.inl rfl) (j * 3) (.string (markT (K + C)))
          have b3 := b2.trans (Wr.nw HK2.out)
          have b4 := b3.set (Or.inl rfl) (j * 3 + 1) (.string (markT (K + C + 1)))
          exact b4.trans (k3.mono (fun b hb => Or.inr hb))
        have hgS2 : g < (w2.setCell ⟨g, j * 3 + 1, none⟩ (.string (markT (K + C + 1)))).heap.size := by simpa [World.setCell] using hg2
        have hblk := k3.block g hgS2 (fun hb => (HFE.out g hb).2 rfl)
        have cc : ∀ o, w3.cell? ⟨g, o, none⟩ = (w2.setCell ⟨g, j * 3 + 1, none⟩ (.string (markT (K + C + 1)))).cell? ⟨g, o, none⟩ := fun o => World.cell?_of_block (w := (w2.setCell ⟨g, j * 3 + 1, none⟩ (.string (markT (K + C + 1))))) (a := ⟨g, o, none⟩) hblk
        have HNX : Hid (RowA 3 EPart w3 g (es.set j ⟨mkP (K + C) p, [.string (markT (K + C)), .string (markT (K + C + 1)), .slice ua p.cls.length uc], e.F⟩) F) := by
          refine HRA.out.step EPart.kept j e _ _ HJE.out rfl HWR.out (fun o => ?_) (fun i y hi => ?_) (fun i m him hm => ?_) ⟨_, rfl, ?_⟩
          · rw [World.frozen?_of_block (w := (w2.setCell ⟨g, j * 3 + 1, none⟩ (.string (markT (K + C + 1))))) (a := ⟨g, o, none⟩) hblk, World.frozen?_setCell]
            exact ff o
          · rw [cc]
            rcases (show i = 0 ∨ i = 1 ∨ i = 2 ∨ 3 ≤ i by omega) with rfl | rfl | rfl | h
            · simp at hi; subst hi; rw [set_far (by omega), Nat.add_zero]; exact f0
            · simp at hi; subst hi; exact World.cell?_setCell_same w2 ⟨g, j * 3 + 1, none⟩ _ f1
            · simp at hi; subst hi; rw [set_far (by omega)]; exact f2
            · rw [List.getElem?_eq_none (by simpa using h)] at hi; cases hi
          · rw [cc, set_far (by omega), (bcell HK2.out).1 _ _ hgS, set_far (by omega), (bcell HK1.out).1 _ _ hg]
          · exact m3
        have HW3 : Hid (Wr F w w3) := HW.out.trans (HWR.out.mono (fun b hb => by
          rcases hb with rfl | hb
          · exact HIF.out
          · exact (HFE.out b hb).1))
        clear m3 hblk cc k3 f0 f1 f2 ff
        go_wp2
        go_roundw
        case rel =>
          refine ⟨j + 1, _, by omega, by go_num, by rw [HST.out]; go_num, HW3.out, ?_, HNX.out⟩
          rw [List.map_set, HE.out, HSM.out _ HMK.out]
        case measure => simp [intOf]; omega
      · have e : j = l.length := by omega
        subst e
        rw [List.take_length] at *
        have HRA : Hid (RowA 3 EPart wr g es F) := hA
        have HE2 : Hid (es.map El.x = mkPs K l) := by
          show _ = _
          rw [he, ← mkPs_len l K, List.take_length]
          rw [mkPs_len, List.drop_length, List.append_nil]
        have HLN : Hid ((mkPs K l).length = l.length) := mkPs_len l K
        clear hA he hw
        go_wp2
        go_ret
        refine ⟨rfl, HW.out, Or.inr ⟨g, c, es, ?_, ?_, HE2.out, HRA.out⟩⟩
        · rw [HLN.out]
        · rw [HLN.out]; exact HC.out
end Go.Proofs.YtnkmdmmlpidcmaaGreatDoor

/-
  Words of a text while they are told; each theorem names its conditions.
  A selector read from a text: pure facts; each theorem names its conditions.
  A text without its comments, on lists of bytes: as the specification makes it and as the program does; pure facts.
  A part in a variable, to whose classes is appended; each theorem names its conditions.
-/
import Derived.Test.YtnkmdmmlpidcmaaGreatDoorJAC
import Derived.Test.YtnkmdmmlpidcmaaGreatDoorJAF
import Derived.Test.YtnkmdmmlpidcmaaGreatDoorJAE
import Derived.Lib.IndexMore
namespace Go.Proofs.YtnkmdmmlpidcmaaGreatDoor
open Go.ChangeShapes Go.WideShapes Go.ChangeAt Go.RowKit
set_option linter.unusedVariables false

theorem sblank (w : World) (x : Nat) (h : x ≤ 255) : Calls Tryz.prog 106 #[.int .u8 (x : Int)] w fun e w' => e = .returned (.bool (blankN x)) ∧ w' = w := by
  go_enter Tryz.func106, Tryz.ntmps106
  go_wp2
  all_goals
    go_ret
    exact ⟨ret_bool (by rw [Bool.eq_iff_iff]; simp [blankN]; omega), rfl⟩
/-- The word that is open. -/
def opnT (s : ByteArray) (st : Option Nat) (pos : Nat) : ByteArray := match st with | some a => s.extract a pos | none => ⟨#[]⟩
def cutT (s : ByteArray) (acc : List (Nat × Nat)) : List ByteArray := acc.map fun x => s.extract x.1 x.2
theorem cutT_snoc (s : ByteArray) (acc : List (Nat × Nat)) (a b : Nat) : cutT s (acc ++ [(a, b)]) = cutT s acc ++ [s.extract a b] := by simp [cutT]
theorem cutT_len (s : ByteArray) (acc : List (Nat × Nat)) : (cutT s acc).length = acc.length := by simp [cutT]
structure WdSt (s : ByteArray) (pos : Nat) (st : Option Nat) (acc : List (Nat × Nat)) : Prop where
  le : pos ≤ s.size
  open_ : ∀ a, st = some a → a < pos
  len : acc.length ≤ pos
  rest : spB s (s.size - pos) pos st acc = spB s s.size 0 none []
theorem WdSt.start (s : ByteArray) : WdSt s 0 none [] := ⟨Nat.zero_le _, (fun a h => by cases h), Nat.zero_le _, rfl⟩
theorem WdSt.word_none {s : ByteArray} {pos : Nat} {acc : List (Nat × Nat)} (h : WdSt s pos none acc) (hlt : pos < s.size) (hb : blankN (byN s pos) = false) : WdSt s (pos + 1) (some pos) acc := by
  refine ⟨hlt, fun a e => by injection e; omega, by have := h.len; omega, ?_⟩
  rw [← h.rest, show s.size - pos = (s.size - (pos + 1)) + 1 by omega, spB_word_none s _ _ _ hlt hb]
theorem WdSt.word_some {s : ByteArray} {pos a : Nat} {acc : List (Nat × Nat)} (h : WdSt s pos (some a) acc) (hlt : pos < s.size) (hb : blankN (byN s pos) = false) : WdSt s (pos + 1) (some a) acc := by
  refine ⟨hlt, fun b e => by have := h.open_ b e; omega, by have := h.len; omega, ?_⟩
  rw [← h.rest, show s.size - pos = (s.size - (pos + 1)) + 1 by omega, spB_word_some s _ _ _ _ hlt hb]
theorem WdSt.blank_none {s : ByteArray} {pos : Nat} {acc : List (Nat × Nat)} (h : WdSt s pos none acc) (hlt : pos < s.size) (hb : blankN (byN s pos) = true) : WdSt s (pos + 1) none acc := by
  refine ⟨hlt, (fun a e => by cases e), by have := h.len; omega, ?_⟩
  rw [← h.rest, show s.size - pos = (s.size - (pos + 1)) + 1 by omega, spB_blank_none s _ _ _ hlt hb]
theorem WdSt.blank_some {s : ByteArray} {pos a : Nat} {acc : List (Nat × Nat)} (h : WdSt s pos (some a) acc) (hlt : pos < s.size) (hb : blankN (byN s pos) = true) : WdSt s (pos + 1) none (acc ++ [(a, pos)]) := by
  refine ⟨hlt, (fun a e => by cases e), by have := h.len; simp; omega, ?_⟩
  rw [← h.rest, show s.size - pos = (s.size - (pos + 1)) + 1 by omega, spB_blank_some s _ _ _ _ hlt hb]
theorem WdSt.end_none {s : ByteArray} {pos : Nat} {acc : List (Nat × Nat)} (h : WdSt s pos none acc) (hlt : ¬ pos < s.size) : wordsOf s = cutT s acc := by
  unfold wordsOf cutT
  rw [← h.rest, spB_end _ _ _ _ _ hlt]; rfl
theorem WdSt.end_some {s : ByteArray} {pos a : Nat} {acc : List (Nat × Nat)} (h : WdSt s pos (some a) acc) (hlt : ¬ pos < s.size) : wordsOf s = cutT s acc ++ [s.extract a pos] := by
  have e : pos = s.size := by have := h.le; omega
  unfold wordsOf cutT
  rw [← h.rest, spB_end _ _ _ _ _ hlt, e]
  simp [Lib.closeSpans]
end Go.Proofs.YtnkmdmmlpidcmaaGreatDoor
namespace Go.Proofs.YtnkmdmmlpidcmaaGreatDoor
open Go.ChangeShapes Go.WideShapes Go.ChangeAt Go.RowKit
set_option linter.unusedVariables false

def okW (s : ByteArray) : Bool := (prP s).isSome
def selOkW (ws : List ByteArray) : Bool := decide (1 ≤ ws.length ∧ ws.length ≤ 5) && ws.all okW
def selOk (s : ByteArray) : Bool := selOkW (wordsOf s)
def selLW (ws : List ByteArray) : List PD := if selOkW ws then ws.map prD else []
def selL (s : ByteArray) : List PD := selLW (wordsOf s)
/-- What a reader of a selector says. -/
def SelSays (s : ByteArray) (w w' : World) (e : Ending) : Prop := ∃ v, e = .returned (.tuple #[v, .bool (selOk s)]) ∧ RowM 3 EPart w' v (selL s) (iv w w')
theorem prD_of {s : ByteArray} {p : PD} (h : prP s = some p) : prD s = p ∧ okW s = true := by unfold prD okW; rw [h]; exact ⟨rfl, rfl⟩
theorem okW_no {s : ByteArray} (h : prP s = none) : okW s = false := by unfold okW; rw [h]; rfl
theorem selOkW_bad {ws : List ByteArray} {x : ByteArray} (hx : x ∈ ws) (h : okW x = false) : selOkW ws = false := by
  unfold selOkW
  have : ws.all okW = false := by
    rw [List.all_eq_false]
    exact ⟨x, hx, by rw [h]; simp⟩
  rw [this, Bool.and_false]
theorem selOkW_many {ws : List ByteArray} (h : 5 < ws.length) : selOkW ws = false := by
  unfold selOkW
  rw [decide_eq_false (by omega), Bool.false_and]
theorem selOkW_none : selOkW [] = false := rfl
theorem selOkW_yes {ws : List ByteArray} (h1 : 1 ≤ ws.length) (h5 : ws.length ≤ 5) (h : ws.all okW = true) : selOkW ws = true := by
  unfold selOkW
  rw [decide_eq_true ⟨h1, h5⟩, h]; rfl
theorem selLW_no {ws : List ByteArray} (h : selOkW ws = false) : selLW ws = [] := by unfold selLW; rw [h]; rfl
theorem selLW_yes {ws : List ByteArray} (h : selOkW ws = true) : selLW ws = ws.map prD := by unfold selLW; rw [h]; rfl
/-- Behind all words. -/
theorem selW_end {ws : List ByteArray} (h5 : ws.length ≤ 5) (h : ws.all okW = true) : selOkW ws = decide (0 < ws.length) ∧ selLW ws = ws.map prD := by
  by_cases h1 : 1 ≤ ws.length
  · have := selOkW_yes h1 h5 h
    exact ⟨by rw [this, decide_eq_true (by omega)], selLW_yes this⟩
  · have e : ws = [] := List.eq_nil_of_length_eq_zero (by omega)
    subst e
    exact ⟨rfl, rfl⟩
theorem wordsOf_size (s : ByteArray) (i : Nat) : (strAt (wordsOf s) i).size ≤ s.size := by
  unfold strAt wordsOf
  by_cases h : i < (Lib.closeSpans s (spB s s.size 0 none [])).length
  · simp [h]; omega
  · simp [h]; exact Nat.zero_le _
/-- What has been told stays. -/
theorem spB_pre (s : ByteArray) : ∀ (f pos : Nat) (st : Option Nat) (acc : List (Nat × Nat)), acc <+: (spB s f pos st acc).1 := by
  intro f
  induction f with
  | zero => intro pos st acc; exact List.prefix_refl _
  | succ f ih =>
    intro pos st acc
    unfold spB
    split
    · split
      · cases st with
        | none => exact ih _ _ _
        | some a => exact (List.prefix_append _ _).trans (ih _ _ _)
      · cases st with
        | none => exact ih _ _ _
        | some a => exact ih _ _ _
    · exact List.prefix_refl _
theorem WdSt.pre {s : ByteArray} {pos : Nat} {st : Option Nat} {acc : List (Nat × Nat)} (h : WdSt s pos st acc) : cutT s acc <+: wordsOf s := by
  have h1 := spB_pre s (s.size - pos) pos st acc
  rw [h.rest] at h1
  unfold wordsOf cutT
  refine (h1.map _).trans ?_
  unfold Lib.closeSpans
  split
  · rw [List.map_append]; exact List.prefix_append _ _
  · exact List.prefix_refl _
end Go.Proofs.YtnkmdmmlpidcmaaGreatDoor
namespace Go.Proofs.YtnkmdmmlpidcmaaGreatDoor
set_option linter.unusedVariables false

/-- A text cut at the first place where x and y stand one behind the other. -/
def cut2 (x y : UInt8) : List UInt8 → Option (List UInt8 × List UInt8)
  | [] => none
  | a :: r => if a = x ∧ r.head? = some y then some ([], r.tail) else (cut2 x y r).map fun z => (a :: z.1, z.2)
theorem pre2 (x y a : UInt8) (r : List UInt8) : [x, y].isPrefixOf (a :: r) = decide (a = x ∧ r.head? = some y) := by
  cases r with
  | nil => simp [List.isPrefixOf]
  | cons b t =>
    simp only [List.isPrefixOf, List.head?_cons, Option.some.injEq, Bool.and_true]
    rw [Bool.eq_iff_iff, Bool.and_eq_true, beq_iff_eq, beq_iff_eq, decide_eq_true_eq]
    constructor
    · rintro ⟨rfl, rfl⟩; exact ⟨rfl, rfl⟩
    · rintro ⟨rfl, rfl⟩; exact ⟨rfl, rfl⟩
theorem cut2_ix (x y : UInt8) : ∀ l, (∀ p q, cut2 x y l = some (p, q) → l = p ++ x :: y :: q ∧ Lib.index l [x, y] = p.length) ∧ (cut2 x y l = none → Lib.index l [x, y] = -1) := by
  intro l
  induction l with
  | nil => exact ⟨(fun p q h => by cases h), fun _ => rfl⟩
  | cons a r ih =>
    by_cases h : a = x ∧ r.head? = some y
    · have e : cut2 x y (a :: r) = some ([], r.tail) := by rw [cut2, if_pos h]
      have hi : Lib.index (a :: r) [x, y] = 0 := by rw [Lib.index, pre2, if_pos (decide_eq_true h)]
      refine ⟨fun p q hp => ?_, fun hn => by rw [e] at hn; cases hn⟩
      rw [e] at hp
      injection hp with hp
      injection hp with h1 h2
      subst h1 h2
      refine ⟨?_, hi⟩
      cases r with
      | nil => exact absurd h.2 (by simp)
      | cons b t =>
        have := h.2
        simp at this
        rw [h.1, this]; rfl
    · have e : cut2 x y (a :: r) = (cut2 x y r).map fun z => (a :: z.1, z.2) := by rw [cut2, if_neg h]
      have hi : Lib.index (a :: r) [x, y] = if Lib.index r [x, y] == -1 then -1 else Lib.index r [x, y] + 1 := by
        rw [Lib.index, pre2, if_neg (by simpa using h)]
      refine ⟨fun p q hp => ?_, fun hn => ?_⟩
      · rw [e, Option.map_eq_some_iff] at hp
        obtain ⟨⟨p', q'⟩, h1, h2⟩ := hp
        injection h2 with h2 h3
        subst h2 h3
        obtain ⟨g1, g2⟩ := ih.1 p' q' h1
        refine ⟨by rw [List.cons_append, ← g1], ?_⟩
        rw [hi, g2, if_neg (by simp <;> omega)]
        simp
      · rw [e, Option.map_eq_none_iff] at hn
        rw [hi, ih.2 hn]; rfl
theorem cut_cut2 (x y : UInt8) (l : List UInt8) : Lib.cut l [x, y] = match cut2 x y l with | some (p, q) => (p, q, true) | none => (l, [], false) := by
  obtain ⟨h1, h2⟩ := cut2_ix x y l
  unfold Lib.cut
  cases e : cut2 x y l with
  | none => rw [h2 e, if_neg (by decide)]
  | some z =>
    obtain ⟨p, q⟩ := z
    obtain ⟨g1, g2⟩ := h1 p q e
    rw [g2, if_pos (by omega)]
    have e1 : ((p.length : Int)).toNat = p.length := by omega
    rw [e1]
    have e2 : l.take p.length = p := by rw [g1, List.take_left]
    have e3 : l.drop (p.length + [x, y].length) = q := by rw [g1, ← List.drop_drop, List.drop_left]; rfl
    rw [e2, e3]
/-- What stands behind a comment's end. -/
def skipC (l : List UInt8) : List UInt8 := match cut2 42 47 l with | some (_, q) => q | none => []
theorem cut2_len {x y : UInt8} {l p q : List UInt8} (h : cut2 x y l = some (p, q)) : l.length = p.length + 2 + q.length := by
  obtain ⟨g1, _⟩ := (cut2_ix x y l).1 p q h
  rw [g1]; simp; omega
theorem skipC_len (l : List UInt8) : (skipC l).length ≤ l.length := by
  unfold skipC
  cases e : cut2 42 47 l with
  | none => exact Nat.zero_le _
  | some z => obtain ⟨p, q⟩ := z; have := cut2_len e; simp only; omega
def bareF : Nat → List UInt8 → List UInt8
  | 0, _ => []
  | f + 1, l => match cut2 47 42 l with | none => l | some (p, q) => p ++ 32 :: bareF f (skipC q)
theorem bareF_fuel : ∀ (f g : Nat) (l : List UInt8), l.length < f → l.length < g → bareF f l = bareF g l := by
  intro f
  induction f with
  | zero => intro g l h; omega
  | succ f ih =>
    intro g l h1 h2
    cases g with
    | zero => omega
    | succ g =>
      unfold bareF
      cases e : cut2 47 42 l with
      | none => rfl
      | some z =>
        obtain ⟨p, q⟩ := z
        have := cut2_len e
        have h3 := skipC_len q
        simp only
        rw [ih g (skipC q) (by omega) (by omega)]
/-- A text with a blank for each comment. -/
def bareL (l : List UInt8) : List UInt8 := bareF (l.length + 1) l
theorem bareL_miss {l : List UInt8} (h : cut2 47 42 l = none) : bareL l = l := by unfold bareL bareF; rw [h]
theorem bareL_hit {l p q : List UInt8} (h : cut2 47 42 l = some (p, q)) : bareL l = p ++ 32 :: bareL (skipC q) := by
  have h1 := cut2_len h
  have h2 := skipC_len q
  unfold bareL
  conv => lhs; unfold bareF
  rw [h]
  simp only
  rw [bareF_fuel l.length ((skipC q).length + 1) (skipC q) (by omega) (by omega)]
theorem bareL_nil : bareL [] = [] := rfl
/-- Byte by byte. -/
theorem bareL_begin (r : List UInt8) (h : r.head? = some 42) : bareL (47 :: r) = 32 :: bareL (skipC r.tail) := by
  rw [bareL_hit (p := []) (q := r.tail) (by rw [cut2, if_pos ⟨rfl, h⟩])]
  rfl
theorem bareL_step (a : UInt8) (r : List UInt8) (h : ¬ (a = 47 ∧ r.head? = some 42)) : bareL (a :: r) = a :: bareL r := by
  cases e : cut2 47 42 r with
  | none => rw [bareL_miss e, bareL_miss (by rw [cut2, if_neg h, e]; rfl)]
  | some z =>
    obtain ⟨p, q⟩ := z
    rw [bareL_hit e, bareL_hit (p := a :: p) (q := q) (by rw [cut2, if_neg h, e]; rfl)]
    rfl
theorem skipC_end (r : List UInt8) (h : r.head? = some 47) : skipC (42 :: r) = r.tail := by
  unfold skipC
  rw [cut2, if_pos ⟨rfl, h⟩]
theorem skipC_step (a : UInt8) (r : List UInt8) (h : ¬ (a = 42 ∧ r.head? = some 47)) : skipC (a :: r) = skipC r := by
  unfold skipC
  rw [cut2, if_neg h]
  cases cut2 42 47 r with
  | none => rfl
  | some z => rfl
theorem bareL_len : ∀ (n : Nat) (l : List UInt8), l.length ≤ n → (bareL l).length ≤ l.length := by
  intro n
  induction n with
  | zero => intro l h; have : l = [] := List.eq_nil_of_length_eq_zero (by omega); subst this; exact Nat.le_refl _
  | succ n ih =>
    intro l h
    cases e : cut2 47 42 l with
    | none => rw [bareL_miss e]; exact Nat.le_refl _
    | some z =>
      obtain ⟨p, q⟩ := z
      have h1 := cut2_len e
      have h2 := skipC_len q
      have h3 := ih (skipC q) (by omega)
      rw [bareL_hit e]
      simp
      omega
def bareB (s : ByteArray) : ByteArray := bA (bareL s.data.toList)
theorem bareB_size (s : ByteArray) : (bareB s).size ≤ s.size := by
  unfold bareB
  rw [bA_size, ← data_len]
  exact bareL_len _ _ (Nat.le_refl _)
end Go.Proofs.YtnkmdmmlpidcmaaGreatDoor
namespace Go.Proofs.YtnkmdmmlpidcmaaGreatDoor
open Go.ChangeShapes Go.WideShapes Go.ChangeAt Go.RowKit
set_option linter.unusedVariables false

/-- A part in the block bx: texts of the call's own, which lie behind it. -/
structure CvP (bx : Nat) (w : World) (p q : ByteArray) (v : Value) (l : List ByteArray) : Prop where
  c0 : w.cell? ⟨bx, 0, none⟩ = some (.string p)
  c1 : w.cell? ⟨bx, 1, none⟩ = some (.string q)
  c2 : w.cell? ⟨bx, 2, none⟩ = some v
  free : ∀ o, w.frozen? ⟨bx, o, none⟩ = false
  own : Txs w (bx + 1) v l
theorem CvP.lt {bx : Nat} {w : World} {p q : ByteArray} {v : Value} {l : List ByteArray} (h : CvP bx w p q v l) : bx < w.heap.size := World.block_lt_of_cell? w ⟨bx, 0, none⟩ h.c0
theorem CvP.nw {bx : Nat} {w w' : World} {p q : ByteArray} {v : Value} {l : List ByteArray} (h : CvP bx w p q v l) (k : Nw w w') : CvP bx w' p q v l :=
  ⟨((bcell k).1 _ _ h.lt).trans h.c0, ((bcell k).1 _ _ h.lt).trans h.c1, ((bcell k).1 _ _ h.lt).trans h.c2, fun o => ((bcell k).2 _ _ h.lt).trans (h.free o), h.own.nw k⟩
theorem CvP.new (w : World) (t : TypeId) (p q : ByteArray) : CvP w.heap.size (w.alloc (.cells #[.string p, .string q, .slice none 0 0] t)) p q (.slice none 0 0) [] :=
  ⟨by simp, by simp, by simp, fun o => World.frozen?_alloc_at _ _ _ _ rfl, Txs.nil _ _⟩
theorem CvP.ne {bx : Nat} {w : World} {p q : ByteArray} {v : Value} {l : List ByteArray} (h : CvP bx w p q v l) : v.ownBlock ≠ some bx := fun e => by
  have := (World.ownsRow.lt h.own bx e).1
  omega
/-- What is there for the store. -/
theorem CvP.there {bx : Nat} {w w' : World} {p q : ByteArray} {v v' : Value} {l : List ByteArray} (h : CvP bx w p q v l) (k : Ext v v' w w') : w'.cell? ⟨bx, 2, none⟩ = some v ∧ ∀ o, w'.frozen? ⟨bx, o, none⟩ = false :=
  ⟨(Ext.cell k h.lt h.ne 2).trans h.c2, fun o => (World.frozen?_of_block (w := w) (a := ⟨bx, o, none⟩) (k.1.block bx h.lt (fun e => h.ne e.symm))).trans (h.free o)⟩
theorem Txs.far {w : World} {B : Nat} {v : Value} {l : List ByteArray} (h : Txs w B v l) (b o : Nat) (u : Value) (hne : v.ownBlock ≠ some b) : Txs (w.setCell ⟨b, o, none⟩ u) B v l :=
  World.ownsRow.kept h set_grown (Or.inr hne)
theorem CvP.put {bx : Nat} {w w' : World} {p q : ByteArray} {v v' : Value} {l l' : List ByteArray} (h : CvP bx w p q v l) (k : Ext v v' w w') (ho : Txs w' (bx + 1) v' l') : CvP bx (w'.setCell ⟨bx, 2, none⟩ v') p q v' l' ∧ Below bx w (w'.setCell ⟨bx, 2, none⟩ v') := by
  have hb := h.lt
  have hne2 : v'.ownBlock ≠ some bx := Ext.apart k hb h.ne
  obtain ⟨t0, tf⟩ := h.there k
  refine ⟨⟨?_, ?_, World.cell?_setCell_same w' ⟨bx, 2, none⟩ _ t0, fun o => by rw [World.frozen?_setCell]; exact tf o, Txs.far ho bx 2 _ hne2⟩, ?_⟩
  · rw [World.cell?_setCell_other _ _ _ _ (fun e => by injection e; omega)]
    exact (Ext.cell k hb h.ne 0).trans h.c0
  · rw [World.cell?_setCell_other _ _ _ _ (fun e => by injection e; omega)]
    exact (Ext.cell k hb h.ne 1).trans h.c1
  · exact (k.below (fun g e => Nat.le_of_succ_le (World.ownsRow.lt h.own g e).1) (by omega)).setCell (Nat.le_refl _) _
theorem Txs.slice {w : World} {B : Nat} {v : Value} {l : List ByteArray} (h : Txs w B v l) : ∃ a c, v = .slice a l.length c := by
  obtain ⟨a, c, h1, _⟩ := h.strs
  exact ⟨a, c, h1⟩
theorem set3c (w : World) (b : Nat) (u0 u1 u2 : Value) {v0 v1 v2 : Value} (z0 : w.cell? ⟨b, 0, none⟩ = some v0) (z1 : w.cell? ⟨b, 1, none⟩ = some v1) (z2 : w.cell? ⟨b, 2, none⟩ = some v2) :
    (((w.setCell ⟨b, 0, none⟩ u0).setCell ⟨b, 1, none⟩ u1).setCell ⟨b, 2, none⟩ u2).cell? ⟨b, 0, none⟩ = some u0 ∧ (((w.setCell ⟨b, 0, none⟩ u0).setCell ⟨b, 1, none⟩ u1).setCell ⟨b, 2, none⟩ u2).cell? ⟨b, 1, none⟩ = some u1 ∧ (((w.setCell ⟨b, 0, none⟩ u0).setCell ⟨b, 1, none⟩ u1).setCell ⟨b, 2, none⟩ u2).cell? ⟨b, 2, none⟩ = some u2 := by
  have far : ∀ (w : World) (o o' : Nat) (u : Value), o ≠ o' → (w.setCell ⟨b, o, none⟩ u).cell? ⟨b, o', none⟩ = w.cell? ⟨b, o', none⟩ := fun w o o' u h => World.cell?_setCell_other _ _ _ _ (fun e => by injection e; omega)
  refine ⟨?_, ?_, ?_⟩
  · rw [far _ 2 0 _ (by omega), far _ 1 0 _ (by omega)]
    exact World.cell?_setCell_same w ⟨b, 0, none⟩ _ z0
  · rw [far _ 2 1 _ (by omega)]
    exact World.cell?_setCell_same _ ⟨b, 1, none⟩ _ ((far _ 0 1 _ (by omega)).trans z1)
  · exact World.cell?_setCell_same _ ⟨b, 2, none⟩ _ ((far _ 1 2 _ (by omega)).trans ((far _ 0 2 _ (by omega)).trans z2))
/-- A text is appended, wherever the append stands. -/
theorem wpk_tx (w : World) {o : Oper} {a : Act} {K : Act → World → Prop} {Q : Exit → Act → World → Prop} (s x : Operand)
    (ho : o.op = .call { callee := .builtin .append, args := #[s, x], argTypes := #[65, 65] })
    (B : Nat) (v : Value) (l : List ByteArray) (t : ByteArray) (hs : a.eval s = v) (hown : Txs w B v l) (g : Nat) (hx : a.eval x = .slice (some ⟨g, 0, none⟩) 1 1) (hc : w.cell? ⟨g, 0, none⟩ = some (.string t))
    (h63 : l.length ≤ 10000000) (hB : B ≤ w.heap.size)
    (h : ∀ v' w', Txs w' B v' (l ++ [t]) → Ext v v' w w' → K (a.put o.dst v') w') : o.wp Tryz.prog a w K Q := by
  obtain ⟨i0, hi, hz0, hz1, hz2⟩ := txs_parts
  obtain ⟨v', w', hr, h2, h3, h4, h5⟩ := run_append_own_at (P := Tryz.prog) w B 65 o.type 9 i0 (.string ⟨#[]⟩) 1 16 Tryz.underlying65 hi hz0 hz1 hz2 rfl (by decide) v l.length (l.map Value.string) hown ⟨g, 0, none⟩ 1 1 [.string t] rfl (fun j u hj => by
    cases j with
    | zero => simp at hj; subst hj; simpa [Addr.add] using hc
    | succ j => simp at hj) (fun u hu => by simp at hu; subst hu; rfl) (by unfold maxLen; omega) (by omega) hB
  unfold Oper.wp execOp
  simp only [ho, resolve, invoke, builtin, Sem.run_bind, Sem.run_pure, Result.andThen_ok, List.map_toArray, List.map_cons, List.map_nil, hs, hx, hr]
  refine h v' w' ?_ ⟨h3, h5.imp id fun e => ⟨_, e, Nat.le_refl _⟩⟩
  unfold Txs
  rw [List.length_append, List.map_append]
  exact h2
end Go.Proofs.YtnkmdmmlpidcmaaGreatDoor

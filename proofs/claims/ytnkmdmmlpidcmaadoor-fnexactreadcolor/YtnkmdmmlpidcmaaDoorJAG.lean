/-
  A text without its comments, on lists of bytes: as the specification makes it and as the program does; pure facts.
  A part read from a word, as the program reads it: pure facts; each theorem names its conditions.
  A part in a variable, to whose classes is appended; each theorem names its conditions.
  A region that draws its order, by one condition that every operation keeps: whatever order comes up; each theorem names its conditions.
-/
import Derived.Test.YtnkmdmmlpidcmaaDoorJAC
import Derived.Lib.IndexMore
import Derived.Test.YtnkmdmmlpidcmaaDoorJAE
import Derived.Test.YtnkmdmmlpidcmaaDoorJAF
import Derived.Test.YtnkmdmmlpidcmaaDoorJAA
import Derived.Orders
namespace Go.Proofs.YtnkmdmmlpidcmaaDoor
set_option linter.unusedVariables false

/-- A text cut at the first place where x and y stand one behind the other. -/
def cut2 (x y : UInt8) : List UInt8 → Option (List UInt8 × List UInt8)
  | [] => none
  | a :: r => if a = x ∧ r.head? = some y then some ([], r.tail) else (cut2 x y r).map fun z => (a :: z.1, z.2)
theorem pre2 (x y a : UInt8) (r : List UInt8) : [x, y].isPrefixOf (a :: r) = decide (a = x ∧ r.head? = some y) := by
  cases r with
  | nil => simp [List.isPrefixOf]
  | cons b t =>
    simp only [List.isPrefixOf, List.head?_cons, Option.some.injEq, Bool.and_true]
    rw [Bool.eq_iff_iff, Bool.and_eq_true, beq_iff_eq, beq_iff_eq, decide_eq_true_eq]
    constructor
    · rintro ⟨rfl, rfl⟩; exact ⟨rfl, rfl⟩
    · rintro ⟨rfl, rfl⟩; exact ⟨rfl, rfl⟩
theorem cut2_ix (x y : UInt8) : ∀ l, (∀ p q, cut2 x y l = some (p, q) → l = p ++ x :: y :: q ∧ Lib.index l [x, y] = p.length) ∧ (cut2 x y l = none → Lib.index l [x, y] = -1) := by
  intro l
  induction l with
  | nil => exact ⟨(fun p q h => by cases h), fun _ => rfl⟩
  | cons a r ih =>
    by_cases h : a = x ∧ r.head? = some y
    · have e : cut2 x y (a :: r) = some ([], r.tail) := by rw [cut2, if_pos h]
      have hi : Lib.index (a :: r) [x, y] = 0 := by rw [Lib.index, pre2, if_pos (decide_eq_true h)]
      refine ⟨fun p q hp => ?_, fun hn => by rw [e] at hn; cases hn⟩
      rw [e] at hp
      injection hp with hp
      injection hp with h1 h2
      subst h1 h2
      refine ⟨?_, hi⟩
      cases r with
      | nil => exact absurd h.2 (by simp)
      | cons b t =>
        have := h.2
        simp at this
        rw [h.1, this]; rfl
    · have e : cut2 x y (a :: r) = (cut2 x y r).map fun z => (a :: z.1, z.2) := by rw [cut2, if_neg h]
      have hi : Lib.index (a :: r) [x, y] = if Lib.index r [x, y] == -1 then -1 else Lib.index r [x, y] + 1 := by
        rw [Lib.index, pre2, if_neg (by simpa using h)]
      refine ⟨fun p q hp => ?_, fun hn => ?_⟩
      · rw [e, Option.map_eq_some_iff] at hp
        obtain ⟨⟨p', q'⟩, h1, h2⟩ := hp
        injection h2 with h2 h3
        subst h2 h3
        obtain ⟨g1, g2⟩ := ih.1 p' q' h1
        refine ⟨by rw [List.cons_append, ← g1], ?_⟩
        rw [hi, g2, if_neg (by simp <;> omega)]
        simp
      · rw [e, Option.map_eq_none_iff] at hn
        rw [hi, ih.2 hn]; rfl
theorem cut_cut2 (x y : UInt8) (l : List UInt8) : Lib.cut l [x, y] = match cut2 x y l with | some (p, q) => (p, q, true) | none => (l, [], false) := by
  obtain ⟨h1, h2⟩ := cut2_ix x y l
  unfold Lib.cut
  cases e : cut2 x y l with
  | none => rw [h2 e, if_neg (by decide)]
  | some z =>
    obtain ⟨p, q⟩ := z
    obtain ⟨g1, g2⟩ := h1 p q e
    rw [g2, if_pos (by omega)]
    have e1 : ((p.length : Int)).toNat = p.length := by omega
    rw [e1]
    have e2 : l.take p.length = p := by rw [g1, List.take_left]
    have e3 : l.drop (p.length + [x, y].length) = q := by rw [g1, ← List.drop_drop, List.drop_left]; rfl
    rw [e2, e3]
/-- What stands behind a comment's end. -/
def skipC (l : List UInt8) : List UInt8 := match cut2 42 47 l with | some (_, q) => q | none => []
theorem cut2_len {x y : UInt8} {l p q : List UInt8} (h : cut2 x y l = some (p, q)) : l.length = p.length + 2 + q.length := by
  obtain ⟨g1, _⟩ := (cut2_ix x y l).1 p q h
  rw [g1]; simp; omega
theorem skipC_len (l : List UInt8) : (skipC l).length ≤ l.length := by
  unfold skipC
  cases e : cut2 42 47 l with
  | none => exact Nat.zero_le _
  | some z => obtain ⟨p, q⟩ := z; have := cut2_len e; simp only; omega
def bareF : Nat → List UInt8 → List UInt8
  | 0, _ => []
  | f + 1, l => match cut2 47 42 l with | none => l | some (p, q) => p ++ 32 :: bareF f (skipC q)
theorem bareF_fuel : ∀ (f g : Nat) (l : List UInt8), l.length < f → l.length < g → bareF f l = bareF g l := by
  intro f
  induction f with
  | zero => intro g l h; omega
  | succ f ih =>
    intro g l h1 h2
    cases g with
    | zero => omega
    | succ g =>
      unfold bareF
      cases e : cut2 47 42 l with
      | none => rfl
      | some z =>
        obtain ⟨p, q⟩ := z
        have := cut2_len e
        have h3 := skipC_len q
        simp only
        rw [ih g (skipC q) (by omega) (by omega)]
/-- A text with a blank for each comment. -/
def bareL (l : List UInt8) : List UInt8 := bareF (l.length + 1) l
theorem bareL_miss {l : List UInt8} (h : cut2 47 42 l = none) : bareL l = l := by unfold bareL bareF; rw [h]
theorem bareL_hit {l p q : List UInt8} (h : cut2 47 42 l = some (p, q)) : bareL l = p ++ 32 :: bareL (skipC q) := by
  have h1 := cut2_len h
  have h2 := skipC_len q
  unfold bareL
  conv => lhs; unfold bareF
  rw [h]
  simp only
  rw [bareF_fuel l.length ((skipC q).length + 1) (skipC q) (by omega) (by omega)]
theorem bareL_nil : bareL [] = [] := rfl
/-- Byte by byte. -/
theorem bareL_begin (r : List UInt8) (h : r.head? = some 42) : bareL (47 :: r) = 32 :: bareL (skipC r.tail) := by
  rw [bareL_hit (p := []) (q := r.tail) (by rw [cut2, if_pos ⟨rfl, h⟩])]
  rfl
theorem bareL_step (a : UInt8) (r : List UInt8) (h : ¬ (a = 47 ∧ r.head? = some 42)) : bareL (a :: r) = a :: bareL r := by
  cases e : cut2 47 42 r with
  | none => rw [bareL_miss e, bareL_miss (by rw [cut2, if_neg h, e]; rfl)]
  | some z =>
    obtain ⟨p, q⟩ := z
    rw [bareL_hit e, bareL_hit (p := a :: p) (q := q) (by rw [cut2, if_neg h, e]; rfl)]
    rfl
theorem skipC_end (r : List UInt8) (h : r.head? = some 47) : skipC (42 :: r) = r.tail := by
  unfold skipC
  rw [cut2, if_pos ⟨rfl, h⟩]
theorem skipC_step (a : UInt8) (r : List UInt8) (h : ¬ (a = 42 ∧ r.head? = some 47)) : skipC (a :: r) = skipC r := by
  unfold skipC
  rw [cut2, if_neg h]
  cases cut2 42 47 r with
  | none => rfl
  | some z => rfl
theorem bareL_len : ∀ (n : Nat) (l : List UInt8), l.length ≤ n → (bareL l).length ≤ l.length := by
  intro n
  induction n with
  | zero => intro l h; have : l = [] := List.eq_nil_of_length_eq_zero (by omega); subst this; exact Nat.le_refl _
  | succ n ih =>
    intro l h
    cases e : cut2 47 42 l with
    | none => rw [bareL_miss e]; exact Nat.le_refl _
    | some z =>
      obtain ⟨p, q⟩ := z
      have h1 := cut2_len e
      have h2 := skipC_len q
      have h3 := ih (skipC q) (by omega)
      rw [bareL_hit e]
      simp
      omega
def bareB (s : ByteArray) : ByteArray := bA (bareL s.data.toList)
theorem bareB_size (s : ByteArray) : (bareB s).size ≤ s.size := by
  unfold bareB
  rw [bA_size, ← data_len]
  exact bareL_len _ _ (Nat.le_refl _)
end Go.Proofs.YtnkmdmmlpidcmaaDoor
namespace Go.Proofs.YtnkmdmmlpidcmaaDoor
open Go.ChangeShapes Go.WideShapes Go.ChangeAt Go.RowKit
set_option linter.unusedVariables false

theorem pcs_size (c : UInt8) : ∀ (l x : List UInt8), x ∈ pcs c l → x.length ≤ l.length := by
  intro l
  induction l with
  | nil => intro x hx; simp [pcs] at hx; subst hx; exact Nat.le_refl _
  | cons b l ih =>
    intro x hx
    rw [pcs] at hx
    split at hx
    · rcases List.mem_cons.1 hx with e | h
      · subst e; exact Nat.zero_le _
      · have := ih x h; simp; omega
    · cases hp : pcs c l with
      | nil => exact absurd hp (pcs_ne c l)
      | cons y r =>
        rw [hp] at hx ih
        rcases List.mem_cons.1 hx with e | h
        · subst e
          have := ih y List.mem_cons_self
          simp; omega
        · have := ih x (List.mem_cons_of_mem _ h)
          simp; omega
theorem cutV_H (t : ByteArray) : cutV 35 t = .tuple #[.string (bA (cutH t.data.toList).1), .string (bA (cutH t.data.toList).2.1), .bool (cutH t.data.toList).2.2] := by
  unfold cutV
  rw [cutH_brk, data_len]
  by_cases h : brk 35 t.data.toList < t.size
  · rw [if_pos h, if_pos h, ext_head, ext_tail]
  · rw [if_neg h, if_neg h, bA_data]; rfl
theorem cutH_size (l : List UInt8) : (cutH l).1.length ≤ l.length ∧ (cutH l).2.1.length ≤ l.length := by
  rw [cutH_brk]
  split
  · simp; omega
  · simp
/-- What a reader of a part says. -/
def PartSays (s : ByteArray) (w w' : World) (e : Ending) : Prop :=
  (∃ p u, prP s = some p ∧ e = .returned (.tuple #[.agg #[.string p.ty, .string p.id, u], .bool true]) ∧ RowM 1 EStr w' u p.cls (iv w w')) ∨
  (prP s = none ∧ ∃ x y a n c, e = .returned (.tuple #[.agg #[.string x, .string y, .slice a n c], .bool false]))
structure PartF (s d1 nm id : ByteArray) (b : Bool) (D : List ByteArray) : Prop where
  pc : pcB 46 s = d1 :: D
  cut : cutV 35 d1 = .tuple #[.string nm, .string id, .bool b]
  yes : partB ⟨nm, id, D⟩ = true → ¬ (b = true ∧ id = ⟨#[]⟩) → prP s = some ⟨nm, id, D⟩
  no : partB ⟨nm, id, D⟩ = false ∨ (b = true ∧ id = ⟨#[]⟩) → prP s = none
  s1 : d1.size ≤ 1048576
  s2 : nm.size ≤ 1048576
  s3 : id.size ≤ 1048576
  s4 : ∀ i, i < D.length → (strAt D i).size ≤ 1048576
  s5 : D.length ≤ 1048576
theorem bA_nil (l : List UInt8) : bA l = ⟨#[]⟩ ↔ l = [] := by
  constructor
  · intro h
    have := congrArg (fun x : ByteArray => x.data.toList) h
    simpa [bA] using this
  · rintro rfl; rfl
theorem part_facts (s : ByteArray) (hs : s.size ≤ 1048576) : ∃ d1 nm id b D, PartF s d1 nm id b D := by
  have hp : pcB 46 s = bA (dots s.data.toList).1 :: (dots s.data.toList).2.map bA := by unfold pcB; rw [dots_pcs, List.map_cons]
  have hcut := cutV_H (bA (dots s.data.toList).1)
  rw [bA_list] at hcut
  have hsz : ∀ x, x ∈ pcs 46 s.data.toList → x.length ≤ 1048576 := fun x hx => by have := pcs_size 46 _ x hx; rw [data_len] at this; omega
  rw [dots_pcs] at hsz
  have h1 := hsz _ List.mem_cons_self
  have h2 := cutH_size (dots s.data.toList).1
  have hE : ofL (prI s.data.toList) = ⟨bA (cutH (dots s.data.toList).1).1, bA (cutH (dots s.data.toList).1).2.1, (dots s.data.toList).2.map bA⟩ := rfl
  have hL : ((dots s.data.toList).2.map bA).length ≤ 1048576 := by
    have := pcB_len 46 s
    rw [hp] at this
    have h3 := count_le_size 46 s
    simp only [List.length_cons] at this
    omega
  obtain ⟨ha, hb⟩ := prs_prI s.data.toList
  refine ⟨_, _, _, _, _, hp, hcut, fun hg hn => ?_, fun hg => ?_, ?_, ?_, ?_, fun i hi => ?_, hL⟩
  · rw [← hE] at hg ⊢
    have hok : prIok s.data.toList := by
      refine ⟨?_, fun hc => hn ⟨hc.1, (bA_nil _).2 hc.2⟩⟩
      have := (partB_L _).1 hg
      rw [toL_ofL] at this
      exact this
    unfold prP
    rw [ha hok]
    rfl
  · have hno : ¬ prIok s.data.toList := by
      rintro ⟨c1, c2⟩
      rcases hg with hg | hg
      · rw [← hE] at hg
        have : partB (ofL (prI s.data.toList)) = true := (partB_L _).2 (by rw [toL_ofL]; exact c1)
        rw [this] at hg
        cases hg
      · exact c2 ⟨hg.1, (bA_nil _).1 hg.2⟩
    unfold prP
    rw [hb hno]
    rfl
  · rw [bA_size]; exact h1
  · rw [bA_size]; omega
  · rw [bA_size]; omega
  · rw [List.length_map] at hi
    have e : strAt ((dots s.data.toList).2.map bA) i = bA ((dots s.data.toList).2[i]) := by simp [strAt, hi]
    rw [e, bA_size]
    exact hsz _ (List.mem_cons_of_mem _ (List.getElem_mem _))
end Go.Proofs.YtnkmdmmlpidcmaaDoor
namespace Go.Proofs.YtnkmdmmlpidcmaaDoor
open Go.ChangeShapes Go.WideShapes Go.ChangeAt Go.RowKit
set_option linter.unusedVariables false

/-- A part in the block bx: texts of the call's own, which lie behind it. -/
structure CvP (bx : Nat) (w : World) (p q : ByteArray) (v : Value) (l : List ByteArray) : Prop where
  c0 : w.cell? ⟨bx, 0, none⟩ = some (.string p)
  c1 : w.cell? ⟨bx, 1, none⟩ = some (.string q)
  c2 : w.cell? ⟨bx, 2, none⟩ = some v
  free : ∀ o, w.frozen? ⟨bx, o, none⟩ = false
  own : Txs w (bx + 1) v l
theorem CvP.lt {bx : Nat} {w : World} {p q : ByteArray} {v : Value} {l : List ByteArray} (h : CvP bx w p q v l) : bx < w.heap.size := World.block_lt_of_cell? w ⟨bx, 0, none⟩ h.c0
theorem CvP.nw {bx : Nat} {w w' : World} {p q : ByteArray} {v : Value} {l : List ByteArray} (h : CvP bx w p q v l) (k : Nw w w') : CvP bx w' p q v l :=
  ⟨((bcell k).1 _ _ h.lt).trans h.c0, ((bcell k).1 _ _ h.lt).trans h.c1, ((bcell k).1 _ _ h.lt).trans h.c2, fun o => ((bcell k).2 _ _ h.lt).trans (h.free o), h.own.nw k⟩
theorem CvP.new (w : World) (t : TypeId) (p q : ByteArray) : CvP w.heap.size (w.alloc (.cells #[.string p, .string q, .slice none 0 0] t)) p q (.slice none 0 0) [] :=
  ⟨by simp, by simp, by simp, fun o => World.frozen?_alloc_at _ _ _ _ rfl, Txs.nil _ _⟩
theorem CvP.ne {bx : Nat} {w : World} {p q : ByteArray} {v : Value} {l : List ByteArray} (h : CvP bx w p q v l) : v.ownBlock ≠ some bx := fun e => by
  have := (World.ownsRow.lt h.own bx e).1
  omega
/-- What is there for the store. -/
theorem CvP.there {bx : Nat} {w w' : World} {p q : ByteArray} {v v' : Value} {l : List ByteArray} (h : CvP bx w p q v l) (k : Ext v v' w w') : w'.cell? ⟨bx, 2, none⟩ = some v ∧ ∀ o, w'.frozen? ⟨bx, o, none⟩ = false :=
  ⟨(Ext.cell k h.lt h.ne 2).trans h.c2, fun o => (World.frozen?_of_block (w := w) (a := ⟨bx, o, none⟩) (k.1.block bx h.lt (fun e => h.ne e.symm))).trans (h.free o)⟩
theorem Txs.far {w : World} {B : Nat} {v : Value} {l : List ByteArray} (h : Txs w B v l) (b o : Nat) (u : Value) (hne : v.ownBlock ≠ some b) : Txs (w.setCell ⟨b, o, none⟩ u) B v l :=
  World.ownsRow.kept h set_grown (Or.inr hne)
theorem CvP.put {bx : Nat} {w w' : World} {p q : ByteArray} {v v' : Value} {l l' : List ByteArray} (h : CvP bx w p q v l) (k : Ext v v' w w') (ho : Txs w' (bx + 1) v' l') : CvP bx (w'.setCell ⟨bx, 2, none⟩ v') p q v' l' ∧ Below bx w (w'.setCell ⟨bx, 2, none⟩ v') := by
  have hb := h.lt
  have hne2 : v'.ownBlock ≠ some bx := Ext.apart k hb h.ne
  obtain ⟨t0, tf⟩ := h.there k
  refine ⟨⟨?_, ?_, World.cell?_setCell_same w' ⟨bx, 2, none⟩ _ t0, fun o => by rw [World.frozen?_setCell]; exact tf o, Txs.far ho bx 2 _ hne2⟩, ?_⟩
  · rw [World.cell?_setCell_other _ _ _ _ (fun e => by injection e; omega)]
    exact (Ext.cell k hb h.ne 0).trans h.c0
  · rw [World.cell?_setCell_other _ _ _ _ (fun e => by injection e; omega)]
    exact (Ext.cell k hb h.ne 1).trans h.c1
  · exact (k.below (fun g e => Nat.le_of_succ_le (World.ownsRow.lt h.own g e).1) (by omega)).setCell (Nat.le_refl _) _
theorem Txs.slice {w : World} {B : Nat} {v : Value} {l : List ByteArray} (h : Txs w B v l) : ∃ a c, v = .slice a l.length c := by
  obtain ⟨a, c, h1, _⟩ := h.strs
  exact ⟨a, c, h1⟩
theorem set3c (w : World) (b : Nat) (u0 u1 u2 : Value) {v0 v1 v2 : Value} (z0 : w.cell? ⟨b, 0, none⟩ = some v0) (z1 : w.cell? ⟨b, 1, none⟩ = some v1) (z2 : w.cell? ⟨b, 2, none⟩ = some v2) :
    (((w.setCell ⟨b, 0, none⟩ u0).setCell ⟨b, 1, none⟩ u1).setCell ⟨b, 2, none⟩ u2).cell? ⟨b, 0, none⟩ = some u0 ∧ (((w.setCell ⟨b, 0, none⟩ u0).setCell ⟨b, 1, none⟩ u1).setCell ⟨b, 2, none⟩ u2).cell? ⟨b, 1, none⟩ = some u1 ∧ (((w.setCell ⟨b, 0, none⟩ u0).setCell ⟨b, 1, none⟩ u1).setCell ⟨b, 2, none⟩ u2).cell? ⟨b, 2, none⟩ = some u2 := by
  have far : ∀ (w : World) (o o' : Nat) (u : Value), o ≠ o' → (w.setCell ⟨b, o, none⟩ u).cell? ⟨b, o', none⟩ = w.cell? ⟨b, o', none⟩ := fun w o o' u h => World.cell?_setCell_other _ _ _ _ (fun e => by injection e; omega)
  refine ⟨?_, ?_, ?_⟩
  · rw [far _ 2 0 _ (by omega), far _ 1 0 _ (by omega)]
    exact World.cell?_setCell_same w ⟨b, 0, none⟩ _ z0
  · rw [far _ 2 1 _ (by omega)]
    exact World.cell?_setCell_same _ ⟨b, 1, none⟩ _ ((far _ 0 1 _ (by omega)).trans z1)
  · exact World.cell?_setCell_same _ ⟨b, 2, none⟩ _ ((far _ 1 2 _ (by omega)).trans ((far _ 0 2 _ (by omega)).trans z2))
/-- A text is appended, wherever the append stands. -/
theorem wpk_tx (w : World) {o : Oper} {a : Act} {K : Act → World → Prop} {Q : Exit → Act → World → Prop} (s x : Operand)
    (ho : o.op = .call { callee := .builtin .append, args := #[s, x], argTypes := #[52, 52] })
    (B : Nat) (v : Value) (l : List ByteArray) (t : ByteArray) (hs : a.eval s = v) (hown : Txs w B v l) (g : Nat) (hx : a.eval x = .slice (some ⟨g, 0, none⟩) 1 1) (hc : w.cell? ⟨g, 0, none⟩ = some (.string t))
    (h63 : l.length ≤ 10000000) (hB : B ≤ w.heap.size)
    (h : ∀ v' w', Txs w' B v' (l ++ [t]) → Ext v v' w w' → K (a.put o.dst v') w') : o.wp Tryd.prog a w K Q := by
  obtain ⟨i0, hi, hz0, hz1, hz2⟩ := txs_parts
  obtain ⟨v', w', hr, h2, h3, h4, h5⟩ := run_append_own_at (P := Tryd.prog) w B 52 o.type 9 i0 (.string ⟨#[]⟩) 1 16 Tryd.underlying52 hi hz0 hz1 hz2 rfl (by decide) v l.length (l.map Value.string) hown ⟨g, 0, none⟩ 1 1 [.string t] rfl (fun j u hj => by
    cases j with
    | zero => simp at hj; subst hj; simpa [Addr.add] using hc
    | succ j => simp at hj) (fun u hu => by simp at hu; subst hu; rfl) (by unfold maxLen; omega) (by omega) hB
  unfold Oper.wp execOp
  simp only [ho, resolve, invoke, builtin, Sem.run_bind, Sem.run_pure, Result.andThen_ok, List.map_toArray, List.map_cons, List.map_nil, hs, hx, hr]
  refine h v' w' ?_ ⟨h3, h5.imp id fun e => ⟨_, e, Nat.le_refl _⟩⟩
  unfold Txs
  rw [List.length_append, List.map_append]
  exact h2
end Go.Proofs.YtnkmdmmlpidcmaaDoor
namespace Go.Proofs.YtnkmdmmlpidcmaaDoor
open Go.ChangeShapes Go.WideShapes Go.ChangeAt Go.RowKit
set_option linter.unusedVariables false

/-- The operations of region k of a function. -/
def regOf (k : Nat) : Code → Option (Array Oper)
  | .region id ops _ => if id = k then some ops else none
  | .seq a b => match regOf k a with | some x => some x | none => regOf k b
  | .cond _ t e => match regOf k t with | some x => some x | none => regOf k e
  | .block _ b => regOf k b
  | .loop b => regOf k b
  | .scope b => regOf k b
  | _ => none
def opsOf (k : Nat) (f : Func) : Array Oper := (f.body.bind (regOf k)).getD #[]
theorem reg_change {P : Program} {Q : Exit → Act → World → Prop} {id : Nat} {ops ops' : Array Oper} {b : Bool} {a : Act} {w : World} (h : ops = ops') (hw : (Code.region id ops' b).wp P Q a w) : (Code.region id ops b).wp P Q a w := by rw [h]; exact hw
section
variable {P : Program} {md : Region.Mode} {ops : Array Oper} {Q : Exit → Act → World → Prop}

theorem flt_le {p q : Nat → Bool} (h : ∀ x, q x = true → p x = true) : ∀ l : List Nat, (l.filter q).length ≤ (l.filter p).length
  | [] => Nat.le_refl _
  | y :: l => by
    have ih := flt_le h l
    rw [List.filter_cons, List.filter_cons]
    cases hq : q y with
    | true => rw [h y hq]; simp only [if_true, List.length_cons]; omega
    | false =>
      cases hp : p y with
      | true => simp only [Bool.false_eq_true, if_false, if_true, List.length_cons]; omega
      | false => simp only [Bool.false_eq_true, if_false]; exact ih
theorem flt_lt {p q : Nat → Bool} (h : ∀ x, q x = true → p x = true) (x : Nat) (h1 : p x = true) (h2 : q x = false) : ∀ l : List Nat, x ∈ l → (l.filter q).length < (l.filter p).length
  | y :: l, hx => by
    rw [List.filter_cons, List.filter_cons]
    have le := flt_le h l
    by_cases e : x = y
    · subst e
      rw [h1, h2]
      simp only [Bool.false_eq_true, if_false, if_true, List.length_cons]; omega
    · have ih := flt_lt h x h1 h2 l (by rcases List.mem_cons.1 hx with h | h; exact absurd h e; exact h)
      cases hq : q y with
      | true => rw [h y hq]; simp only [if_true, List.length_cons]; omega
      | false =>
        cases hp : p y with
        | true => simp only [Bool.false_eq_true, if_false, if_true, List.length_cons]; omega
        | false => simp only [Bool.false_eq_true, if_false]; exact ih
/-- How many have not come up. -/
def left (n : Nat) (listed : Array Bool) : Nat := ((List.range n).filter fun i => !listed.getD i true).length
theorem left_set {n i : Nat} {listed : Array Bool} (hn : i < n) (h : listed.getD i true = false) : left n (listed.setIfInBounds i true) < left n listed := by
  have hi : i < listed.size := by
    rcases Nat.lt_or_ge i listed.size with h1 | h1
    · exact h1
    · rw [Array.getD_eq_getD_getElem?, Array.getElem?_eq_none h1] at h; cases h
  refine flt_lt (fun x hx => ?_) i (by rw [h]; rfl) ?_ _ (List.mem_range.2 hn)
  · by_cases e : i = x
    · subst e; rw [Array.getD_eq_getD_getElem?, Array.getElem?_setIfInBounds_self_of_lt hi] at hx; cases hx
    · rw [Array.getD_eq_getD_getElem?, Array.getElem?_setIfInBounds_ne e, ← Array.getD_eq_getD_getElem?] at hx; exact hx
  · rw [Array.getD_eq_getD_getElem?, Array.getElem?_setIfInBounds_self_of_lt hi]; rfl
/-- What every operation keeps holds at the end, whatever order comes up. -/
theorem wpAny_inv (I : Array Bool → Act → World → Prop)
    (hstep : ∀ listed a w i o, I listed a w → listed.getD i true = false → ops[i]? = some o → (∀ e ∈ o.after, Region.binds md e = true → listed.getD e.on false = true) → wpOp P ops Q i (fun a' w' => I (listed.setIfInBounds i true) a' w') a w)
    (hend : ∀ listed a w, I listed a w → Region.ready md ops listed = [] → Q .normal a w) :
    ∀ (fuel : Nat) (listed : Array Bool) (a : Act) (w : World), I listed a w → left ops.size listed ≤ fuel → wpAny P md ops Q fuel listed a w := by
  intro fuel
  induction fuel with
  | zero =>
    intro listed a w hI hl
    have hr : Region.ready md ops listed = [] := by
      rw [List.eq_nil_iff_forall_not_mem]
      intro i hi
      obtain ⟨h1, o, ho, _⟩ := mem_ready.1 hi
      have hlt : i < ops.size := (Array.getElem?_eq_some_iff.1 ho).1
      have := left_set hlt h1
      omega
    exact ⟨hr, hend listed a w hI hr⟩
  | succ fuel ih =>
    intro listed a w hI hl
    refine ⟨fun hr => hend listed a w hI hr, fun i hi => ?_⟩
    obtain ⟨h1, o, ho, h2⟩ := mem_ready.1 hi
    have hlt : i < ops.size := (Array.getElem?_eq_some_iff.1 ho).1
    have := left_set hlt h1
    exact wpOp_mono (fun a' w' h => ih _ a' w' h (by omega)) (hstep listed a w i o hI h1 ho h2)

/-- The slot that operation i fills. -/
def dstOf (ops : Array Oper) (i : Nat) : Option Nat := (ops[i]?).bind (·.dst)
def got (ops : Array Oper) (listed : Array Bool) (d : Nat) : Prop := ∃ i, listed.getD i false = true ∧ dstOf ops i = some d
/-- The frame: a slot that has been filled holds its value, the others what they held. -/
structure FrI (ops : Array Oper) (val : Nat → Value) (a0 : Act) (listed : Array Bool) (a : Act) : Prop where
  size : listed.size = ops.size
  defers : a.defers = a0.defers
  tsize : a.tmps.size = a0.tmps.size
  yes : ∀ d, d < a0.tmps.size → got ops listed d → a.tmps.getD d undef = val d
  no : ∀ d, ¬ got ops listed d → a.tmps.getD d undef = a0.tmps.getD d undef
theorem getF_set {listed : Array Bool} {i j : Nat} (hi : i < listed.size) : (listed.setIfInBounds i true).getD j false = (decide (j = i) || listed.getD j false) := by
  by_cases e : i = j
  · subst e; rw [Array.getD_eq_getD_getElem?, Array.getElem?_setIfInBounds_self_of_lt hi]; simp
  · rw [Array.getD_eq_getD_getElem?, Array.getElem?_setIfInBounds_ne e, ← Array.getD_eq_getD_getElem?, decide_eq_false (fun h => e h.symm)]; rfl
theorem got_set {listed : Array Bool} {i d : Nat} (hi : i < listed.size) : got ops (listed.setIfInBounds i true) d ↔ dstOf ops i = some d ∨ got ops listed d := by
  constructor
  · rintro ⟨j, h1, h2⟩
    rw [getF_set hi] at h1
    by_cases e : j = i
    · subst e; exact Or.inl h2
    · rw [decide_eq_false e] at h1; exact Or.inr ⟨j, h1, h2⟩
  · rintro (h | ⟨j, h1, h2⟩)
    · exact ⟨i, by rw [getF_set hi]; simp, h⟩
    · exact ⟨j, by rw [getF_set hi, h1]; simp, h2⟩
theorem FrI.lt {val : Nat → Value} {a0 a : Act} {listed : Array Bool} (h : FrI ops val a0 listed a) {i : Nat} {o : Oper} (ho : ops[i]? = some o) : i < listed.size := by
  rw [h.size]; exact (Array.getElem?_eq_some_iff.1 ho).1
theorem FrI.put {val : Nat → Value} {a0 a : Act} {listed : Array Bool} (h : FrI ops val a0 listed a) {i d : Nat} {o : Oper} (ho : ops[i]? = some o) (hd : o.dst = some d) : FrI ops val a0 (listed.setIfInBounds i true) (a.put o.dst (val d)) := by
  have hi := h.lt ho
  have hdo : dstOf ops i = some d := by unfold dstOf; rw [ho]; exact hd
  rw [hd]
  have hget : ∀ d', ((a.tmps.setIfInBounds d (val d)).getD d' undef) = if d' = d ∧ d < a.tmps.size then val d else a.tmps.getD d' undef := fun d' => by
    by_cases e : d = d'
    · subst e
      by_cases hs : d < a.tmps.size
      · rw [Array.getD_eq_getD_getElem?, Array.getElem?_setIfInBounds_self_of_lt hs, if_pos ⟨rfl, hs⟩]; rfl
      · rw [if_neg (fun h => hs h.2), Array.setIfInBounds_eq_of_size_le (by omega)]
    · rw [if_neg (fun h => e h.1.symm), Array.getD_eq_getD_getElem?, Array.getElem?_setIfInBounds_ne e, ← Array.getD_eq_getD_getElem?]
  refine ⟨by rw [Array.size_setIfInBounds]; exact h.size, h.defers, by show (a.tmps.setIfInBounds d (val d)).size = _; rw [Array.size_setIfInBounds]; exact h.tsize, fun d' hd' hg => ?_, fun d' hg => ?_⟩
  · show (a.tmps.setIfInBounds d (val d)).getD d' undef = val d'
    rw [hget]
    by_cases e : d' = d
    · subst e; rw [if_pos ⟨rfl, by rw [h.tsize]; exact hd'⟩]
    · rw [if_neg (fun h => e h.1)]
      rcases (got_set hi).1 hg with h1 | h1
      · rw [hdo] at h1; exact absurd (Option.some.inj h1).symm e
      · exact h.yes d' hd' h1
  · show (a.tmps.setIfInBounds d (val d)).getD d' undef = _
    rw [hget, if_neg]
    · exact h.no d' (fun h1 => hg ((got_set hi).2 (Or.inr h1)))
    · rintro ⟨e, _⟩
      exact hg ((got_set hi).2 (Or.inl (by rw [hdo, e])))
theorem FrI.skip {val : Nat → Value} {a0 a : Act} {listed : Array Bool} (h : FrI ops val a0 listed a) {i : Nat} {o : Oper} (ho : ops[i]? = some o) (hd : o.dst = none) (v : Value) : FrI ops val a0 (listed.setIfInBounds i true) (a.put o.dst v) := by
  have hi := h.lt ho
  have hdo : dstOf ops i = none := by unfold dstOf; rw [ho]; exact hd
  rw [hd]
  have e : ∀ d, got ops (listed.setIfInBounds i true) d ↔ got ops listed d := fun d => by
    rw [got_set hi, hdo]; constructor
    · rintro (h | h); cases h; exact h
    · exact Or.inr
  exact ⟨by rw [Array.size_setIfInBounds]; exact h.size, h.defers, h.tsize, fun d hd hg => h.yes d hd ((e d).1 hg), fun d hg => h.no d (fun h1 => hg ((e d).2 h1))⟩
/-- A slot that an operation has filled that this one waits for. -/
theorem FrI.eval {val : Nat → Value} {a0 a : Act} {listed : Array Bool} (h : FrI ops val a0 listed a) {j d : Nat} (hl : listed.getD j false = true) (hd : dstOf ops j = some d) (hs : d < a0.tmps.size) : a.eval (.tmp d) = val d :=
  h.yes d hs ⟨j, hl, hd⟩
/-- A slot that none fills. -/
theorem FrI.eval0 {val : Nat → Value} {a0 a : Act} {listed : Array Bool} (h : FrI ops val a0 listed a) {d : Nat} (hd : (List.range ops.size).all (fun i => dstOf ops i != some d) = true) : a.eval (.tmp d) = a0.eval (.tmp d) := by
  refine h.no d ?_
  rintro ⟨i, h1, h2⟩
  have hlt : i < ops.size := by
    rcases Nat.lt_or_ge i ops.size with h3 | h3
    · exact h3
    · unfold dstOf at h2; rw [Array.getElem?_eq_none h3] at h2; cases h2
  have := List.all_eq_true.1 hd i (List.mem_range.2 hlt)
  rw [h2] at this
  simp at this
/-- All have come up: the frame is known. -/
theorem FrI.fin {val : Nat → Value} {a0 a : Act} {listed : Array Bool} (h : FrI ops val a0 listed a) (hall : ∀ i, i < ops.size → listed.getD i false = true) :
    a = ⟨((List.range a0.tmps.size).map fun d => if (List.range ops.size).any (fun i => dstOf ops i == some d) then val d else a0.tmps.getD d undef).toArray, a0.defers⟩ := by
  obtain ⟨t, ds⟩ := a
  have h1 := h.defers
  simp only at h1
  subst h1
  congr 1
  apply Array.ext
  · simp; exact h.tsize
  · intro d hd1 hd2
    have hd : d < a0.tmps.size := by rw [← h.tsize]; exact hd1
    have e : t[d] = t.getD d undef := by rw [Array.getD_eq_getD_getElem?, Array.getElem?_eq_getElem hd1]; rfl
    rw [e]
    simp only [List.getElem_toArray, List.getElem_map, List.getElem_range]
    by_cases hg : (List.range ops.size).any (fun i => dstOf ops i == some d) = true
    · rw [if_pos hg]
      obtain ⟨i, hi, h2⟩ := List.any_eq_true.1 hg
      exact h.yes d hd ⟨i, hall i (List.mem_range.1 hi), by simpa using h2⟩
    · rw [if_neg hg]
      refine h.no d ?_
      rintro ⟨i, _, h2⟩
      apply hg
      rw [List.any_eq_true]
      have hlt : i < ops.size := by
        rcases Nat.lt_or_ge i ops.size with h3 | h3
        · exact h3
        · unfold dstOf at h2; rw [Array.getElem?_eq_none h3] at h2; cases h2
      exact ⟨i, List.mem_range.2 hlt, by rw [h2]; simp⟩
end
end Go.Proofs.YtnkmdmmlpidcmaaDoor

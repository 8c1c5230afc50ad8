/-
  Lists of lines of the call's own, to which is appended; each theorem names its conditions.
  A list of lines and the points of one that is being drawn, both of the call's own and apart; each theorem names its conditions.
  Boxes of two cells that a call has made, later on; each theorem names its conditions.
  A region that draws its order, by one condition that every operation keeps: whatever order comes up; each theorem names its conditions.
-/
import Derived.Test.YtjjndpbplclidaaJAE
import Derived.Test.YtjjndpbplclidaaJAA
import Derived.Orders
namespace Go.Proofs.Ytjjndpbplclidaa
open Go.ChangeShapes Go.WideShapes Go.ChangeAt Go.RowKit
set_option linter.unusedVariables false

def vLn (it : Its) : List VV := it.map fun p => (p.1, .bool p.2.closed)
theorem vLn_len (it : Its) : (vLn it).length = it.length := by simp [vLn]
theorem vLn_append (l m : Its) : vLn (l ++ m) = vLn l ++ vLn m := by simp [vLn]
theorem vLn_at (it : Its) (i : Nat) (h : i < it.length) : vvAt (vLn it) i = ((itAt it i).1, .bool (itAt it i).2.closed) := by simp [vvAt, vLn, itAt, h]
structure OwnLn (w : World) (B : Nat) (v : Value) (it : Its) : Prop where
  own : OwnQ 32 w B v (vLn it)
  pts : ∀ i, i < it.length → OwnP w B (itAt it i).1 (itAt it i).2.pts
  far : ∀ i, i < it.length → ∀ b, (itAt it i).1.ownBlock = some b → v.ownBlock ≠ some b
  apart : ∀ i j, i ≠ j → i < it.length → j < it.length → ∀ b, (itAt it i).1.ownBlock = some b → (itAt it j).1.ownBlock ≠ some b
theorem OwnLn.nil (w : World) (B : Nat) : OwnLn w B (.slice none 0 0) [] :=
  ⟨OwnQ.nil _ w B, fun i h => absurd h (by simp), fun i h => absurd h (by simp), fun i j _ h => absurd h (by simp)⟩
theorem OwnLn.nw {w w' : World} {B : Nat} {v : Value} {it : Its} (h : OwnLn w B v it) (k : Nw w w') : OwnLn w' B v it :=
  ⟨h.own.nw k, fun i hi => (h.pts i hi).nw k, h.far, h.apart⟩
theorem OwnLn.base {w : World} {B B' : Nat} {v : Value} {it : Its} (h : OwnLn w B v it) (hB : B' ≤ B) : OwnLn w B' v it :=
  ⟨OwnQ.base h.own hB, fun i hi => OwnQ.base (h.pts i hi) hB, h.far, h.apart⟩
theorem OwnLn.row {w : World} {B : Nat} {v : Value} {it : Its} (h : OwnLn w B v it) : RowL w v (it.map (·.2)) := by
  rcases OwnQ.form h.own with ⟨rfl, h2⟩ | ⟨g, c, rfl, h2, h3, _, _, h4, h5⟩
  · have : it = [] := by simpa [vLn] using h2
    subst this
    exact ⟨none, 0, rfl, Or.inl rfl⟩
  · rw [vLn_len] at h4 ⊢
    refine ⟨some ⟨g, 0, none⟩, c, by simp, Or.inr ⟨g, 0, rfl, h3, fun i hi => ?_⟩⟩
    have hi' : i < it.length := by simpa using hi
    obtain ⟨q0, q1⟩ := h4 i hi'
    rw [vLn_at it i hi'] at q0 q1
    rw [ld_at it i hi']
    obtain ⟨pa, pc, e, hp⟩ := (h.pts i hi').pts
    rw [e] at q0
    exact ⟨⟨pa, pc, by rw [Nat.zero_add]; exact q0, hp⟩, by rw [Nat.zero_add]; exact q1⟩
/-- As the marks want it. -/
theorem OwnLn.marks {w : World} {B : Nat} {v : Value} {it : Its} (h : OwnLn w B v it) (K : Nat) : (v = .slice none 0 0 ∧ it = []) ∨ ∃ g c, v = .slice (some ⟨g, 0, none⟩) it.length c ∧ SF B w.heap.size g (vsOf it) ∧ MkLn w g (vsOf it) (nsOf it) K 0 := by
  rcases OwnQ.form h.own with ⟨rfl, h2⟩ | ⟨g, c, rfl, h2, h3, _, _, h4, h5⟩
  · exact Or.inl ⟨rfl, by simpa [vLn] using h2⟩
  · have hl : (vsOf it).length = it.length := by simp [vsOf]
    rw [vLn_len] at h4
    refine Or.inr ⟨g, c, by rw [vLn_len], ⟨⟨h2, h3⟩, fun i hi b hb => ?_, fun i j hij hi hj b hb => ?_⟩, ⟨h3, h5, fun i hi => ?_, fun i hi => absurd hi (by omega), fun i _ hi => ?_, fun i hi => absurd hi (by omega), fun i _ hi => ?_⟩⟩
    · rw [hl] at hi
      rw [vsOf_at it i hi] at hb
      have h6 := OwnQ.lt (h.pts i hi) b hb
      refine ⟨h6.1, h6.2, fun e => h.far i hi b hb ?_⟩
      rw [e]; rfl
    · rw [hl] at hi hj
      rw [vsOf_at it i hi] at hb
      rw [vsOf_at it j hj]
      exact h.apart i j hij hi hj b hb
    · rw [hl] at hi
      rw [vsOf_at it i hi]
      have := (h4 i hi).1
      rw [vLn_at it i hi] at this
      exact this
    · rw [hl] at hi
      have := (h4 i hi).2
      rw [vLn_at it i hi] at this
      exact ⟨_, this⟩
    · rw [hl] at hi
      rw [vsOf_at it i hi, nsOf_at it i hi]
      rcases (h.pts i hi).lay with ⟨e1, e2⟩ | ⟨g2, c2, e1, _, e3⟩
      · exact Or.inl ⟨e1, by rw [e2]; rfl⟩
      · exact Or.inr ⟨g2, c2, e1, LayPt.any e3⟩
theorem under_lns : Try.prog.underlying 27 = some (.slice 32) := Try.underlying27
/-- One more line: what an append leaves. -/
theorem OwnLn.put {wS w w' : World} {B : Nat} {v v' u : Value} {it : Its} {ld : LD} (h : OwnLn wS B v it) (k : Nw wS w) (hB : B ≤ wS.heap.size) (hu : OwnP w wS.heap.size u ld.pts) (ho : OwnQ 32 w' B v' (vLn (it ++ [(u, ld)]))) (x : Ext v v' w w') : OwnLn w' B v' (it ++ [(u, ld)]) := by
  have hlt : ∀ i, i < it.length → ∀ b, (itAt it i).1.ownBlock = some b → b < wS.heap.size := fun i hi b hb => (OwnQ.lt (h.pts i hi) b hb).2
  have hvl : ∀ b, v.ownBlock = some b → b < wS.heap.size := fun b hb => (OwnQ.lt h.own b hb).2
  have hul : ∀ b, u.ownBlock = some b → wS.heap.size ≤ b ∧ b < w.heap.size := fun b hb => OwnQ.lt hu b hb
  have hne : ∀ i, i < it.length → ∀ b, (itAt it i).1.ownBlock = some b → v.ownBlock ≠ some b := h.far
  have hs : wS.heap.size ≤ w.heap.size := Below.size k
  refine ⟨ho, fun i hi => ?_, fun i hi b hb => ?_, fun i j hij hi hj b hb => ?_⟩
  · rw [List.length_append, List.length_singleton] at hi
    by_cases e : i = it.length
    · subst e
      rw [itAt_new]
      refine OwnQ.base (OwnQ.keep hu x ?_) hB
      cases hc : u.ownBlock with
      | none => exact Or.inl rfl
      | some b => exact Or.inr (fun e => by have h1 := hul b hc; have h2 := hvl b e.symm; omega)
    · have hi' : i < it.length := by omega
      rw [itAt_old it _ i hi']
      refine OwnQ.keep (OwnQ.nw (h.pts i hi') k) x ?_
      cases hc : (itAt it i).1.ownBlock with
      | none => exact Or.inl rfl
      | some b => exact Or.inr (fun e => hne i hi' b hc e.symm)
  · rw [List.length_append, List.length_singleton] at hi
    by_cases e : i = it.length
    · subst e
      rw [itAt_new] at hb
      have h1 := hul b hb
      exact Ext.apart x h1.2 (fun e => by have h2 := hvl b e; omega)
    · have hi' : i < it.length := by omega
      rw [itAt_old it _ i hi'] at hb
      have h1 := hlt i hi' b hb
      exact Ext.apart x (by omega) (hne i hi' b hb)
  · rw [List.length_append, List.length_singleton] at hi hj
    by_cases e : i = it.length
    · subst e
      rw [itAt_new] at hb
      have hj' : j < it.length := by omega
      rw [itAt_old it _ j hj']
      intro e2
      have h1 := hul b hb
      have h2 := hlt j hj' b e2
      omega
    · have hi' : i < it.length := by omega
      rw [itAt_old it _ i hi'] at hb
      by_cases e2 : j = it.length
      · subst e2
        rw [itAt_new]
        intro e3
        have h1 := hul b e3
        have h2 := hlt i hi' b hb
        omega
      · have hj' : j < it.length := by omega
        rw [itAt_old it _ j hj']
        exact h.apart i j hij hi' hj' b hb
theorem OwnLn.farSet {w : World} {B : Nat} {v : Value} {it : Its} (h : OwnLn w B v it) (b o : Nat) (u : Value) (hb : b < B) : OwnLn (w.setCell ⟨b, o, none⟩ u) B v it :=
  ⟨OwnQ.far h.own b o u (fun e => by have := (OwnQ.lt h.own b e).1; omega), fun i hi => OwnQ.far (h.pts i hi) b o u (fun e => by have := (OwnQ.lt (h.pts i hi) b e).1; omega), h.far, h.apart⟩
end Go.Proofs.Ytjjndpbplclidaa
namespace Go.Proofs.Ytjjndpbplclidaa
open Go.ChangeShapes Go.WideShapes Go.ChangeAt Go.RowKit
set_option linter.unusedVariables false

/-- The points u lie in no block of the lines v. -/
def Apt (u v : Value) (it : Its) : Prop := ∀ b, u.ownBlock = some b → v.ownBlock ≠ some b ∧ ∀ i, i < it.length → (itAt it i).1.ownBlock ≠ some b
theorem Apt.nil (v : Value) (it : Its) : Apt (.slice none 0 0) v it := fun b e => by cases e
structure D2 (w : World) (B : Nat) (v : Value) (it : Its) (u : Value) (p : List Pnt) : Prop where
  ln : OwnLn w B v it
  pt : OwnP w B u p
  ap : Apt u v it
theorem D2.nil (w : World) (B : Nat) : D2 w B (.slice none 0 0) [] (.slice none 0 0) [] := ⟨OwnLn.nil w B, OwnP.nil w B, Apt.nil _ _⟩
theorem D2.nw {w w' : World} {B : Nat} {v u : Value} {it : Its} {p : List Pnt} (h : D2 w B v it u p) (k : Nw w w') : D2 w' B v it u p := ⟨h.ln.nw k, h.pt.nw k, h.ap⟩
theorem D2.far {w : World} {B : Nat} {v u : Value} {it : Its} {p : List Pnt} (h : D2 w B v it u p) (b o : Nat) (x : Value) (hb : b < B) : D2 (w.setCell ⟨b, o, none⟩ x) B v it u p :=
  ⟨h.ln.farSet b o x hb, OwnQ.far h.pt b o x (fun e => by have := (OwnQ.lt h.pt b e).1; omega), h.ap⟩
/-- What is appended to the points leaves the lines as they are. -/
theorem OwnLn.ext {w w' : World} {B : Nat} {v u u' : Value} {it : Its} (h : OwnLn w B v it) (ha : Apt u v it) (x : Ext u u' w w') : OwnLn w' B v it := by
  refine ⟨OwnQ.keep h.own x ?_, fun i hi => OwnQ.keep (h.pts i hi) x ?_, h.far, h.apart⟩
  · cases hc : v.ownBlock with
    | none => exact Or.inl rfl
    | some b => exact Or.inr (fun e => (ha b e.symm).1 hc)
  · cases hc : (itAt it i).1.ownBlock with
    | none => exact Or.inl rfl
    | some b => exact Or.inr (fun e => (ha b e.symm).2 i hi hc)
theorem D2.pput {w w' : World} {B : Nat} {v u u' : Value} {it : Its} {p p' : List Pnt} (h : D2 w B v it u p) (x : Ext u u' w w') (ho : OwnP w' B u' p') : D2 w' B v it u' p' := by
  refine ⟨h.ln.ext h.ap x, ho, fun b e => ?_⟩
  rcases x.2 with e2 | ⟨g, e2, hg⟩
  · exact h.ap b (by rw [← e2]; exact e)
  · rw [e2] at e
    injection e with e
    subst e
    exact ⟨fun e3 => by have := (OwnQ.lt h.ln.own g e3).2; omega, fun i hi e3 => by have := (OwnQ.lt (h.ln.pts i hi) g e3).2; omega⟩
/-- Points in a new block instead of those that were there. -/
theorem D2.fresh {w w' : World} {B : Nat} {v u u' : Value} {it : Its} {p p' : List Pnt} (h : D2 w B v it u p) (k : Nw w w') (hB : B ≤ w.heap.size) (ho : OwnP w' w.heap.size u' p') : D2 w' B v it u' p' := by
  refine ⟨h.ln.nw k, OwnQ.base ho hB, fun b e => ?_⟩
  have h1 := (OwnQ.lt ho b e).1
  exact ⟨fun e3 => by have := (OwnQ.lt h.ln.own b e3).2; omega, fun i hi e3 => by have := (OwnQ.lt (h.ln.pts i hi) b e3).2; omega⟩
/-- The points become one more line. -/
theorem D2.lput {w w' : World} {B : Nat} {v v' u : Value} {it : Its} {p : List Pnt} {c : Bool} (h : D2 w B v it u p) (ho : OwnQ 32 w' B v' (vLn (it ++ [(u, ⟨p, c⟩)]))) (x : Ext v v' w w') : OwnLn w' B v' (it ++ [(u, ⟨p, c⟩)]) := by
  have hlt : ∀ i, i < it.length → ∀ b, (itAt it i).1.ownBlock = some b → b < w.heap.size := fun i hi b hb => (OwnQ.lt (h.ln.pts i hi) b hb).2
  have hul : ∀ b, u.ownBlock = some b → b < w.heap.size := fun b hb => (OwnQ.lt h.pt b hb).2
  refine ⟨ho, fun i hi => ?_, fun i hi b hb => ?_, fun i j hij hi hj b hb => ?_⟩
  · rw [List.length_append, List.length_singleton] at hi
    by_cases e : i = it.length
    · subst e
      rw [itAt_new]
      refine OwnQ.keep h.pt x ?_
      cases hc : u.ownBlock with
      | none => exact Or.inl rfl
      | some b => exact Or.inr (fun e => (h.ap b hc).1 e.symm)
    · have hi' : i < it.length := by omega
      rw [itAt_old it _ i hi']
      refine OwnQ.keep (h.ln.pts i hi') x ?_
      cases hc : (itAt it i).1.ownBlock with
      | none => exact Or.inl rfl
      | some b => exact Or.inr (fun e => h.ln.far i hi' b hc e.symm)
  · rw [List.length_append, List.length_singleton] at hi
    by_cases e : i = it.length
    · subst e
      rw [itAt_new] at hb
      exact Ext.apart x (hul b hb) (h.ap b hb).1
    · have hi' : i < it.length := by omega
      rw [itAt_old it _ i hi'] at hb
      exact Ext.apart x (hlt i hi' b hb) (h.ln.far i hi' b hb)
  · rw [List.length_append, List.length_singleton] at hi hj
    by_cases e : i = it.length
    · subst e
      rw [itAt_new] at hb
      have hj' : j < it.length := by omega
      rw [itAt_old it _ j hj']
      exact (h.ap b hb).2 j hj'
    · have hi' : i < it.length := by omega
      rw [itAt_old it _ i hi'] at hb
      by_cases e2 : j = it.length
      · subst e2
        rw [itAt_new]
        exact fun e3 => (h.ap b e3).2 i hi' hb
      · have hj' : j < it.length := by omega
        rw [itAt_old it _ j hj']
        exact h.ln.apart i j hij hi' hj' b hb
theorem D2.val {w : World} {B : Nat} {v u : Value} {it : Its} {p : List Pnt} (h : D2 w B v it u p) : ∃ a c, u = .slice a p.length c := by
  obtain ⟨a, c, e, _⟩ := OwnP.pts h.pt
  exact ⟨a, c, e⟩
theorem D2.vln {w : World} {B : Nat} {v u : Value} {it : Its} {p : List Pnt} (h : D2 w B v it u p) : ∃ a c, v = .slice a it.length c := by
  rcases OwnQ.form h.ln.own with ⟨e, hn⟩ | ⟨g, c, e, _⟩
  · have : it = [] := by have := congrArg List.length hn; rw [vLn_len] at this; simp at this; exact this
    subst this
    exact ⟨none, 0, e⟩
  · rw [vLn_len] at e
    exact ⟨_, c, e⟩
/-- A drawing in a variable: lines, then points. -/
structure DW (bx : Nat) (w : World) (v : Value) (it : Its) (u : Value) (p : List Pnt) : Prop where
  c0 : w.cell? ⟨bx, 0, none⟩ = some v
  c1 : w.cell? ⟨bx, 1, none⟩ = some u
  free : ∀ o, w.frozen? ⟨bx, o, none⟩ = false
  d : D2 w (bx + 1) v it u p
theorem DW.lt {bx : Nat} {w : World} {v u : Value} {it : Its} {p : List Pnt} (h : DW bx w v it u p) : bx < w.heap.size := World.block_lt_of_cell? w ⟨bx, 0, none⟩ h.c0
theorem DW.nw {bx : Nat} {w w' : World} {v u : Value} {it : Its} {p : List Pnt} (h : DW bx w v it u p) (k : Nw w w') : DW bx w' v it u p :=
  ⟨((bcell k).1 _ _ h.lt).trans h.c0, ((bcell k).1 _ _ h.lt).trans h.c1, fun o => ((bcell k).2 _ _ h.lt).trans (h.free o), h.d.nw k⟩
theorem DW.new (w : World) (t : TypeId) : DW w.heap.size (w.alloc (.cells #[.slice none 0 0, .slice none 0 0] t)) (.slice none 0 0) [] (.slice none 0 0) [] :=
  ⟨by simp, by simp, fun o => World.frozen?_alloc_at _ _ _ _ rfl, D2.nil _ _⟩
theorem DW.neu {bx : Nat} {w : World} {v u : Value} {it : Its} {p : List Pnt} (h : DW bx w v it u p) : u.ownBlock ≠ some bx := fun e => by have := (OwnQ.lt h.d.pt bx e).1; omega
theorem DW.nev {bx : Nat} {w : World} {v u : Value} {it : Its} {p : List Pnt} (h : DW bx w v it u p) : v.ownBlock ≠ some bx := fun e => by have := (OwnQ.lt h.d.ln.own bx e).1; omega
/-- Points have been appended. -/
theorem DW.pput {bx : Nat} {w w' : World} {v u u' : Value} {it : Its} {p p' : List Pnt} (h : DW bx w v it u p) (x : Ext u u' w w') (ho : OwnP w' (bx + 1) u' p') : DW bx (w'.setCell ⟨bx, 1, none⟩ u') v it u' p' ∧ Below bx w (w'.setCell ⟨bx, 1, none⟩ u') := by
  have hb := h.lt
  have e := fun o => Ext.cell x hb h.neu o
  refine ⟨⟨?_, World.cell?_setCell_same w' ⟨bx, 1, none⟩ _ ((e 1).trans h.c1), fun o => ?_, (h.d.pput x ho).far bx 1 u' (by omega)⟩, ?_⟩
  · rw [World.cell?_setCell_other _ _ _ _ (fun e => by injection e; omega)]; exact (e 0).trans h.c0
  · rw [World.frozen?_setCell]; exact (World.frozen?_of_block (w := w) (a := ⟨bx, o, none⟩) (x.1.block bx hb (fun e => h.neu e.symm))).trans (h.free o)
  · exact (x.below (fun g e => Nat.le_of_succ_le (OwnQ.lt h.d.pt g e).1) (by omega)).setCell (Nat.le_refl _) _
/-- The points have become a line; there are none now. -/
theorem DW.lput {bx : Nat} {w w' : World} {v v' u : Value} {it : Its} {p : List Pnt} {c : Bool} (h : DW bx w v it u p) (x : Ext v v' w w') (ho : OwnQ 32 w' (bx + 1) v' (vLn (it ++ [(u, ⟨p, c⟩)]))) : DW bx ((w'.setCell ⟨bx, 0, none⟩ v').setCell ⟨bx, 1, none⟩ (.slice none 0 0)) v' (it ++ [(u, ⟨p, c⟩)]) (.slice none 0 0) [] ∧ Below bx w ((w'.setCell ⟨bx, 0, none⟩ v').setCell ⟨bx, 1, none⟩ (.slice none 0 0)) := by
  have hb := h.lt
  have e := fun o => Ext.cell x hb h.nev o
  have s0 := World.cell?_setCell_same w' ⟨bx, 0, none⟩ v' ((e 0).trans h.c0)
  have s1 : (w'.setCell ⟨bx, 0, none⟩ v').cell? ⟨bx, 1, none⟩ = some u := by
    rw [World.cell?_setCell_other _ _ _ _ (fun e => by injection e; omega)]; exact (e 1).trans h.c1
  refine ⟨⟨?_, World.cell?_setCell_same _ ⟨bx, 1, none⟩ _ s1, fun o => ?_, ⟨((h.d.lput ho x).farSet bx 0 v' (by omega)).farSet bx 1 _ (by omega), OwnP.nil _ _, Apt.nil _ _⟩⟩, ?_⟩
  · rw [World.cell?_setCell_other _ _ _ _ (fun e => by injection e; omega)]; exact s0
  · rw [World.frozen?_setCell, World.frozen?_setCell]; exact (World.frozen?_of_block (w := w) (a := ⟨bx, o, none⟩) (x.1.block bx hb (fun e => h.nev e.symm))).trans (h.free o)
  · exact ((x.below (fun g e => Nat.le_of_succ_le (OwnQ.lt h.d.ln.own g e).1) (by omega)).setCell (Nat.le_refl _) _).setCell (Nat.le_refl _) _
/-- The points are dropped. -/
theorem DW.drop {bx : Nat} {w : World} {v u : Value} {it : Its} {p : List Pnt} (h : DW bx w v it u p) : DW bx (w.setCell ⟨bx, 1, none⟩ (.slice none 0 0)) v it (.slice none 0 0) [] ∧ Below bx w (w.setCell ⟨bx, 1, none⟩ (.slice none 0 0)) := by
  refine ⟨⟨?_, World.cell?_setCell_same w ⟨bx, 1, none⟩ _ h.c1, fun o => by rw [World.frozen?_setCell]; exact h.free o, ⟨h.d.ln.farSet bx 1 _ (by omega), OwnP.nil _ _, Apt.nil _ _⟩⟩, (Below.refl bx w).setCell (p := ⟨bx, 1, none⟩) (Nat.le_refl _) _⟩
  rw [World.cell?_setCell_other _ _ _ _ (fun e => by injection e; omega)]; exact h.c0
end Go.Proofs.Ytjjndpbplclidaa
namespace Go.Proofs.Ytjjndpbplclidaa
open Go.ChangeShapes Go.WideShapes Go.ChangeAt Go.RowKit
set_option linter.unusedVariables false

/-- A box of two values made at the beginning, later on. -/
theorem box2 {x y : Value} {t : TypeId} (w wr : World) (k : Kp (w.alloc (.cells #[x, y] t)) wr) :
    wr.cell? ⟨w.heap.size, 0, none⟩ = some x ∧ wr.cell? ⟨w.heap.size, 1, none⟩ = some y ∧ (∀ o, wr.frozen? ⟨w.heap.size, o, none⟩ = false) ∧ w.heap.size < wr.heap.size := by
  have hs : w.heap.size < (w.alloc (.cells #[x, y] t)).heap.size := by simp
  refine ⟨(k.cells.1 _ _ hs).trans (by simp), (k.cells.1 _ _ hs).trans (by simp), fun o => (k.cells.2 _ _).trans (World.frozen?_alloc_at _ _ _ _ rfl), Nat.lt_of_lt_of_le hs k.size⟩
theorem zbox (w wr : World) (t : TypeId) (k : Kp (w.alloc (.cells #[.int .i64 0, .int .i64 0] t)) wr) :
    wr.cell? ⟨w.heap.size, 0, none⟩ = some (.int .i64 0) ∧ wr.cell? ⟨w.heap.size, 1, none⟩ = some (.int .i64 0) ∧ (∀ o, wr.frozen? ⟨w.heap.size, o, none⟩ = false) ∧ w.heap.size < wr.heap.size := box2 w wr k
/-- The same where nothing that was there is written. -/
theorem nbox2 {x y : Value} {t : TypeId} (w wr : World) (k : Nw (w.alloc (.cells #[x, y] t)) wr) :
    wr.cell? ⟨w.heap.size, 0, none⟩ = some x ∧ wr.cell? ⟨w.heap.size, 1, none⟩ = some y ∧ (∀ o, wr.frozen? ⟨w.heap.size, o, none⟩ = false) ∧ w.heap.size < wr.heap.size := by
  have hs : w.heap.size < (w.alloc (.cells #[x, y] t)).heap.size := by simp
  refine ⟨((bcell k).1 _ _ hs).trans (by simp), ((bcell k).1 _ _ hs).trans (by simp), fun o => ((bcell k).2 _ _ hs).trans (World.frozen?_alloc_at _ _ _ _ rfl), Nat.lt_of_lt_of_le hs (Below.size k)⟩
theorem kp_box {w wr : World} {o : Array Value} {t : TypeId} (k : Kp (w.alloc (.cells o t)) wr) : Kp w wr := Kp.trans ((Kp.refl w).alloc _ _) k
theorem nw_box {w wr : World} {o : Array Value} {t : TypeId} (k : Nw (w.alloc (.cells o t)) wr) : Nw w wr := Nw.trans ((Below.refl _ _).alloc (Nat.le_refl _) _) k
theorem set2 (w : World) (g : Nat) (x y : Value) {u v : Value} (h0 : w.cell? ⟨g, 0, none⟩ = some u) (h1 : w.cell? ⟨g, 1, none⟩ = some v) :
    ((w.setCell ⟨g, 0, none⟩ x).setCell ⟨g, 1, none⟩ y).cell? ⟨g, 0, none⟩ = some x ∧ ((w.setCell ⟨g, 0, none⟩ x).setCell ⟨g, 1, none⟩ y).cell? ⟨g, 1, none⟩ = some y := by
  refine ⟨?_, World.cell?_setCell_same _ ⟨g, 1, none⟩ _ ((World.cell?_setCell_other _ _ _ _ (fun h => by injection h; omega)).trans h1)⟩
  rw [World.cell?_setCell_other _ _ _ _ (fun h => by injection h; omega)]
  exact World.cell?_setCell_same w ⟨g, 0, none⟩ _ h0
end Go.Proofs.Ytjjndpbplclidaa
namespace Go.Proofs.Ytjjndpbplclidaa
open Go.ChangeShapes Go.WideShapes Go.ChangeAt Go.RowKit
set_option linter.unusedVariables false

/-- The operations of region k of a function. -/
def regOf (k : Nat) : Code → Option (Array Oper)
  | .region id ops _ => if id = k then some ops else none
  | .seq a b => match regOf k a with | some x => some x | none => regOf k b
  | .cond _ t e => match regOf k t with | some x => some x | none => regOf k e
  | .block _ b => regOf k b
  | .loop b => regOf k b
  | .scope b => regOf k b
  | _ => none
def opsOf (k : Nat) (f : Func) : Array Oper := (f.body.bind (regOf k)).getD #[]
theorem reg_change {P : Program} {Q : Exit → Act → World → Prop} {id : Nat} {ops ops' : Array Oper} {b : Bool} {a : Act} {w : World} (h : ops = ops') (hw : (Code.region id ops' b).wp P Q a w) : (Code.region id ops b).wp P Q a w := by rw [h]; exact hw
section
variable {P : Program} {md : Region.Mode} {ops : Array Oper} {Q : Exit → Act → World → Prop}

theorem flt_le {p q : Nat → Bool} (h : ∀ x, q x = true → p x = true) : ∀ l : List Nat, (l.filter q).length ≤ (l.filter p).length
  | [] => Nat.le_refl _
  | y :: l => by
    have ih := flt_le h l
    rw [List.filter_cons, List.filter_cons]
    cases hq : q y with
    | true => rw [h y hq]; simp only [if_true, List.length_cons]; omega
    | false =>
      cases hp : p y with
      | true => simp only [Bool.false_eq_true, if_false, if_true, List.length_cons]; omega
      | false => simp only [Bool.false_eq_true, if_false]; exact ih
theorem flt_lt {p q : Nat → Bool} (h : ∀ x, q x = true → p x = true) (x : Nat) (h1 : p x = true) (h2 : q x = false) : ∀ l : List Nat, x ∈ l → (l.filter q).length < (l.filter p).length
  | y :: l, hx => by
    rw [List.filter_cons, List.filter_cons]
    have le := flt_le h l
    by_cases e : x = y
    · subst e
      rw [h1, h2]
      simp only [Bool.false_eq_true, if_false, if_true, List.length_cons]; omega
    · have ih := flt_lt h x h1 h2 l (by rcases List.mem_cons.1 hx with h | h; exact absurd h e; exact h)
      cases hq : q y with
      | true => rw [h y hq]; simp only [if_true, List.length_cons]; omega
      | false =>
        cases hp : p y with
        | true => simp only [Bool.false_eq_true, if_false, if_true, List.length_cons]; omega
        | false => simp only [Bool.false_eq_true, if_false]; exact ih
/-- How many have not come up. -/
def left (n : Nat) (listed : Array Bool) : Nat := ((List.range n).filter fun i => !listed.getD i true).length
theorem left_set {n i : Nat} {listed : Array Bool} (hn : i < n) (h : listed.getD i true = false) : left n (listed.setIfInBounds i true) < left n listed := by
  have hi : i < listed.size := by
    rcases Nat.lt_or_ge i listed.size with h1 | h1
    · exact h1
    · rw [Array.getD_eq_getD_getElem?, Array.getElem?_eq_none h1] at h; cases h
  refine flt_lt (fun x hx => ?_) i (by rw [h]; rfl) ?_ _ (List.mem_range.2 hn)
  · by_cases e : i = x
    · subst e; rw [Array.getD_eq_getD_getElem?, Array.getElem?_setIfInBounds_self_of_lt hi] at hx; cases hx
    · rw [Array.getD_eq_getD_getElem?, Array.getElem?_setIfInBounds_ne e, ← Array.getD_eq_getD_getElem?] at hx; exact hx
  · rw [Array.getD_eq_getD_getElem?, Array.getElem?_setIfInBounds_self_of_lt hi]; rfl
/-- What every operation keeps holds at the end, whatever order comes up. -/
theorem wpAny_inv (I : Array Bool → Act → World → Prop)
    (hstep : ∀ listed a w i o, I listed a w → listed.getD i true = false → ops[i]? = some o → (∀ e ∈ o.after, Region.binds md e = true → listed.getD e.on false = true) → wpOp P ops Q i (fun a' w' => I (listed.setIfInBounds i true) a' w') a w)
    (hend : ∀ listed a w, I listed a w → Region.ready md ops listed = [] → Q .normal a w) :
    ∀ (fuel : Nat) (listed : Array Bool) (a : Act) (w : World), I listed a w → left ops.size listed ≤ fuel → wpAny P md ops Q fuel listed a w := by
  intro fuel
  induction fuel with
  | zero =>
    intro listed a w hI hl
    have hr : Region.ready md ops listed = [] := by
      rw [List.eq_nil_iff_forall_not_mem]
      intro i hi
      obtain ⟨h1, o, ho, _⟩ := mem_ready.1 hi
      have hlt : i < ops.size := (Array.getElem?_eq_some_iff.1 ho).1
      have := left_set hlt h1
      omega
    exact ⟨hr, hend listed a w hI hr⟩
  | succ fuel ih =>
    intro listed a w hI hl
    refine ⟨fun hr => hend listed a w hI hr, fun i hi => ?_⟩
    obtain ⟨h1, o, ho, h2⟩ := mem_ready.1 hi
    have hlt : i < ops.size := (Array.getElem?_eq_some_iff.1 ho).1
    have := left_set hlt h1
    exact wpOp_mono (fun a' w' h => ih _ a' w' h (by omega)) (hstep listed a w i o hI h1 ho h2)

/-- The slot that operation i fills. -/
def dstOf (ops : Array Oper) (i : Nat) : Option Nat := (ops[i]?).bind (·.dst)
def got (ops : Array Oper) (listed : Array Bool) (d : Nat) : Prop := ∃ i, listed.getD i false = true ∧ dstOf ops i = some d
/-- The frame: a slot that has been filled holds its value, the others what they held. -/
structure FrI (ops : Array Oper) (val : Nat → Value) (a0 : Act) (listed : Array Bool) (a : Act) : Prop where
  size : listed.size = ops.size
  defers : a.defers = a0.defers
  tsize : a.tmps.size = a0.tmps.size
  yes : ∀ d, d < a0.tmps.size → got ops listed d → a.tmps.getD d undef = val d
  no : ∀ d, ¬ got ops listed d → a.tmps.getD d undef = a0.tmps.getD d undef
theorem getF_set {listed : Array Bool} {i j : Nat} (hi : i < listed.size) : (listed.setIfInBounds i true).getD j false = (decide (j = i) || listed.getD j false) := by
  by_cases e : i = j
  · subst e; rw [Array.getD_eq_getD_getElem?, Array.getElem?_setIfInBounds_self_of_lt hi]; simp
  · rw [Array.getD_eq_getD_getElem?, Array.getElem?_setIfInBounds_ne e, ← Array.getD_eq_getD_getElem?, decide_eq_false (fun h => e h.symm)]; rfl
theorem got_set {listed : Array Bool} {i d : Nat} (hi : i < listed.size) : got ops (listed.setIfInBounds i true) d ↔ dstOf ops i = some d ∨ got ops listed d := by
  constructor
  · rintro ⟨j, h1, h2⟩
    rw [getF_set hi] at h1
    by_cases e : j = i
    · subst e; exact Or.inl h2
    · rw [decide_eq_false e] at h1; exact Or.inr ⟨j, h1, h2⟩
  · rintro (h | ⟨j, h1, h2⟩)
    · exact ⟨i, by rw [getF_set hi]; simp, h⟩
    · exact ⟨j, by rw [getF_set hi, h1]; simp, h2⟩
theorem FrI.lt {val : Nat → Value} {a0 a : Act} {listed : Array Bool} (h : FrI ops val a0 listed a) {i : Nat} {o : Oper} (ho : ops[i]? = some o) : i < listed.size := by
  rw [h.size]; exact (Array.getElem?_eq_some_iff.1 ho).1
theorem FrI.put {val : Nat → Value} {a0 a : Act} {listed : Array Bool} (h : FrI ops val a0 listed a) {i d : Nat} {o : Oper} (ho : ops[i]? = some o) (hd : o.dst = some d) : FrI ops val a0 (listed.setIfInBounds i true) (a.put o.dst (val d)) := by
  have hi := h.lt ho
  have hdo : dstOf ops i = some d := by unfold dstOf; rw [ho]; exact hd
  rw [hd]
  have hget : ∀ d', ((a.tmps.setIfInBounds d (val d)).getD d' undef) = if d' = d ∧ d < a.tmps.size then val d else a.tmps.getD d' undef := fun d' => by
    by_cases e : d = d'
    · subst e
      by_cases hs : d < a.tmps.size
      · rw [Array.getD_eq_getD_getElem?, Array.getElem?_setIfInBounds_self_of_lt hs, if_pos ⟨rfl, hs⟩]; rfl
      · rw [if_neg (fun h => hs h.2), Array.setIfInBounds_eq_of_size_le (by omega)]
    · rw [if_neg (fun h => e h.1.symm), Array.getD_eq_getD_getElem?, Array.getElem?_setIfInBounds_ne e, ← Array.getD_eq_getD_getElem?]
  refine ⟨by rw [Array.size_setIfInBounds]; exact h.size, h.defers, by show (a.tmps.setIfInBounds d (val d)).size = _; rw [Array.size_setIfInBounds]; exact h.tsize, fun d' hd' hg => ?_, fun d' hg => ?_⟩
  · show (a.tmps.setIfInBounds d (val d)).getD d' undef = val d'
    rw [hget]
    by_cases e : d' = d
    · subst e; rw [if_pos ⟨rfl, by rw [h.tsize]; exact hd'⟩]
    · rw [if_neg (fun h => e h.1)]
      rcases (got_set hi).1 hg with h1 | h1
      · rw [hdo] at h1; exact absurd (Option.some.inj h1).symm e
      · exact h.yes d' hd' h1
  · show (a.tmps.setIfInBounds d (val d)).getD d' undef = _
    rw [hget, if_neg]
    · exact h.no d' (fun h1 => hg ((got_set hi).2 (Or.inr h1)))
    · rintro ⟨e, _⟩
      exact hg ((got_set hi).2 (Or.inl (by rw [hdo, e])))
theorem FrI.skip {val : Nat → Value} {a0 a : Act} {listed : Array Bool} (h : FrI ops val a0 listed a) {i : Nat} {o : Oper} (ho : ops[i]? = some o) (hd : o.dst = none) (v : Value) : FrI ops val a0 (listed.setIfInBounds i true) (a.put o.dst v) := by
  have hi := h.lt ho
  have hdo : dstOf ops i = none := by unfold dstOf; rw [ho]; exact hd
  rw [hd]
  have e : ∀ d, got ops (listed.setIfInBounds i true) d ↔ got ops listed d := fun d => by
    rw [got_set hi, hdo]; constructor
    · rintro (h | h); cases h; exact h
    · exact Or.inr
  exact ⟨by rw [Array.size_setIfInBounds]; exact h.size, h.defers, h.tsize, fun d hd hg => h.yes d hd ((e d).1 hg), fun d hg => h.no d (fun h1 => hg ((e d).2 h1))⟩
/-- A slot that an operation has filled that this one waits for. -/
theorem FrI.eval {val : Nat → Value} {a0 a : Act} {listed : Array Bool} (h : FrI ops val a0 listed a) {j d : Nat} (hl : listed.getD j false = true) (hd : dstOf ops j = some d) (hs : d < a0.tmps.size) : a.eval (.tmp d) = val d :=
  h.yes d hs ⟨j, hl, hd⟩
/-- A slot that none fills. -/
theorem FrI.eval0 {val : Nat → Value} {a0 a : Act} {listed : Array Bool} (h : FrI ops val a0 listed a) {d : Nat} (hd : (List.range ops.size).all (fun i => dstOf ops i != some d) = true) : a.eval (.tmp d) = a0.eval (.tmp d) := by
  refine h.no d ?_
  rintro ⟨i, h1, h2⟩
  have hlt : i < ops.size := by
    rcases Nat.lt_or_ge i ops.size with h3 | h3
    · exact h3
    · unfold dstOf at h2; rw [Array.getElem?_eq_none h3] at h2; cases h2
  have := List.all_eq_true.1 hd i (List.mem_range.2 hlt)
  rw [h2] at this
  simp at this
/-- All have come up: the frame is known. -/
theorem FrI.fin {val : Nat → Value} {a0 a : Act} {listed : Array Bool} (h : FrI ops val a0 listed a) (hall : ∀ i, i < ops.size → listed.getD i false = true) :
    a = ⟨((List.range a0.tmps.size).map fun d => if (List.range ops.size).any (fun i => dstOf ops i == some d) then val d else a0.tmps.getD d undef).toArray, a0.defers⟩ := by
  obtain ⟨t, ds⟩ := a
  have h1 := h.defers
  simp only at h1
  subst h1
  congr 1
  apply Array.ext
  · simp; exact h.tsize
  · intro d hd1 hd2
    have hd : d < a0.tmps.size := by rw [← h.tsize]; exact hd1
    have e : t[d] = t.getD d undef := by rw [Array.getD_eq_getD_getElem?, Array.getElem?_eq_getElem hd1]; rfl
    rw [e]
    simp only [List.getElem_toArray, List.getElem_map, List.getElem_range]
    by_cases hg : (List.range ops.size).any (fun i => dstOf ops i == some d) = true
    · rw [if_pos hg]
      obtain ⟨i, hi, h2⟩ := List.any_eq_true.1 hg
      exact h.yes d hd ⟨i, hall i (List.mem_range.1 hi), by simpa using h2⟩
    · rw [if_neg hg]
      refine h.no d ?_
      rintro ⟨i, _, h2⟩
      apply hg
      rw [List.any_eq_true]
      have hlt : i < ops.size := by
        rcases Nat.lt_or_ge i ops.size with h3 | h3
        · exact h3
        · unfold dstOf at h2; rw [Array.getElem?_eq_none h3] at h2; cases h2
      exact ⟨i, List.mem_range.2 hlt, by rw [h2]; simp⟩
end
end Go.Proofs.Ytjjndpbplclidaa

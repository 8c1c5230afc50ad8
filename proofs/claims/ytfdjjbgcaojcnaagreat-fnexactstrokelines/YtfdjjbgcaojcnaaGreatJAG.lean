/-
  Lists of lines of the call's own, to which is appended; each theorem names its conditions.
  A list of lines and the points of one that is being drawn, both of the call's own and apart; each theorem names its conditions.
  Lines of an answer in memory; each theorem names its conditions.
  Strokes, as pure functions, and the small steps of both; each theorem names its conditions.
-/
import Derived.Test.YtfdjjbgcaojcnaaGreatJAF
import Derived.Test.YtfdjjbgcaojcnaaGreatJAC
namespace Go.Proofs.YtfdjjbgcaojcnaaGreat
open Go.ChangeShapes Go.WideShapes Go.ChangeAt Go.RowKit
set_option linter.unusedVariables false

def vLn (it : Its) : List VV := it.map fun p => (p.1, .bool p.2.closed)
theorem vLn_len (it : Its) : (vLn it).length = it.length := by simp [vLn]
theorem vLn_append (l m : Its) : vLn (l ++ m) = vLn l ++ vLn m := by simp [vLn]
theorem vLn_at (it : Its) (i : Nat) (h : i < it.length) : vvAt (vLn it) i = ((itAt it i).1, .bool (itAt it i).2.closed) := by simp [vvAt, vLn, itAt, h]
structure OwnLn (w : World) (B : Nat) (v : Value) (it : Its) : Prop where
  own : OwnQ 25 w B v (vLn it)
  pts : ∀ i, i < it.length → OwnP w B (itAt it i).1 (itAt it i).2.pts
  far : ∀ i, i < it.length → ∀ b, (itAt it i).1.ownBlock = some b → v.ownBlock ≠ some b
  apart : ∀ i j, i ≠ j → i < it.length → j < it.length → ∀ b, (itAt it i).1.ownBlock = some b → (itAt it j).1.ownBlock ≠ some b
theorem OwnLn.nil (w : World) (B : Nat) : OwnLn w B (.slice none 0 0) [] :=
  ⟨OwnQ.nil _ w B, fun i h => absurd h (by simp), fun i h => absurd h (by simp), fun i j _ h => absurd h (by simp)⟩
theorem OwnLn.nw {w w' : World} {B : Nat} {v : Value} {it : Its} (h : OwnLn w B v it) (k : Nw w w') : OwnLn w' B v it :=
  ⟨h.own.nw k, fun i hi => (h.pts i hi).nw k, h.far, h.apart⟩
theorem OwnLn.base {w : World} {B B' : Nat} {v : Value} {it : Its} (h : OwnLn w B v it) (hB : B' ≤ B) : OwnLn w B' v it :=
  ⟨OwnQ.base h.own hB, fun i hi => OwnQ.base (h.pts i hi) hB, h.far, h.apart⟩
theorem OwnLn.row {w : World} {B : Nat} {v : Value} {it : Its} (h : OwnLn w B v it) : RowL w v (it.map (·.2)) := by
  rcases OwnQ.form h.own with ⟨rfl, h2⟩ | ⟨g, c, rfl, h2, h3, _, _, h4, h5⟩
  · have : it = [] := by simpa [vLn] using h2
    subst this
    exact ⟨none, 0, rfl, Or.inl rfl⟩
  · rw [vLn_len] at h4 ⊢
    refine ⟨some ⟨g, 0, none⟩, c, by simp, Or.inr ⟨g, 0, rfl, h3, fun i hi => ?_⟩⟩
    have hi' : i < it.length := by simpa using hi
    obtain ⟨q0, q1⟩ := h4 i hi'
    rw [vLn_at it i hi'] at q0 q1
    rw [ld_at it i hi']
    obtain ⟨pa, pc, e, hp⟩ := (h.pts i hi').pts
    rw [e] at q0
    exact ⟨⟨pa, pc, by rw [Nat.zero_add]; exact q0, hp⟩, by rw [Nat.zero_add]; exact q1⟩
/-- As the marks want it. -/
theorem OwnLn.marks {w : World} {B : Nat} {v : Value} {it : Its} (h : OwnLn w B v it) (K : Nat) : (v = .slice none 0 0 ∧ it = []) ∨ ∃ g c, v = .slice (some ⟨g, 0, none⟩) it.length c ∧ SF B w.heap.size g (vsOf it) ∧ MkLn w g (vsOf it) (nsOf it) K 0 := by
  rcases OwnQ.form h.own with ⟨rfl, h2⟩ | ⟨g, c, rfl, h2, h3, _, _, h4, h5⟩
  · exact Or.inl ⟨rfl, by simpa [vLn] using h2⟩
  · have hl : (vsOf it).length = it.length := by simp [vsOf]
    rw [vLn_len] at h4
    refine Or.inr ⟨g, c, by rw [vLn_len], ⟨⟨h2, h3⟩, fun i hi b hb => ?_, fun i j hij hi hj b hb => ?_⟩, ⟨h3, h5, fun i hi => ?_, fun i hi => absurd hi (by omega), fun i _ hi => ?_, fun i hi => absurd hi (by omega), fun i _ hi => ?_⟩⟩
    · rw [hl] at hi
      rw [vsOf_at it i hi] at hb
      have h6 := OwnQ.lt (h.pts i hi) b hb
      refine ⟨h6.1, h6.2, fun e => h.far i hi b hb ?_⟩
      rw [e]; rfl
    · rw [hl] at hi hj
      rw [vsOf_at it i hi] at hb
      rw [vsOf_at it j hj]
      exact h.apart i j hij hi hj b hb
    · rw [hl] at hi
      rw [vsOf_at it i hi]
      have := (h4 i hi).1
      rw [vLn_at it i hi] at this
      exact this
    · rw [hl] at hi
      have := (h4 i hi).2
      rw [vLn_at it i hi] at this
      exact ⟨_, this⟩
    · rw [hl] at hi
      rw [vsOf_at it i hi, nsOf_at it i hi]
      rcases (h.pts i hi).lay with ⟨e1, e2⟩ | ⟨g2, c2, e1, _, e3⟩
      · exact Or.inl ⟨e1, by rw [e2]; rfl⟩
      · exact Or.inr ⟨g2, c2, e1, LayPt.any e3⟩
theorem under_lns : Tryz.prog.underlying 29 = some (.slice 25) := Tryz.underlying29
/-- One more line: what an append leaves. -/
theorem OwnLn.put {wS w w' : World} {B : Nat} {v v' u : Value} {it : Its} {ld : LD} (h : OwnLn wS B v it) (k : Nw wS w) (hB : B ≤ wS.heap.size) (hu : OwnP w wS.heap.size u ld.pts) (ho : OwnQ 25 w' B v' (vLn (it ++ [(u, ld)]))) (x : Ext v v' w w') : OwnLn w' B v' (it ++ [(u, ld)]) := by
  have hlt : ∀ i, i < it.length → ∀ b, (itAt it i).1.ownBlock = some b → b < wS.heap.size := fun i hi b hb => (OwnQ.lt (h.pts i hi) b hb).2
  have hvl : ∀ b, v.ownBlock = some b → b < wS.heap.size := fun b hb => (OwnQ.lt h.own b hb).2
  have hul : ∀ b, u.ownBlock = some b → wS.heap.size ≤ b ∧ b < w.heap.size := fun b hb => OwnQ.lt hu b hb
  have hne : ∀ i, i < it.length → ∀ b, (itAt it i).1.ownBlock = some b → v.ownBlock ≠ some b := h.far
  have hs : wS.heap.size ≤ w.heap.size := Below.size k
  refine ⟨ho, fun i hi => ?_, fun i hi b hb => ?_, fun i j hij hi hj b hb => ?_⟩
  · rw [List.length_append, List.length_singleton] at hi
    by_cases e : i = it.length
    · subst e
      rw [itAt_new]
      refine OwnQ.base (OwnQ.keep hu x ?_) hB
      cases hc : u.ownBlock with
      | none => exact Or.inl rfl
      | some b => exact Or.inr (fun e => by have h1 := hul b hc; have h2 := hvl b e.symm; omega)
    · have hi' : i < it.length := by omega
      rw [itAt_old it _ i hi']
      refine OwnQ.keep (OwnQ.nw (h.pts i hi') k) x ?_
      cases hc : (itAt it i).1.ownBlock with
      | none => exact Or.inl rfl
      | some b => exact Or.inr (fun e => hne i hi' b hc e.symm)
  · rw [List.length_append, List.length_singleton] at hi
    by_cases e : i = it.length
    · subst e
      rw [itAt_new] at hb
      have h1 := hul b hb
      exact Ext.apart x h1.2 (fun e => by have h2 := hvl b e; omega)
    · have hi' : i < it.length := by omega
      rw [itAt_old it _ i hi'] at hb
      have h1 := hlt i hi' b hb
      exact Ext.apart x (by omega) (hne i hi' b hb)
  · rw [List.length_append, List.length_singleton] at hi hj
    by_cases e : i = it.length
    · subst e
      rw [itAt_new] at hb
      have hj' : j < it.length := by omega
      rw [itAt_old it _ j hj']
      intro e2
      have h1 := hul b hb
      have h2 := hlt j hj' b e2
      omega
    · have hi' : i < it.length := by omega
      rw [itAt_old it _ i hi'] at hb
      by_cases e2 : j = it.length
      · subst e2
        rw [itAt_new]
        intro e3
        have h1 := hul b e3
        have h2 := hlt i hi' b hb
        omega
      · have hj' : j < it.length := by omega
        rw [itAt_old it _ j hj']
        exact h.apart i j hij hi' hj' b hb
theorem OwnLn.farSet {w : World} {B : Nat} {v : Value} {it : Its} (h : OwnLn w B v it) (b o : Nat) (u : Value) (hb : b < B) : OwnLn (w.setCell ⟨b, o, none⟩ u) B v it :=
  ⟨OwnQ.far h.own b o u (fun e => by have := (OwnQ.lt h.own b e).1; omega), fun i hi => OwnQ.far (h.pts i hi) b o u (fun e => by have := (OwnQ.lt (h.pts i hi) b e).1; omega), h.far, h.apart⟩
end Go.Proofs.YtfdjjbgcaojcnaaGreat
namespace Go.Proofs.YtfdjjbgcaojcnaaGreat
open Go.ChangeShapes Go.WideShapes Go.ChangeAt Go.RowKit
set_option linter.unusedVariables false

/-- The points u lie in no block of the lines v. -/
def Apt (u v : Value) (it : Its) : Prop := ∀ b, u.ownBlock = some b → v.ownBlock ≠ some b ∧ ∀ i, i < it.length → (itAt it i).1.ownBlock ≠ some b
theorem Apt.nil (v : Value) (it : Its) : Apt (.slice none 0 0) v it := fun b e => by cases e
structure D2 (w : World) (B : Nat) (v : Value) (it : Its) (u : Value) (p : List Pnt) : Prop where
  ln : OwnLn w B v it
  pt : OwnP w B u p
  ap : Apt u v it
theorem D2.nil (w : World) (B : Nat) : D2 w B (.slice none 0 0) [] (.slice none 0 0) [] := ⟨OwnLn.nil w B, OwnP.nil w B, Apt.nil _ _⟩
theorem D2.nw {w w' : World} {B : Nat} {v u : Value} {it : Its} {p : List Pnt} (h : D2 w B v it u p) (k : Nw w w') : D2 w' B v it u p := ⟨h.ln.nw k, h.pt.nw k, h.ap⟩
theorem D2.far {w : World} {B : Nat} {v u : Value} {it : Its} {p : List Pnt} (h : D2 w B v it u p) (b o : Nat) (x : Value) (hb : b < B) : D2 (w.setCell ⟨b, o, none⟩ x) B v it u p :=
  ⟨h.ln.farSet b o x hb, OwnQ.far h.pt b o x (fun e => by have := (OwnQ.lt h.pt b e).1; omega), h.ap⟩
/-- What is appended to the points leaves the lines as they are. -/
theorem OwnLn.ext {w w' : World} {B : Nat} {v u u' : Value} {it : Its} (h : OwnLn w B v it) (ha : Apt u v it) (x : Ext u u' w w') : OwnLn w' B v it := by
  refine ⟨OwnQ.keep h.own x ?_, fun i hi => OwnQ.keep (h.pts i hi) x ?_, h.far, h.apart⟩
  · cases hc : v.ownBlock with
    | none => exact Or.inl rfl
    | some b => exact Or.inr (fun e => (ha b e.symm).1 hc)
  · cases hc : (itAt it i).1.ownBlock with
    | none => exact Or.inl rfl
    | some b => exact Or.inr (fun e => (ha b e.symm).2 i hi hc)
theorem D2.pput {w w' : World} {B : Nat} {v u u' : Value} {it : Its} {p p' : List Pnt} (h : D2 w B v it u p) (x : Ext u u' w w') (ho : OwnP w' B u' p') : D2 w' B v it u' p' := by
  refine ⟨h.ln.ext h.ap x, ho, fun b e => ?_⟩
  rcases x.2 with e2 | ⟨g, e2, hg⟩
  · exact h.ap b (by rw [← e2]; exact e)
  · rw [e2] at e
    injection e with e
    subst e
    exact ⟨fun e3 => by have := (OwnQ.lt h.ln.own g e3).2; omega, fun i hi e3 => by have := (OwnQ.lt (h.ln.pts i hi) g e3).2; omega⟩
/-- Points in a new block instead of those that were there. -/
theorem D2.fresh {w w' : World} {B : Nat} {v u u' : Value} {it : Its} {p p' : List Pnt} (h : D2 w B v it u p) (k : Nw w w') (hB : B ≤ w.heap.size) (ho : OwnP w' w.heap.size u' p') : D2 w' B v it u' p' := by
  refine ⟨h.ln.nw k, OwnQ.base ho hB, fun b e => ?_⟩
  have h1 := (OwnQ.lt ho b e).1
  exact ⟨fun e3 => by have := (OwnQ.lt h.ln.own b e3).2; omega, fun i hi e3 => by have := (OwnQ.lt (h.ln.pts i hi) b e3).2; omega⟩
/-- The points become one more line. -/
theorem D2.lput {w w' : World} {B : Nat} {v v' u : Value} {it : Its} {p : List Pnt} {c : Bool} (h : D2 w B v it u p) (ho : OwnQ 25 w' B v' (vLn (it ++ [(u, ⟨p, c⟩)]))) (x : Ext v v' w w') : OwnLn w' B v' (it ++ [(u, ⟨p, c⟩)]) := by
  have hlt : ∀ i, i < it.length → ∀ b, (itAt it i).1.ownBlock = some b → b < w.heap.size := fun i hi b hb => (OwnQ.lt (h.ln.pts i hi) b hb).2
  have hul : ∀ b, u.ownBlock = some b → b < w.heap.size := fun b hb => (OwnQ.lt h.pt b hb).2
  refine ⟨ho, fun i hi => ?_, fun i hi b hb => ?_, fun i j hij hi hj b hb => ?_⟩
  · rw [List.length_append, List.length_singleton] at hi
    by_cases e : i = it.length
    · subst e
      rw [itAt_new]
      refine OwnQ.keep h.pt x ?_
      cases hc : u.ownBlock with
      | none => exact Or.inl rfl
      | some b => exact Or.inr (fun e => (h.ap b hc).1 e.symm)
    · have hi' : i < it.length := by omega
      rw [itAt_old it _ i hi']
      refine OwnQ.keep (h.ln.pts i hi') x ?_
      cases hc : (itAt it i).1.ownBlock with
      | none => exact Or.inl rfl
      | some b => exact Or.inr (fun e => h.ln.far i hi' b hc e.symm)
  · rw [List.length_append, List.length_singleton] at hi
    by_cases e : i = it.length
    · subst e
      rw [itAt_new] at hb
      exact Ext.apart x (hul b hb) (h.ap b hb).1
    · have hi' : i < it.length := by omega
      rw [itAt_old it _ i hi'] at hb
      exact Ext.apart x (hlt i hi' b hb) (h.ln.far i hi' b hb)
  · rw [List.length_append, List.length_singleton] at hi hj
    by_cases e : i = it.length
    · subst e
      rw [itAt_new] at hb
      have hj' : j < it.length := by omega
      rw [itAt_old it _ j hj']
      exact (h.ap b hb).2 j hj'
    · have hi' : i < it.length := by omega
      rw [itAt_old it _ i hi'] at hb
      by_cases e2 : j = it.length
      · subst e2
        rw [itAt_new]
        exact fun e3 => (h.ap b e3).2 i hi' hb
      · have hj' : j < it.length := by omega
        rw [itAt_old it _ j hj']
        exact h.ln.apart i j hij hi' hj' b hb
theorem D2.val {w : World} {B : Nat} {v u : Value} {it : Its} {p : List Pnt} (h : D2 w B v it u p) : ∃ a c, u = .slice a p.length c := by
  obtain ⟨a, c, e, _⟩ := OwnP.pts h.pt
  exact ⟨a, c, e⟩
theorem D2.vln {w : World} {B : Nat} {v u : Value} {it : Its} {p : List Pnt} (h : D2 w B v it u p) : ∃ a c, v = .slice a it.length c := by
  rcases OwnQ.form h.ln.own with ⟨e, hn⟩ | ⟨g, c, e, _⟩
  · have : it = [] := by have := congrArg List.length hn; rw [vLn_len] at this; simp at this; exact this
    subst this
    exact ⟨none, 0, e⟩
  · rw [vLn_len] at e
    exact ⟨_, c, e⟩
/-- A drawing in a variable: lines, then points. -/
structure DW (bx : Nat) (w : World) (v : Value) (it : Its) (u : Value) (p : List Pnt) : Prop where
  c0 : w.cell? ⟨bx, 0, none⟩ = some v
  c1 : w.cell? ⟨bx, 1, none⟩ = some u
  free : ∀ o, w.frozen? ⟨bx, o, none⟩ = false
  d : D2 w (bx + 1) v it u p
theorem DW.lt {bx : Nat} {w : World} {v u : Value} {it : Its} {p : List Pnt} (h : DW bx w v it u p) : bx < w.heap.size := World.block_lt_of_cell? w ⟨bx, 0, none⟩ h.c0
theorem DW.nw {bx : Nat} {w w' : World} {v u : Value} {it : Its} {p : List Pnt} (h : DW bx w v it u p) (k : Nw w w') : DW bx w' v it u p :=
  ⟨((bcell k).1 _ _ h.lt).trans h.c0, ((bcell k).1 _ _ h.lt).trans h.c1, fun o => ((bcell k).2 _ _ h.lt).trans (h.free o), h.d.nw k⟩
theorem DW.new (w : World) (t : TypeId) : DW w.heap.size (w.alloc (.cells #[.slice none 0 0, .slice none 0 0] t)) (.slice none 0 0) [] (.slice none 0 0) [] :=
  ⟨by simp, by simp, fun o => World.frozen?_alloc_at _ _ _ _ rfl, D2.nil _ _⟩
theorem DW.neu {bx : Nat} {w : World} {v u : Value} {it : Its} {p : List Pnt} (h : DW bx w v it u p) : u.ownBlock ≠ some bx := fun e => by have := (OwnQ.lt h.d.pt bx e).1; omega
theorem DW.nev {bx : Nat} {w : World} {v u : Value} {it : Its} {p : List Pnt} (h : DW bx w v it u p) : v.ownBlock ≠ some bx := fun e => by have := (OwnQ.lt h.d.ln.own bx e).1; omega
/-- Points have been appended. -/
theorem DW.pput {bx : Nat} {w w' : World} {v u u' : Value} {it : Its} {p p' : List Pnt} (h : DW bx w v it u p) (x : Ext u u' w w') (ho : OwnP w' (bx + 1) u' p') : DW bx (w'.setCell ⟨bx, 1, none⟩ u') v it u' p' ∧ Below bx w (w'.setCell ⟨bx, 1, none⟩ u') := by
  have hb := h.lt
  have e := fun o => Ext.cell x hb h.neu o
  refine ⟨⟨?_, World.cell?_setCell_same w' ⟨bx, 1, none⟩ _ ((e 1).trans h.c1), fun o => ?_, (h.d.pput x ho).far bx 1 u' (by omega)⟩, ?_⟩
  · rw [World.cell?_setCell_other _ _ _ _ (fun e => by injection e; omega)]; exact (e 0).trans h.c0
  · rw [World.frozen?_setCell]; exact (World.frozen?_of_block (w := w) (a := ⟨bx, o, none⟩) (x.1.block bx hb (fun e => h.neu e.symm))).trans (h.free o)
  · exact (x.below (fun g e => Nat.le_of_succ_le (OwnQ.lt h.d.pt g e).1) (by omega)).setCell (Nat.le_refl _) _
/-- The points have become a line; there are none now. -/
theorem DW.lput {bx : Nat} {w w' : World} {v v' u : Value} {it : Its} {p : List Pnt} {c : Bool} (h : DW bx w v it u p) (x : Ext v v' w w') (ho : OwnQ 25 w' (bx + 1) v' (vLn (it ++ [(u, ⟨p, c⟩)]))) : DW bx ((w'.setCell ⟨bx, 0, none⟩ v').setCell ⟨bx, 1, none⟩ (.slice none 0 0)) v' (it ++ [(u, ⟨p, c⟩)]) (.slice none 0 0) [] ∧ Below bx w ((w'.setCell ⟨bx, 0, none⟩ v').setCell ⟨bx, 1, none⟩ (.slice none 0 0)) := by
  have hb := h.lt
  have e := fun o => Ext.cell x hb h.nev o
  have s0 := World.cell?_setCell_same w' ⟨bx, 0, none⟩ v' ((e 0).trans h.c0)
  have s1 : (w'.setCell ⟨bx, 0, none⟩ v').cell? ⟨bx, 1, none⟩ = some u := by
    rw [World.cell?_setCell_other _ _ _ _ (fun e => by injection e; omega)]; exact (e 1).trans h.c1
  refine ⟨⟨?_, World.cell?_setCell_same _ ⟨bx, 1, none⟩ _ s1, fun o => ?_, ⟨((h.d.lput ho x).farSet bx 0 v' (by omega)).farSet bx 1 _ (by omega), OwnP.nil _ _, Apt.nil _ _⟩⟩, ?_⟩
  · rw [World.cell?_setCell_other _ _ _ _ (fun e => by injection e; omega)]; exact s0
  · rw [World.frozen?_setCell, World.frozen?_setCell]; exact (World.frozen?_of_block (w := w) (a := ⟨bx, o, none⟩) (x.1.block bx hb (fun e => h.nev e.symm))).trans (h.free o)
  · exact ((x.below (fun g e => Nat.le_of_succ_le (OwnQ.lt h.d.ln.own g e).1) (by omega)).setCell (Nat.le_refl _) _).setCell (Nat.le_refl _) _
/-- The points are dropped. -/
theorem DW.drop {bx : Nat} {w : World} {v u : Value} {it : Its} {p : List Pnt} (h : DW bx w v it u p) : DW bx (w.setCell ⟨bx, 1, none⟩ (.slice none 0 0)) v it (.slice none 0 0) [] ∧ Below bx w (w.setCell ⟨bx, 1, none⟩ (.slice none 0 0)) := by
  refine ⟨⟨?_, World.cell?_setCell_same w ⟨bx, 1, none⟩ _ h.c1, fun o => by rw [World.frozen?_setCell]; exact h.free o, ⟨h.d.ln.farSet bx 1 _ (by omega), OwnP.nil _ _, Apt.nil _ _⟩⟩, (Below.refl bx w).setCell (p := ⟨bx, 1, none⟩) (Nat.le_refl _) _⟩
  rw [World.cell?_setCell_other _ _ _ _ (fun e => by injection e; omega)]; exact h.c0
end Go.Proofs.YtfdjjbgcaojcnaaGreat
namespace Go.Proofs.YtfdjjbgcaojcnaaGreat
open Go.ChangeShapes Go.WideShapes Go.ChangeAt Go.RowKit
set_option linter.unusedVariables false

/-- Lines of an answer: in memory from B on. -/
def LsOk (w : World) (B : Nat) (v : Value) (o : List LD) : Prop := ∃ it, OwnLn w B v it ∧ it.map (·.2) = o
theorem LsOk.nw {w w' : World} {B : Nat} {v : Value} {o : List LD} (h : LsOk w B v o) (k : Nw w w') : LsOk w' B v o := by
  obtain ⟨it, h1, h2⟩ := h
  exact ⟨it, h1.nw k, h2⟩
theorem LsOk.of {w : World} {B : Nat} {v : Value} {it : Its} {o : List LD} (h : OwnLn w B v it) (e : it.map (·.2) = o) : LsOk w B v o := ⟨it, h, e⟩
theorem OwnLn.lines {w : World} {B : Nat} {v : Value} {it : Its} (h : OwnLn w B v it) : ∃ a c, v = .slice a (it.map (·.2)).length c ∧ Lines w a (it.map (·.2)) := by
  obtain ⟨a, c, e, h2⟩ := h.row
  exact ⟨a, c, e, h2⟩
theorem ownp_lit (w : World) (B : Nat) (x y : Int) (hB : B ≤ w.heap.size) : OwnP (w.alloc (.cells #[.int .i64 x, .int .i64 y] 34)) B (.slice (some ⟨w.heap.size, 0, none⟩) 1 1) [(x, y)] :=
  World.ownsRow_lit w #[.int .i64 x, .int .i64 y] 1 hB (by unfold maxLen; omega) (by simp)
end Go.Proofs.YtfdjjbgcaojcnaaGreat
namespace Go.Proofs.YtfdjjbgcaojcnaaGreat
open Go.ChangeShapes Go.WideShapes Go.ChangeAt Go.RowKit
set_option linter.unusedVariables false

def addP (a b : Pnt) : Pnt := (a.1 + b.1, a.2 + b.2)
def subP (a b : Pnt) : Pnt := (a.1 - b.1, a.2 - b.2)
/-- Far from the ends of the numbers. -/
def wid (x : Int) : Prop := -35184372088832 ≤ x ∧ x ≤ 35184372088832
theorem ipls (w : World) (x1 y1 x2 y2 : Int) (h1 : wid x1) (h2 : wid y1) (h3 : wid x2) (h4 : wid y2) :
    Calls Tryz.prog 83 #[.agg #[.int .i64 x1, .int .i64 y1], .agg #[.int .i64 x2, .int .i64 y2]] w fun e w' => e = .returned (.agg #[.int .i64 (x1 + x2), .int .i64 (y1 + y2)]) ∧ Kp w w' := by
  unfold wid at *
  go_enter Tryz.func83, Tryz.ntmps83
  go_wp2
  refine bodyPost_ret (v := .agg #[.int .i64 (x1 + x2), .int .i64 (y1 + y2)]) (by simp [results, Tryz.results83, go_sem]) rfl ⟨rfl, ?_⟩
  exact (((Kp.refl w).alloc _ _).alloc _ _).alloc _ _
theorem imin2 (w : World) (x1 y1 x2 y2 : Int) (h1 : wid x1) (h2 : wid y1) (h3 : wid x2) (h4 : wid y2) :
    Calls Tryz.prog 76 #[.agg #[.int .i64 x1, .int .i64 y1], .agg #[.int .i64 x2, .int .i64 y2]] w fun e w' => e = .returned (.agg #[.int .i64 (x1 - x2), .int .i64 (y1 - y2)]) ∧ Kp w w' := by
  unfold wid at *
  go_enter Tryz.func76, Tryz.ntmps76
  go_wp2
  refine bodyPost_ret (v := .agg #[.int .i64 (x1 - x2), .int .i64 (y1 - y2)]) (by simp [results, Tryz.results76, go_sem]) rfl ⟨rfl, ?_⟩
  exact (((Kp.refl w).alloc _ _).alloc _ _).alloc _ _
theorem splus (w : World) (x1 y1 x2 y2 : Int) (h1 : wid x1) (h2 : wid y1) (h3 : wid x2) (h4 : wid y2) :
    Calls Tryz.prog 98 #[.agg #[.int .i64 x1, .int .i64 y1], .agg #[.int .i64 x2, .int .i64 y2]] w fun e w' => e = .returned (.agg #[.int .i64 (x1 + x2), .int .i64 (y1 + y2)]) ∧ Kp w w' := by
  unfold wid at *
  go_enter Tryz.func98, Tryz.ntmps98
  go_wp2
  refine bodyPost_ret (v := .agg #[.int .i64 (x1 + x2), .int .i64 (y1 + y2)]) (by simp [results, Tryz.results98, go_sem]) rfl ⟨rfl, ?_⟩
  exact (((Kp.refl w).alloc _ _).alloc _ _).alloc _ _
theorem sless (w : World) (x1 y1 x2 y2 : Int) (h1 : wid x1) (h2 : wid y1) (h3 : wid x2) (h4 : wid y2) :
    Calls Tryz.prog 99 #[.agg #[.int .i64 x1, .int .i64 y1], .agg #[.int .i64 x2, .int .i64 y2]] w fun e w' => e = .returned (.agg #[.int .i64 (x1 - x2), .int .i64 (y1 - y2)]) ∧ Kp w w' := by
  unfold wid at *
  go_enter Tryz.func99, Tryz.ntmps99
  go_wp2
  refine bodyPost_ret (v := .agg #[.int .i64 (x1 - x2), .int .i64 (y1 - y2)]) (by simp [results, Tryz.results99, go_sem]) rfl ⟨rfl, ?_⟩
  exact (((Kp.refl w).alloc _ _).alloc _ _).alloc _ _
theorem sclosed (w : World) (a : Option Addr) (n c : Nat) : Calls Tryz.prog 97 #[.slice a n c] w fun e w' => e = .returned (.agg #[.slice a n c, .bool true]) ∧ Kp w w' := by
  go_enter Tryz.func97, Tryz.ntmps97
  go_wp2
  refine bodyPost_ret (v := .agg #[.slice a n c, .bool true]) (by simp [results, Tryz.results97, go_sem]) rfl ⟨rfl, ?_⟩
  exact (Kp.refl w).alloc _ _
theorem iring (w : World) (a : Option Addr) (n c : Nat) : Calls Tryz.prog 106 #[.slice a n c] w fun e w' => e = .returned (.agg #[.slice a n c, .bool true]) ∧ Kp w w' := by
  go_enter Tryz.func106, Tryz.ntmps106
  go_wp2
  refine bodyPost_ret (v := .agg #[.slice a n c, .bool true]) (by simp [results, Tryz.results106, go_sem]) rfl ⟨rfl, ?_⟩
  exact (Kp.refl w).alloc _ _
theorem ionward (w : World) (fx fy tx ty sx sy : Int) (h1 : wid sx) : Calls Tryz.prog 77 #[.agg #[.int .i64 fx, .int .i64 fy, .int .i64 tx, .int .i64 ty, .int .i64 sx, .int .i64 sy]] w fun e w' => e = .returned (.agg #[.int .i64 sy, .int .i64 (-sx)]) ∧ Kp w w' := by
  unfold wid at *
  go_enter Tryz.func77, Tryz.ntmps77
  go_wp2
  refine bodyPost_ret (v := .agg #[.int .i64 sy, .int .i64 (-sx)]) (by simp [results, Tryz.results77, go_sem]) rfl ⟨rfl, ?_⟩
  exact ((Kp.refl w).alloc _ _).alloc _ _
/-- The points of a literal of the call's own. -/
theorem ownp4 (w : World) (B : Nat) (hB : B ≤ w.heap.size) (a b c d e f g h : Int) : OwnP (w.alloc (.cells #[.int .i64 a, .int .i64 b, .int .i64 c, .int .i64 d, .int .i64 e, .int .i64 f, .int .i64 g, .int .i64 h] 34)) B (.slice (some ⟨w.heap.size, 0, none⟩) 4 4) [(a, b), (c, d), (e, f), (g, h)] :=
  World.ownsRow_lit w #[.int .i64 a, .int .i64 b, .int .i64 c, .int .i64 d, .int .i64 e, .int .i64 f, .int .i64 g, .int .i64 h] 4 hB (by unfold maxLen; omega) (by simp)
theorem ownp3 (w : World) (B : Nat) (hB : B ≤ w.heap.size) (a b c d e f : Int) : OwnP (w.alloc (.cells #[.int .i64 a, .int .i64 b, .int .i64 c, .int .i64 d, .int .i64 e, .int .i64 f] 34)) B (.slice (some ⟨w.heap.size, 0, none⟩) 3 3) [(a, b), (c, d), (e, f)] :=
  World.ownsRow_lit w #[.int .i64 a, .int .i64 b, .int .i64 c, .int .i64 d, .int .i64 e, .int .i64 f] 3 hB (by unfold maxLen; omega) (by simp)
end Go.Proofs.YtfdjjbgcaojcnaaGreat

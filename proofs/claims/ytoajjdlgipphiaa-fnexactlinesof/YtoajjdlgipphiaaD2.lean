/-
  A list of lines and the points of one that is being drawn, both of the call's own and apart; each theorem names its conditions.
-/
import Derived.Test.YtoajjdlgipphiaaLo
namespace Go.Proofs.Ytoajjdlgipphiaa
open Go.ChangeShapes Go.WideShapes Go.ChangeAt Go.RowKit
set_option linter.unusedVariables false

/-- The points u lie in no block of the lines v. -/
def Apt (u v : Value) (it : Its) : Prop := ∀ b, u.ownBlock = some b → v.ownBlock ≠ some b ∧ ∀ i, i < it.length → (itAt it i).1.ownBlock ≠ some b
theorem Apt.nil (v : Value) (it : Its) : Apt (.slice none 0 0) v it := fun b e => by cases e
structure D2 (w : World) (B : Nat) (v : Value) (it : Its) (u : Value) (p : List Pnt) : Prop where
  ln : OwnLn w B v it
  pt : OwnP w B u p
  ap : Apt u v it
theorem D2.nil (w : World) (B : Nat) : D2 w B (.slice none 0 0) [] (.slice none 0 0) [] := ⟨OwnLn.nil w B, OwnP.nil w B, Apt.nil _ _⟩
theorem D2.nw {w w' : World} {B : Nat} {v u : Value} {it : Its} {p : List Pnt} (h : D2 w B v it u p) (k : Nw w w') : D2 w' B v it u p := ⟨h.ln.nw k, h.pt.nw k, h.ap⟩
theorem D2.far {w : World} {B : Nat} {v u : Value} {it : Its} {p : List Pnt} (h : D2 w B v it u p) (b o : Nat) (x : Value) (hb : b < B) : D2 (w.setCell ⟨b, o, none⟩ x) B v it u p :=
  ⟨h.ln.farSet b o x hb, OwnQ.far h.pt b o x (fun e => by have := (OwnQ.lt h.pt b e).1; omega), h.ap⟩
/-- What is appended to the points leaves the lines as they are. -/
theorem OwnLn.ext {w w' : World} {B : Nat} {v u u' : Value} {it : Its} (h : OwnLn w B v it) (ha : Apt u v it) (x : Ext u u' w w') : OwnLn w' B v it := by
  refine ⟨OwnQ.keep h.own x ?_, fun i hi => OwnQ.keep (h.pts i hi) x ?_, h.far, h.apart⟩
  · cases hc : v.ownBlock with
    | none => exact Or.inl rfl
    | some b => exact Or.inr (fun e => (ha b e.symm).1 hc)
  · cases hc : (itAt it i).1.ownBlock with
    | none => exact Or.inl rfl
    | some b => exact Or.inr (fun e => (ha b e.symm).2 i hi hc)
theorem D2.pput {w w' : World} {B : Nat} {v u u' : Value} {it : Its} {p p' : List Pnt} (h : D2 w B v it u p) (x : Ext u u' w w') (ho : OwnP w' B u' p') : D2 w' B v it u' p' := by
  refine ⟨h.ln.ext h.ap x, ho, fun b e => ?_⟩
  rcases x.2 with e2 | ⟨g, e2, hg⟩
  · exact h.ap b (by rw [← e2]; exact e)
  · rw [e2] at e
    injection e with e
    subst e
    exact ⟨fun e3 => by have := (OwnQ.lt h.ln.own g e3).2; omega, fun i hi e3 => by have := (OwnQ.lt (h.ln.pts i hi) g e3).2; omega⟩
/-- Points in a new block instead of those that were there. -/
theorem D2.fresh {w w' : World} {B : Nat} {v u u' : Value} {it : Its} {p p' : List Pnt} (h : D2 w B v it u p) (k : Nw w w') (hB : B ≤ w.heap.size) (ho : OwnP w' w.heap.size u' p') : D2 w' B v it u' p' := by
  refine ⟨h.ln.nw k, OwnQ.base ho hB, fun b e => ?_⟩
  have h1 := (OwnQ.lt ho b e).1
  exact ⟨fun e3 => by have := (OwnQ.lt h.ln.own b e3).2; omega, fun i hi e3 => by have := (OwnQ.lt (h.ln.pts i hi) b e3).2; omega⟩
/-- The points become one more line. -/
theorem D2.lput {w w' : World} {B : Nat} {v v' u : Value} {it : Its} {p : List Pnt} {c : Bool} (h : D2 w B v it u p) (ho : OwnQ 32 w' B v' (vLn (it ++ [(u, ⟨p, c⟩)]))) (x : Ext v v' w w') : OwnLn w' B v' (it ++ [(u, ⟨p, c⟩)]) := by
  have hlt : ∀ i, i < it.length → ∀ b, (itAt it i).1.ownBlock = some b → b < w.heap.size := fun i hi b hb => (OwnQ.lt (h.ln.pts i hi) b hb).2
  have hul : ∀ b, u.ownBlock = some b → b < w.heap.size := fun b hb => (OwnQ.lt h.pt b hb).2
  refine ⟨ho, fun i hi => ?_, fun i hi b hb => ?_, fun i j hij hi hj b hb => ?_⟩
  · rw [List.length_append, List.length_singleton] at hi
    by_cases e : i = it.length
    · subst e
      rw [itAt_new]
      refine OwnQ.keep h.pt x ?_
      cases hc : u.ownBlock with
      | none => exact Or.inl rfl
      | some b => exact Or.inr (fun e => (h.ap b hc).1 e.symm)
    · have hi' : i < it.length := by omega
      rw [itAt_old it _ i hi']
      refine OwnQ.keep (h.ln.pts i hi') x ?_
      cases hc : (itAt it i).1.ownBlock with
      | none => exact Or.inl rfl
      | some b => exact Or.inr (fun e => h.ln.far i hi' b hc e.symm)
  · rw [List.length_append, List.length_singleton] at hi
    by_cases e : i = it.length
    · subst e
      rw [itAt_new] at hb
      exact Ext.apart x (hul b hb) (h.ap b hb).1
    · have hi' : i < it.length := by omega
      rw [itAt_old it _ i hi'] at hb
      exact Ext.apart x (hlt i hi' b hb) (h.ln.far i hi' b hb)
  · rw [List.length_append, List.length_singleton] at hi hj
    by_cases e : i = it.length
    · subst e
      rw [itAt_new] at hb
      have hj' : j < it.length := by omega
      rw [itAt_old it _ j hj']
      exact (h.ap b hb).2 j hj'
    · have hi' : i < it.length := by omega
      rw [itAt_old it _ i hi'] at hb
      by_cases e2 : j = it.length
      · subst e2
        rw [itAt_new]
        exact fun e3 => (h.ap b e3).2 i hi' hb
      · have hj' : j < it.length := by omega
        rw [itAt_old it _ j hj']
        exact h.ln.apart i j hij hi' hj' b hb
theorem D2.val {w : World} {B : Nat} {v u : Value} {it : Its} {p : List Pnt} (h : D2 w B v it u p) : ∃ a c, u = .slice a p.length c := by
  obtain ⟨a, c, e, _⟩ := OwnP.pts h.pt
  exact ⟨a, c, e⟩
theorem D2.vln {w : World} {B : Nat} {v u : Value} {it : Its} {p : List Pnt} (h : D2 w B v it u p) : ∃ a c, v = .slice a it.length c := by
  rcases OwnQ.form h.ln.own with ⟨e, hn⟩ | ⟨g, c, e, _⟩
  · have : it = [] := by have := congrArg List.length hn; rw [vLn_len] at this; simp at this; exact this
    subst this
    exact ⟨none, 0, e⟩
  · rw [vLn_len] at e
    exact ⟨_, c, e⟩
/-- A drawing in a variable: lines, then points. -/
structure DW (bx : Nat) (w : World) (v : Value) (it : Its) (u : Value) (p : List Pnt) : Prop where
  c0 : w.cell? ⟨bx, 0, none⟩ = some v
  c1 : w.cell? ⟨bx, 1, none⟩ = some u
  free : ∀ o, w.frozen? ⟨bx, o, none⟩ = false
  d : D2 w (bx + 1) v it u p
theorem DW.lt {bx : Nat} {w : World} {v u : Value} {it : Its} {p : List Pnt} (h : DW bx w v it u p) : bx < w.heap.size := World.block_lt_of_cell? w ⟨bx, 0, none⟩ h.c0
theorem DW.nw {bx : Nat} {w w' : World} {v u : Value} {it : Its} {p : List Pnt} (h : DW bx w v it u p) (k : Nw w w') : DW bx w' v it u p :=
  ⟨((bcell k).1 _ _ h.lt).trans h.c0, ((bcell k).1 _ _ h.lt).trans h.c1, fun o => ((bcell k).2 _ _ h.lt).trans (h.free o), h.d.nw k⟩
theorem DW.new (w : World) (t : TypeId) : DW w.heap.size (w.alloc (.cells #[.slice none 0 0, .slice none 0 0] t)) (.slice none 0 0) [] (.slice none 0 0) [] :=
  ⟨by simp, by simp, fun o => World.frozen?_alloc_at _ _ _ _ rfl, D2.nil _ _⟩
theorem DW.neu {bx : Nat} {w : World} {v u : Value} {it : Its} {p : List Pnt} (h : DW bx w v it u p) : u.ownBlock ≠ some bx := fun e => by have := (OwnQ.lt h.d.pt bx e).1; omega
theorem DW.nev {bx : Nat} {w : World} {v u : Value} {it : Its} {p : List Pnt} (h : DW bx w v it u p) : v.ownBlock ≠ some bx := fun e => by have := (OwnQ.lt h.d.ln.own bx e).1; omega
/-- Points have been appended. -/
theorem DW.pput {bx : Nat} {w w' : World} {v u u' : Value} {it : Its} {p p' : List Pnt} (h : DW bx w v it u p) (x : Ext u u' w w') (ho : OwnP w' (bx + 1) u' p') : DW bx (w'.setCell ⟨bx, 1, none⟩ u') v it u' p' ∧ Below bx w (w'.setCell ⟨bx, 1, none⟩ u') := by
  have hb := h.lt
  have e := fun o => Ext.cell x hb h.neu o
  refine ⟨⟨?_, World.cell?_setCell_same w' ⟨bx, 1, none⟩ _ ((e 1).trans h.c1), fun o => ?_, (h.d.pput x ho).far bx 1 u' (by omega)⟩, ?_⟩
  · rw [World.cell?_setCell_other _ _ _ _ (fun e => by injection e; omega)]; exact (e 0).trans h.c0
  · rw [World.frozen?_setCell]; exact (World.frozen?_of_block (w := w) (a := ⟨bx, o, none⟩) (x.1.block bx hb (fun e => h.neu e.symm))).trans (h.free o)
  · exact (x.below (fun g e => Nat.le_of_succ_le (OwnQ.lt h.d.pt g e).1) (by omega)).setCell (Nat.le_refl _) _
/-- The points have become a line; there are none now. -/
theorem DW.lput {bx : Nat} {w w' : World} {v v' u : Value} {it : Its} {p : List Pnt} {c : Bool} (h : DW bx w v it u p) (x : Ext v v' w w') (ho : OwnQ 32 w' (bx + 1) v' (vLn (it ++ [(u, ⟨p, c⟩)]))) : DW bx ((w'.setCell ⟨bx, 0, none⟩ v').setCell ⟨bx, 1, none⟩ (.slice none 0 0)) v' (it ++ [(u, ⟨p, c⟩)]) (.slice none 0 0) [] ∧ Below bx w ((w'.setCell ⟨bx, 0, none⟩ v').setCell ⟨bx, 1, none⟩ (.slice none 0 0)) := by
  have hb := h.lt
  have e := fun o => Ext.cell x hb h.nev o
  have s0 := World.cell?_setCell_same w' ⟨bx, 0, none⟩ v' ((e 0).trans h.c0)
  have s1 : (w'.setCell ⟨bx, 0, none⟩ v').cell? ⟨bx, 1, none⟩ = some u := by
    rw [World.cell?_setCell_other _ _ _ _ (fun e => by injection e; omega)]; exact (e 1).trans h.c1
  refine ⟨⟨?_, World.cell?_setCell_same _ ⟨bx, 1, none⟩ _ s1, fun o => ?_, ⟨((h.d.lput ho x).farSet bx 0 v' (by omega)).farSet bx 1 _ (by omega), OwnP.nil _ _, Apt.nil _ _⟩⟩, ?_⟩
  · rw [World.cell?_setCell_other _ _ _ _ (fun e => by injection e; omega)]; exact s0
  · rw [World.frozen?_setCell, World.frozen?_setCell]; exact (World.frozen?_of_block (w := w) (a := ⟨bx, o, none⟩) (x.1.block bx hb (fun e => h.nev e.symm))).trans (h.free o)
  · exact ((x.below (fun g e => Nat.le_of_succ_le (OwnQ.lt h.d.ln.own g e).1) (by omega)).setCell (Nat.le_refl _) _).setCell (Nat.le_refl _) _
/-- The points are dropped. -/
theorem DW.drop {bx : Nat} {w : World} {v u : Value} {it : Its} {p : List Pnt} (h : DW bx w v it u p) : DW bx (w.setCell ⟨bx, 1, none⟩ (.slice none 0 0)) v it (.slice none 0 0) [] ∧ Below bx w (w.setCell ⟨bx, 1, none⟩ (.slice none 0 0)) := by
  refine ⟨⟨?_, World.cell?_setCell_same w ⟨bx, 1, none⟩ _ h.c1, fun o => by rw [World.frozen?_setCell]; exact h.free o, ⟨h.d.ln.farSet bx 1 _ (by omega), OwnP.nil _ _, Apt.nil _ _⟩⟩, (Below.refl bx w).setCell (p := ⟨bx, 1, none⟩) (Nat.le_refl _) _⟩
  rw [World.cell?_setCell_other _ _ _ _ (fun e => by injection e; omega)]; exact h.c0
end Go.Proofs.Ytoajjdlgipphiaa

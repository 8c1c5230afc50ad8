/-
  Rows of lines: what the laws' helpers do that hold two again
-/
import Derived.Test.YtdjemnbdaddegaaJAO
import Derived.Test.YtdjemnbdaddegaaJAI
import Derived.Deep.RegionWith
import Derived.Test.YtdjemnbdaddegaaJAF
import Derived.Test.YtdjemnbdaddegaaJAG
import Derived.Test.YtdjemnbdaddegaaJAA
namespace Go.Proofs.Ytdjemnbdaddegaa
open Go.ChangeShapes Go.WideShapes Go.ChangeAt Go.RowKit
set_option linter.unusedVariables false

abbrev Its := List (Value × LD)
def itAt (it : Its) (i : Nat) : Value × LD := it.getD i (undef, noLD)
theorem ld_at (it : Its) (i : Nat) (h : i < it.length) : lnAt (it.map (·.2)) i = (itAt it i).2 := by simp [lnAt, itAt, h]
theorem info_line : (Try.prog.info? 55).map (fun i => (i.zero, i.size, i.bytes)) = some (some (.agg #[.slice none 0 0, .bool false]), 2, 32) := by kernel_rfl
theorem itAt_old (it : Its) (x : Value × LD) (i : Nat) (h : i < it.length) : itAt (it ++ [x]) i = itAt it i := by simp [itAt, List.getElem?_append, h]
theorem itAt_new (it : Its) (x : Value × LD) : itAt (it ++ [x]) it.length = x := by simp [itAt]
def vLn (it : Its) : List VV := it.map fun p => (p.1, .bool p.2.closed)
theorem vLn_len (it : Its) : (vLn it).length = it.length := by simp [vLn]
theorem vLn_append (l m : Its) : vLn (l ++ m) = vLn l ++ vLn m := by simp [vLn]
theorem vLn_at (it : Its) (i : Nat) (h : i < it.length) : vvAt (vLn it) i = ((itAt it i).1, .bool (itAt it i).2.closed) := by simp [vvAt, vLn, itAt, h]
structure OwnLn (w : World) (B : Nat) (v : Value) (it : Its) : Prop where
 own : OwnQ 55 w B v (vLn it)
 pts : ∀ i, i < it.length → OwnP w B (itAt it i).1 (itAt it i).2.pts
 far : ∀ i, i < it.length → ∀ b, (itAt it i).1.ownBlock = some b → v.ownBlock ≠ some b
 apart : ∀ i j, i ≠ j → i < it.length → j < it.length → ∀ b, (itAt it i).1.ownBlock = some b → (itAt it j).1.ownBlock ≠ some b
theorem OwnLn.nil (w : World) (B : Nat) : OwnLn w B (.slice none 0 0) [] :=
 ⟨OwnQ.nil _ w B, fun i h => absurd h (by simp), fun i h => absurd h (by simp), fun i j _ h => absurd h (by simp)⟩
theorem OwnLn.nw {w w' : World} {B : Nat} {v : Value} {it : Its} (h : OwnLn w B v it) (k : Nw w w') : OwnLn w' B v it :=
 ⟨h.own.nw k, fun i hi => (h.pts i hi).nw k, h.far, h.apart⟩
theorem OwnLn.base {w : World} {B B' : Nat} {v : Value} {it : Its} (h : OwnLn w B v it) (hB : B' ≤ B) : OwnLn w B' v it :=
 ⟨OwnQ.base h.own hB, fun i hi => OwnQ.base (h.pts i hi) hB, h.far, h.apart⟩
theorem OwnLn.row {w : World} {B : Nat} {v : Value} {it : Its} (h : OwnLn w B v it) : RowL w v (it.map (·.2)) := by
 rcases OwnQ.form h.own with ⟨rfl, h2⟩ | ⟨g, c, rfl, h2, h3, _, _, h4, h5⟩
 ·have : it = [] := by simpa [vLn] using h2
  subst this
  exact ⟨none, 0, rfl, Or.inl rfl⟩
 ·rw [vLn_len] at h4 ⊢
  refine ⟨some ⟨g, 0, none⟩, c, by simp, Or.inr ⟨g, 0, rfl, h3, fun i hi => ?_⟩⟩
  have hi' : i < it.length := by simpa using hi
  obtain ⟨q0, q1⟩ := h4 i hi'
  rw [vLn_at it i hi'] at q0 q1
  rw [ld_at it i hi']
  obtain ⟨pa, pc, e, hp⟩ := (h.pts i hi').pts
  rw [e] at q0
  exact ⟨⟨pa, pc, by rw [Nat.zero_add]; exact q0, hp⟩, by rw [Nat.zero_add]; exact q1⟩
theorem under_lns : Try.prog.underlying 32 = some (.slice 55) := Try.underlying32
theorem OwnLn.put {wS w w' : World} {B : Nat} {v v' u : Value} {it : Its} {ld : LD} (h : OwnLn wS B v it) (k : Nw wS w) (hB : B ≤ wS.heap.size) (hu : OwnP w wS.heap.size u ld.pts) (ho : OwnQ 55 w' B v' (vLn (it ++ [(u, ld)]))) (x : Ext v v' w w') : OwnLn w' B v' (it ++ [(u, ld)]) := by
 have hlt : ∀ i, i < it.length → ∀ b, (itAt it i).1.ownBlock = some b → b < wS.heap.size := fun i hi b hb => (OwnQ.lt (h.pts i hi) b hb).2
 have hvl : ∀ b, v.ownBlock = some b → b < wS.heap.size := fun b hb => (OwnQ.lt h.own b hb).2
 have hul : ∀ b, u.ownBlock = some b → wS.heap.size ≤ b ∧ b < w.heap.size := fun b hb => OwnQ.lt hu b hb
 have hne : ∀ i, i < it.length → ∀ b, (itAt it i).1.ownBlock = some b → v.ownBlock ≠ some b := h.far
 have hs : wS.heap.size ≤ w.heap.size := Below.size k
 refine ⟨ho, fun i hi => ?_, fun i hi b hb => ?_, fun i j hij hi hj b hb => ?_⟩
 ·rw [List.length_append, List.length_singleton] at hi
  by_cases e : i = it.length
  ·subst e
   rw [itAt_new]
   refine OwnQ.base (OwnQ.keep hu x ?_) hB
   cases hc : u.ownBlock with
   | none => exact Or.inl rfl
   | some b => exact Or.inr (fun e => by have h1 := hul b hc; have h2 := hvl b e.symm; omega)
  ·have hi' : i < it.length := by omega
   rw [itAt_old it _ i hi']
   refine OwnQ.keep (OwnQ.nw (h.pts i hi') k) x ?_
   cases hc : (itAt it i).1.ownBlock with
   | none => exact Or.inl rfl
   | some b => exact Or.inr (fun e => hne i hi' b hc e.symm)
 ·rw [List.length_append, List.length_singleton] at hi
  by_cases e : i = it.length
  ·subst e
   rw [itAt_new] at hb
   have h1 := hul b hb
   exact Ext.apart x h1.2 (fun e => by have h2 := hvl b e; omega)
  ·have hi' : i < it.length := by omega
   rw [itAt_old it _ i hi'] at hb
   have h1 := hlt i hi' b hb
   exact Ext.apart x (by omega) (hne i hi' b hb)
 ·rw [List.length_append, List.length_singleton] at hi hj
  by_cases e : i = it.length
  ·subst e
   rw [itAt_new] at hb
   have hj' : j < it.length := by omega
   rw [itAt_old it _ j hj']
   intro e2
   have h1 := hul b hb
   have h2 := hlt j hj' b e2
   omega
  ·have hi' : i < it.length := by omega
   rw [itAt_old it _ i hi'] at hb
   by_cases e2 : j = it.length
   ·subst e2
    rw [itAt_new]
    intro e3
    have h1 := hul b e3
    have h2 := hlt i hi' b hb
    omega
   ·have hj' : j < it.length := by omega
    rw [itAt_old it _ j hj']
    exact h.apart i j hij hi' hj' b hb
theorem OwnLn.farSet {w : World} {B : Nat} {v : Value} {it : Its} (h : OwnLn w B v it) (b o : Nat) (u : Value) (hb : b < B) : OwnLn (w.setCell ⟨b, o, none⟩ u) B v it :=
 ⟨OwnQ.far h.own b o u (fun e => by have := (OwnQ.lt h.own b e).1; omega), fun i hi => OwnQ.far (h.pts i hi) b o u (fun e => by have := (OwnQ.lt (h.pts i hi) b e).1; omega), h.far, h.apart⟩
def Apt (u v : Value) (it : Its) : Prop := ∀ b, u.ownBlock = some b → v.ownBlock ≠ some b ∧ ∀ i, i < it.length → (itAt it i).1.ownBlock ≠ some b
theorem Apt.nil (v : Value) (it : Its) : Apt (.slice none 0 0) v it := fun b e => by cases e
structure D2 (w : World) (B : Nat) (v : Value) (it : Its) (u : Value) (p : List Pnt) : Prop where
 ln : OwnLn w B v it
 pt : OwnP w B u p
 ap : Apt u v it
theorem D2.nil (w : World) (B : Nat) : D2 w B (.slice none 0 0) [] (.slice none 0 0) [] := ⟨OwnLn.nil w B, OwnP.nil w B, Apt.nil _ _⟩
theorem D2.nw {w w' : World} {B : Nat} {v u : Value} {it : Its} {p : List Pnt} (h : D2 w B v it u p) (k : Nw w w') : D2 w' B v it u p := ⟨h.ln.nw k, h.pt.nw k, h.ap⟩
theorem D2.far {w : World} {B : Nat} {v u : Value} {it : Its} {p : List Pnt} (h : D2 w B v it u p) (b o : Nat) (x : Value) (hb : b < B) : D2 (w.setCell ⟨b, o, none⟩ x) B v it u p :=
 ⟨h.ln.farSet b o x hb, OwnQ.far h.pt b o x (fun e => by have := (OwnQ.lt h.pt b e).1; omega), h.ap⟩
theorem OwnLn.ext {w w' : World} {B : Nat} {v u u' : Value} {it : Its} (h : OwnLn w B v it) (ha : Apt u v it) (x : Ext u u' w w') : OwnLn w' B v it := by
 refine ⟨OwnQ.keep h.own x ?_, fun i hi => OwnQ.keep (h.pts i hi) x ?_, h.far, h.apart⟩
 ·cases hc : v.ownBlock with
  | none => exact Or.inl rfl
  | some b => exact Or.inr (fun e => (ha b e.symm).1 hc)
 ·cases hc : (itAt it i).1.ownBlock with
  | none => exact Or.inl rfl
  | some b => exact Or.inr (fun e => (ha b e.symm).2 i hi hc)
theorem D2.pput {w w' : World} {B : Nat} {v u u' : Value} {it : Its} {p p' : List Pnt} (h : D2 w B v it u p) (x : Ext u u' w w') (ho : OwnP w' B u' p') : D2 w' B v it u' p' := by
 refine ⟨h.ln.ext h.ap x, ho, fun b e => ?_⟩
 rcases x.2 with e2 | ⟨g, e2, hg⟩
 ·exact h.ap b (by rw [← e2]; exact e)
 ·rw [e2] at e
  injection e with e
  subst e
  exact ⟨fun e3 => by have := (OwnQ.lt h.ln.own g e3).2; omega, fun i hi e3 => by have := (OwnQ.lt (h.ln.pts i hi) g e3).2; omega⟩
theorem D2.lput {w w' : World} {B : Nat} {v v' u : Value} {it : Its} {p : List Pnt} {c : Bool} (h : D2 w B v it u p) (ho : OwnQ 55 w' B v' (vLn (it ++ [(u, ⟨p, c⟩)]))) (x : Ext v v' w w') : OwnLn w' B v' (it ++ [(u, ⟨p, c⟩)]) := by
 have hlt : ∀ i, i < it.length → ∀ b, (itAt it i).1.ownBlock = some b → b < w.heap.size := fun i hi b hb => (OwnQ.lt (h.ln.pts i hi) b hb).2
 have hul : ∀ b, u.ownBlock = some b → b < w.heap.size := fun b hb => (OwnQ.lt h.pt b hb).2
 refine ⟨ho, fun i hi => ?_, fun i hi b hb => ?_, fun i j hij hi hj b hb => ?_⟩
 ·rw [List.length_append, List.length_singleton] at hi
  by_cases e : i = it.length
  ·subst e
   rw [itAt_new]
   refine OwnQ.keep h.pt x ?_
   cases hc : u.ownBlock with
   | none => exact Or.inl rfl
   | some b => exact Or.inr (fun e => (h.ap b hc).1 e.symm)
  ·have hi' : i < it.length := by omega
   rw [itAt_old it _ i hi']
   refine OwnQ.keep (h.ln.pts i hi') x ?_
   cases hc : (itAt it i).1.ownBlock with
   | none => exact Or.inl rfl
   | some b => exact Or.inr (fun e => h.ln.far i hi' b hc e.symm)
 ·rw [List.length_append, List.length_singleton] at hi
  by_cases e : i = it.length
  ·subst e
   rw [itAt_new] at hb
   exact Ext.apart x (hul b hb) (h.ap b hb).1
  ·have hi' : i < it.length := by omega
   rw [itAt_old it _ i hi'] at hb
   exact Ext.apart x (hlt i hi' b hb) (h.ln.far i hi' b hb)
 ·rw [List.length_append, List.length_singleton] at hi hj
  by_cases e : i = it.length
  ·subst e
   rw [itAt_new] at hb
   have hj' : j < it.length := by omega
   rw [itAt_old it _ j hj']
   exact (h.ap b hb).2 j hj'
  ·have hi' : i < it.length := by omega
   rw [itAt_old it _ i hi'] at hb
   by_cases e2 : j = it.length
   ·subst e2
    rw [itAt_new]
    exact fun e3 => (h.ap b e3).2 i hi' hb
   ·have hj' : j < it.length := by omega
    rw [itAt_old it _ j hj']
    exact h.ln.apart i j hij hi' hj' b hb
theorem D2.val {w : World} {B : Nat} {v u : Value} {it : Its} {p : List Pnt} (h : D2 w B v it u p) : ∃ a c, u = .slice a p.length c := by
 obtain ⟨a, c, e, _⟩ := OwnP.pts h.pt
 exact ⟨a, c, e⟩
theorem D2.vln {w : World} {B : Nat} {v u : Value} {it : Its} {p : List Pnt} (h : D2 w B v it u p) : ∃ a c, v = .slice a it.length c := by
 rcases OwnQ.form h.ln.own with ⟨e, hn⟩ | ⟨g, c, e, _⟩
 ·have : it = [] := by have := congrArg List.length hn; rw [vLn_len] at this; simp at this; exact this
  subst this
  exact ⟨none, 0, e⟩
 ·rw [vLn_len] at e
  exact ⟨_, c, e⟩
structure DW (bx : Nat) (w : World) (v : Value) (it : Its) (u : Value) (p : List Pnt) : Prop where
 c0 : w.cell? ⟨bx, 0, none⟩ = some v
 c1 : w.cell? ⟨bx, 1, none⟩ = some u
 free : ∀ o, w.frozen? ⟨bx, o, none⟩ = false
 d : D2 w (bx + 1) v it u p
theorem DW.lt {bx : Nat} {w : World} {v u : Value} {it : Its} {p : List Pnt} (h : DW bx w v it u p) : bx < w.heap.size := World.block_lt_of_cell? w ⟨bx, 0, none⟩ h.c0
theorem DW.nw {bx : Nat} {w w' : World} {v u : Value} {it : Its} {p : List Pnt} (h : DW bx w v it u p) (k : Nw w w') : DW bx w' v it u p :=
 ⟨((bcell k).1 _ _ h.lt).trans h.c0, ((bcell k).1 _ _ h.lt).trans h.c1, fun o => ((bcell k).2 _ _ h.lt).trans (h.free o), h.d.nw k⟩
theorem DW.new (w : World) (t : TypeId) : DW w.heap.size (w.alloc (.cells #[.slice none 0 0, .slice none 0 0] t)) (.slice none 0 0) [] (.slice none 0 0) [] :=
 ⟨by simp, by simp, fun o => World.frozen?_alloc_at _ _ _ _ rfl, D2.nil _ _⟩
theorem DW.neu {bx : Nat} {w : World} {v u : Value} {it : Its} {p : List Pnt} (h : DW bx w v it u p) : u.ownBlock ≠ some bx := fun e => by have := (OwnQ.lt h.d.pt bx e).1; omega
theorem DW.nev {bx : Nat} {w : World} {v u : Value} {it : Its} {p : List Pnt} (h : DW bx w v it u p) : v.ownBlock ≠ some bx := fun e => by have := (OwnQ.lt h.d.ln.own bx e).1; omega
theorem DW.pput {bx : Nat} {w w' : World} {v u u' : Value} {it : Its} {p p' : List Pnt} (h : DW bx w v it u p) (x : Ext u u' w w') (ho : OwnP w' (bx + 1) u' p') : DW bx (w'.setCell ⟨bx, 1, none⟩ u') v it u' p' ∧ Below bx w (w'.setCell ⟨bx, 1, none⟩ u') := by
 have hb := h.lt
 have e := fun o => Ext.cell x hb h.neu o
 refine ⟨⟨?_, World.cell?_setCell_same w' ⟨bx, 1, none⟩ _ ((e 1).trans h.c1), fun o => ?_, (h.d.pput x ho).far bx 1 u' (by omega)⟩, ?_⟩
 ·rw [World.cell?_setCell_other _ _ _ _ (fun e => by injection e; omega)]; exact (e 0).trans h.c0
 ·rw [World.frozen?_setCell]; exact (World.frozen?_of_block (w := w) (a := ⟨bx, o, none⟩) (x.1.block bx hb (fun e => h.neu e.symm))).trans (h.free o)
 ·exact (x.below (fun g e => Nat.le_of_succ_le (OwnQ.lt h.d.pt g e).1) (by omega)).setCell (Nat.le_refl _) _
theorem DW.lput {bx : Nat} {w w' : World} {v v' u : Value} {it : Its} {p : List Pnt} {c : Bool} (h : DW bx w v it u p) (x : Ext v v' w w') (ho : OwnQ 55 w' (bx + 1) v' (vLn (it ++ [(u, ⟨p, c⟩)]))) : DW bx ((w'.setCell ⟨bx, 0, none⟩ v').setCell ⟨bx, 1, none⟩ (.slice none 0 0)) v' (it ++ [(u, ⟨p, c⟩)]) (.slice none 0 0) [] ∧ Below bx w ((w'.setCell ⟨bx, 0, none⟩ v').setCell ⟨bx, 1, none⟩ (.slice none 0 0)) := by
 have hb := h.lt
 have e := fun o => Ext.cell x hb h.nev o
 have s0 := World.cell?_setCell_same w' ⟨bx, 0, none⟩ v' ((e 0).trans h.c0)
 have s1 : (w'.setCell ⟨bx, 0, none⟩ v').cell? ⟨bx, 1, none⟩ = some u := by
  rw [World.cell?_setCell_other _ _ _ _ (fun e => by injection e; omega)]; exact (e 1).trans h.c1
 refine ⟨⟨?_, World.cell?_setCell_same _ ⟨bx, 1, none⟩ _ s1, fun o => ?_, ⟨((h.d.lput ho x).farSet bx 0 v' (by omega)).farSet bx 1 _ (by omega), OwnP.nil _ _, Apt.nil _ _⟩⟩, ?_⟩
 ·rw [World.cell?_setCell_other _ _ _ _ (fun e => by injection e; omega)]; exact s0
 ·rw [World.frozen?_setCell, World.frozen?_setCell]; exact (World.frozen?_of_block (w := w) (a := ⟨bx, o, none⟩) (x.1.block bx hb (fun e => h.nev e.symm))).trans (h.free o)
 ·exact ((x.below (fun g e => Nat.le_of_succ_le (OwnQ.lt h.d.ln.own g e).1) (by omega)).setCell (Nat.le_refl _) _).setCell (Nat.le_refl _) _
theorem DW.drop {bx : Nat} {w : World} {v u : Value} {it : Its} {p : List Pnt} (h : DW bx w v it u p) : DW bx (w.setCell ⟨bx, 1, none⟩ (.slice none 0 0)) v it (.slice none 0 0) [] ∧ Below bx w (w.setCell ⟨bx, 1, none⟩ (.slice none 0 0)) := by
 refine ⟨⟨?_, World.cell?_setCell_same w ⟨bx, 1, none⟩ _ h.c1, fun o => by rw [World.frozen?_setCell]; exact h.free o, ⟨h.d.ln.farSet bx 1 _ (by omega), OwnP.nil _ _, Apt.nil _ _⟩⟩, (Below.refl bx w).setCell (p := ⟨bx, 1, none⟩) (Nat.le_refl _) _⟩
 rw [World.cell?_setCell_other _ _ _ _ (fun e => by injection e; omega)]; exact h.c0
def LsOk (w : World) (B : Nat) (v : Value) (o : List LD) : Prop := ∃ it, OwnLn w B v it ∧ it.map (·.2) = o
theorem LsOk.nw {w w' : World} {B : Nat} {v : Value} {o : List LD} (h : LsOk w B v o) (k : Nw w w') : LsOk w' B v o := by
 obtain ⟨it, h1, h2⟩ := h
 exact ⟨it, h1.nw k, h2⟩
theorem LsOk.of {w : World} {B : Nat} {v : Value} {it : Its} {o : List LD} (h : OwnLn w B v it) (e : it.map (·.2) = o) : LsOk w B v o := ⟨it, h, e⟩
theorem OwnLn.lines {w : World} {B : Nat} {v : Value} {it : Its} (h : OwnLn w B v it) : ∃ a c, v = .slice a (it.map (·.2)).length c ∧ Lines w a (it.map (·.2)) := by
 obtain ⟨a, c, e, h2⟩ := h.row
 exact ⟨a, c, e, h2⟩
theorem ownp_lit (w : World) (B : Nat) (x y : Int) (hB : B ≤ w.heap.size) : OwnP (w.alloc (.cells #[.int .i64 x, .int .i64 y] 27)) B (.slice (some ⟨w.heap.size, 0, none⟩) 1 1) [(x, y)] :=
 World.ownsRow_lit w #[.int .i64 x, .int .i64 y] 1 hB (by unfold maxLen; omega) (by simp)
def RelS (d : DS) (o : List LD) (p : List Pnt) : Bool → Prop
 | true => d = ⟨endL o p true, [ptAt p 0]⟩
 | false => d = ⟨o, p⟩
def cutS (o : List LD) (p : List Pnt) (cl : Bool) : Bool → DS
 | true => ⟨endL o p cl, [ptAt p 0]⟩
 | false => ⟨o, p⟩
theorem endL_one (o : List LD) (q : Pnt) (c : Bool) : endL o [q] c = o := by unfold endL; rw [if_neg (by simp)]
theorem rel_cut {d : DS} {o : List LD} {p : List Pnt} {cl : Bool} (h : RelS d o p cl) : cutS o p cl (cl || false) = d := by
 cases cl with
 | true => exact h.symm
 | false => exact h.symm
theorem rel_cut1 {d : DS} {o : List LD} {p : List Pnt} {cl : Bool} (h : RelS d o p cl) : (cutS o p cl (cl || true)).o = endL d.o d.p false ∧ (cutS o p cl (cl || true)).p = [ptAt p 0] := by
 cases cl with
 | true =>
  have h : d = ⟨endL o p true, [ptAt p 0]⟩ := h
  rw [h]
  exact ⟨(endL_one _ _ _).symm, rfl⟩
 | false =>
  have h : d = ⟨o, p⟩ := h
  rw [h]
  exact ⟨rfl, rfl⟩
theorem rel_end {d : DS} {o : List LD} {p : List Pnt} {cl : Bool} (h : RelS d o p cl) : endL o p cl = endL d.o d.p false := by
 cases cl with
 | true =>
  have h : d = ⟨endL o p true, [ptAt p 0]⟩ := h
  rw [h]
  exact (endL_one _ _ _).symm
 | false =>
  have h : d = ⟨o, p⟩ := h
  rw [h]
theorem rel_bd {d : DS} {o : List LD} {p : List Pnt} {cl : Bool} {k : Nat} (h : RelS d o p cl) (h1 : manyL d.o + d.p.length ≤ 9 * k) (h3 : d.o.length ≤ k) : p.length ≤ 9 * k + 1 ∧ o.length ≤ k := by
 cases cl with
 | true =>
  have h : d = ⟨endL o p true, [ptAt p 0]⟩ := h
  rw [h] at h1 h3
  unfold endL at h1 h3
  by_cases hp : 1 < p.length
  ·rw [if_pos hp] at h1 h3
   rw [manyL_app] at h1
   simp [manyL] at h1 h3
   omega
  ·rw [if_neg hp] at h1 h3
   simp at h3
   omega
 | false =>
  have h : d = ⟨o, p⟩ := h
  rw [h] at h1 h3
  simp at h1 h3
  omega
structure LW (bx : Nat) (w : World) (v : Value) (it : Its) (u : Value) (p : List Pnt) (cl : Bool) : Prop where
 b : LnB bx w u p cl
 d : D2 w (bx + 1) v it u p
section
variable {bx : Nat} {w w' : World} {v u : Value} {it : Its} {p : List Pnt} {cl : Bool}
theorem LW.lt (h : LW bx w v it u p cl) : bx < w.heap.size := h.b.lt
theorem LW.nw (h : LW bx w v it u p cl) (k : Nw w w') : LW bx w' v it u p cl := ⟨h.b.nw k, h.d.nw k⟩
theorem LW.new (w : World) (t : TypeId) : LW w.heap.size (w.alloc (.cells #[.slice none 0 0, .bool false] t)) (.slice none 0 0) [] (.slice none 0 0) [] false := ⟨LnB.new w t false, D2.nil _ _⟩
theorem LW.nev (h : LW bx w v it u p cl) : v.ownBlock ≠ some bx := fun e => by have := (OwnQ.lt h.d.ln.own bx e).1; omega
theorem LW.pput {u' : Value} {p' : List Pnt} (h : LW bx w v it u p cl) (x : Ext u u' w w') (ho : OwnP w' (bx + 1) u' p') : LW bx (w'.setCell ⟨bx, 0, none⟩ u') v it u' p' cl ∧ Below bx w (w'.setCell ⟨bx, 0, none⟩ u') :=
 ⟨⟨(LnB.put h.b x ho).1, (h.d.pput x ho).far bx 0 u' (by omega)⟩, (LnB.put h.b x ho).2⟩
theorem LW.flag (h : LW bx w v it u p cl) (c : Bool) : LW bx (w.setCell ⟨bx, 1, none⟩ (.bool c)) v it u p c ∧ Below bx w (w.setCell ⟨bx, 1, none⟩ (.bool c)) := by
 refine ⟨⟨⟨?_, World.cell?_setCell_same w ⟨bx, 1, none⟩ _ h.b.c1, fun o => by rw [World.frozen?_setCell]; exact h.b.free o, OwnQ.far h.b.own bx 1 _ h.b.ne⟩, h.d.far bx 1 _ (by omega)⟩, (Below.refl bx w).setCell (p := ⟨bx, 1, none⟩) (Nat.le_refl _) _⟩
 rw [World.cell?_setCell_other _ _ _ _ (fun e => by injection e; omega)]; exact h.b.c0
theorem LW.first {g c : Nat} {q : Pnt} (h : LW bx w v it (.slice (some ⟨g, 0, none⟩) 1 c) [q] cl) (x y : Int) : LW bx ((w.setCell ⟨g, 0, none⟩ (.int .i64 x)).setCell ⟨g, 1, none⟩ (.int .i64 y)) v it (.slice (some ⟨g, 0, none⟩) 1 c) [(x, y)] cl ∧ Below bx w ((w.setCell ⟨g, 0, none⟩ (.int .i64 x)).setCell ⟨g, 1, none⟩ (.int .i64 y)) := by
 have ho : w.ownsRow (bx + 1) 27 2 (.slice (some ⟨g, 0, none⟩) 1 c) 1 [.int .i64 q.1, .int .i64 q.2] := h.b.own
 obtain ⟨o1, x1⟩ := World.ownsRow.stored ho 0 (.int .i64 x)
 obtain ⟨o2, x2⟩ := World.ownsRow.stored o1 1 (.int .i64 y)
 have o3 : OwnP ((w.setCell ⟨g, 0, none⟩ (.int .i64 x)).setCell ⟨g, 1, none⟩ (.int .i64 y)) (bx + 1) (.slice (some ⟨g, 0, none⟩) 1 c) [(x, y)] := o2
 have x3 : Ext (.slice (some ⟨g, 0, none⟩) 1 c) (.slice (some ⟨g, 0, none⟩) 1 c) w ((w.setCell ⟨g, 0, none⟩ (.int .i64 x)).setCell ⟨g, 1, none⟩ (.int .i64 y)) := Ext.trans ⟨x1, Or.inl rfl⟩ ⟨x2, Or.inl rfl⟩
 obtain ⟨t0, tf⟩ := h.b.there x3
 exact ⟨⟨⟨t0, (Ext.cell x3 h.lt h.b.ne 1).trans h.b.c1, tf, o3⟩, h.d.pput x3 o3⟩, x3.below (fun g e => Nat.le_of_succ_le (OwnQ.lt h.b.own g e).1) (Nat.le_of_lt h.lt)⟩
end
theorem LW.cut {bx : Nat} {w : World} {v z z' : Value} {it : Its} (h : OwnLn w (bx + 1) v it) (c0 : w.cell? ⟨bx, 0, none⟩ = some z) (c1 : w.cell? ⟨bx, 1, none⟩ = some z') (hf : ∀ o, w.frozen? ⟨bx, o, none⟩ = false) (x y : Int) :
  LW bx (((w.alloc (.cells #[.int .i64 x, .int .i64 y] 27)).setCell ⟨bx, 0, none⟩ (.slice (some ⟨w.heap.size, 0, none⟩) 1 1)).setCell ⟨bx, 1, none⟩ (.bool false)) v it (.slice (some ⟨w.heap.size, 0, none⟩) 1 1) [(x, y)] false ∧ Below bx w (((w.alloc (.cells #[.int .i64 x, .int .i64 y] 27)).setCell ⟨bx, 0, none⟩ (.slice (some ⟨w.heap.size, 0, none⟩) 1 1)).setCell ⟨bx, 1, none⟩ (.bool false)) := by
 have hb := World.block_lt_of_cell? w ⟨bx, 0, none⟩ c0
 simp only at hb
 have n1 : Nw w (w.alloc (.cells #[.int .i64 x, .int .i64 y] 27)) := (Below.refl _ _).alloc (Nat.le_refl _) _
 have e0 := ((bcell n1).1 bx 0 hb).trans c0
 have e1 := ((bcell n1).1 bx 1 hb).trans c1
 have ho := ownp_lit w (bx + 1) x y (by omega)
 have hne : (Value.slice (some ⟨w.heap.size, 0, none⟩) 1 1).ownBlock ≠ some bx := fun e => by
  have : w.heap.size = bx := by simpa [Value.ownBlock] using e
  omega
 have s1 : ((w.alloc (.cells #[.int .i64 x, .int .i64 y] 27)).setCell ⟨bx, 0, none⟩ (.slice (some ⟨w.heap.size, 0, none⟩) 1 1)).cell? ⟨bx, 1, none⟩ = some z' := by
  rw [World.cell?_setCell_other _ _ _ _ (fun e => by injection e; omega)]; exact e1
 have ho2 := OwnQ.far (OwnQ.far ho bx 0 (.slice (some ⟨w.heap.size, 0, none⟩) 1 1) hne) bx 1 (.bool false) hne
 refine ⟨⟨⟨?_, World.cell?_setCell_same _ ⟨bx, 1, none⟩ _ s1, fun o => ?_, ho2⟩, ⟨((h.nw n1).farSet bx 0 _ (by omega)).farSet bx 1 _ (by omega), ho2, fun b e => ?_⟩⟩, ((Below.mono n1 (Nat.le_of_lt hb)).setCell (Nat.le_refl _) _).setCell (Nat.le_refl _) _⟩
 ·rw [World.cell?_setCell_other _ _ _ _ (fun e => by injection e; omega)]
  exact World.cell?_setCell_same _ ⟨bx, 0, none⟩ _ e0
 ·rw [World.frozen?_setCell, World.frozen?_setCell]; exact ((bcell n1).2 bx o hb).trans (hf o)
 ·have : w.heap.size = b := by simpa [Value.ownBlock] using e
  exact ⟨fun e3 => by have := (OwnQ.lt h.own b e3).2; omega, fun i hi e3 => by have := (OwnQ.lt (h.pts i hi) b e3).2; omega⟩
def Bs (b : Nat) (x y : Value) (w : World) : Prop := w.cell? ⟨b, 0, none⟩ = some x ∧ w.cell? ⟨b, 1, none⟩ = some y
theorem Bs.nw {b : Nat} {x y : Value} {w w' : World} (h : Bs b x y w) (k : Nw w w') : Bs b x y w' := by
 have hb := World.block_lt_of_cell? w ⟨b, 0, none⟩ h.1
 exact ⟨((bcell k).1 b 0 hb).trans h.1, ((bcell k).1 b 1 hb).trans h.2⟩
theorem Bs.new (w : World) (x y : Value) (t : TypeId) : Bs w.heap.size x y (w.alloc (.cells #[x, y] t)) :=
 ⟨by rw [World.cell?_alloc_at _ _ _ _ rfl]; rfl, by rw [World.cell?_alloc_at _ _ _ _ rfl]; rfl⟩
theorem Bs.lt {b : Nat} {x y : Value} {w : World} (h : Bs b x y w) : b < w.heap.size := World.block_lt_of_cell? w ⟨b, 0, none⟩ h.1
theorem Bs.ext {b : Nat} {x y v v' : Value} {w w' : World} (h : Bs b x y w) (k : Ext v v' w w') (hne : v.ownBlock ≠ some b) : Bs b x y w' :=
 ⟨(Ext.cell k h.lt hne 0).trans h.1, (Ext.cell k h.lt hne 1).trans h.2⟩
theorem Bs.set {b c o : Nat} {x y z : Value} {w : World} (h : Bs b x y w) (hne : c ≠ b) : Bs b x y (w.setCell ⟨c, o, none⟩ z) :=
 ⟨by rw [World.cell?_setCell_other _ _ _ _ (fun e => by injection e; omega)]; exact h.1, by rw [World.cell?_setCell_other _ _ _ _ (fun e => by injection e; omega)]; exact h.2⟩
end Go.Proofs.Ytdjemnbdaddegaa

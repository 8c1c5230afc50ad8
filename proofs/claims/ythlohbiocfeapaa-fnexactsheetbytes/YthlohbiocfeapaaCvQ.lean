/-
  A sheet in a variable, to whose tints is appended; what the laying of sheets answers; each theorem names its conditions.
-/
import Derived.Test.YthlohbiocfeapaaSh
import Derived.Test.YthlohbiocfeapaaExt
import Derived.Test.YthlohbiocfeapaaMsk
namespace Go.Proofs.Ythlohbiocfeapaa
open Go.ChangeShapes Go.WideShapes Go.ChangeAt Go.RowKit
set_option linter.unusedVariables false

theorem kpq {w w' : World} {b o : Nat} {v : Value} (k : Kp w w') (h : w.cell? ⟨b, o, none⟩ = some v) : w'.cell? ⟨b, o, none⟩ = some v := (k.cells.1 b o (World.block_lt_of_cell? w ⟨b, o, none⟩ h)).trans h
/-- A sheet in the block bx: tints of the call's own, which lie behind it. -/
structure CvQ (bx : Nat) (w : World) (p : MD) (v : Value) (l : List Edg) : Prop where
  c0 : w.cell? ⟨bx, 0, none⟩ = some (.int .i64 p.w)
  c1 : w.cell? ⟨bx, 1, none⟩ = some (.int .i64 p.h)
  c2 : w.cell? ⟨bx, 2, none⟩ = some v
  free : ∀ o, w.frozen? ⟨bx, o, none⟩ = false
  own : OwnE 24 w (bx + 1) v l
theorem CvQ.lt {bx : Nat} {w : World} {p : MD} {v : Value} {l : List Edg} (h : CvQ bx w p v l) : bx < w.heap.size := World.block_lt_of_cell? w ⟨bx, 0, none⟩ h.c0
theorem CvQ.nw {bx : Nat} {w w' : World} {p : MD} {v : Value} {l : List Edg} (h : CvQ bx w p v l) (k : Nw w w') : CvQ bx w' p v l :=
  ⟨((bcell k).1 _ _ h.lt).trans h.c0, ((bcell k).1 _ _ h.lt).trans h.c1, ((bcell k).1 _ _ h.lt).trans h.c2, fun o => ((bcell k).2 _ _ h.lt).trans (h.free o), h.own.nw k⟩
theorem CvQ.new (w : World) (t : TypeId) (p : MD) : CvQ w.heap.size (w.alloc (.cells #[.int .i64 p.w, .int .i64 p.h, .slice none 0 0] t)) p (.slice none 0 0) [] :=
  ⟨by simp, by simp, by simp, fun o => World.frozen?_alloc_at _ _ _ _ rfl, OwnE.nil _ _ _⟩
theorem CvQ.ne {bx : Nat} {w : World} {p : MD} {v : Value} {l : List Edg} (h : CvQ bx w p v l) : v.ownBlock ≠ some bx := fun e => by
  have := (OwnE.lt h.own bx e).1
  omega
theorem CvQ.there {bx : Nat} {w w' : World} {p : MD} {v v' : Value} {l : List Edg} (h : CvQ bx w p v l) (k : Ext v v' w w') : w'.cell? ⟨bx, 2, none⟩ = some v ∧ ∀ o, w'.frozen? ⟨bx, o, none⟩ = false :=
  ⟨(Ext.cell k h.lt h.ne 2).trans h.c2, fun o => (World.frozen?_of_block (w := w) (a := ⟨bx, o, none⟩) (k.1.block bx h.lt (fun e => h.ne e.symm))).trans (h.free o)⟩
theorem OwnE.far {T : TypeId} {w : World} {B : Nat} {v : Value} {l : List Edg} (h : OwnE T w B v l) (b o : Nat) (u : Value) (hne : v.ownBlock ≠ some b) : OwnE T (w.setCell ⟨b, o, none⟩ u) B v l :=
  World.ownsRow.kept h set_grown (Or.inr hne)
theorem OwnE.base {T : TypeId} {w : World} {B B' : Nat} {v : Value} {l : List Edg} (h : OwnE T w B v l) (hB : B' ≤ B) : OwnE T w B' v l := by
  refine ⟨h.1, ?_⟩
  rcases h.2 with h2 | ⟨g, cap, cur, h1, h2, h3⟩
  · exact Or.inl h2
  · exact Or.inr ⟨g, cap, cur, h1, Nat.le_trans hB h2, h3⟩
theorem CvQ.put {bx : Nat} {w w' : World} {p : MD} {v v' : Value} {l l' : List Edg} (h : CvQ bx w p v l) (k : Ext v v' w w') (ho : OwnE 24 w' (bx + 1) v' l') : CvQ bx (w'.setCell ⟨bx, 2, none⟩ v') p v' l' ∧ Below bx w (w'.setCell ⟨bx, 2, none⟩ v') := by
  have hb := h.lt
  have hne2 : v'.ownBlock ≠ some bx := Ext.apart k hb h.ne
  obtain ⟨t0, tf⟩ := h.there k
  refine ⟨⟨?_, ?_, World.cell?_setCell_same w' ⟨bx, 2, none⟩ _ t0, fun o => by rw [World.frozen?_setCell]; exact tf o, OwnE.far ho bx 2 _ hne2⟩, ?_⟩
  · rw [World.cell?_setCell_other _ _ _ _ (fun e => by injection e; omega)]
    exact (Ext.cell k hb h.ne 0).trans h.c0
  · rw [World.cell?_setCell_other _ _ _ _ (fun e => by injection e; omega)]
    exact (Ext.cell k hb h.ne 1).trans h.c1
  · exact (k.below (fun g e => Nat.le_of_succ_le (OwnE.lt h.own g e).1) (by omega)).setCell (Nat.le_refl _) _
/-- Tints of an answer: nil, or in a block of their own from B on. -/
def FrQ (w : World) (B : Nat) (v : Value) (l : List Edg) : Prop := NumQ w v l ∧ ∀ b, v.ownBlock = some b → B ≤ b
theorem OwnE.fr {T : TypeId} {w : World} {B : Nat} {v : Value} {l : List Edg} (h : OwnE T w B v l) : FrQ w B v l := ⟨h.num, fun b e => (OwnE.lt h b e).1⟩
theorem FrQ.nw {w w' : World} {B : Nat} {v : Value} {l : List Edg} (h : FrQ w B v l) (k : Nw w w') : FrQ w' B v l := ⟨h.1.nw k, h.2⟩
theorem FrQ.slice {w : World} {B : Nat} {v : Value} {l : List Edg} (h : FrQ w B v l) : ∃ a n c, v = .slice a n c := by
  rcases h.1 with ⟨rfl, _⟩ | ⟨g, c, rfl, _⟩
  · exact ⟨_, _, _, rfl⟩
  · exact ⟨_, _, _, rfl⟩
theorem FrQ.far {w : World} {B : Nat} {v : Value} {l : List Edg} (h : FrQ w B v l) (b o : Nat) (u : Value) (hb : b < B) : FrQ (w.setCell ⟨b, o, none⟩ u) B v l := by
  refine ⟨?_, h.2⟩
  rcases h.1 with h1 | ⟨g, c, h1, h2⟩
  · exact Or.inl h1
  · refine Or.inr ⟨g, c, h1, h2.off b o u ?_⟩
    have := h.2 g (by rw [h1]; rfl)
    omega
theorem FrQ.nil (w : World) (B : Nat) : FrQ w B (.slice none 0 0) [] := ⟨Or.inl ⟨rfl, rfl⟩, fun b e => by cases e⟩
/-- What LaySheet answers. -/
def lyF (l1 l2 : List Edg) (p : Int) (i : Nat) : Edg := overT (thinT (edAt l2 i) p) (edAt l1 i)
def lyL (l1 l2 : List Edg) (p : Int) (k : Nat) : List Edg := (List.range k).map (lyF l1 l2 p)
def lyB (d e : MD) (l1 l2 : List Edg) (p : Int) : Bool := shB d l1 && (shB e l2 && (decide (d.w = e.w) && (decide (d.h = e.h) && inN p 0 256)))
def lyD (d e : MD) (l1 l2 : List Edg) (p : Int) : MD := if lyB d e l1 l2 p then d else ⟨0, 0⟩
def lyR (d e : MD) (l1 l2 : List Edg) (p : Int) : List Edg := if lyB d e l1 l2 p then lyL l1 l2 p l1.length else []
/-- What PaintMask answers. -/
def pmF (l1 : List Edg) (m : List Int) (t : Edg) (i : Nat) : Edg := overT (thinT t (16 * intAt m i)) (edAt l1 i)
def pmL (l1 : List Edg) (m : List Int) (t : Edg) (k : Nat) : List Edg := (List.range k).map (pmF l1 m t)
def pmB (d e : MD) (l1 : List Edg) (m : List Int) (t : Edg) : Bool := shB d l1 && (mskB e m && (decide (d.w = e.w) && (decide (d.h = e.h) && tnB t)))
def pmD (d e : MD) (l1 : List Edg) (m : List Int) (t : Edg) : MD := if pmB d e l1 m t then d else ⟨0, 0⟩
def pmR (d e : MD) (l1 : List Edg) (m : List Int) (t : Edg) : List Edg := if pmB d e l1 m t then pmL l1 m t l1.length else []
theorem lyL_len (l1 l2 : List Edg) (p : Int) (k : Nat) : (lyL l1 l2 p k).length = k := by simp [lyL]
theorem lyL_step (l1 l2 : List Edg) (p : Int) (k : Nat) : lyL l1 l2 p (k + 1) = lyL l1 l2 p k ++ [lyF l1 l2 p k] := by simp [lyL, List.range_succ]
theorem pmL_len (l1 : List Edg) (m : List Int) (t : Edg) (k : Nat) : (pmL l1 m t k).length = k := by simp [pmL]
theorem pmL_step (l1 : List Edg) (m : List Int) (t : Edg) (k : Nat) : pmL l1 m t (k + 1) = pmL l1 m t k ++ [pmF l1 m t k] := by simp [pmL, List.range_succ]
theorem ok8_of {t : Edg} (h : tnB t = true) : ok8 t.ax ∧ ok8 t.ay ∧ ok8 t.bx ∧ ok8 t.cy := tnB_some h
theorem ok8_thin {t : Edg} {p : Int} (h : ok8 t.ax ∧ ok8 t.ay ∧ ok8 t.bx ∧ ok8 t.cy) (hp : 0 ≤ p ∧ p ≤ 256) : ok8 (thinT t p).ax ∧ ok8 (thinT t p).ay ∧ ok8 (thinT t p).bx ∧ ok8 (thinT t p).cy :=
  ⟨(thin_f h.1 hp).2.2.2, (thin_f h.2.1 hp).2.2.2, (thin_f h.2.2.1 hp).2.2.2, (thin_f h.2.2.2 hp).2.2.2⟩
end Go.Proofs.Ythlohbiocfeapaa

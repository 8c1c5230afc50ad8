/-
  Boxes of two cells that a call has made, later on; each theorem names its conditions.
-/
import Derived.Test.YtfdjjbgcaojcnaaMkl
namespace Go.Proofs.Ytfdjjbgcaojcnaa
open Go.ChangeShapes Go.WideShapes Go.ChangeAt Go.RowKit
set_option linter.unusedVariables false

/-- A box of two values made at the beginning, later on. -/
theorem box2 {x y : Value} {t : TypeId} (w wr : World) (k : Kp (w.alloc (.cells #[x, y] t)) wr) :
    wr.cell? ⟨w.heap.size, 0, none⟩ = some x ∧ wr.cell? ⟨w.heap.size, 1, none⟩ = some y ∧ (∀ o, wr.frozen? ⟨w.heap.size, o, none⟩ = false) ∧ w.heap.size < wr.heap.size := by
  have hs : w.heap.size < (w.alloc (.cells #[x, y] t)).heap.size := by simp
  refine ⟨(k.cells.1 _ _ hs).trans (by simp), (k.cells.1 _ _ hs).trans (by simp), fun o => (k.cells.2 _ _).trans (World.frozen?_alloc_at _ _ _ _ rfl), Nat.lt_of_lt_of_le hs k.size⟩
theorem zbox (w wr : World) (t : TypeId) (k : Kp (w.alloc (.cells #[.int .i64 0, .int .i64 0] t)) wr) :
    wr.cell? ⟨w.heap.size, 0, none⟩ = some (.int .i64 0) ∧ wr.cell? ⟨w.heap.size, 1, none⟩ = some (.int .i64 0) ∧ (∀ o, wr.frozen? ⟨w.heap.size, o, none⟩ = false) ∧ w.heap.size < wr.heap.size := box2 w wr k
/-- The same where nothing that was there is written. -/
theorem nbox2 {x y : Value} {t : TypeId} (w wr : World) (k : Nw (w.alloc (.cells #[x, y] t)) wr) :
    wr.cell? ⟨w.heap.size, 0, none⟩ = some x ∧ wr.cell? ⟨w.heap.size, 1, none⟩ = some y ∧ (∀ o, wr.frozen? ⟨w.heap.size, o, none⟩ = false) ∧ w.heap.size < wr.heap.size := by
  have hs : w.heap.size < (w.alloc (.cells #[x, y] t)).heap.size := by simp
  refine ⟨((bcell k).1 _ _ hs).trans (by simp), ((bcell k).1 _ _ hs).trans (by simp), fun o => ((bcell k).2 _ _ hs).trans (World.frozen?_alloc_at _ _ _ _ rfl), Nat.lt_of_lt_of_le hs (Below.size k)⟩
theorem kp_box {w wr : World} {o : Array Value} {t : TypeId} (k : Kp (w.alloc (.cells o t)) wr) : Kp w wr := Kp.trans ((Kp.refl w).alloc _ _) k
theorem nw_box {w wr : World} {o : Array Value} {t : TypeId} (k : Nw (w.alloc (.cells o t)) wr) : Nw w wr := Nw.trans ((Below.refl _ _).alloc (Nat.le_refl _) _) k
theorem set2 (w : World) (g : Nat) (x y : Value) {u v : Value} (h0 : w.cell? ⟨g, 0, none⟩ = some u) (h1 : w.cell? ⟨g, 1, none⟩ = some v) :
    ((w.setCell ⟨g, 0, none⟩ x).setCell ⟨g, 1, none⟩ y).cell? ⟨g, 0, none⟩ = some x ∧ ((w.setCell ⟨g, 0, none⟩ x).setCell ⟨g, 1, none⟩ y).cell? ⟨g, 1, none⟩ = some y := by
  refine ⟨?_, World.cell?_setCell_same _ ⟨g, 1, none⟩ _ ((World.cell?_setCell_other _ _ _ _ (fun h => by injection h; omega)).trans h1)⟩
  rw [World.cell?_setCell_other _ _ _ _ (fun h => by injection h; omega)]
  exact World.cell?_setCell_same w ⟨g, 0, none⟩ _ h0
end Go.Proofs.Ytfdjjbgcaojcnaa

/-
  A struct of two numbers and a slice (a mask, a sheet) in a block; each theorem names its conditions.
-/
import Derived.Test.YthlohbiocfeapaaMkl
namespace Go.Proofs.Ythlohbiocfeapaa
open Go.ChangeShapes Go.WideShapes Go.ChangeAt Go.RowKit
set_option linter.unusedVariables false

/-- A mask's sides. -/
structure MD where
  w : Int
  h : Int
abbrev mskV (p : MD) (v : Value) : Value := .agg #[.int .i64 p.w, .int .i64 p.h, v]
abbrev mskC (p : MD) (v : Value) : Array Value := #[.int .i64 p.w, .int .i64 p.h, v]
/-- A mask in a block. -/
structure MB (w : World) (b : Nat) (p : MD) (v : Value) : Prop where
  c0 : w.cell? ⟨b, 0, none⟩ = some (.int .i64 p.w)
  c1 : w.cell? ⟨b, 1, none⟩ = some (.int .i64 p.h)
  c2 : w.cell? ⟨b, 2, none⟩ = some v
theorem MB.nw {w w' : World} {b : Nat} {p : MD} {v : Value} (h : MB w b p v) (k : Nw w w') : MB w' b p v := by
  have e : ∀ o, w'.cell? ⟨b, o, none⟩ = w.cell? ⟨b, o, none⟩ := fun o => (bcell k).1 _ _ (World.block_lt_of_cell? w ⟨b, 0, none⟩ h.c0)
  exact ⟨(e _).trans h.c0, (e _).trans h.c1, (e _).trans h.c2⟩
theorem MB.new (w : World) (p : MD) (v : Value) (t : TypeId) : MB (w.alloc (.cells (mskC p v) t)) w.heap.size p v := by
  refine ⟨?_, ?_, ?_⟩ <;> simp
theorem MB.grown {w w' : World} {b : Nat} {p : MD} {v : Value} {r : Option Nat} (h : MB w b p v) (k : w.grownBy w' r) (hne : some b ≠ r) : MB w' b p v := by
  have hb := World.block_lt_of_cell? w ⟨b, 0, none⟩ h.c0
  have e : ∀ o, w'.cell? ⟨b, o, none⟩ = w.cell? ⟨b, o, none⟩ := fun o => World.cell?_of_block (w := w) (a := ⟨b, o, none⟩) (k.block b hb hne)
  exact ⟨(e _).trans h.c0, (e _).trans h.c1, (e _).trans h.c2⟩
theorem gr_below {a w w' : World} {B : Nat} {r : Option Nat} (h : Below B a w) (k : w.grownBy w' r) (hg : ∀ g, r = some g → B ≤ g) (hB : B ≤ w.heap.size) : Below B a w' :=
  Below.trans h ⟨k.os, k.tape, k.output, k.size, fun i hi => k.block i (by omega) (fun e => by have := hg i e.symm; omega)⟩
theorem gr_alloc1 {w : World} {r : Option Nat} (o : Obj) : w.grownBy (w.alloc o) r := ⟨rfl, rfl, rfl, by simp, fun i hi _ => Below.block ((Below.refl w.heap.size w).alloc (Nat.le_refl _) o) i hi⟩
theorem gr_nw {a b : World} (k : Nw a b) (r : Option Nat) : a.grownBy b r := ⟨Below.os k, Below.tape k, Below.output k, Below.size k, fun i hi _ => Below.block k i hi⟩
theorem gr_trans {a b c : World} {r : Option Nat} (h : a.grownBy b r) (k : b.grownBy c r) : a.grownBy c r :=
  ⟨k.os.trans h.os, k.tape.trans h.tape, k.output.trans h.output, Nat.le_trans h.size k.size, fun i hi hne => (k.block i (Nat.lt_of_lt_of_le hi h.size) hne).trans (h.block i hi hne)⟩
theorem set3 (w : World) (b : Nat) (u0 u1 u2 : Value) {v0 v1 v2 : Value} (z0 : w.cell? ⟨b, 0, none⟩ = some v0) (z1 : w.cell? ⟨b, 1, none⟩ = some v1) (z2 : w.cell? ⟨b, 2, none⟩ = some v2) :
    (((w.setCell ⟨b, 0, none⟩ u0).setCell ⟨b, 1, none⟩ u1).setCell ⟨b, 2, none⟩ u2).cell? ⟨b, 0, none⟩ = some u0 ∧ (((w.setCell ⟨b, 0, none⟩ u0).setCell ⟨b, 1, none⟩ u1).setCell ⟨b, 2, none⟩ u2).cell? ⟨b, 1, none⟩ = some u1 ∧ (((w.setCell ⟨b, 0, none⟩ u0).setCell ⟨b, 1, none⟩ u1).setCell ⟨b, 2, none⟩ u2).cell? ⟨b, 2, none⟩ = some u2 := by
  have far : ∀ (w : World) (o o' : Nat) (u : Value), o ≠ o' → (w.setCell ⟨b, o, none⟩ u).cell? ⟨b, o', none⟩ = w.cell? ⟨b, o', none⟩ := fun w o o' u h => World.cell?_setCell_other _ _ _ _ (fun e => by injection e; omega)
  refine ⟨?_, ?_, ?_⟩
  · rw [far _ 2 0 _ (by omega), far _ 1 0 _ (by omega)]
    exact World.cell?_setCell_same w ⟨b, 0, none⟩ _ z0
  · rw [far _ 2 1 _ (by omega)]
    exact World.cell?_setCell_same _ ⟨b, 1, none⟩ _ ((far _ 0 1 _ (by omega)).trans z1)
  · exact World.cell?_setCell_same _ ⟨b, 2, none⟩ _ ((far _ 1 2 _ (by omega)).trans ((far _ 0 2 _ (by omega)).trans z2))
theorem mskV_cells (p : MD) (sa : Option Addr) (sn sc : Nat) : (mskV p (.slice sa sn sc)).cells = #[.int .i64 p.w, .int .i64 p.h, .slice sa sn sc] := rfl
theorem MB.of {w : World} {b : Nat} {p : MD} {sa : Option Addr} {sn sc : Nat} (h : ∀ j, j < 3 → w.cell? ⟨b, j, none⟩ = (mskV p (.slice sa sn sc)).cells[j]?) : MB w b p (.slice sa sn sc) := by
  rw [mskV_cells] at h
  exact ⟨h 0 (by decide), h 1 (by decide), h 2 (by decide)⟩
end Go.Proofs.Ythlohbiocfeapaa

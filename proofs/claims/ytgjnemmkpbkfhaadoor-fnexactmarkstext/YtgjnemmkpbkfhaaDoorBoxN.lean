/-
  A node in a block of its own; each theorem names its conditions.
-/
import Derived.Test.YtgjnemmkpbkfhaaDoorMkP
namespace Go.Proofs.YtgjnemmkpbkfhaaDoor
open Go.ChangeShapes Go.WideShapes Go.ChangeAt Go.RowKit
set_option linter.unusedVariables false

/-- A node lies in the block b. -/
structure BoxN (w : World) (b : Nat) (name : ByteArray) (up : Int) (v : Value) (text : ByteArray) : Prop where
  lt : b < w.heap.size
  c0 : w.cell? ⟨b, 0, none⟩ = some (.string name)
  c1 : w.cell? ⟨b, 1, none⟩ = some (.int .i64 up)
  c2 : w.cell? ⟨b, 2, none⟩ = some v
  c3 : w.cell? ⟨b, 3, none⟩ = some (.string text)
theorem BoxN.nw {w w' : World} {b : Nat} {name : ByteArray} {up : Int} {v : Value} {text : ByteArray} (h : BoxN w b name up v text) (k : Nw w w') : BoxN w' b name up v text :=
  ⟨Nat.lt_of_lt_of_le h.lt (Below.size k), ((bcell k).1 _ _ h.lt).trans h.c0, ((bcell k).1 _ _ h.lt).trans h.c1, ((bcell k).1 _ _ h.lt).trans h.c2, ((bcell k).1 _ _ h.lt).trans h.c3⟩
theorem BoxN.new (w : World) (name : ByteArray) (up : Int) (v : Value) (text : ByteArray) (t : TypeId) : BoxN (w.alloc (.cells #[.string name, .int .i64 up, v, .string text] t)) w.heap.size name up v text :=
  ⟨by simp, by simp, by simp, by simp, by simp⟩
theorem bulk2_at (l : List Pair) (k : Nat) (h : k < l.length) : (pairAt l k).1.size + (pairAt l k).2.size ≤ bulk2 l := by
  have h1 := bulk2_step l k h
  have h2 := bulk2_le l (k + 1)
  omega
end Go.Proofs.YtgjnemmkpbkfhaaDoor

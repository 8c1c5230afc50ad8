/-
  What a call has answered that made a list of bytes by appending; each theorem names its conditions.
-/
import Derived.Test.YteehoihkbcbbgaaDoorSink
import Derived.Test.YteehoihkbcbbgaaDoorLow
namespace Go.Proofs.YteehoihkbcbbgaaDoor
open Go.ChangeShapes Go.WideShapes Go.ChangeAt Go.RowKit
set_option linter.unusedVariables false

/-- A list of the call's own with these bytes has been answered, and nothing that was there is written. -/
def Gave (W w' : World) (g : Nat) (bs : List Nat) (cap : Nat) : Prop :=
  Below W.heap.size W w' ∧ W.heap.size ≤ g ∧ w'.ownsRow W.heap.size 5 1 (.slice (some ⟨g, 0, none⟩) bs.length cap) bs.length (bc bs)
theorem At.gave {W w' : World} {g cap : Nat} {bs : List Nat} (h : Gave W w' g bs cap) : At w' g (ints bs) := by
  obtain ⟨h1, h2, h3⟩ := h
  refine ⟨(h3.lt g rfl).2, fun i hi => ?_, fun o => h3.frozenAt o⟩
  rw [ints_len] at hi
  rw [Nat.zero_add, h3.cellAt i (by omega), ints_get]
  simp [bc, hi]

end Go.Proofs.YteehoihkbcbbgaaDoor

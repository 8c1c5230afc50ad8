/-
  Numbers that lie from an address on; each theorem names its conditions.
-/
import Derived.Test.YthlohbiocfeapaaLow
namespace Go.Proofs.Ythlohbiocfeapaa
open Go.ChangeShapes Go.WideShapes Go.ChangeAt Go.RowKit
set_option linter.unusedVariables false

/-- The numbers zs lie from ⟨b, off⟩ on. -/
def Lie (w : World) (b off : Nat) (zs : List Int) : Prop := b < w.heap.size ∧ ∀ i, i < zs.length → w.cell? ⟨b, off + i, none⟩ = some (.int .u8 (zs.getD i 0))
theorem Lie.below {w w' : World} {b off B : Nat} {zs : List Int} (h : Lie w b off zs) (k : Below B w w') (hb : b < B) : Lie w' b off zs :=
  ⟨Nat.lt_of_lt_of_le h.1 k.size, fun i hi => (k.cell (p := ⟨b, off + i, none⟩) hb).trans (h.2 i hi)⟩
end Go.Proofs.Ythlohbiocfeapaa

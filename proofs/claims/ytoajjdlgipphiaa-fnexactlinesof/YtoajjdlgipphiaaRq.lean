/-
  Small facts for regions that draw their order and leave the boxes that they read as they are; each theorem names its conditions.
-/
import Derived.Test.YtoajjdlgipphiaaBx
import Derived.Test.YtoajjdlgipphiaaRg2
namespace Go.Proofs.Ytoajjdlgipphiaa
open Go.ChangeShapes Go.WideShapes Go.ChangeAt Go.RowKit
set_option linter.unusedVariables false

theorem rq_at {W w : World} {b o : Nat} {v : Value} (k : Kp W w) (h : W.cell? ⟨b, o, none⟩ = some v) : w.cell? ⟨b, o, none⟩ = some v := (k.cells.1 _ _ (World.block_lt_of_cell? W ⟨b, o, none⟩ h)).trans h
theorem rq_set2 (w : World) (g : Nat) (x y : Value) {u v : Value} (h0 : w.cell? ⟨g, 0, none⟩ = some u) (h1 : w.cell? ⟨g, 1, none⟩ = some v) :
    ((w.setCell ⟨g, 0, none⟩ x).setCell ⟨g, 1, none⟩ y).cell? ⟨g, 0, none⟩ = some x ∧ ((w.setCell ⟨g, 0, none⟩ x).setCell ⟨g, 1, none⟩ y).cell? ⟨g, 1, none⟩ = some y := set2 w g x y h0 h1
theorem undrew {w w' : World} (h : Kp w.drew w') : Kp w w' := Kp.trans ((Kp.refl w).drew) h
end Go.Proofs.Ytoajjdlgipphiaa

/-
  RectOf of the specification; each theorem names its conditions.
-/
import Derived.Test.YtmojppchpeecmaaRc
import Derived.Test.YtmojppchpeecmaaSEl
namespace Go.Proofs.Ytmojppchpeecmaa
open Go.ChangeShapes Go.WideShapes Go.ChangeAt Go.RowKit
set_option linter.unusedVariables false

theorem LieP.put {w w' : World} {v v' u : Value} {b bx o : Nat} {l : List Pnt} (h : LieP w b 0 l) (k : Ext v v' w w') (hne : v.ownBlock ≠ some b) (hbx : b ≠ bx) : LieP (w'.setCell ⟨bx, o, none⟩ u) b 0 l := by
  refine ⟨Nat.lt_of_lt_of_le h.1 (by simpa [World.setCell] using k.size), fun i hi => ?_⟩
  have e : ∀ x, (w'.setCell ⟨bx, o, none⟩ u).cell? ⟨b, x, none⟩ = w.cell? ⟨b, x, none⟩ := fun x => by
    rw [World.cell?_setCell_other _ _ _ _ (fun e => by injection e; omega)]
    exact Ext.cell k h.1 hne x
  exact ⟨(e _).trans (h.2 i hi).1, (e _).trans (h.2 i hi).2⟩
theorem LieP.at0 {w : World} {b : Nat} {x y : Int} (h : LieP w b 0 [(x, y)]) : w.cell? ⟨b, 0, none⟩ = some (.int .i64 x) ∧ w.cell? ⟨b, 1, none⟩ = some (.int .i64 y) := by
  have := h.2 0 (by simp)
  simpa [ptAt] using this
def midsP (x y wide high r : Int) : List Pnt := [(x + wide - r, y + high - r), (x + r, y + high - r), (x + r, y + r), (x + wide - r, y + r)]
theorem liep_four (w : World) (p0 p1 p2 p3 : Pnt) (t : TypeId) : LieP (w.alloc (.cells #[.int .i64 p0.1, .int .i64 p0.2, .int .i64 p1.1, .int .i64 p1.2, .int .i64 p2.1, .int .i64 p2.2, .int .i64 p3.1, .int .i64 p3.2] t)) w.heap.size 0 [p0, p1, p2, p3] := by
  refine ⟨by simp, fun i hi => ?_⟩
  have : i = 0 ∨ i = 1 ∨ i = 2 ∨ i = 3 := by simp at hi; omega
  rcases this with rfl | rfl | rfl | rfl <;> simp [ptAt]
theorem roundsP_zero (cx cy rx ry : Int) (f : Nat) : roundsP cx cy rx ry f 0 = [] := rfl
/-- The cut radius as the specification comes to it. -/
theorem scut (wide high r : Int) (h2 : 0 ≤ wide) (h3 : 0 ≤ high) (h4 : 0 ≤ r) : (if high / 2 < (if wide / 2 < r then wide / 2 else r) then high / 2 else (if wide / 2 < r then wide / 2 else r)) = cutR wide high r := by unfold cutR; omega
/-- The line in its box, held against the bounds, and answered. -/
theorem goodL_one {L : List Pnt} {ok : Bool} (h : L.length ≤ 600) (hok : ptsB L = ok) : goodL [⟨L, true⟩] = ok := by
  unfold goodL fixL manyL
  simp [h, hok]
end Go.Proofs.Ytmojppchpeecmaa

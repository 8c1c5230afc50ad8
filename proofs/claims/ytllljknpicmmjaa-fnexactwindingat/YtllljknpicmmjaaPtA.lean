/-
  A point of a row of points; each theorem names its conditions.
-/
import Derived.Test.YtllljknpicmmjaaPt
namespace Go.Proofs.Ytllljknpicmmjaa
open Go.ChangeShapes Go.WideShapes Go.ChangeAt Go.RowKit
set_option linter.unusedVariables false

theorem pts_at {w : World} {gp off : Nat} {ps : List Pnt} (h : Pts w (some ⟨gp, off, none⟩) ps) {i : Nat} (hi : i < ps.length) : w.cell? ⟨gp, off + i * 2, none⟩ = some (.int .i64 (ptAt ps i).1) ∧ w.cell? ⟨gp, off + i * 2 + 1, none⟩ = some (.int .i64 (ptAt ps i).2) := by
  rcases h with h | ⟨b, o, e, _, hc⟩
  · rw [h] at hi; simp at hi
  · injection e with e; injection e with e1 e2
    subst e1 e2
    exact hc i hi
theorem pts_some {w : World} {pa : Option Addr} {ps : List Pnt} (h : Pts w pa ps) (hi : 0 < ps.length) : ∃ gp off, pa = some ⟨gp, off, none⟩ := by
  rcases h with h | ⟨b, o, e, _, hc⟩
  · rw [h] at hi; simp at hi
  · exact ⟨b, o, e⟩
end Go.Proofs.Ytllljknpicmmjaa

/-
  Selectors of a bounded size have small parts; no condition but those of each line.
-/
import Derived.Test.YtaeepbjdhcbofaaDoorSel
namespace Go.Proofs.YtaeepbjdhcbofaaDoor
open Go.ChangeShapes Go.WideShapes Go.ChangeAt Go.RowKit
set_option linter.unusedVariables false

theorem bulkPs_at (l : List PD) (k : Nat) (h : k < l.length) : bulkP (partAt l k) ≤ bulkPs l := by
  have h1 := bulkPs_step l k h
  have h2 := bulkPs_le l (k + 1)
  omega
theorem smallPs_of {l : List PD} (hb : ((l.length + bulkPs l : Nat) : Int) ≤ 1048576) : smallPs l ∧ lenPs l := by
  have key : ∀ i, i < l.length → smallP (partAt l i) := by
    intro i hi
    have h1 := bulkPs_at l i hi
    unfold bulkP at h1
    refine ⟨by omega, by omega, by omega, fun k hk => ?_⟩
    have h3 := bulk1_step (partAt l i).cls k hk
    have h4 := bulk1_le (partAt l i).cls (k + 1)
    omega
  exact ⟨key, fun i hi => (key i hi).len⟩
end Go.Proofs.YtaeepbjdhcbofaaDoor

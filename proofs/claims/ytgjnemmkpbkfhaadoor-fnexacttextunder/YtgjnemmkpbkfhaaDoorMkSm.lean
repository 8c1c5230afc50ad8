/-
  Nodes whose bulk is small have small parts; each theorem names its conditions.
-/
import Derived.Test.YtgjnemmkpbkfhaaDoorMkGood
import Derived.Test.YtgjnemmkpbkfhaaDoorMkE
namespace Go.Proofs.YtgjnemmkpbkfhaaDoor
open Go.ChangeShapes Go.WideShapes Go.ChangeAt Go.RowKit
set_option linter.unusedVariables false

theorem bulkL_at (l : List ND) (k : Nat) (h : k < l.length) : bulkN (nodeAt l k) ≤ bulkL l := by
  have h1 := bulkL_step l k h
  have h2 := bulkL_le l (k + 1)
  omega
theorem small_of {l : List ND} (ho : okAll l) (hb : ((l.length + bulkL l : Nat) : Int) ≤ 1048576) : Small l ∧ lenOk l := by
  have key : ∀ i, i < l.length → smallN (nodeAt l i) := by
    intro i hi
    have h1 := bulkL_at l i hi
    have ok := ho i hi
    unfold bulkN at h1
    refine ⟨by omega, by omega, by omega, fun k hk => ?_, ok.up⟩
    have h3 := bulk2_step (nodeAt l i).attrs k hk
    have h4 := bulk2_le (nodeAt l i).attrs (k + 1)
    omega
  exact ⟨key, fun i hi => (key i hi).len⟩
end Go.Proofs.YtgjnemmkpbkfhaaDoor

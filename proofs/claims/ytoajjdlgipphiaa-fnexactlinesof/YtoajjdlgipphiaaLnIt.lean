/-
  Lines with the values that hold their points; each theorem names its conditions.
-/
import Derived.Test.YtoajjdlgipphiaaLnM
namespace Go.Proofs.Ytoajjdlgipphiaa
open Go.ChangeShapes Go.WideShapes Go.ChangeAt Go.RowKit
set_option linter.unusedVariables false

/-- Lines, each with what holds its points. -/
abbrev Its := List (Value × LD)
def itAt (it : Its) (i : Nat) : Value × LD := it.getD i (undef, noLD)
theorem ld_at (it : Its) (i : Nat) (h : i < it.length) : lnAt (it.map (·.2)) i = (itAt it i).2 := by simp [lnAt, itAt, h]
def vsOf (it : Its) : List Value := it.map (·.1)
def nsOf (it : Its) : List Nat := it.map fun p => p.2.pts.length
theorem vsOf_at (it : Its) (i : Nat) (h : i < it.length) : vAt (vsOf it) i = (itAt it i).1 := by simp [vAt, vsOf, itAt, h]
theorem nsOf_at (it : Its) (i : Nat) (h : i < it.length) : nAt (nsOf it) i = (itAt it i).2.pts.length := by simp [nAt, nsOf, itAt, h]
theorem info_line : (Try.prog.info? 32).map (fun i => (i.zero, i.size, i.bytes)) = some (some (.agg #[.slice none 0 0, .bool false]), 2, 32) := by kernel_rfl
theorem itAt_old (it : Its) (x : Value × LD) (i : Nat) (h : i < it.length) : itAt (it ++ [x]) i = itAt it i := by simp [itAt, List.getElem?_append, h]
theorem itAt_new (it : Its) (x : Value × LD) : itAt (it ++ [x]) it.length = x := by simp [itAt]
end Go.Proofs.Ytoajjdlgipphiaa

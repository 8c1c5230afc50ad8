/-
  No cell of these rows narrows 'for every input' (looked for: loops, veiled, ifaces, maps, wideKeys, modest, calm, conditions, laid).
  DERIVED. THE GIVEN ROWS OF THIS SEAT. 5 by the template 'for every input the law returns true; each argument reads behind the call as it read before'; 0 by the template 'total and deterministic' (their statements: YteehoihkbcbbgaaTotals.lean).
  GIVEN WITH THE SEED: the statements are not yours to turn. If you find one false, say at which input.
  Laid BY PROGRAM, IN A SANDBOX (cutbox-rows.mjs): the forced cells as the released guide's own fill.sh prints them over the translation 65727a80419db556… (all of the seat's roots in one cut). By AI agents, Wed Nov 11 2026. No macro, syntax, notation, axiom, sorry.
-/
import Derived.Test.YteehoihkbcbbgaaChecked
import GoSem.Claim
import GoSem.ClaimJoined
import GoSem.ClaimMapViews
import Derived.JoinedTies
import Derived.KernelRfl
namespace Go.Proofs.Yteehoihkbcbbgaa
/- THE CELL 'sum', in the pinned program and in every row, IS THE sha256 OF THE DUMP (.gsa) THAT YteehoihkbcbbgaaProg.lean LOADS. Nothing in Lean hashes anything: it is a label: what it is worth is what the hold of that sum in a sandbox is worth. -/
noncomputable def Try.pinned : Pinned := { name := "yteehoihkbcbbgaa", sum := "65727a80419db556ff00dd4f23b7d9878efd2d19953873259f639c2e9b434465", checked := Try.checked }
namespace Rows
def none {H : Type} : Left H := { results := [], args := [] }

/-- 'laws.FnExactAdler32': WHATEVER THE INPUT: true; the input reads as it did. -/
def fnExactAdler32Spec : ChangeSpec := { name := "fnExactAdler32", fn := fun _ => fun
  | [d] => { results := [.lit (.bool true)], args := [d] }
  | _ => none }
def fnExactAdler32Row : OpenClaim := { program := "yteehoihkbcbbgaa", sum := "65727a80419db556ff00dd4f23b7d9878efd2d19953873259f639c2e9b434465", func := "loop.example/g00137/laws.FnExactAdler32", spec := "fnExactAdler32", apart := false }
def FnExactAdler32Said : Prop := fnExactAdler32Row.holds Try.pinned (OpenSpec.ofChange fnExactAdler32Spec)

/-- ITS FALSE NEIGHBOUR: 'it returns false'. Refute it at one input. -/
def fnExactAdler32Wrong : ChangeSpec := { name := "fnExactAdler32", fn := fun _ => fun
  | [d] => { results := [.lit (.bool false)], args := [d] }
  | _ => none }
def FnExactAdler32WrongFalsely : Prop := fnExactAdler32Row.holds Try.pinned (OpenSpec.ofChange fnExactAdler32Wrong)

/-- 'laws.FnExactCrc32': WHATEVER THE INPUT: true; the input reads as it did. -/
def fnExactCrc32Spec : ChangeSpec := { name := "fnExactCrc32", fn := fun _ => fun
  | [d] => { results := [.lit (.bool true)], args := [d] }
  | _ => none }
def fnExactCrc32Row : OpenClaim := { program := "yteehoihkbcbbgaa", sum := "65727a80419db556ff00dd4f23b7d9878efd2d19953873259f639c2e9b434465", func := "loop.example/g00137/laws.FnExactCrc32", spec := "fnExactCrc32", apart := false }
def FnExactCrc32Said : Prop := fnExactCrc32Row.holds Try.pinned (OpenSpec.ofChange fnExactCrc32Spec)

/-- ITS FALSE NEIGHBOUR: 'it returns false'. Refute it at one input. -/
def fnExactCrc32Wrong : ChangeSpec := { name := "fnExactCrc32", fn := fun _ => fun
  | [d] => { results := [.lit (.bool false)], args := [d] }
  | _ => none }
def FnExactCrc32WrongFalsely : Prop := fnExactCrc32Row.holds Try.pinned (OpenSpec.ofChange fnExactCrc32Wrong)

/-- 'laws.FnExactFilterRow': WHATEVER THE INPUT: true; the input reads as it did. -/
def fnExactFilterRowSpec : ChangeSpec := { name := "fnExactFilterRow", fn := fun _ => fun
  | [d1, d2, d3] => { results := [.lit (.bool true)], args := [d1, d2, d3] }
  | _ => none }
def fnExactFilterRowRow : OpenClaim := { program := "yteehoihkbcbbgaa", sum := "65727a80419db556ff00dd4f23b7d9878efd2d19953873259f639c2e9b434465", func := "loop.example/g00137/laws.FnExactFilterRow", spec := "fnExactFilterRow", unfollowed := true, recurses := true, apart := false }
def FnExactFilterRowSaid : Prop := fnExactFilterRowRow.holds Try.pinned (OpenSpec.ofChange fnExactFilterRowSpec)

/-- ITS FALSE NEIGHBOUR: 'it returns false'. Refute it at one input. -/
def fnExactFilterRowWrong : ChangeSpec := { name := "fnExactFilterRow", fn := fun _ => fun
  | [d1, d2, d3] => { results := [.lit (.bool false)], args := [d1, d2, d3] }
  | _ => none }
def FnExactFilterRowWrongFalsely : Prop := fnExactFilterRowRow.holds Try.pinned (OpenSpec.ofChange fnExactFilterRowWrong)

/-- 'laws.FnExactUnfilterRow': WHATEVER THE INPUT: true; the input reads as it did. -/
def fnExactUnfilterRowSpec : ChangeSpec := { name := "fnExactUnfilterRow", fn := fun _ => fun
  | [d1, d2, d3] => { results := [.lit (.bool true)], args := [d1, d2, d3] }
  | _ => none }
def fnExactUnfilterRowRow : OpenClaim := { program := "yteehoihkbcbbgaa", sum := "65727a80419db556ff00dd4f23b7d9878efd2d19953873259f639c2e9b434465", func := "loop.example/g00137/laws.FnExactUnfilterRow", spec := "fnExactUnfilterRow", unfollowed := true, recurses := true, apart := false }
def FnExactUnfilterRowSaid : Prop := fnExactUnfilterRowRow.holds Try.pinned (OpenSpec.ofChange fnExactUnfilterRowSpec)

/-- ITS FALSE NEIGHBOUR: 'it returns false'. Refute it at one input. -/
def fnExactUnfilterRowWrong : ChangeSpec := { name := "fnExactUnfilterRow", fn := fun _ => fun
  | [d1, d2, d3] => { results := [.lit (.bool false)], args := [d1, d2, d3] }
  | _ => none }
def FnExactUnfilterRowWrongFalsely : Prop := fnExactUnfilterRowRow.holds Try.pinned (OpenSpec.ofChange fnExactUnfilterRowWrong)

/-- 'laws.FnExactBestFilter': WHATEVER THE INPUT: true; the input reads as it did. -/
def fnExactBestFilterSpec : ChangeSpec := { name := "fnExactBestFilter", fn := fun _ => fun
  | [d1, d2] => { results := [.lit (.bool true)], args := [d1, d2] }
  | _ => none }
def fnExactBestFilterRow : OpenClaim := { program := "yteehoihkbcbbgaa", sum := "65727a80419db556ff00dd4f23b7d9878efd2d19953873259f639c2e9b434465", func := "loop.example/g00137/laws.FnExactBestFilter", spec := "fnExactBestFilter", unfollowed := true, recurses := true, apart := false }
def FnExactBestFilterSaid : Prop := fnExactBestFilterRow.holds Try.pinned (OpenSpec.ofChange fnExactBestFilterSpec)

/-- ITS FALSE NEIGHBOUR: 'it returns false'. Refute it at one input. -/
def fnExactBestFilterWrong : ChangeSpec := { name := "fnExactBestFilter", fn := fun _ => fun
  | [d1, d2] => { results := [.lit (.bool false)], args := [d1, d2] }
  | _ => none }
def FnExactBestFilterWrongFalsely : Prop := fnExactBestFilterRow.holds Try.pinned (OpenSpec.ofChange fnExactBestFilterWrong)

/- THE SECOND FORM. 'bulk': how many values and letters a reading holds, each counted each time it is reached (what is shared counts as often as it is met; a slice's spare places count too). A statement '..UptoSaid' is the law's where the arguments, and the package variables that the reading takes, are together of bulk at most 1048576: NARROWER than '..Said'. Prove '..Said' where nothing that the law and all that it calls make is longer than what came in: it says more and counts as full. Else prove '..UptoSaid'. A law counts once. -/
mutual
def uptoBulk {H : Type} : DataW H → Nat
  | .lit (.string bytes) => bytes.length + 1
  | .lit _ => 1
  | .nil => 1
  | .ptr d => uptoBulk d + 1
  | .slice elems spare => uptoBulkAll elems + uptoBulkAll spare + 1
  | .agg parts => uptoBulkAll parts + 1
  | .iface _ d => uptoBulk d + 1
  | .map entries => uptoBulkEntries entries + 1
  | .held _ => 1
def uptoBulkAll {H : Type} : List (DataW H) → Nat
  | [] => 0
  | d :: r => uptoBulk d + uptoBulkAll r
def uptoBulkEntries {H : Type} : List (Lit × DataW H) → Nat
  | [] => 0
  | x :: r => uptoBulkEntry x + uptoBulkEntries r
def uptoBulkEntry {H : Type} : Lit × DataW H → Nat
  | (.string bytes, d) => bytes.length + uptoBulk d + 1
  | (_, d) => uptoBulk d + 1
 end
def uptoSmall : (H : Type) → List (DataW H) → Bool := fun _ ds => decide (uptoBulkAll ds ≤ 1048576)
def OpenSpec.upto (s : _root_.Go.ChangeSpec) : _root_.Go.OpenSpec := { _root_.Go.OpenSpec.ofChange s with cond := some uptoSmall }

/-- 'laws.FnExactAdler32', WHERE WHAT IT READS IS OF BULK AT MOST 1048576: true; the input reads as it did. -/
def fnExactAdler32UptoRow : OpenClaim := { program := "yteehoihkbcbbgaa", sum := "65727a80419db556ff00dd4f23b7d9878efd2d19953873259f639c2e9b434465", func := "loop.example/g00137/laws.FnExactAdler32", spec := "fnExactAdler32", apart := false, narrowed := true }
def FnExactAdler32UptoSaid : Prop := fnExactAdler32UptoRow.holds Try.pinned (OpenSpec.upto fnExactAdler32Spec)

/-- 'laws.FnExactCrc32', WHERE WHAT IT READS IS OF BULK AT MOST 1048576: true; the input reads as it did. -/
def fnExactCrc32UptoRow : OpenClaim := { program := "yteehoihkbcbbgaa", sum := "65727a80419db556ff00dd4f23b7d9878efd2d19953873259f639c2e9b434465", func := "loop.example/g00137/laws.FnExactCrc32", spec := "fnExactCrc32", apart := false, narrowed := true }
def FnExactCrc32UptoSaid : Prop := fnExactCrc32UptoRow.holds Try.pinned (OpenSpec.upto fnExactCrc32Spec)

/-- 'laws.FnExactFilterRow', WHERE WHAT IT READS IS OF BULK AT MOST 1048576: true; the input reads as it did. -/
def fnExactFilterRowUptoRow : OpenClaim := { program := "yteehoihkbcbbgaa", sum := "65727a80419db556ff00dd4f23b7d9878efd2d19953873259f639c2e9b434465", func := "loop.example/g00137/laws.FnExactFilterRow", spec := "fnExactFilterRow", unfollowed := true, recurses := true, apart := false, narrowed := true }
def FnExactFilterRowUptoSaid : Prop := fnExactFilterRowUptoRow.holds Try.pinned (OpenSpec.upto fnExactFilterRowSpec)

/-- 'laws.FnExactUnfilterRow', WHERE WHAT IT READS IS OF BULK AT MOST 1048576: true; the input reads as it did. -/
def fnExactUnfilterRowUptoRow : OpenClaim := { program := "yteehoihkbcbbgaa", sum := "65727a80419db556ff00dd4f23b7d9878efd2d19953873259f639c2e9b434465", func := "loop.example/g00137/laws.FnExactUnfilterRow", spec := "fnExactUnfilterRow", unfollowed := true, recurses := true, apart := false, narrowed := true }
def FnExactUnfilterRowUptoSaid : Prop := fnExactUnfilterRowUptoRow.holds Try.pinned (OpenSpec.upto fnExactUnfilterRowSpec)

/-- 'laws.FnExactBestFilter', WHERE WHAT IT READS IS OF BULK AT MOST 1048576: true; the input reads as it did. -/
def fnExactBestFilterUptoRow : OpenClaim := { program := "yteehoihkbcbbgaa", sum := "65727a80419db556ff00dd4f23b7d9878efd2d19953873259f639c2e9b434465", func := "loop.example/g00137/laws.FnExactBestFilter", spec := "fnExactBestFilter", unfollowed := true, recurses := true, apart := false, narrowed := true }
def FnExactBestFilterUptoSaid : Prop := fnExactBestFilterUptoRow.holds Try.pinned (OpenSpec.upto fnExactBestFilterSpec)

end Rows
end Go.Proofs.Yteehoihkbcbbgaa

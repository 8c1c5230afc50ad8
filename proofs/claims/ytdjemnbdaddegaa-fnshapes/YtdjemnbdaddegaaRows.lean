/-
  No cell of these rows narrows 'for every input' (looked for: loops, veiled, ifaces, maps, wideKeys, modest, calm, conditions, laid).
  DERIVED. THE GIVEN ROWS OF THIS SEAT. 6 by the template 'for every input the law returns true; each argument reads behind the call as it read before'; 0 by the template 'total and deterministic' (their statements: YtdjemnbdaddegaaTotals.lean).
  GIVEN WITH THE SEED: the statements are not yours to turn. If you find one false, say at which input.
  Laid BY PROGRAM, IN A SANDBOX (cutbox-rows.mjs): the forced cells as the released guide's own fill.sh prints them over the translation 165fcf169bc28614… (all of the seat's roots in one cut). By AI agents, Wed Nov 11 2026. No macro, syntax, notation, axiom, sorry.
-/
import Derived.Test.YtdjemnbdaddegaaChecked
import GoSem.Claim
import GoSem.ClaimJoined
import GoSem.ClaimMapViews
import Derived.JoinedTies
import Derived.KernelRfl
namespace Go.Proofs.Ytdjemnbdaddegaa
/- THE CELL 'sum', in the pinned program and in every row, IS THE sha256 OF THE DUMP (.gsa) THAT YtdjemnbdaddegaaProg.lean LOADS. Nothing in Lean hashes anything: it is a label: what it is worth is what the hold of that sum in a sandbox is worth. -/
noncomputable def Try.pinned : Pinned := { name := "ytdjemnbdaddegaa", sum := "165fcf169bc28614d355b4bdd21be13fe0a30d9e27b01312bee3f116ad3d48d1", checked := Try.checked }
namespace Rows
def none {H : Type} : Left H := { results := [], args := [] }

/-- 'laws.FnShapes': WHATEVER THE INPUT: true; the input reads as it did. -/
def fnShapesSpec : ChangeSpec := { name := "fnShapes", fn := fun _ => fun
  | [d1, d2] => { results := [.lit (.bool true)], args := [d1, d2] }
  | _ => none }
def fnShapesRow : OpenClaim := { program := "ytdjemnbdaddegaa", sum := "165fcf169bc28614d355b4bdd21be13fe0a30d9e27b01312bee3f116ad3d48d1", func := "loop.example/g00137/laws.FnShapes", spec := "fnShapes", inPlace := ["math/bits.Add64"], unfollowed := true, recurses := true, apart := false }
def FnShapesSaid : Prop := fnShapesRow.holds Try.pinned (OpenSpec.ofChange fnShapesSpec)

/-- ITS FALSE NEIGHBOUR: 'it returns false'. Refute it at one input. -/
def fnShapesWrong : ChangeSpec := { name := "fnShapes", fn := fun _ => fun
  | [d1, d2] => { results := [.lit (.bool false)], args := [d1, d2] }
  | _ => none }
def FnShapesWrongFalsely : Prop := fnShapesRow.holds Try.pinned (OpenSpec.ofChange fnShapesWrong)

/-- 'laws.FnExactCurveAt': WHATEVER THE INPUT: true; the input reads as it did. -/
def fnExactCurveAtSpec : ChangeSpec := { name := "fnExactCurveAt", fn := fun _ => fun
  | [d1, d2] => { results := [.lit (.bool true)], args := [d1, d2] }
  | _ => none }
def fnExactCurveAtRow : OpenClaim := { program := "ytdjemnbdaddegaa", sum := "165fcf169bc28614d355b4bdd21be13fe0a30d9e27b01312bee3f116ad3d48d1", func := "loop.example/g00137/laws.FnExactCurveAt", spec := "fnExactCurveAt", apart := false }
def FnExactCurveAtSaid : Prop := fnExactCurveAtRow.holds Try.pinned (OpenSpec.ofChange fnExactCurveAtSpec)

/-- ITS FALSE NEIGHBOUR: 'it returns false'. Refute it at one input. -/
def fnExactCurveAtWrong : ChangeSpec := { name := "fnExactCurveAt", fn := fun _ => fun
  | [d1, d2] => { results := [.lit (.bool false)], args := [d1, d2] }
  | _ => none }
def FnExactCurveAtWrongFalsely : Prop := fnExactCurveAtRow.holds Try.pinned (OpenSpec.ofChange fnExactCurveAtWrong)

/-- 'laws.FnExactLinesOf': WHATEVER THE INPUT: true; the input reads as it did. -/
def fnExactLinesOfSpec : ChangeSpec := { name := "fnExactLinesOf", fn := fun _ => fun
  | [d] => { results := [.lit (.bool true)], args := [d] }
  | _ => none }
def fnExactLinesOfRow : OpenClaim := { program := "ytdjemnbdaddegaa", sum := "165fcf169bc28614d355b4bdd21be13fe0a30d9e27b01312bee3f116ad3d48d1", func := "loop.example/g00137/laws.FnExactLinesOf", spec := "fnExactLinesOf", apart := false }
def FnExactLinesOfSaid : Prop := fnExactLinesOfRow.holds Try.pinned (OpenSpec.ofChange fnExactLinesOfSpec)

/-- ITS FALSE NEIGHBOUR: 'it returns false'. Refute it at one input. -/
def fnExactLinesOfWrong : ChangeSpec := { name := "fnExactLinesOf", fn := fun _ => fun
  | [d] => { results := [.lit (.bool false)], args := [d] }
  | _ => none }
def FnExactLinesOfWrongFalsely : Prop := fnExactLinesOfRow.holds Try.pinned (OpenSpec.ofChange fnExactLinesOfWrong)

/-- 'laws.FnExactEllipseOf': WHATEVER THE INPUT: true; the input reads as it did. -/
def fnExactEllipseOfSpec : ChangeSpec := { name := "fnExactEllipseOf", fn := fun _ => fun
  | [d1, d2, d3, d4] => { results := [.lit (.bool true)], args := [d1, d2, d3, d4] }
  | _ => none }
def fnExactEllipseOfRow : OpenClaim := { program := "ytdjemnbdaddegaa", sum := "165fcf169bc28614d355b4bdd21be13fe0a30d9e27b01312bee3f116ad3d48d1", func := "loop.example/g00137/laws.FnExactEllipseOf", spec := "fnExactEllipseOf", inPlace := ["math/bits.Add64"], recurses := true, apart := false }
def FnExactEllipseOfSaid : Prop := fnExactEllipseOfRow.holds Try.pinned (OpenSpec.ofChange fnExactEllipseOfSpec)

/-- ITS FALSE NEIGHBOUR: 'it returns false'. Refute it at one input. -/
def fnExactEllipseOfWrong : ChangeSpec := { name := "fnExactEllipseOf", fn := fun _ => fun
  | [d1, d2, d3, d4] => { results := [.lit (.bool false)], args := [d1, d2, d3, d4] }
  | _ => none }
def FnExactEllipseOfWrongFalsely : Prop := fnExactEllipseOfRow.holds Try.pinned (OpenSpec.ofChange fnExactEllipseOfWrong)

/-- 'laws.FnExactRectOf': WHATEVER THE INPUT: true; the input reads as it did. -/
def fnExactRectOfSpec : ChangeSpec := { name := "fnExactRectOf", fn := fun _ => fun
  | [d1, d2, d3, d4, d5] => { results := [.lit (.bool true)], args := [d1, d2, d3, d4, d5] }
  | _ => none }
def fnExactRectOfRow : OpenClaim := { program := "ytdjemnbdaddegaa", sum := "165fcf169bc28614d355b4bdd21be13fe0a30d9e27b01312bee3f116ad3d48d1", func := "loop.example/g00137/laws.FnExactRectOf", spec := "fnExactRectOf", inPlace := ["math/bits.Add64"], recurses := true, apart := false }
def FnExactRectOfSaid : Prop := fnExactRectOfRow.holds Try.pinned (OpenSpec.ofChange fnExactRectOfSpec)

/-- ITS FALSE NEIGHBOUR: 'it returns false'. Refute it at one input. -/
def fnExactRectOfWrong : ChangeSpec := { name := "fnExactRectOf", fn := fun _ => fun
  | [d1, d2, d3, d4, d5] => { results := [.lit (.bool false)], args := [d1, d2, d3, d4, d5] }
  | _ => none }
def FnExactRectOfWrongFalsely : Prop := fnExactRectOfRow.holds Try.pinned (OpenSpec.ofChange fnExactRectOfWrong)

/-- 'laws.FnExactMoveLines': WHATEVER THE INPUT: true; the input reads as it did. -/
def fnExactMoveLinesSpec : ChangeSpec := { name := "fnExactMoveLines", fn := fun _ => fun
  | [d1, d2] => { results := [.lit (.bool true)], args := [d1, d2] }
  | _ => none }
def fnExactMoveLinesRow : OpenClaim := { program := "ytdjemnbdaddegaa", sum := "165fcf169bc28614d355b4bdd21be13fe0a30d9e27b01312bee3f116ad3d48d1", func := "loop.example/g00137/laws.FnExactMoveLines", spec := "fnExactMoveLines", inPlace := ["math/bits.Add64"], unfollowed := true, recurses := true, apart := false }
def FnExactMoveLinesSaid : Prop := fnExactMoveLinesRow.holds Try.pinned (OpenSpec.ofChange fnExactMoveLinesSpec)

/-- ITS FALSE NEIGHBOUR: 'it returns false'. Refute it at one input. -/
def fnExactMoveLinesWrong : ChangeSpec := { name := "fnExactMoveLines", fn := fun _ => fun
  | [d1, d2] => { results := [.lit (.bool false)], args := [d1, d2] }
  | _ => none }
def FnExactMoveLinesWrongFalsely : Prop := fnExactMoveLinesRow.holds Try.pinned (OpenSpec.ofChange fnExactMoveLinesWrong)

/- THE SECOND FORM. 'bulk': how many values and letters a reading holds, each counted each time it is reached (what is shared counts as often as it is met; a slice's spare places count too). A statement '..UptoSaid' is the law's where the arguments, and the package variables that the reading takes, are together of bulk at most 1048576: NARROWER than '..Said'. Prove '..Said' where nothing that the law and all that it calls make is longer than what came in: it says more and counts as full. Else prove '..UptoSaid'. A law counts once. -/
mutual
def uptoBulk {H : Type} : DataW H → Nat
  | .lit (.string bytes) => bytes.length + 1
  | .lit _ => 1
  | .nil => 1
  | .ptr d => uptoBulk d + 1
  | .slice elems spare => uptoBulkAll elems + uptoBulkAll spare + 1
  | .agg parts => uptoBulkAll parts + 1
  | .iface _ d => uptoBulk d + 1
  | .map entries => uptoBulkEntries entries + 1
  | .held _ => 1
def uptoBulkAll {H : Type} : List (DataW H) → Nat
  | [] => 0
  | d :: r => uptoBulk d + uptoBulkAll r
def uptoBulkEntries {H : Type} : List (Lit × DataW H) → Nat
  | [] => 0
  | x :: r => uptoBulkEntry x + uptoBulkEntries r
def uptoBulkEntry {H : Type} : Lit × DataW H → Nat
  | (.string bytes, d) => bytes.length + uptoBulk d + 1
  | (_, d) => uptoBulk d + 1
 end
def uptoSmall : (H : Type) → List (DataW H) → Bool := fun _ ds => decide (uptoBulkAll ds ≤ 1048576)
def OpenSpec.upto (s : _root_.Go.ChangeSpec) : _root_.Go.OpenSpec := { _root_.Go.OpenSpec.ofChange s with cond := some uptoSmall }

/-- 'laws.FnShapes', WHERE WHAT IT READS IS OF BULK AT MOST 1048576: true; the input reads as it did. -/
def fnShapesUptoRow : OpenClaim := { program := "ytdjemnbdaddegaa", sum := "165fcf169bc28614d355b4bdd21be13fe0a30d9e27b01312bee3f116ad3d48d1", func := "loop.example/g00137/laws.FnShapes", spec := "fnShapes", inPlace := ["math/bits.Add64"], unfollowed := true, recurses := true, apart := false, narrowed := true }
def FnShapesUptoSaid : Prop := fnShapesUptoRow.holds Try.pinned (OpenSpec.upto fnShapesSpec)

/-- 'laws.FnExactCurveAt', WHERE WHAT IT READS IS OF BULK AT MOST 1048576: true; the input reads as it did. -/
def fnExactCurveAtUptoRow : OpenClaim := { program := "ytdjemnbdaddegaa", sum := "165fcf169bc28614d355b4bdd21be13fe0a30d9e27b01312bee3f116ad3d48d1", func := "loop.example/g00137/laws.FnExactCurveAt", spec := "fnExactCurveAt", apart := false, narrowed := true }
def FnExactCurveAtUptoSaid : Prop := fnExactCurveAtUptoRow.holds Try.pinned (OpenSpec.upto fnExactCurveAtSpec)

/-- 'laws.FnExactLinesOf', WHERE WHAT IT READS IS OF BULK AT MOST 1048576: true; the input reads as it did. -/
def fnExactLinesOfUptoRow : OpenClaim := { program := "ytdjemnbdaddegaa", sum := "165fcf169bc28614d355b4bdd21be13fe0a30d9e27b01312bee3f116ad3d48d1", func := "loop.example/g00137/laws.FnExactLinesOf", spec := "fnExactLinesOf", apart := false, narrowed := true }
def FnExactLinesOfUptoSaid : Prop := fnExactLinesOfUptoRow.holds Try.pinned (OpenSpec.upto fnExactLinesOfSpec)

/-- 'laws.FnExactEllipseOf', WHERE WHAT IT READS IS OF BULK AT MOST 1048576: true; the input reads as it did. -/
def fnExactEllipseOfUptoRow : OpenClaim := { program := "ytdjemnbdaddegaa", sum := "165fcf169bc28614d355b4bdd21be13fe0a30d9e27b01312bee3f116ad3d48d1", func := "loop.example/g00137/laws.FnExactEllipseOf", spec := "fnExactEllipseOf", inPlace := ["math/bits.Add64"], recurses := true, apart := false, narrowed := true }
def FnExactEllipseOfUptoSaid : Prop := fnExactEllipseOfUptoRow.holds Try.pinned (OpenSpec.upto fnExactEllipseOfSpec)

/-- 'laws.FnExactRectOf', WHERE WHAT IT READS IS OF BULK AT MOST 1048576: true; the input reads as it did. -/
def fnExactRectOfUptoRow : OpenClaim := { program := "ytdjemnbdaddegaa", sum := "165fcf169bc28614d355b4bdd21be13fe0a30d9e27b01312bee3f116ad3d48d1", func := "loop.example/g00137/laws.FnExactRectOf", spec := "fnExactRectOf", inPlace := ["math/bits.Add64"], recurses := true, apart := false, narrowed := true }
def FnExactRectOfUptoSaid : Prop := fnExactRectOfUptoRow.holds Try.pinned (OpenSpec.upto fnExactRectOfSpec)

/-- 'laws.FnExactMoveLines', WHERE WHAT IT READS IS OF BULK AT MOST 1048576: true; the input reads as it did. -/
def fnExactMoveLinesUptoRow : OpenClaim := { program := "ytdjemnbdaddegaa", sum := "165fcf169bc28614d355b4bdd21be13fe0a30d9e27b01312bee3f116ad3d48d1", func := "loop.example/g00137/laws.FnExactMoveLines", spec := "fnExactMoveLines", inPlace := ["math/bits.Add64"], unfollowed := true, recurses := true, apart := false, narrowed := true }
def FnExactMoveLinesUptoSaid : Prop := fnExactMoveLinesUptoRow.holds Try.pinned (OpenSpec.upto fnExactMoveLinesSpec)

end Rows
end Go.Proofs.Ytdjemnbdaddegaa

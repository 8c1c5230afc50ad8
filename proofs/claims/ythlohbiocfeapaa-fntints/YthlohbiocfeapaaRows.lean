/-
  No cell of these rows narrows 'for every input' (looked for: loops, veiled, ifaces, maps, wideKeys, modest, calm, conditions, laid).
  DERIVED. THE GIVEN ROWS OF THIS SEAT. 12 by the template 'for every input the law returns true; each argument reads behind the call as it read before'; 0 by the template 'total and deterministic' (their statements: YthlohbiocfeapaaTotals.lean).
  GIVEN WITH THE SEED: the statements are not yours to turn. If you find one false, say at which input.
  Laid BY PROGRAM, IN A SANDBOX (cutbox-rows.mjs): the forced cells as the released guide's own fill.sh prints them over the translation 47944c6f5b49c5f0… (all of the seat's roots in one cut). By AI agents, Wed Nov 11 2026. No macro, syntax, notation, axiom, sorry.
-/
import Derived.Test.YthlohbiocfeapaaChecked
import GoSem.Claim
import GoSem.ClaimJoined
import GoSem.ClaimMapViews
import Derived.JoinedTies
import Derived.KernelRfl
namespace Go.Proofs.Ythlohbiocfeapaa
/- THE CELL 'sum', in the pinned program and in every row, IS THE sha256 OF THE DUMP (.gsa) THAT YthlohbiocfeapaaProg.lean LOADS. Nothing in Lean hashes anything: it is a label: what it is worth is what the hold of that sum in a sandbox is worth. -/
noncomputable def Try.pinned : Pinned := { name := "ythlohbiocfeapaa", sum := "47944c6f5b49c5f0cae9cf97895e64367d345e5f86e5312d1660f1fd4b824332", checked := Try.checked }
namespace Rows
def none {H : Type} : Left H := { results := [], args := [] }

/-- 'laws.FnTints': WHATEVER THE INPUT: true; the input reads as it did. -/
def fnTintsSpec : ChangeSpec := { name := "fnTints", fn := fun _ => fun
  | [d1, d2] => { results := [.lit (.bool true)], args := [d1, d2] }
  | _ => none }
def fnTintsRow : OpenClaim := { program := "ythlohbiocfeapaa", sum := "47944c6f5b49c5f0cae9cf97895e64367d345e5f86e5312d1660f1fd4b824332", func := "loop.example/g00137/laws.FnTints", spec := "fnTints", unfollowed := true, recurses := true, apart := false }
def FnTintsSaid : Prop := fnTintsRow.holds Try.pinned (OpenSpec.ofChange fnTintsSpec)

/-- ITS FALSE NEIGHBOUR: 'it returns false'. Refute it at one input. -/
def fnTintsWrong : ChangeSpec := { name := "fnTints", fn := fun _ => fun
  | [d1, d2] => { results := [.lit (.bool false)], args := [d1, d2] }
  | _ => none }
def FnTintsWrongFalsely : Prop := fnTintsRow.holds Try.pinned (OpenSpec.ofChange fnTintsWrong)

/-- 'laws.FnExactGoodTint': WHATEVER THE INPUT: true; the input reads as it did. -/
def fnExactGoodTintSpec : ChangeSpec := { name := "fnExactGoodTint", fn := fun _ => fun
  | [d] => { results := [.lit (.bool true)], args := [d] }
  | _ => none }
def fnExactGoodTintRow : OpenClaim := { program := "ythlohbiocfeapaa", sum := "47944c6f5b49c5f0cae9cf97895e64367d345e5f86e5312d1660f1fd4b824332", func := "loop.example/g00137/laws.FnExactGoodTint", spec := "fnExactGoodTint", apart := false }
def FnExactGoodTintSaid : Prop := fnExactGoodTintRow.holds Try.pinned (OpenSpec.ofChange fnExactGoodTintSpec)

/-- ITS FALSE NEIGHBOUR: 'it returns false'. Refute it at one input. -/
def fnExactGoodTintWrong : ChangeSpec := { name := "fnExactGoodTint", fn := fun _ => fun
  | [d] => { results := [.lit (.bool false)], args := [d] }
  | _ => none }
def FnExactGoodTintWrongFalsely : Prop := fnExactGoodTintRow.holds Try.pinned (OpenSpec.ofChange fnExactGoodTintWrong)

/-- 'laws.FnExactTintOf': WHATEVER THE INPUT: true; the input reads as it did. -/
def fnExactTintOfSpec : ChangeSpec := { name := "fnExactTintOf", fn := fun _ => fun
  | [d1, d2] => { results := [.lit (.bool true)], args := [d1, d2] }
  | _ => none }
def fnExactTintOfRow : OpenClaim := { program := "ythlohbiocfeapaa", sum := "47944c6f5b49c5f0cae9cf97895e64367d345e5f86e5312d1660f1fd4b824332", func := "loop.example/g00137/laws.FnExactTintOf", spec := "fnExactTintOf", unfollowed := true, recurses := true, apart := false }
def FnExactTintOfSaid : Prop := fnExactTintOfRow.holds Try.pinned (OpenSpec.ofChange fnExactTintOfSpec)

/-- ITS FALSE NEIGHBOUR: 'it returns false'. Refute it at one input. -/
def fnExactTintOfWrong : ChangeSpec := { name := "fnExactTintOf", fn := fun _ => fun
  | [d1, d2] => { results := [.lit (.bool false)], args := [d1, d2] }
  | _ => none }
def FnExactTintOfWrongFalsely : Prop := fnExactTintOfRow.holds Try.pinned (OpenSpec.ofChange fnExactTintOfWrong)

/-- 'laws.FnExactOverTint': WHATEVER THE INPUT: true; the input reads as it did. -/
def fnExactOverTintSpec : ChangeSpec := { name := "fnExactOverTint", fn := fun _ => fun
  | [d1, d2] => { results := [.lit (.bool true)], args := [d1, d2] }
  | _ => none }
def fnExactOverTintRow : OpenClaim := { program := "ythlohbiocfeapaa", sum := "47944c6f5b49c5f0cae9cf97895e64367d345e5f86e5312d1660f1fd4b824332", func := "loop.example/g00137/laws.FnExactOverTint", spec := "fnExactOverTint", unfollowed := true, recurses := true, apart := false }
def FnExactOverTintSaid : Prop := fnExactOverTintRow.holds Try.pinned (OpenSpec.ofChange fnExactOverTintSpec)

/-- ITS FALSE NEIGHBOUR: 'it returns false'. Refute it at one input. -/
def fnExactOverTintWrong : ChangeSpec := { name := "fnExactOverTint", fn := fun _ => fun
  | [d1, d2] => { results := [.lit (.bool false)], args := [d1, d2] }
  | _ => none }
def FnExactOverTintWrongFalsely : Prop := fnExactOverTintRow.holds Try.pinned (OpenSpec.ofChange fnExactOverTintWrong)

/-- 'laws.FnExactThinTint': WHATEVER THE INPUT: true; the input reads as it did. -/
def fnExactThinTintSpec : ChangeSpec := { name := "fnExactThinTint", fn := fun _ => fun
  | [d1, d2] => { results := [.lit (.bool true)], args := [d1, d2] }
  | _ => none }
def fnExactThinTintRow : OpenClaim := { program := "ythlohbiocfeapaa", sum := "47944c6f5b49c5f0cae9cf97895e64367d345e5f86e5312d1660f1fd4b824332", func := "loop.example/g00137/laws.FnExactThinTint", spec := "fnExactThinTint", unfollowed := true, recurses := true, apart := false }
def FnExactThinTintSaid : Prop := fnExactThinTintRow.holds Try.pinned (OpenSpec.ofChange fnExactThinTintSpec)

/-- ITS FALSE NEIGHBOUR: 'it returns false'. Refute it at one input. -/
def fnExactThinTintWrong : ChangeSpec := { name := "fnExactThinTint", fn := fun _ => fun
  | [d1, d2] => { results := [.lit (.bool false)], args := [d1, d2] }
  | _ => none }
def FnExactThinTintWrongFalsely : Prop := fnExactThinTintRow.holds Try.pinned (OpenSpec.ofChange fnExactThinTintWrong)

/-- 'laws.FnExactStopsGood': WHATEVER THE INPUT: true; the input reads as it did. -/
def fnExactStopsGoodSpec : ChangeSpec := { name := "fnExactStopsGood", fn := fun _ => fun
  | [d] => { results := [.lit (.bool true)], args := [d] }
  | _ => none }
def fnExactStopsGoodRow : OpenClaim := { program := "ythlohbiocfeapaa", sum := "47944c6f5b49c5f0cae9cf97895e64367d345e5f86e5312d1660f1fd4b824332", func := "loop.example/g00137/laws.FnExactStopsGood", spec := "fnExactStopsGood", apart := false }
def FnExactStopsGoodSaid : Prop := fnExactStopsGoodRow.holds Try.pinned (OpenSpec.ofChange fnExactStopsGoodSpec)

/-- ITS FALSE NEIGHBOUR: 'it returns false'. Refute it at one input. -/
def fnExactStopsGoodWrong : ChangeSpec := { name := "fnExactStopsGood", fn := fun _ => fun
  | [d] => { results := [.lit (.bool false)], args := [d] }
  | _ => none }
def FnExactStopsGoodWrongFalsely : Prop := fnExactStopsGoodRow.holds Try.pinned (OpenSpec.ofChange fnExactStopsGoodWrong)

/-- 'laws.FnExactRunAt': WHATEVER THE INPUT: true; the input reads as it did. -/
def fnExactRunAtSpec : ChangeSpec := { name := "fnExactRunAt", fn := fun _ => fun
  | [d1, d2, d3] => { results := [.lit (.bool true)], args := [d1, d2, d3] }
  | _ => none }
def fnExactRunAtRow : OpenClaim := { program := "ythlohbiocfeapaa", sum := "47944c6f5b49c5f0cae9cf97895e64367d345e5f86e5312d1660f1fd4b824332", func := "loop.example/g00137/laws.FnExactRunAt", spec := "fnExactRunAt", unfollowed := true, recurses := true, apart := false }
def FnExactRunAtSaid : Prop := fnExactRunAtRow.holds Try.pinned (OpenSpec.ofChange fnExactRunAtSpec)

/-- ITS FALSE NEIGHBOUR: 'it returns false'. Refute it at one input. -/
def fnExactRunAtWrong : ChangeSpec := { name := "fnExactRunAt", fn := fun _ => fun
  | [d1, d2, d3] => { results := [.lit (.bool false)], args := [d1, d2, d3] }
  | _ => none }
def FnExactRunAtWrongFalsely : Prop := fnExactRunAtRow.holds Try.pinned (OpenSpec.ofChange fnExactRunAtWrong)

/-- 'laws.FnExactNewSheet': WHATEVER THE INPUT: true; the input reads as it did. -/
def fnExactNewSheetSpec : ChangeSpec := { name := "fnExactNewSheet", fn := fun _ => fun
  | [d1, d2] => { results := [.lit (.bool true)], args := [d1, d2] }
  | _ => none }
def fnExactNewSheetRow : OpenClaim := { program := "ythlohbiocfeapaa", sum := "47944c6f5b49c5f0cae9cf97895e64367d345e5f86e5312d1660f1fd4b824332", func := "loop.example/g00137/laws.FnExactNewSheet", spec := "fnExactNewSheet", apart := false }
def FnExactNewSheetSaid : Prop := fnExactNewSheetRow.holds Try.pinned (OpenSpec.ofChange fnExactNewSheetSpec)

/-- ITS FALSE NEIGHBOUR: 'it returns false'. Refute it at one input. -/
def fnExactNewSheetWrong : ChangeSpec := { name := "fnExactNewSheet", fn := fun _ => fun
  | [d1, d2] => { results := [.lit (.bool false)], args := [d1, d2] }
  | _ => none }
def FnExactNewSheetWrongFalsely : Prop := fnExactNewSheetRow.holds Try.pinned (OpenSpec.ofChange fnExactNewSheetWrong)

/-- 'laws.FnExactGoodSheet': WHATEVER THE INPUT: true; the input reads as it did. -/
def fnExactGoodSheetSpec : ChangeSpec := { name := "fnExactGoodSheet", fn := fun _ => fun
  | [d] => { results := [.lit (.bool true)], args := [d] }
  | _ => none }
def fnExactGoodSheetRow : OpenClaim := { program := "ythlohbiocfeapaa", sum := "47944c6f5b49c5f0cae9cf97895e64367d345e5f86e5312d1660f1fd4b824332", func := "loop.example/g00137/laws.FnExactGoodSheet", spec := "fnExactGoodSheet", apart := false }
def FnExactGoodSheetSaid : Prop := fnExactGoodSheetRow.holds Try.pinned (OpenSpec.ofChange fnExactGoodSheetSpec)

/-- ITS FALSE NEIGHBOUR: 'it returns false'. Refute it at one input. -/
def fnExactGoodSheetWrong : ChangeSpec := { name := "fnExactGoodSheet", fn := fun _ => fun
  | [d] => { results := [.lit (.bool false)], args := [d] }
  | _ => none }
def FnExactGoodSheetWrongFalsely : Prop := fnExactGoodSheetRow.holds Try.pinned (OpenSpec.ofChange fnExactGoodSheetWrong)

/-- 'laws.FnExactPaintMask': WHATEVER THE INPUT: true; the input reads as it did. -/
def fnExactPaintMaskSpec : ChangeSpec := { name := "fnExactPaintMask", fn := fun _ => fun
  | [d1, d2, d3] => { results := [.lit (.bool true)], args := [d1, d2, d3] }
  | _ => none }
def fnExactPaintMaskRow : OpenClaim := { program := "ythlohbiocfeapaa", sum := "47944c6f5b49c5f0cae9cf97895e64367d345e5f86e5312d1660f1fd4b824332", func := "loop.example/g00137/laws.FnExactPaintMask", spec := "fnExactPaintMask", unfollowed := true, recurses := true, apart := false }
def FnExactPaintMaskSaid : Prop := fnExactPaintMaskRow.holds Try.pinned (OpenSpec.ofChange fnExactPaintMaskSpec)

/-- ITS FALSE NEIGHBOUR: 'it returns false'. Refute it at one input. -/
def fnExactPaintMaskWrong : ChangeSpec := { name := "fnExactPaintMask", fn := fun _ => fun
  | [d1, d2, d3] => { results := [.lit (.bool false)], args := [d1, d2, d3] }
  | _ => none }
def FnExactPaintMaskWrongFalsely : Prop := fnExactPaintMaskRow.holds Try.pinned (OpenSpec.ofChange fnExactPaintMaskWrong)

/-- 'laws.FnExactLaySheet': WHATEVER THE INPUT: true; the input reads as it did. -/
def fnExactLaySheetSpec : ChangeSpec := { name := "fnExactLaySheet", fn := fun _ => fun
  | [d1, d2, d3] => { results := [.lit (.bool true)], args := [d1, d2, d3] }
  | _ => none }
def fnExactLaySheetRow : OpenClaim := { program := "ythlohbiocfeapaa", sum := "47944c6f5b49c5f0cae9cf97895e64367d345e5f86e5312d1660f1fd4b824332", func := "loop.example/g00137/laws.FnExactLaySheet", spec := "fnExactLaySheet", unfollowed := true, recurses := true, apart := false }
def FnExactLaySheetSaid : Prop := fnExactLaySheetRow.holds Try.pinned (OpenSpec.ofChange fnExactLaySheetSpec)

/-- ITS FALSE NEIGHBOUR: 'it returns false'. Refute it at one input. -/
def fnExactLaySheetWrong : ChangeSpec := { name := "fnExactLaySheet", fn := fun _ => fun
  | [d1, d2, d3] => { results := [.lit (.bool false)], args := [d1, d2, d3] }
  | _ => none }
def FnExactLaySheetWrongFalsely : Prop := fnExactLaySheetRow.holds Try.pinned (OpenSpec.ofChange fnExactLaySheetWrong)

/-- 'laws.FnExactSheetBytes': WHATEVER THE INPUT: true; the input reads as it did. -/
def fnExactSheetBytesSpec : ChangeSpec := { name := "fnExactSheetBytes", fn := fun _ => fun
  | [d] => { results := [.lit (.bool true)], args := [d] }
  | _ => none }
def fnExactSheetBytesRow : OpenClaim := { program := "ythlohbiocfeapaa", sum := "47944c6f5b49c5f0cae9cf97895e64367d345e5f86e5312d1660f1fd4b824332", func := "loop.example/g00137/laws.FnExactSheetBytes", spec := "fnExactSheetBytes", unfollowed := true, recurses := true, apart := false }
def FnExactSheetBytesSaid : Prop := fnExactSheetBytesRow.holds Try.pinned (OpenSpec.ofChange fnExactSheetBytesSpec)

/-- ITS FALSE NEIGHBOUR: 'it returns false'. Refute it at one input. -/
def fnExactSheetBytesWrong : ChangeSpec := { name := "fnExactSheetBytes", fn := fun _ => fun
  | [d] => { results := [.lit (.bool false)], args := [d] }
  | _ => none }
def FnExactSheetBytesWrongFalsely : Prop := fnExactSheetBytesRow.holds Try.pinned (OpenSpec.ofChange fnExactSheetBytesWrong)

/- THE SECOND FORM. 'bulk': how many values and letters a reading holds, each counted each time it is reached (what is shared counts as often as it is met; a slice's spare places count too). A statement '..UptoSaid' is the law's where the arguments, and the package variables that the reading takes, are together of bulk at most 1048576: NARROWER than '..Said'. Prove '..Said' where nothing that the law and all that it calls make is longer than what came in: it says more and counts as full. Else prove '..UptoSaid'. A law counts once. -/
mutual
def uptoBulk {H : Type} : DataW H → Nat
  | .lit (.string bytes) => bytes.length + 1
  | .lit _ => 1
  | .nil => 1
  | .ptr d => uptoBulk d + 1
  | .slice elems spare => uptoBulkAll elems + uptoBulkAll spare + 1
  | .agg parts => uptoBulkAll parts + 1
  | .iface _ d => uptoBulk d + 1
  | .map entries => uptoBulkEntries entries + 1
  | .held _ => 1
def uptoBulkAll {H : Type} : List (DataW H) → Nat
  | [] => 0
  | d :: r => uptoBulk d + uptoBulkAll r
def uptoBulkEntries {H : Type} : List (Lit × DataW H) → Nat
  | [] => 0
  | x :: r => uptoBulkEntry x + uptoBulkEntries r
def uptoBulkEntry {H : Type} : Lit × DataW H → Nat
  | (.string bytes, d) => bytes.length + uptoBulk d + 1
  | (_, d) => uptoBulk d + 1
 end
def uptoSmall : (H : Type) → List (DataW H) → Bool := fun _ ds => decide (uptoBulkAll ds ≤ 1048576)
def OpenSpec.upto (s : _root_.Go.ChangeSpec) : _root_.Go.OpenSpec := { _root_.Go.OpenSpec.ofChange s with cond := some uptoSmall }

/-- 'laws.FnTints', WHERE WHAT IT READS IS OF BULK AT MOST 1048576: true; the input reads as it did. -/
def fnTintsUptoRow : OpenClaim := { program := "ythlohbiocfeapaa", sum := "47944c6f5b49c5f0cae9cf97895e64367d345e5f86e5312d1660f1fd4b824332", func := "loop.example/g00137/laws.FnTints", spec := "fnTints", unfollowed := true, recurses := true, apart := false, narrowed := true }
def FnTintsUptoSaid : Prop := fnTintsUptoRow.holds Try.pinned (OpenSpec.upto fnTintsSpec)

/-- 'laws.FnExactGoodTint', WHERE WHAT IT READS IS OF BULK AT MOST 1048576: true; the input reads as it did. -/
def fnExactGoodTintUptoRow : OpenClaim := { program := "ythlohbiocfeapaa", sum := "47944c6f5b49c5f0cae9cf97895e64367d345e5f86e5312d1660f1fd4b824332", func := "loop.example/g00137/laws.FnExactGoodTint", spec := "fnExactGoodTint", apart := false, narrowed := true }
def FnExactGoodTintUptoSaid : Prop := fnExactGoodTintUptoRow.holds Try.pinned (OpenSpec.upto fnExactGoodTintSpec)

/-- 'laws.FnExactTintOf', WHERE WHAT IT READS IS OF BULK AT MOST 1048576: true; the input reads as it did. -/
def fnExactTintOfUptoRow : OpenClaim := { program := "ythlohbiocfeapaa", sum := "47944c6f5b49c5f0cae9cf97895e64367d345e5f86e5312d1660f1fd4b824332", func := "loop.example/g00137/laws.FnExactTintOf", spec := "fnExactTintOf", unfollowed := true, recurses := true, apart := false, narrowed := true }
def FnExactTintOfUptoSaid : Prop := fnExactTintOfUptoRow.holds Try.pinned (OpenSpec.upto fnExactTintOfSpec)

/-- 'laws.FnExactOverTint', WHERE WHAT IT READS IS OF BULK AT MOST 1048576: true; the input reads as it did. -/
def fnExactOverTintUptoRow : OpenClaim := { program := "ythlohbiocfeapaa", sum := "47944c6f5b49c5f0cae9cf97895e64367d345e5f86e5312d1660f1fd4b824332", func := "loop.example/g00137/laws.FnExactOverTint", spec := "fnExactOverTint", unfollowed := true, recurses := true, apart := false, narrowed := true }
def FnExactOverTintUptoSaid : Prop := fnExactOverTintUptoRow.holds Try.pinned (OpenSpec.upto fnExactOverTintSpec)

/-- 'laws.FnExactThinTint', WHERE WHAT IT READS IS OF BULK AT MOST 1048576: true; the input reads as it did. -/
def fnExactThinTintUptoRow : OpenClaim := { program := "ythlohbiocfeapaa", sum := "47944c6f5b49c5f0cae9cf97895e64367d345e5f86e5312d1660f1fd4b824332", func := "loop.example/g00137/laws.FnExactThinTint", spec := "fnExactThinTint", unfollowed := true, recurses := true, apart := false, narrowed := true }
def FnExactThinTintUptoSaid : Prop := fnExactThinTintUptoRow.holds Try.pinned (OpenSpec.upto fnExactThinTintSpec)

/-- 'laws.FnExactStopsGood', WHERE WHAT IT READS IS OF BULK AT MOST 1048576: true; the input reads as it did. -/
def fnExactStopsGoodUptoRow : OpenClaim := { program := "ythlohbiocfeapaa", sum := "47944c6f5b49c5f0cae9cf97895e64367d345e5f86e5312d1660f1fd4b824332", func := "loop.example/g00137/laws.FnExactStopsGood", spec := "fnExactStopsGood", apart := false, narrowed := true }
def FnExactStopsGoodUptoSaid : Prop := fnExactStopsGoodUptoRow.holds Try.pinned (OpenSpec.upto fnExactStopsGoodSpec)

/-- 'laws.FnExactRunAt', WHERE WHAT IT READS IS OF BULK AT MOST 1048576: true; the input reads as it did. -/
def fnExactRunAtUptoRow : OpenClaim := { program := "ythlohbiocfeapaa", sum := "47944c6f5b49c5f0cae9cf97895e64367d345e5f86e5312d1660f1fd4b824332", func := "loop.example/g00137/laws.FnExactRunAt", spec := "fnExactRunAt", unfollowed := true, recurses := true, apart := false, narrowed := true }
def FnExactRunAtUptoSaid : Prop := fnExactRunAtUptoRow.holds Try.pinned (OpenSpec.upto fnExactRunAtSpec)

/-- 'laws.FnExactNewSheet', WHERE WHAT IT READS IS OF BULK AT MOST 1048576: true; the input reads as it did. -/
def fnExactNewSheetUptoRow : OpenClaim := { program := "ythlohbiocfeapaa", sum := "47944c6f5b49c5f0cae9cf97895e64367d345e5f86e5312d1660f1fd4b824332", func := "loop.example/g00137/laws.FnExactNewSheet", spec := "fnExactNewSheet", apart := false, narrowed := true }
def FnExactNewSheetUptoSaid : Prop := fnExactNewSheetUptoRow.holds Try.pinned (OpenSpec.upto fnExactNewSheetSpec)

/-- 'laws.FnExactGoodSheet', WHERE WHAT IT READS IS OF BULK AT MOST 1048576: true; the input reads as it did. -/
def fnExactGoodSheetUptoRow : OpenClaim := { program := "ythlohbiocfeapaa", sum := "47944c6f5b49c5f0cae9cf97895e64367d345e5f86e5312d1660f1fd4b824332", func := "loop.example/g00137/laws.FnExactGoodSheet", spec := "fnExactGoodSheet", apart := false, narrowed := true }
def FnExactGoodSheetUptoSaid : Prop := fnExactGoodSheetUptoRow.holds Try.pinned (OpenSpec.upto fnExactGoodSheetSpec)

/-- 'laws.FnExactPaintMask', WHERE WHAT IT READS IS OF BULK AT MOST 1048576: true; the input reads as it did. -/
def fnExactPaintMaskUptoRow : OpenClaim := { program := "ythlohbiocfeapaa", sum := "47944c6f5b49c5f0cae9cf97895e64367d345e5f86e5312d1660f1fd4b824332", func := "loop.example/g00137/laws.FnExactPaintMask", spec := "fnExactPaintMask", unfollowed := true, recurses := true, apart := false, narrowed := true }
def FnExactPaintMaskUptoSaid : Prop := fnExactPaintMaskUptoRow.holds Try.pinned (OpenSpec.upto fnExactPaintMaskSpec)

/-- 'laws.FnExactLaySheet', WHERE WHAT IT READS IS OF BULK AT MOST 1048576: true; the input reads as it did. -/
def fnExactLaySheetUptoRow : OpenClaim := { program := "ythlohbiocfeapaa", sum := "47944c6f5b49c5f0cae9cf97895e64367d345e5f86e5312d1660f1fd4b824332", func := "loop.example/g00137/laws.FnExactLaySheet", spec := "fnExactLaySheet", unfollowed := true, recurses := true, apart := false, narrowed := true }
def FnExactLaySheetUptoSaid : Prop := fnExactLaySheetUptoRow.holds Try.pinned (OpenSpec.upto fnExactLaySheetSpec)

/-- 'laws.FnExactSheetBytes', WHERE WHAT IT READS IS OF BULK AT MOST 1048576: true; the input reads as it did. -/
def fnExactSheetBytesUptoRow : OpenClaim := { program := "ythlohbiocfeapaa", sum := "47944c6f5b49c5f0cae9cf97895e64367d345e5f86e5312d1660f1fd4b824332", func := "loop.example/g00137/laws.FnExactSheetBytes", spec := "fnExactSheetBytes", unfollowed := true, recurses := true, apart := false, narrowed := true }
def FnExactSheetBytesUptoSaid : Prop := fnExactSheetBytesUptoRow.holds Try.pinned (OpenSpec.upto fnExactSheetBytesSpec)

end Rows
end Go.Proofs.Ythlohbiocfeapaa

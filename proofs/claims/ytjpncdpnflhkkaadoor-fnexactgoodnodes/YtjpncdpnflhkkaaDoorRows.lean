/-
  NARROWER THAN 'FOR EVERY INPUT', by the rows' own cells (each row's printed sentence says how): FnExactGoodNodes: laid · FnExactMarksText: laid · FnExactTextUnder: laid.
  DERIVED. THE GIVEN ROWS OF THIS SEAT. 3 by the template 'for every input the law returns true; each argument reads behind the call as it read before'; 0 by the template 'total and deterministic' (their statements: YtjpncdpnflhkkaaDoorTotals.lean).
  GIVEN WITH THE SEED: the statements are not yours to turn. If you find one false, say at which input.
  Laid BY PROGRAM, IN A SANDBOX (cutbox-rows.mjs): the forced cells as the released guide's own fill.sh prints them over the translation 2c693d22a611ef4c… (all of the seat's roots in one cut). By AI agents, Wed Nov 11 2026. No macro, syntax, notation, axiom, sorry.
-/
import Derived.Test.YtjpncdpnflhkkaaDoorChecked
import GoSem.PinnedTables
import GoSem.Claim
import GoSem.ClaimJoined
import GoSem.ClaimMapViews
import Derived.JoinedTies
import Derived.KernelRfl
namespace Go.Proofs.YtjpncdpnflhkkaaDoor
/- THE CELL 'sum', in the pinned program and in every row, IS THE sha256 OF THE DUMP (.gsa) THAT YtjpncdpnflhkkaaDoorProg.lean LOADS. Nothing in Lean hashes anything: it is a label: what it is worth is what the hold of that sum in a sandbox is worth. -/
noncomputable def Tryd.pinned : Pinned := { name := "ytjpncdpnflhkkaadoor", sum := "2c693d22a611ef4cc3cbee92aa7c9e7046da27660f776e9aa72cb5cd0823928b", checked := Tryd.checked }
namespace Rows
def none {H : Type} : Left H := { results := [], args := [] }

/- WHAT THE LISTED PACKAGE-LEVEL VARIABLES READ AS WHEN THE CALL BEGINS. Each datum BY PROGRAM (the guide's laid-datum.mjs) off the statement by which the dump's own 'gosem.cut.vars' lays the variable. In a bare row this is a premise. The card (YtjpncdpnflhkkaaDoorCards.lean) ties it to the program's text. -/
def laid_unicode_utf8_acceptRanges {H : Type} : DataW H := .agg [.agg [.lit (.int .u8 128), .lit (.int .u8 191)], .agg [.lit (.int .u8 160), .lit (.int .u8 191)], .agg [.lit (.int .u8 128), .lit (.int .u8 159)], .agg [.lit (.int .u8 144), .lit (.int .u8 191)], .agg [.lit (.int .u8 128), .lit (.int .u8 143)], .agg [.lit (.int .u8 0), .lit (.int .u8 0)], .agg [.lit (.int .u8 0), .lit (.int .u8 0)], .agg [.lit (.int .u8 0), .lit (.int .u8 0)], .agg [.lit (.int .u8 0), .lit (.int .u8 0)], .agg [.lit (.int .u8 0), .lit (.int .u8 0)], .agg [.lit (.int .u8 0), .lit (.int .u8 0)], .agg [.lit (.int .u8 0), .lit (.int .u8 0)], .agg [.lit (.int .u8 0), .lit (.int .u8 0)], .agg [.lit (.int .u8 0), .lit (.int .u8 0)], .agg [.lit (.int .u8 0), .lit (.int .u8 0)], .agg [.lit (.int .u8 0), .lit (.int .u8 0)]]
/-- One of Go's own tables, pinned by name: the form's constant. -/
def laid_unicode_utf8_first : DataW Unit := Go.Pinned.utf8First

/-- 'laws.FnExactGoodNodes': WHATEVER THE INPUT: true; the input reads as it did. -/
def fnExactGoodNodesSpec : ChangeSpec := { name := "fnExactGoodNodes", fn := fun _ => fun
  | [d] => { results := [.lit (.bool true)], args := [d] }
  | _ => none }
def fnExactGoodNodesRow : OpenClaim := { program := "ytjpncdpnflhkkaadoor", sum := "2c693d22a611ef4cc3cbee92aa7c9e7046da27660f776e9aa72cb5cd0823928b", func := "loop.example/g00137/laws.FnExactGoodNodes", spec := "fnExactGoodNodes", named := ["unicode/utf8.first", "unicode/utf8.acceptRanges"], apart := false, laid := [("unicode/utf8.acceptRanges", laid_unicode_utf8_acceptRanges), ("unicode/utf8.first", laid_unicode_utf8_first)] }
def FnExactGoodNodesSaid : Prop := fnExactGoodNodesRow.holds Tryd.pinned (OpenSpec.ofChange fnExactGoodNodesSpec)

/-- ITS FALSE NEIGHBOUR: 'it returns false'. Refute it at one input. -/
def fnExactGoodNodesWrong : ChangeSpec := { name := "fnExactGoodNodes", fn := fun _ => fun
  | [d] => { results := [.lit (.bool false)], args := [d] }
  | _ => none }
def FnExactGoodNodesWrongFalsely : Prop := fnExactGoodNodesRow.holds Tryd.pinned (OpenSpec.ofChange fnExactGoodNodesWrong)

/-- 'laws.FnExactMarksText': WHATEVER THE INPUT: true; the input reads as it did. -/
def fnExactMarksTextSpec : ChangeSpec := { name := "fnExactMarksText", fn := fun _ => fun
  | [d] => { results := [.lit (.bool true)], args := [d] }
  | _ => none }
def fnExactMarksTextRow : OpenClaim := { program := "ytjpncdpnflhkkaadoor", sum := "2c693d22a611ef4cc3cbee92aa7c9e7046da27660f776e9aa72cb5cd0823928b", func := "loop.example/g00137/laws.FnExactMarksText", spec := "fnExactMarksText", recurses := true, named := ["unicode/utf8.first", "unicode/utf8.acceptRanges"], apart := false, laid := [("unicode/utf8.acceptRanges", laid_unicode_utf8_acceptRanges), ("unicode/utf8.first", laid_unicode_utf8_first)] }
def FnExactMarksTextSaid : Prop := fnExactMarksTextRow.holds Tryd.pinned (OpenSpec.ofChange fnExactMarksTextSpec)

/-- ITS FALSE NEIGHBOUR: 'it returns false'. Refute it at one input. -/
def fnExactMarksTextWrong : ChangeSpec := { name := "fnExactMarksText", fn := fun _ => fun
  | [d] => { results := [.lit (.bool false)], args := [d] }
  | _ => none }
def FnExactMarksTextWrongFalsely : Prop := fnExactMarksTextRow.holds Tryd.pinned (OpenSpec.ofChange fnExactMarksTextWrong)

/-- 'laws.FnExactTextUnder': WHATEVER THE INPUT: true; the input reads as it did. -/
def fnExactTextUnderSpec : ChangeSpec := { name := "fnExactTextUnder", fn := fun _ => fun
  | [d1, d2] => { results := [.lit (.bool true)], args := [d1, d2] }
  | _ => none }
def fnExactTextUnderRow : OpenClaim := { program := "ytjpncdpnflhkkaadoor", sum := "2c693d22a611ef4cc3cbee92aa7c9e7046da27660f776e9aa72cb5cd0823928b", func := "loop.example/g00137/laws.FnExactTextUnder", spec := "fnExactTextUnder", inPlace := ["internal/abi.NoEscape"], named := ["unicode/utf8.first", "unicode/utf8.acceptRanges"], apart := false, laid := [("unicode/utf8.acceptRanges", laid_unicode_utf8_acceptRanges), ("unicode/utf8.first", laid_unicode_utf8_first)] }
def FnExactTextUnderSaid : Prop := fnExactTextUnderRow.holds Tryd.pinned (OpenSpec.ofChange fnExactTextUnderSpec)

/-- ITS FALSE NEIGHBOUR: 'it returns false'. Refute it at one input. -/
def fnExactTextUnderWrong : ChangeSpec := { name := "fnExactTextUnder", fn := fun _ => fun
  | [d1, d2] => { results := [.lit (.bool false)], args := [d1, d2] }
  | _ => none }
def FnExactTextUnderWrongFalsely : Prop := fnExactTextUnderRow.holds Tryd.pinned (OpenSpec.ofChange fnExactTextUnderWrong)

/- THE SECOND FORM. 'bulk': how many values and letters a reading holds, each counted each time it is reached (what is shared counts as often as it is met; a slice's spare places count too). A statement '..UptoSaid' is the law's where the arguments, and the package variables that the reading takes, are together of bulk at most 1048576: NARROWER than '..Said'. Prove '..Said' where nothing that the law and all that it calls make is longer than what came in: it says more and counts as full. Else prove '..UptoSaid'. A law counts once. -/
mutual
def uptoBulk {H : Type} : DataW H → Nat
  | .lit (.string bytes) => bytes.length + 1
  | .lit _ => 1
  | .nil => 1
  | .ptr d => uptoBulk d + 1
  | .slice elems spare => uptoBulkAll elems + uptoBulkAll spare + 1
  | .agg parts => uptoBulkAll parts + 1
  | .iface _ d => uptoBulk d + 1
  | .map entries => uptoBulkEntries entries + 1
  | .held _ => 1
def uptoBulkAll {H : Type} : List (DataW H) → Nat
  | [] => 0
  | d :: r => uptoBulk d + uptoBulkAll r
def uptoBulkEntries {H : Type} : List (Lit × DataW H) → Nat
  | [] => 0
  | x :: r => uptoBulkEntry x + uptoBulkEntries r
def uptoBulkEntry {H : Type} : Lit × DataW H → Nat
  | (.string bytes, d) => bytes.length + uptoBulk d + 1
  | (_, d) => uptoBulk d + 1
 end
def uptoSmall : (H : Type) → List (DataW H) → Bool := fun _ ds => decide (uptoBulkAll ds ≤ 1048576)
def OpenSpec.upto (s : _root_.Go.ChangeSpec) : _root_.Go.OpenSpec := { _root_.Go.OpenSpec.ofChange s with cond := some uptoSmall }

/-- 'laws.FnExactGoodNodes', WHERE WHAT IT READS IS OF BULK AT MOST 1048576: true; the input reads as it did. -/
def fnExactGoodNodesUptoRow : OpenClaim := { program := "ytjpncdpnflhkkaadoor", sum := "2c693d22a611ef4cc3cbee92aa7c9e7046da27660f776e9aa72cb5cd0823928b", func := "loop.example/g00137/laws.FnExactGoodNodes", spec := "fnExactGoodNodes", named := ["unicode/utf8.first", "unicode/utf8.acceptRanges"], apart := false, laid := [("unicode/utf8.acceptRanges", laid_unicode_utf8_acceptRanges), ("unicode/utf8.first", laid_unicode_utf8_first)], narrowed := true }
def FnExactGoodNodesUptoSaid : Prop := fnExactGoodNodesUptoRow.holds Tryd.pinned (OpenSpec.upto fnExactGoodNodesSpec)

/-- 'laws.FnExactMarksText', WHERE WHAT IT READS IS OF BULK AT MOST 1048576: true; the input reads as it did. -/
def fnExactMarksTextUptoRow : OpenClaim := { program := "ytjpncdpnflhkkaadoor", sum := "2c693d22a611ef4cc3cbee92aa7c9e7046da27660f776e9aa72cb5cd0823928b", func := "loop.example/g00137/laws.FnExactMarksText", spec := "fnExactMarksText", recurses := true, named := ["unicode/utf8.first", "unicode/utf8.acceptRanges"], apart := false, laid := [("unicode/utf8.acceptRanges", laid_unicode_utf8_acceptRanges), ("unicode/utf8.first", laid_unicode_utf8_first)], narrowed := true }
def FnExactMarksTextUptoSaid : Prop := fnExactMarksTextUptoRow.holds Tryd.pinned (OpenSpec.upto fnExactMarksTextSpec)

/-- 'laws.FnExactTextUnder', WHERE WHAT IT READS IS OF BULK AT MOST 1048576: true; the input reads as it did. -/
def fnExactTextUnderUptoRow : OpenClaim := { program := "ytjpncdpnflhkkaadoor", sum := "2c693d22a611ef4cc3cbee92aa7c9e7046da27660f776e9aa72cb5cd0823928b", func := "loop.example/g00137/laws.FnExactTextUnder", spec := "fnExactTextUnder", inPlace := ["internal/abi.NoEscape"], named := ["unicode/utf8.first", "unicode/utf8.acceptRanges"], apart := false, laid := [("unicode/utf8.acceptRanges", laid_unicode_utf8_acceptRanges), ("unicode/utf8.first", laid_unicode_utf8_first)], narrowed := true }
def FnExactTextUnderUptoSaid : Prop := fnExactTextUnderUptoRow.holds Tryd.pinned (OpenSpec.upto fnExactTextUnderSpec)

end Rows
end Go.Proofs.YtjpncdpnflhkkaaDoor

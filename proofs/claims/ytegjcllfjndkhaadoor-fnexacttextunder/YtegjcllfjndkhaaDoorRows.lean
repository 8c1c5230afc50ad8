/-
  NARROWER THAN 'FOR EVERY INPUT', by the rows' own cells (each row's printed sentence says how): FnExactMarksText: laid · FnExactTextUnder: laid · FnExactReadStyle: laid · FnExactReadSelector: laid · FnExactSheetText: laid.
  DERIVED. THE GIVEN ROWS OF THIS SEAT. 5 by the template 'for every input the law returns true; each argument reads behind the call as it read before'; 0 by the template 'total and deterministic' (their statements: YtegjcllfjndkhaaDoorTotals.lean).
  GIVEN WITH THE SEED: the statements are not yours to turn. If you find one false, say at which input.
  Laid BY PROGRAM, IN A SANDBOX (cutbox-rows.mjs): the forced cells as the released guide's own fill.sh prints them over the translation 50c0b18cce901f3e… (all of the seat's roots in one cut). By AI agents, Wed Nov 11 2026. No macro, syntax, notation, axiom, sorry.
-/
import Derived.Test.YtegjcllfjndkhaaDoorChecked
import GoSem.PinnedTables
import GoSem.Claim
import GoSem.ClaimJoined
import GoSem.ClaimMapViews
import Derived.JoinedTies
import Derived.KernelRfl
namespace Go.Proofs.YtegjcllfjndkhaaDoor
/- THE CELL 'sum', in the pinned program and in every row, IS THE sha256 OF THE DUMP (.gsa) THAT YtegjcllfjndkhaaDoorProg.lean LOADS. Nothing in Lean hashes anything: it is a label: what it is worth is what the hold of that sum in a sandbox is worth. -/
noncomputable def Tryd.pinned : Pinned := { name := "ytegjcllfjndkhaadoor", sum := "50c0b18cce901f3e500db3f4ef8ec4e51d8fa50f8b6d3b47ebd78a6dd0442784", checked := Tryd.checked }
namespace Rows
def none {H : Type} : Left H := { results := [], args := [] }

/- WHAT THE LISTED PACKAGE-LEVEL VARIABLES READ AS WHEN THE CALL BEGINS. Each datum BY PROGRAM (the guide's laid-datum.mjs) off the statement by which the dump's own 'gosem.cut.vars' lays the variable. In a bare row this is a premise. The card (YtegjcllfjndkhaaDoorCards.lean) ties it to the program's text. -/
def laid_unicode_utf8_acceptRanges {H : Type} : DataW H := .agg [.agg [.lit (.int .u8 128), .lit (.int .u8 191)], .agg [.lit (.int .u8 160), .lit (.int .u8 191)], .agg [.lit (.int .u8 128), .lit (.int .u8 159)], .agg [.lit (.int .u8 144), .lit (.int .u8 191)], .agg [.lit (.int .u8 128), .lit (.int .u8 143)], .agg [.lit (.int .u8 0), .lit (.int .u8 0)], .agg [.lit (.int .u8 0), .lit (.int .u8 0)], .agg [.lit (.int .u8 0), .lit (.int .u8 0)], .agg [.lit (.int .u8 0), .lit (.int .u8 0)], .agg [.lit (.int .u8 0), .lit (.int .u8 0)], .agg [.lit (.int .u8 0), .lit (.int .u8 0)], .agg [.lit (.int .u8 0), .lit (.int .u8 0)], .agg [.lit (.int .u8 0), .lit (.int .u8 0)], .agg [.lit (.int .u8 0), .lit (.int .u8 0)], .agg [.lit (.int .u8 0), .lit (.int .u8 0)], .agg [.lit (.int .u8 0), .lit (.int .u8 0)]]
/-- One of Go's own tables, pinned by name: the form's constant. -/
def laid_unicode_utf8_first : DataW Unit := Go.Pinned.utf8First
/-- One of Go's own tables, pinned by name: the form's constant. -/
def laid_unicode_CaseRanges : DataW Unit := Go.Pinned.caseRanges

/-- 'laws.FnExactMarksText': WHATEVER THE INPUT: true; the input reads as it did. -/
def fnExactMarksTextSpec : ChangeSpec := { name := "fnExactMarksText", fn := fun _ => fun
  | [d] => { results := [.lit (.bool true)], args := [d] }
  | _ => none }
def fnExactMarksTextRow : OpenClaim := { program := "ytegjcllfjndkhaadoor", sum := "50c0b18cce901f3e500db3f4ef8ec4e51d8fa50f8b6d3b47ebd78a6dd0442784", func := "loop.example/g00137/laws.FnExactMarksText", spec := "fnExactMarksText", recurses := true, named := ["unicode/utf8.first", "unicode/utf8.acceptRanges"], apart := false, laid := [("unicode/utf8.acceptRanges", laid_unicode_utf8_acceptRanges), ("unicode/utf8.first", laid_unicode_utf8_first)] }
def FnExactMarksTextSaid : Prop := fnExactMarksTextRow.holds Tryd.pinned (OpenSpec.ofChange fnExactMarksTextSpec)

/-- ITS FALSE NEIGHBOUR: 'it returns false'. Refute it at one input. -/
def fnExactMarksTextWrong : ChangeSpec := { name := "fnExactMarksText", fn := fun _ => fun
  | [d] => { results := [.lit (.bool false)], args := [d] }
  | _ => none }
def FnExactMarksTextWrongFalsely : Prop := fnExactMarksTextRow.holds Tryd.pinned (OpenSpec.ofChange fnExactMarksTextWrong)

/-- 'laws.FnExactTextUnder': WHATEVER THE INPUT: true; the input reads as it did. -/
def fnExactTextUnderSpec : ChangeSpec := { name := "fnExactTextUnder", fn := fun _ => fun
  | [d1, d2] => { results := [.lit (.bool true)], args := [d1, d2] }
  | _ => none }
def fnExactTextUnderRow : OpenClaim := { program := "ytegjcllfjndkhaadoor", sum := "50c0b18cce901f3e500db3f4ef8ec4e51d8fa50f8b6d3b47ebd78a6dd0442784", func := "loop.example/g00137/laws.FnExactTextUnder", spec := "fnExactTextUnder", inPlace := ["internal/abi.NoEscape"], named := ["unicode/utf8.first", "unicode/utf8.acceptRanges"], apart := false, laid := [("unicode/utf8.acceptRanges", laid_unicode_utf8_acceptRanges), ("unicode/utf8.first", laid_unicode_utf8_first)] }
def FnExactTextUnderSaid : Prop := fnExactTextUnderRow.holds Tryd.pinned (OpenSpec.ofChange fnExactTextUnderSpec)

/-- ITS FALSE NEIGHBOUR: 'it returns false'. Refute it at one input. -/
def fnExactTextUnderWrong : ChangeSpec := { name := "fnExactTextUnder", fn := fun _ => fun
  | [d1, d2] => { results := [.lit (.bool false)], args := [d1, d2] }
  | _ => none }
def FnExactTextUnderWrongFalsely : Prop := fnExactTextUnderRow.holds Tryd.pinned (OpenSpec.ofChange fnExactTextUnderWrong)

/-- 'laws.FnExactReadStyle': WHATEVER THE INPUT: true; the input reads as it did. -/
def fnExactReadStyleSpec : ChangeSpec := { name := "fnExactReadStyle", fn := fun _ => fun
  | [d] => { results := [.lit (.bool true)], args := [d] }
  | _ => none }
def fnExactReadStyleRow : OpenClaim := { program := "ytegjcllfjndkhaadoor", sum := "50c0b18cce901f3e500db3f4ef8ec4e51d8fa50f8b6d3b47ebd78a6dd0442784", func := "loop.example/g00137/laws.FnExactReadStyle", spec := "fnExactReadStyle", inPlace := ["internal/bytealg.IndexByteString", "internal/bytealg.IndexString", "internal/abi.NoEscape", "internal/bytealg.CountString", "internal/bytealg.MakeNoZero"], unfollowed := true, recurses := true, named := ["internal/bytealg.MaxLen", "unicode/utf8.first", "unicode/utf8.acceptRanges", "unicode.CaseRanges"], apart := false, laid := [("unicode/utf8.acceptRanges", laid_unicode_utf8_acceptRanges), ("unicode.CaseRanges", laid_unicode_CaseRanges), ("unicode/utf8.first", laid_unicode_utf8_first)] }
def FnExactReadStyleSaid : Prop := fnExactReadStyleRow.holds Tryd.pinned (OpenSpec.ofChange fnExactReadStyleSpec)

/-- ITS FALSE NEIGHBOUR: 'it returns false'. Refute it at one input. -/
def fnExactReadStyleWrong : ChangeSpec := { name := "fnExactReadStyle", fn := fun _ => fun
  | [d] => { results := [.lit (.bool false)], args := [d] }
  | _ => none }
def FnExactReadStyleWrongFalsely : Prop := fnExactReadStyleRow.holds Tryd.pinned (OpenSpec.ofChange fnExactReadStyleWrong)

/-- 'laws.FnExactReadSelector': WHATEVER THE INPUT: true; the input reads as it did. -/
def fnExactReadSelectorSpec : ChangeSpec := { name := "fnExactReadSelector", fn := fun _ => fun
  | [d] => { results := [.lit (.bool true)], args := [d] }
  | _ => none }
def fnExactReadSelectorRow : OpenClaim := { program := "ytegjcllfjndkhaadoor", sum := "50c0b18cce901f3e500db3f4ef8ec4e51d8fa50f8b6d3b47ebd78a6dd0442784", func := "loop.example/g00137/laws.FnExactReadSelector", spec := "fnExactReadSelector", inPlace := ["internal/bytealg.IndexByteString", "internal/bytealg.IndexString", "internal/bytealg.CountString"], unfollowed := true, recurses := true, named := ["unicode/utf8.first", "unicode/utf8.acceptRanges", "internal/bytealg.MaxLen"], apart := false, laid := [("unicode/utf8.acceptRanges", laid_unicode_utf8_acceptRanges), ("unicode/utf8.first", laid_unicode_utf8_first)] }
def FnExactReadSelectorSaid : Prop := fnExactReadSelectorRow.holds Tryd.pinned (OpenSpec.ofChange fnExactReadSelectorSpec)

/-- ITS FALSE NEIGHBOUR: 'it returns false'. Refute it at one input. -/
def fnExactReadSelectorWrong : ChangeSpec := { name := "fnExactReadSelector", fn := fun _ => fun
  | [d] => { results := [.lit (.bool false)], args := [d] }
  | _ => none }
def FnExactReadSelectorWrongFalsely : Prop := fnExactReadSelectorRow.holds Tryd.pinned (OpenSpec.ofChange fnExactReadSelectorWrong)

/-- 'laws.FnExactSheetText': WHATEVER THE INPUT: true; the input reads as it did. -/
def fnExactSheetTextSpec : ChangeSpec := { name := "fnExactSheetText", fn := fun _ => fun
  | [d] => { results := [.lit (.bool true)], args := [d] }
  | _ => none }
def fnExactSheetTextRow : OpenClaim := { program := "ytegjcllfjndkhaadoor", sum := "50c0b18cce901f3e500db3f4ef8ec4e51d8fa50f8b6d3b47ebd78a6dd0442784", func := "loop.example/g00137/laws.FnExactSheetText", spec := "fnExactSheetText", inPlace := ["internal/abi.NoEscape", "internal/bytealg.MakeNoZero", "internal/bytealg.IndexByteString", "internal/bytealg.IndexString"], unfollowed := true, recurses := true, named := ["unicode/utf8.first", "unicode/utf8.acceptRanges", "unicode.CaseRanges", "internal/bytealg.MaxLen"], apart := false, laid := [("unicode/utf8.acceptRanges", laid_unicode_utf8_acceptRanges), ("unicode.CaseRanges", laid_unicode_CaseRanges), ("unicode/utf8.first", laid_unicode_utf8_first)] }
def FnExactSheetTextSaid : Prop := fnExactSheetTextRow.holds Tryd.pinned (OpenSpec.ofChange fnExactSheetTextSpec)

/-- ITS FALSE NEIGHBOUR: 'it returns false'. Refute it at one input. -/
def fnExactSheetTextWrong : ChangeSpec := { name := "fnExactSheetText", fn := fun _ => fun
  | [d] => { results := [.lit (.bool false)], args := [d] }
  | _ => none }
def FnExactSheetTextWrongFalsely : Prop := fnExactSheetTextRow.holds Tryd.pinned (OpenSpec.ofChange fnExactSheetTextWrong)

/- THE SECOND FORM. 'bulk': how many values and letters a reading holds, each counted each time it is reached (what is shared counts as often as it is met; a slice's spare places count too). A statement '..UptoSaid' is the law's where the arguments, and the package variables that the reading takes, are together of bulk at most 1048576: NARROWER than '..Said'. Prove '..Said' where nothing that the law and all that it calls make is longer than what came in: it says more and counts as full. Else prove '..UptoSaid'. A law counts once. -/
mutual
def uptoBulk {H : Type} : DataW H → Nat
  | .lit (.string bytes) => bytes.length + 1
  | .lit _ => 1
  | .nil => 1
  | .ptr d => uptoBulk d + 1
  | .slice elems spare => uptoBulkAll elems + uptoBulkAll spare + 1
  | .agg parts => uptoBulkAll parts + 1
  | .iface _ d => uptoBulk d + 1
  | .map entries => uptoBulkEntries entries + 1
  | .held _ => 1
def uptoBulkAll {H : Type} : List (DataW H) → Nat
  | [] => 0
  | d :: r => uptoBulk d + uptoBulkAll r
def uptoBulkEntries {H : Type} : List (Lit × DataW H) → Nat
  | [] => 0
  | x :: r => uptoBulkEntry x + uptoBulkEntries r
def uptoBulkEntry {H : Type} : Lit × DataW H → Nat
  | (.string bytes, d) => bytes.length + uptoBulk d + 1
  | (_, d) => uptoBulk d + 1
 end
def uptoSmall : (H : Type) → List (DataW H) → Bool := fun _ ds => decide (uptoBulkAll ds ≤ 1048576)
def OpenSpec.upto (s : _root_.Go.ChangeSpec) : _root_.Go.OpenSpec := { _root_.Go.OpenSpec.ofChange s with cond := some uptoSmall }

/-- 'laws.FnExactMarksText', WHERE WHAT IT READS IS OF BULK AT MOST 1048576: true; the input reads as it did. -/
def fnExactMarksTextUptoRow : OpenClaim := { program := "ytegjcllfjndkhaadoor", sum := "50c0b18cce901f3e500db3f4ef8ec4e51d8fa50f8b6d3b47ebd78a6dd0442784", func := "loop.example/g00137/laws.FnExactMarksText", spec := "fnExactMarksText", recurses := true, named := ["unicode/utf8.first", "unicode/utf8.acceptRanges"], apart := false, laid := [("unicode/utf8.acceptRanges", laid_unicode_utf8_acceptRanges), ("unicode/utf8.first", laid_unicode_utf8_first)], narrowed := true }
def FnExactMarksTextUptoSaid : Prop := fnExactMarksTextUptoRow.holds Tryd.pinned (OpenSpec.upto fnExactMarksTextSpec)

/-- 'laws.FnExactTextUnder', WHERE WHAT IT READS IS OF BULK AT MOST 1048576: true; the input reads as it did. -/
def fnExactTextUnderUptoRow : OpenClaim := { program := "ytegjcllfjndkhaadoor", sum := "50c0b18cce901f3e500db3f4ef8ec4e51d8fa50f8b6d3b47ebd78a6dd0442784", func := "loop.example/g00137/laws.FnExactTextUnder", spec := "fnExactTextUnder", inPlace := ["internal/abi.NoEscape"], named := ["unicode/utf8.first", "unicode/utf8.acceptRanges"], apart := false, laid := [("unicode/utf8.acceptRanges", laid_unicode_utf8_acceptRanges), ("unicode/utf8.first", laid_unicode_utf8_first)], narrowed := true }
def FnExactTextUnderUptoSaid : Prop := fnExactTextUnderUptoRow.holds Tryd.pinned (OpenSpec.upto fnExactTextUnderSpec)

/-- 'laws.FnExactReadStyle', WHERE WHAT IT READS IS OF BULK AT MOST 1048576: true; the input reads as it did. -/
def fnExactReadStyleUptoRow : OpenClaim := { program := "ytegjcllfjndkhaadoor", sum := "50c0b18cce901f3e500db3f4ef8ec4e51d8fa50f8b6d3b47ebd78a6dd0442784", func := "loop.example/g00137/laws.FnExactReadStyle", spec := "fnExactReadStyle", inPlace := ["internal/bytealg.IndexByteString", "internal/bytealg.IndexString", "internal/abi.NoEscape", "internal/bytealg.CountString", "internal/bytealg.MakeNoZero"], unfollowed := true, recurses := true, named := ["internal/bytealg.MaxLen", "unicode/utf8.first", "unicode/utf8.acceptRanges", "unicode.CaseRanges"], apart := false, laid := [("unicode/utf8.acceptRanges", laid_unicode_utf8_acceptRanges), ("unicode.CaseRanges", laid_unicode_CaseRanges), ("unicode/utf8.first", laid_unicode_utf8_first)], narrowed := true }
def FnExactReadStyleUptoSaid : Prop := fnExactReadStyleUptoRow.holds Tryd.pinned (OpenSpec.upto fnExactReadStyleSpec)

/-- 'laws.FnExactReadSelector', WHERE WHAT IT READS IS OF BULK AT MOST 1048576: true; the input reads as it did. -/
def fnExactReadSelectorUptoRow : OpenClaim := { program := "ytegjcllfjndkhaadoor", sum := "50c0b18cce901f3e500db3f4ef8ec4e51d8fa50f8b6d3b47ebd78a6dd0442784", func := "loop.example/g00137/laws.FnExactReadSelector", spec := "fnExactReadSelector", inPlace := ["internal/bytealg.IndexByteString", "internal/bytealg.IndexString", "internal/bytealg.CountString"], unfollowed := true, recurses := true, named := ["unicode/utf8.first", "unicode/utf8.acceptRanges", "internal/bytealg.MaxLen"], apart := false, laid := [("unicode/utf8.acceptRanges", laid_unicode_utf8_acceptRanges), ("unicode/utf8.first", laid_unicode_utf8_first)], narrowed := true }
def FnExactReadSelectorUptoSaid : Prop := fnExactReadSelectorUptoRow.holds Tryd.pinned (OpenSpec.upto fnExactReadSelectorSpec)

/-- 'laws.FnExactSheetText', WHERE WHAT IT READS IS OF BULK AT MOST 1048576: true; the input reads as it did. -/
def fnExactSheetTextUptoRow : OpenClaim := { program := "ytegjcllfjndkhaadoor", sum := "50c0b18cce901f3e500db3f4ef8ec4e51d8fa50f8b6d3b47ebd78a6dd0442784", func := "loop.example/g00137/laws.FnExactSheetText", spec := "fnExactSheetText", inPlace := ["internal/abi.NoEscape", "internal/bytealg.MakeNoZero", "internal/bytealg.IndexByteString", "internal/bytealg.IndexString"], unfollowed := true, recurses := true, named := ["unicode/utf8.first", "unicode/utf8.acceptRanges", "unicode.CaseRanges", "internal/bytealg.MaxLen"], apart := false, laid := [("unicode/utf8.acceptRanges", laid_unicode_utf8_acceptRanges), ("unicode.CaseRanges", laid_unicode_CaseRanges), ("unicode/utf8.first", laid_unicode_utf8_first)], narrowed := true }
def FnExactSheetTextUptoSaid : Prop := fnExactSheetTextUptoRow.holds Tryd.pinned (OpenSpec.upto fnExactSheetTextSpec)

end Rows
end Go.Proofs.YtegjcllfjndkhaaDoor

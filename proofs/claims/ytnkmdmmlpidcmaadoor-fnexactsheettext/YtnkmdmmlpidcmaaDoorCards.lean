/-
  DERIVED. GIVEN WITH THE SEED: THE CARDS: each row of YtnkmdmmlpidcmaaDoorRows.lean that lists a variable, with what it lists TIED to the program's text (the seventh form; the later family's looks); each row that meets fmt, with fmt's text TOLD by the authors' own Lean function (tested against real Go, not proved from fmt's source: count such statements apart). THE CARD IS WHAT COUNTS. Prove the row's statement (the work); the ties are given (YtnkmdmmlpidcmaaDoorTie.lean); close each card by the builder's one call (the guide's Derived/Test/ToyasCard.lean, 'card_holds'). Laid BY PROGRAM, IN A SANDBOX (cutbox-door.mjs). By AI agents, Wed Nov 11 2026. No macro, syntax, notation, axiom, sorry.
-/
import Derived.Test.YtnkmdmmlpidcmaaDoorRows
import GoSem.ClaimSeven
namespace Go.Proofs.YtnkmdmmlpidcmaaDoor
namespace Rows

/-- THE TIED CARD OF 'laws.FnExactReadStyle'. -/
def fnExactReadStyleCard : Claim7 := { stood := { row := fnExactReadStyleRow, standIns := [], harness := (true, "872e04f532e00f7ae1e096c41db3cd3493ee91699fc6ee7fc6dd80aa93ed8635"), looks := true }, kinds := [], alts := [], laidByText := true, laidKinds := [.data, .pinned, .pinned], laidTests := true, laidLooks := .later }
def FnExactReadStyleCardSaid : Prop := Claim7.holds Tryd.pinned (.plain (OpenSpec.ofChange fnExactReadStyleSpec)) fnExactReadStyleCard

/-- THE TIED CARD OF 'laws.FnExactReadSelector'. -/
def fnExactReadSelectorCard : Claim7 := { stood := { row := fnExactReadSelectorRow, standIns := [], harness := (true, "872e04f532e00f7ae1e096c41db3cd3493ee91699fc6ee7fc6dd80aa93ed8635"), looks := true }, kinds := [], alts := [], laidByText := true, laidKinds := [.data, .pinned], laidTests := true, laidLooks := .later }
def FnExactReadSelectorCardSaid : Prop := Claim7.holds Tryd.pinned (.plain (OpenSpec.ofChange fnExactReadSelectorSpec)) fnExactReadSelectorCard

/-- THE TIED CARD OF 'laws.FnExactSheetText'. -/
def fnExactSheetTextCard : Claim7 := { stood := { row := fnExactSheetTextRow, standIns := [], harness := (true, "872e04f532e00f7ae1e096c41db3cd3493ee91699fc6ee7fc6dd80aa93ed8635"), looks := true }, kinds := [], alts := [], laidByText := true, laidKinds := [.data, .pinned, .pinned], laidTests := true, laidLooks := .later }
def FnExactSheetTextCardSaid : Prop := Claim7.holds Tryd.pinned (.plain (OpenSpec.ofChange fnExactSheetTextSpec)) fnExactSheetTextCard

/-- THE TIED CARD OF 'laws.FnExactReadColor'. -/
def fnExactReadColorCard : Claim7 := { stood := { row := fnExactReadColorRow, standIns := [], harness := (true, "872e04f532e00f7ae1e096c41db3cd3493ee91699fc6ee7fc6dd80aa93ed8635"), looks := true }, kinds := [], alts := [], laidByText := true, laidKinds := [.data, .data, .data, .data, .sentinel, .sentinel, .pinned], laidTests := true, laidLooks := .later }
def FnExactReadColorCardSaid : Prop := Claim7.holds Tryd.pinned (.plain (OpenSpec.ofChange fnExactReadColorSpec)) fnExactReadColorCard

/-- THE SECOND FORM's CARD OF 'laws.FnExactReadStyle'. -/
def fnExactReadStyleUptoCard : Claim7 := { stood := { row := fnExactReadStyleUptoRow, standIns := [], harness := (true, "872e04f532e00f7ae1e096c41db3cd3493ee91699fc6ee7fc6dd80aa93ed8635"), looks := true }, kinds := [], alts := [], laidByText := true, laidKinds := [.data, .pinned, .pinned], laidTests := true, laidLooks := .later }
def FnExactReadStyleUptoCardSaid : Prop := Claim7.holds Tryd.pinned (.plain (OpenSpec.upto fnExactReadStyleSpec)) fnExactReadStyleUptoCard

/-- THE SECOND FORM's CARD OF 'laws.FnExactReadSelector'. -/
def fnExactReadSelectorUptoCard : Claim7 := { stood := { row := fnExactReadSelectorUptoRow, standIns := [], harness := (true, "872e04f532e00f7ae1e096c41db3cd3493ee91699fc6ee7fc6dd80aa93ed8635"), looks := true }, kinds := [], alts := [], laidByText := true, laidKinds := [.data, .pinned], laidTests := true, laidLooks := .later }
def FnExactReadSelectorUptoCardSaid : Prop := Claim7.holds Tryd.pinned (.plain (OpenSpec.upto fnExactReadSelectorSpec)) fnExactReadSelectorUptoCard

/-- THE SECOND FORM's CARD OF 'laws.FnExactSheetText'. -/
def fnExactSheetTextUptoCard : Claim7 := { stood := { row := fnExactSheetTextUptoRow, standIns := [], harness := (true, "872e04f532e00f7ae1e096c41db3cd3493ee91699fc6ee7fc6dd80aa93ed8635"), looks := true }, kinds := [], alts := [], laidByText := true, laidKinds := [.data, .pinned, .pinned], laidTests := true, laidLooks := .later }
def FnExactSheetTextUptoCardSaid : Prop := Claim7.holds Tryd.pinned (.plain (OpenSpec.upto fnExactSheetTextSpec)) fnExactSheetTextUptoCard

/-- THE SECOND FORM's CARD OF 'laws.FnExactReadColor'. -/
def fnExactReadColorUptoCard : Claim7 := { stood := { row := fnExactReadColorUptoRow, standIns := [], harness := (true, "872e04f532e00f7ae1e096c41db3cd3493ee91699fc6ee7fc6dd80aa93ed8635"), looks := true }, kinds := [], alts := [], laidByText := true, laidKinds := [.data, .data, .data, .data, .sentinel, .sentinel, .pinned], laidTests := true, laidLooks := .later }
def FnExactReadColorUptoCardSaid : Prop := Claim7.holds Tryd.pinned (.plain (OpenSpec.upto fnExactReadColorSpec)) fnExactReadColorUptoCard
end Rows
end Go.Proofs.YtnkmdmmlpidcmaaDoor

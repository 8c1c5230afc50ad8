/-
  DERIVED. GIVEN WITH THE SEED: THE CARDS: each row of YtjpncdpnflhkkaaDoorRows.lean that lists a variable, with what it lists TIED to the program's text (the seventh form; the later family's looks); each row that meets fmt, with fmt's text TOLD by the authors' own Lean function (tested against real Go, not proved from fmt's source: count such statements apart). THE CARD IS WHAT COUNTS. Prove the row's statement (the work); the ties are given (YtjpncdpnflhkkaaDoorTie.lean); close each card by the builder's one call (the guide's Derived/Test/ToyasCard.lean, 'card_holds'). Laid BY PROGRAM, IN A SANDBOX (cutbox-door.mjs). By AI agents, Wed Nov 11 2026. No macro, syntax, notation, axiom, sorry.
-/
import Derived.Test.YtjpncdpnflhkkaaDoorRows
import GoSem.ClaimSeven
namespace Go.Proofs.YtjpncdpnflhkkaaDoor
namespace Rows

/-- THE TIED CARD OF 'laws.FnExactGoodNodes'. -/
def fnExactGoodNodesCard : Claim7 := { stood := { row := fnExactGoodNodesRow, standIns := [], harness := (true, "ccff7540075aa604e9d606ec0aa3a0a70c5e910f08c27626b0720ca0a8588404"), looks := false }, kinds := [], alts := [], laidByText := true, laidKinds := [.data, .pinned], laidTests := true, laidLooks := .later }
def FnExactGoodNodesCardSaid : Prop := Claim7.holds Tryd.pinned (.plain (OpenSpec.ofChange fnExactGoodNodesSpec)) fnExactGoodNodesCard

/-- THE TIED CARD OF 'laws.FnExactMarksText'. -/
def fnExactMarksTextCard : Claim7 := { stood := { row := fnExactMarksTextRow, standIns := [], harness := (true, "ccff7540075aa604e9d606ec0aa3a0a70c5e910f08c27626b0720ca0a8588404"), looks := false }, kinds := [], alts := [], laidByText := true, laidKinds := [.data, .pinned], laidTests := true, laidLooks := .later }
def FnExactMarksTextCardSaid : Prop := Claim7.holds Tryd.pinned (.plain (OpenSpec.ofChange fnExactMarksTextSpec)) fnExactMarksTextCard

/-- THE TIED CARD OF 'laws.FnExactTextUnder'. -/
def fnExactTextUnderCard : Claim7 := { stood := { row := fnExactTextUnderRow, standIns := [], harness := (true, "ccff7540075aa604e9d606ec0aa3a0a70c5e910f08c27626b0720ca0a8588404"), looks := false }, kinds := [], alts := [], laidByText := true, laidKinds := [.data, .pinned], laidTests := true, laidLooks := .later }
def FnExactTextUnderCardSaid : Prop := Claim7.holds Tryd.pinned (.plain (OpenSpec.ofChange fnExactTextUnderSpec)) fnExactTextUnderCard

/-- THE SECOND FORM's CARD OF 'laws.FnExactGoodNodes'. -/
def fnExactGoodNodesUptoCard : Claim7 := { stood := { row := fnExactGoodNodesUptoRow, standIns := [], harness := (true, "ccff7540075aa604e9d606ec0aa3a0a70c5e910f08c27626b0720ca0a8588404"), looks := false }, kinds := [], alts := [], laidByText := true, laidKinds := [.data, .pinned], laidTests := true, laidLooks := .later }
def FnExactGoodNodesUptoCardSaid : Prop := Claim7.holds Tryd.pinned (.plain (OpenSpec.upto fnExactGoodNodesSpec)) fnExactGoodNodesUptoCard

/-- THE SECOND FORM's CARD OF 'laws.FnExactMarksText'. -/
def fnExactMarksTextUptoCard : Claim7 := { stood := { row := fnExactMarksTextUptoRow, standIns := [], harness := (true, "ccff7540075aa604e9d606ec0aa3a0a70c5e910f08c27626b0720ca0a8588404"), looks := false }, kinds := [], alts := [], laidByText := true, laidKinds := [.data, .pinned], laidTests := true, laidLooks := .later }
def FnExactMarksTextUptoCardSaid : Prop := Claim7.holds Tryd.pinned (.plain (OpenSpec.upto fnExactMarksTextSpec)) fnExactMarksTextUptoCard

/-- THE SECOND FORM's CARD OF 'laws.FnExactTextUnder'. -/
def fnExactTextUnderUptoCard : Claim7 := { stood := { row := fnExactTextUnderUptoRow, standIns := [], harness := (true, "ccff7540075aa604e9d606ec0aa3a0a70c5e910f08c27626b0720ca0a8588404"), looks := false }, kinds := [], alts := [], laidByText := true, laidKinds := [.data, .pinned], laidTests := true, laidLooks := .later }
def FnExactTextUnderUptoCardSaid : Prop := Claim7.holds Tryd.pinned (.plain (OpenSpec.upto fnExactTextUnderSpec)) fnExactTextUnderUptoCard
end Rows
end Go.Proofs.YtjpncdpnflhkkaaDoor

/-
  DERIVED. GIVEN WITH THE SEED: THE CARDS: each row of YteehoihkbcbbgaaDoorRows.lean that lists a variable, with what it lists TIED to the program's text (the seventh form; the later family's looks); each row that meets fmt, with fmt's text TOLD by the authors' own Lean function (tested against real Go, not proved from fmt's source: count such statements apart). THE CARD IS WHAT COUNTS. Prove the row's statement (the work); the ties are given (YteehoihkbcbbgaaDoorTie.lean); close each card by the builder's one call (the guide's Derived/Test/ToyasCard.lean, 'card_holds'). Laid BY PROGRAM, IN A SANDBOX (cutbox-door.mjs). By AI agents, Wed Nov 11 2026. No macro, syntax, notation, axiom, sorry.
-/
import Derived.Test.YteehoihkbcbbgaaDoorRows
import GoSem.ClaimSeven
namespace Go.Proofs.YteehoihkbcbbgaaDoor
namespace Rows

/-- THE TIED CARD OF 'laws.FnPacked'. -/
def fnPackedCard : Claim7 := { stood := { row := fnPackedRow, standIns := [], harness := (true, "ff8880868677299c63dd32e13cd0ee4ca11890e48258f067ca91f9a1d034d4d1"), looks := false }, kinds := [], alts := [], laidByText := true, laidKinds := [.data, .data, .data, .data, .data], laidTests := true, laidLooks := .later }
def FnPackedCardSaid : Prop := Claim7.holds Tryd.pinned (.plain (OpenSpec.ofChange fnPackedSpec)) fnPackedCard

/-- THE TIED CARD OF 'laws.FnExactEncodePng'. -/
def fnExactEncodePngCard : Claim7 := { stood := { row := fnExactEncodePngRow, standIns := [], harness := (true, "ff8880868677299c63dd32e13cd0ee4ca11890e48258f067ca91f9a1d034d4d1"), looks := false }, kinds := [], alts := [], laidByText := true, laidKinds := [.data, .data, .data, .data], laidTests := true, laidLooks := .later }
def FnExactEncodePngCardSaid : Prop := Claim7.holds Tryd.pinned (.plain (OpenSpec.ofChange fnExactEncodePngSpec)) fnExactEncodePngCard

/-- THE TIED CARD OF 'laws.FnExactDecodePng'. -/
def fnExactDecodePngCard : Claim7 := { stood := { row := fnExactDecodePngRow, standIns := [], harness := (true, "ff8880868677299c63dd32e13cd0ee4ca11890e48258f067ca91f9a1d034d4d1"), looks := false }, kinds := [], alts := [], laidByText := true, laidKinds := [.data, .data, .data, .data, .data], laidTests := true, laidLooks := .later }
def FnExactDecodePngCardSaid : Prop := Claim7.holds Tryd.pinned (.plain (OpenSpec.ofChange fnExactDecodePngSpec)) fnExactDecodePngCard

/-- THE SECOND FORM's CARD OF 'laws.FnPacked'. -/
def fnPackedUptoCard : Claim7 := { stood := { row := fnPackedUptoRow, standIns := [], harness := (true, "ff8880868677299c63dd32e13cd0ee4ca11890e48258f067ca91f9a1d034d4d1"), looks := false }, kinds := [], alts := [], laidByText := true, laidKinds := [.data, .data, .data, .data, .data], laidTests := true, laidLooks := .later }
def FnPackedUptoCardSaid : Prop := Claim7.holds Tryd.pinned (.plain (OpenSpec.upto fnPackedSpec)) fnPackedUptoCard

/-- THE SECOND FORM's CARD OF 'laws.FnExactEncodePng'. -/
def fnExactEncodePngUptoCard : Claim7 := { stood := { row := fnExactEncodePngUptoRow, standIns := [], harness := (true, "ff8880868677299c63dd32e13cd0ee4ca11890e48258f067ca91f9a1d034d4d1"), looks := false }, kinds := [], alts := [], laidByText := true, laidKinds := [.data, .data, .data, .data], laidTests := true, laidLooks := .later }
def FnExactEncodePngUptoCardSaid : Prop := Claim7.holds Tryd.pinned (.plain (OpenSpec.upto fnExactEncodePngSpec)) fnExactEncodePngUptoCard

/-- THE SECOND FORM's CARD OF 'laws.FnExactDecodePng'. -/
def fnExactDecodePngUptoCard : Claim7 := { stood := { row := fnExactDecodePngUptoRow, standIns := [], harness := (true, "ff8880868677299c63dd32e13cd0ee4ca11890e48258f067ca91f9a1d034d4d1"), looks := false }, kinds := [], alts := [], laidByText := true, laidKinds := [.data, .data, .data, .data, .data], laidTests := true, laidLooks := .later }
def FnExactDecodePngUptoCardSaid : Prop := Claim7.holds Tryd.pinned (.plain (OpenSpec.upto fnExactDecodePngSpec)) fnExactDecodePngUptoCard
end Rows
end Go.Proofs.YteehoihkbcbbgaaDoor

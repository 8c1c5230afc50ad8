/-
  DERIVED. GIVEN WITH THE SEED: THE CARDS: each row of YtaeicgfebeliiaaDoorRows.lean that lists a variable, with what it lists TIED to the program's text (the seventh form; the later family's looks); each row that meets fmt, with fmt's text TOLD by the authors' own Lean function (tested against real Go, not proved from fmt's source: count such statements apart). THE CARD IS WHAT COUNTS. Prove the row's statement (the work); the ties are given (YtaeicgfebeliiaaDoorTie.lean); close each card by the builder's one call (the guide's Derived/Test/ToyasCard.lean, 'card_holds'). Laid BY PROGRAM, IN A SANDBOX (cutbox-door.mjs). By AI agents, Wed Nov 11 2026. No macro, syntax, notation, axiom, sorry.
-/
import Derived.Test.YtaeicgfebeliiaaDoorRows
import GoSem.ClaimSeven
namespace Go.Proofs.YtaeicgfebeliiaaDoor
namespace Rows

/-- THE TIED CARD OF 'laws.FnPacked'. -/
def fnPackedCard : Claim7 := { stood := { row := fnPackedRow, standIns := [], harness := (true, "aad9dc89c8fff1cdffc9f793f1a6ba9369ea635bca0a4927eab66c28b80e8eb0"), looks := false }, kinds := [], alts := [], laidByText := true, laidKinds := [.data, .data, .data, .data, .data], laidTests := true, laidLooks := .later }
def FnPackedCardSaid : Prop := Claim7.holds Tryd.pinned (.plain (OpenSpec.ofChange fnPackedSpec)) fnPackedCard

/-- THE TIED CARD OF 'laws.FnExactDecodePng'. -/
def fnExactDecodePngCard : Claim7 := { stood := { row := fnExactDecodePngRow, standIns := [], harness := (true, "aad9dc89c8fff1cdffc9f793f1a6ba9369ea635bca0a4927eab66c28b80e8eb0"), looks := false }, kinds := [], alts := [], laidByText := true, laidKinds := [.data, .data, .data, .data, .data], laidTests := true, laidLooks := .later }
def FnExactDecodePngCardSaid : Prop := Claim7.holds Tryd.pinned (.plain (OpenSpec.ofChange fnExactDecodePngSpec)) fnExactDecodePngCard

/-- THE SECOND FORM's CARD OF 'laws.FnPacked'. -/
def fnPackedUptoCard : Claim7 := { stood := { row := fnPackedUptoRow, standIns := [], harness := (true, "aad9dc89c8fff1cdffc9f793f1a6ba9369ea635bca0a4927eab66c28b80e8eb0"), looks := false }, kinds := [], alts := [], laidByText := true, laidKinds := [.data, .data, .data, .data, .data], laidTests := true, laidLooks := .later }
def FnPackedUptoCardSaid : Prop := Claim7.holds Tryd.pinned (.plain (OpenSpec.upto fnPackedSpec)) fnPackedUptoCard

/-- THE SECOND FORM's CARD OF 'laws.FnExactDecodePng'. -/
def fnExactDecodePngUptoCard : Claim7 := { stood := { row := fnExactDecodePngUptoRow, standIns := [], harness := (true, "aad9dc89c8fff1cdffc9f793f1a6ba9369ea635bca0a4927eab66c28b80e8eb0"), looks := false }, kinds := [], alts := [], laidByText := true, laidKinds := [.data, .data, .data, .data, .data], laidTests := true, laidLooks := .later }
def FnExactDecodePngUptoCardSaid : Prop := Claim7.holds Tryd.pinned (.plain (OpenSpec.upto fnExactDecodePngSpec)) fnExactDecodePngUptoCard
end Rows
end Go.Proofs.YtaeicgfebeliiaaDoor

/-
  DERIVED. GIVEN WITH THE SEED: THE CARDS: each row of YtakdmgnkcpahbabDoorRows.lean that lists a variable, with what it lists TIED to the program's text (the seventh form; the later family's looks); each row that meets fmt, with fmt's text TOLD by the authors' own Lean function (tested against real Go, not proved from fmt's source: count such statements apart). THE CARD IS WHAT COUNTS. Prove the row's statement (the work); the ties are given (YtakdmgnkcpahbabDoorTie.lean); close each card by the builder's one call (the guide's Derived/Test/ToyasCard.lean, 'card_holds'). Laid BY PROGRAM, IN A SANDBOX (cutbox-door.mjs). By AI agents, Wed Nov 11 2026. No macro, syntax, notation, axiom, sorry.
-/
import Derived.Test.YtakdmgnkcpahbabDoorRows
import GoSem.ClaimSeven
namespace Go.Proofs.YtakdmgnkcpahbabDoor
namespace Rows

/-- THE TIED CARD OF 'laws.FnExactPackFixedOf'. -/
def fnExactPackFixedOfCard : Claim7 := { stood := { row := fnExactPackFixedOfRow, standIns := [], harness := (true, "0a041f930083578f15c660cfb8eb539039f62c0a55d1caad302c3f51166e6abf"), looks := false }, kinds := [], alts := [], laidByText := true, laidKinds := [.data, .data, .data, .data], laidTests := true, laidLooks := .later }
def FnExactPackFixedOfCardSaid : Prop := Claim7.holds Tryd.pinned (.plain (OpenSpec.ofChange fnExactPackFixedOfSpec)) fnExactPackFixedOfCard

/-- THE TIED CARD OF 'laws.FnExactPackBest'. -/
def fnExactPackBestCard : Claim7 := { stood := { row := fnExactPackBestRow, standIns := [], harness := (true, "0a041f930083578f15c660cfb8eb539039f62c0a55d1caad302c3f51166e6abf"), looks := false }, kinds := [], alts := [], laidByText := true, laidKinds := [.data, .data, .data, .data], laidTests := true, laidLooks := .later }
def FnExactPackBestCardSaid : Prop := Claim7.holds Tryd.pinned (.plain (OpenSpec.ofChange fnExactPackBestSpec)) fnExactPackBestCard

/-- THE SECOND FORM's CARD OF 'laws.FnExactPackFixedOf'. -/
def fnExactPackFixedOfUptoCard : Claim7 := { stood := { row := fnExactPackFixedOfUptoRow, standIns := [], harness := (true, "0a041f930083578f15c660cfb8eb539039f62c0a55d1caad302c3f51166e6abf"), looks := false }, kinds := [], alts := [], laidByText := true, laidKinds := [.data, .data, .data, .data], laidTests := true, laidLooks := .later }
def FnExactPackFixedOfUptoCardSaid : Prop := Claim7.holds Tryd.pinned (.plain (OpenSpec.upto fnExactPackFixedOfSpec)) fnExactPackFixedOfUptoCard

/-- THE SECOND FORM's CARD OF 'laws.FnExactPackBest'. -/
def fnExactPackBestUptoCard : Claim7 := { stood := { row := fnExactPackBestUptoRow, standIns := [], harness := (true, "0a041f930083578f15c660cfb8eb539039f62c0a55d1caad302c3f51166e6abf"), looks := false }, kinds := [], alts := [], laidByText := true, laidKinds := [.data, .data, .data, .data], laidTests := true, laidLooks := .later }
def FnExactPackBestUptoCardSaid : Prop := Claim7.holds Tryd.pinned (.plain (OpenSpec.upto fnExactPackBestSpec)) fnExactPackBestUptoCard
end Rows
end Go.Proofs.YtakdmgnkcpahbabDoor

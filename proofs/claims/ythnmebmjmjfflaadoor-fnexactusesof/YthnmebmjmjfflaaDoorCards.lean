/-
  DERIVED. GIVEN WITH THE SEED: THE CARDS: each row of YthnmebmjmjfflaaDoorRows.lean that lists a variable, with what it lists TIED to the program's text (the seventh form; the later family's looks); each row that meets fmt, with fmt's text TOLD by the authors' own Lean function (tested against real Go, not proved from fmt's source: count such statements apart). THE CARD IS WHAT COUNTS. Prove the row's statement (the work); the ties are given (YthnmebmjmjfflaaDoorTie.lean); close each card by the builder's one call (the guide's Derived/Test/ToyasCard.lean, 'card_holds'). Laid BY PROGRAM, IN A SANDBOX (cutbox-door.mjs). By AI agents, Wed Nov 11 2026. No macro, syntax, notation, axiom, sorry.
-/
import Derived.Test.YthnmebmjmjfflaaDoorRows
import GoSem.ClaimSeven
namespace Go.Proofs.YthnmebmjmjfflaaDoor
namespace Rows

/-- THE TIED CARD OF 'laws.FnExactUsesOf'. -/
def fnExactUsesOfCard : Claim7 := { stood := { row := fnExactUsesOfRow, standIns := [], harness := (true, "63718c5222cdbdc7fe8395b55a6923bc063a9427c7e3ab8cad4aff42e452a33d"), looks := false }, kinds := [], alts := [], laidByText := true, laidKinds := [.data, .pinned], laidTests := true, laidLooks := .later }
def FnExactUsesOfCardSaid : Prop := Claim7.holds Tryd.pinned (.plain (OpenSpec.ofChange fnExactUsesOfSpec)) fnExactUsesOfCard

/-- THE TIED CARD OF 'laws.FnExactHasCycle'. -/
def fnExactHasCycleCard : Claim7 := { stood := { row := fnExactHasCycleRow, standIns := [], harness := (true, "63718c5222cdbdc7fe8395b55a6923bc063a9427c7e3ab8cad4aff42e452a33d"), looks := false }, kinds := [], alts := [], laidByText := true, laidKinds := [.data, .pinned], laidTests := true, laidLooks := .later }
def FnExactHasCycleCardSaid : Prop := Claim7.holds Tryd.pinned (.plain (OpenSpec.ofChange fnExactHasCycleSpec)) fnExactHasCycleCard

/-- THE SECOND FORM's CARD OF 'laws.FnExactUsesOf'. -/
def fnExactUsesOfUptoCard : Claim7 := { stood := { row := fnExactUsesOfUptoRow, standIns := [], harness := (true, "63718c5222cdbdc7fe8395b55a6923bc063a9427c7e3ab8cad4aff42e452a33d"), looks := false }, kinds := [], alts := [], laidByText := true, laidKinds := [.data, .pinned], laidTests := true, laidLooks := .later }
def FnExactUsesOfUptoCardSaid : Prop := Claim7.holds Tryd.pinned (.plain (OpenSpec.upto fnExactUsesOfSpec)) fnExactUsesOfUptoCard

/-- THE SECOND FORM's CARD OF 'laws.FnExactHasCycle'. -/
def fnExactHasCycleUptoCard : Claim7 := { stood := { row := fnExactHasCycleUptoRow, standIns := [], harness := (true, "63718c5222cdbdc7fe8395b55a6923bc063a9427c7e3ab8cad4aff42e452a33d"), looks := false }, kinds := [], alts := [], laidByText := true, laidKinds := [.data, .pinned], laidTests := true, laidLooks := .later }
def FnExactHasCycleUptoCardSaid : Prop := Claim7.holds Tryd.pinned (.plain (OpenSpec.upto fnExactHasCycleSpec)) fnExactHasCycleUptoCard
end Rows
end Go.Proofs.YthnmebmjmjfflaaDoor

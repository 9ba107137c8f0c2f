/-
  DERIVED. GIVEN WITH THE SEED: THE CARDS: each row of YtpoajofpbgjgaaaGreatDoorRows.lean that lists a variable, with what it lists TIED to the program's text (the seventh form; the later family's looks); each row that meets fmt, with fmt's text TOLD by the authors' own Lean function (tested against real Go, not proved from fmt's source: count such statements apart). THE CARD IS WHAT COUNTS. Prove the row's statement (the work); the ties are given (YtpoajofpbgjgaaaGreatDoorTie.lean); close each card by the builder's one call (the guide's Derived/Test/ToyasCard.lean, 'card_holds'). Laid BY PROGRAM, IN A SANDBOX (cutbox-door.mjs). By AI agents, Wed Nov 11 2026. No macro, syntax, notation, axiom, sorry.
-/
import Derived.Test.YtpoajofpbgjgaaaGreatDoorRows
import GoSem.ClaimSeven
namespace Go.Proofs.YtpoajofpbgjgaaaGreatDoor
namespace Rows

/-- THE TIED CARD OF 'lectionarylaw7.EditRaces'. -/
def editRacesCard : Claim7 := { stood := { row := editRacesRow, standIns := [], harness := (true, "f6db8682496d868b0fe91d2c73521fda99c2ed96df6dd48c615e563027baa338"), looks := true }, kinds := [], alts := [], laidByText := true, laidKinds := [.data, .pinned], laidTests := true, laidLooks := .later }
def EditRacesCardSaid : Prop := Claim7.holds Tryz.pinned (.plain (OpenSpec.ofChange editRacesSpec)) editRacesCard

/-- THE SECOND FORM's CARD OF 'lectionarylaw7.EditRaces'. -/
def editRacesUptoCard : Claim7 := { stood := { row := editRacesUptoRow, standIns := [], harness := (true, "f6db8682496d868b0fe91d2c73521fda99c2ed96df6dd48c615e563027baa338"), looks := true }, kinds := [], alts := [], laidByText := true, laidKinds := [.data, .pinned], laidTests := true, laidLooks := .later }
def EditRacesUptoCardSaid : Prop := Claim7.holds Tryz.pinned (.plain (OpenSpec.upto editRacesSpec)) editRacesUptoCard
end Rows
end Go.Proofs.YtpoajofpbgjgaaaGreatDoor

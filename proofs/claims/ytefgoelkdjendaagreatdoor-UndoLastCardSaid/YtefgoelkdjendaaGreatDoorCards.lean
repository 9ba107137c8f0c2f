/-
  DERIVED. GIVEN WITH THE SEED: THE CARDS: each row of YtefgoelkdjendaaGreatDoorRows.lean that lists a variable, with what it lists TIED to the program's text (the seventh form; the later family's looks); each row that meets fmt, with fmt's text TOLD by the authors' own Lean function (tested against real Go, not proved from fmt's source: count such statements apart). THE CARD IS WHAT COUNTS. Prove the row's statement (the work); the ties are given (YtefgoelkdjendaaGreatDoorTie.lean); close each card by the builder's one call (the guide's Derived/Test/ToyasCard.lean, 'card_holds'). Laid BY PROGRAM, IN A SANDBOX (cutbox-door.mjs). By AI agents, Wed Nov 11 2026. No macro, syntax, notation, axiom, sorry.
-/
import Derived.Test.YtefgoelkdjendaaGreatDoorRows
import GoSem.ClaimSeven
namespace Go.Proofs.YtefgoelkdjendaaGreatDoor
namespace Rows

/-- THE TIED CARD OF 'lectionarylaw8.UndoLast'. -/
def undoLastCard : Claim7 := { stood := { row := undoLastRow, standIns := [], harness := (true, "1d33c307a54250dfbacfc5f48d1ac75f1cd1c2114c6fad04dc8c1426fc39660a"), looks := true }, kinds := [], alts := [], laidByText := true, laidKinds := [.data, .pinned], laidTests := true, laidLooks := .later }
def UndoLastCardSaid : Prop := Claim7.holds Tryz.pinned (.plain (OpenSpec.ofChange undoLastSpec)) undoLastCard

/-- THE SECOND FORM's CARD OF 'lectionarylaw8.UndoLast'. -/
def undoLastUptoCard : Claim7 := { stood := { row := undoLastUptoRow, standIns := [], harness := (true, "1d33c307a54250dfbacfc5f48d1ac75f1cd1c2114c6fad04dc8c1426fc39660a"), looks := true }, kinds := [], alts := [], laidByText := true, laidKinds := [.data, .pinned], laidTests := true, laidLooks := .later }
def UndoLastUptoCardSaid : Prop := Claim7.holds Tryz.pinned (.plain (OpenSpec.upto undoLastSpec)) undoLastUptoCard
end Rows
end Go.Proofs.YtefgoelkdjendaaGreatDoor

/-
  DERIVED. GIVEN WITH THE SEED: THE CARDS: each row of YthnedehihbploaaGreatDoorRows.lean that lists a variable, with what it lists TIED to the program's text (the seventh form; the later family's looks); each row that meets fmt, with fmt's text TOLD by the authors' own Lean function (tested against real Go, not proved from fmt's source: count such statements apart). THE CARD IS WHAT COUNTS. Prove the row's statement (the work); the ties are given (YthnedehihbploaaGreatDoorTie.lean); close each card by the builder's one call (the guide's Derived/Test/ToyasCard.lean, 'card_holds'). Laid BY PROGRAM, IN A SANDBOX (cutbox-door.mjs). By AI agents, Wed Nov 11 2026. No macro, syntax, notation, axiom, sorry.
-/
import Derived.Test.YthnedehihbploaaGreatDoorRows
import GoSem.ClaimSeven
namespace Go.Proofs.YthnedehihbploaaGreatDoor
namespace Rows

/-- THE TIED CARD OF 'lectionarylaw10.PathPlays'. -/
def pathPlaysCard : Claim7 := { stood := { row := pathPlaysRow, standIns := [], harness := (true, "aad4060b4665899256532686457fe8f6feab588dbc0bfe95b501be5e8ef5c645"), looks := true }, kinds := [], alts := [], laidByText := true, laidKinds := [.data, .pinned], laidTests := true, laidLooks := .later }
def PathPlaysCardSaid : Prop := Claim7.holds Tryz.pinned (.plain (OpenSpec.ofChange pathPlaysSpec)) pathPlaysCard

/-- THE TIED CARD OF 'lectionarylaw11.CaretTells'. -/
def caretTellsCard : Claim7 := { stood := { row := caretTellsRow, standIns := [], harness := (true, "aad4060b4665899256532686457fe8f6feab588dbc0bfe95b501be5e8ef5c645"), looks := true }, kinds := [], alts := [], laidByText := true, laidKinds := [.data, .pinned], laidTests := true, laidLooks := .later }
def CaretTellsCardSaid : Prop := Claim7.holds Tryz.pinned (.plain (OpenSpec.ofChange caretTellsSpec)) caretTellsCard

/-- THE TIED CARD OF 'lectionarylaw11.CaretStays'. -/
def caretStaysCard : Claim7 := { stood := { row := caretStaysRow, standIns := [], harness := (true, "aad4060b4665899256532686457fe8f6feab588dbc0bfe95b501be5e8ef5c645"), looks := true }, kinds := [], alts := [], laidByText := true, laidKinds := [.data, .pinned], laidTests := true, laidLooks := .later }
def CaretStaysCardSaid : Prop := Claim7.holds Tryz.pinned (.plain (OpenSpec.ofChange caretStaysSpec)) caretStaysCard

/-- THE TIED CARD OF 'lectionarylaw11.CaretDeletes'. -/
def caretDeletesCard : Claim7 := { stood := { row := caretDeletesRow, standIns := [], harness := (true, "aad4060b4665899256532686457fe8f6feab588dbc0bfe95b501be5e8ef5c645"), looks := true }, kinds := [], alts := [], laidByText := true, laidKinds := [.data, .pinned], laidTests := true, laidLooks := .later }
def CaretDeletesCardSaid : Prop := Claim7.holds Tryz.pinned (.plain (OpenSpec.ofChange caretDeletesSpec)) caretDeletesCard

/-- THE TIED CARD OF 'lectionarylaw11.CaretUndoes'. -/
def caretUndoesCard : Claim7 := { stood := { row := caretUndoesRow, standIns := [], harness := (true, "aad4060b4665899256532686457fe8f6feab588dbc0bfe95b501be5e8ef5c645"), looks := true }, kinds := [], alts := [], laidByText := true, laidKinds := [.data, .pinned], laidTests := true, laidLooks := .later }
def CaretUndoesCardSaid : Prop := Claim7.holds Tryz.pinned (.plain (OpenSpec.ofChange caretUndoesSpec)) caretUndoesCard

/-- THE SECOND FORM's CARD OF 'lectionarylaw10.PathPlays'. -/
def pathPlaysUptoCard : Claim7 := { stood := { row := pathPlaysUptoRow, standIns := [], harness := (true, "aad4060b4665899256532686457fe8f6feab588dbc0bfe95b501be5e8ef5c645"), looks := true }, kinds := [], alts := [], laidByText := true, laidKinds := [.data, .pinned], laidTests := true, laidLooks := .later }
def PathPlaysUptoCardSaid : Prop := Claim7.holds Tryz.pinned (.plain (OpenSpec.upto pathPlaysSpec)) pathPlaysUptoCard

/-- THE SECOND FORM's CARD OF 'lectionarylaw11.CaretTells'. -/
def caretTellsUptoCard : Claim7 := { stood := { row := caretTellsUptoRow, standIns := [], harness := (true, "aad4060b4665899256532686457fe8f6feab588dbc0bfe95b501be5e8ef5c645"), looks := true }, kinds := [], alts := [], laidByText := true, laidKinds := [.data, .pinned], laidTests := true, laidLooks := .later }
def CaretTellsUptoCardSaid : Prop := Claim7.holds Tryz.pinned (.plain (OpenSpec.upto caretTellsSpec)) caretTellsUptoCard

/-- THE SECOND FORM's CARD OF 'lectionarylaw11.CaretStays'. -/
def caretStaysUptoCard : Claim7 := { stood := { row := caretStaysUptoRow, standIns := [], harness := (true, "aad4060b4665899256532686457fe8f6feab588dbc0bfe95b501be5e8ef5c645"), looks := true }, kinds := [], alts := [], laidByText := true, laidKinds := [.data, .pinned], laidTests := true, laidLooks := .later }
def CaretStaysUptoCardSaid : Prop := Claim7.holds Tryz.pinned (.plain (OpenSpec.upto caretStaysSpec)) caretStaysUptoCard

/-- THE SECOND FORM's CARD OF 'lectionarylaw11.CaretDeletes'. -/
def caretDeletesUptoCard : Claim7 := { stood := { row := caretDeletesUptoRow, standIns := [], harness := (true, "aad4060b4665899256532686457fe8f6feab588dbc0bfe95b501be5e8ef5c645"), looks := true }, kinds := [], alts := [], laidByText := true, laidKinds := [.data, .pinned], laidTests := true, laidLooks := .later }
def CaretDeletesUptoCardSaid : Prop := Claim7.holds Tryz.pinned (.plain (OpenSpec.upto caretDeletesSpec)) caretDeletesUptoCard

/-- THE SECOND FORM's CARD OF 'lectionarylaw11.CaretUndoes'. -/
def caretUndoesUptoCard : Claim7 := { stood := { row := caretUndoesUptoRow, standIns := [], harness := (true, "aad4060b4665899256532686457fe8f6feab588dbc0bfe95b501be5e8ef5c645"), looks := true }, kinds := [], alts := [], laidByText := true, laidKinds := [.data, .pinned], laidTests := true, laidLooks := .later }
def CaretUndoesUptoCardSaid : Prop := Claim7.holds Tryz.pinned (.plain (OpenSpec.upto caretUndoesSpec)) caretUndoesUptoCard
end Rows
end Go.Proofs.YthnedehihbploaaGreatDoor

/-
  DERIVED. GIVEN WITH THE SEED: THE CARDS: each row of YtglfkoegkiplfaaGreatDoorRows.lean that lists a variable, with what it lists TIED to the program's text (the seventh form; the later family's looks); each row that meets fmt, with fmt's text TOLD by the authors' own Lean function (tested against real Go, not proved from fmt's source: count such statements apart). THE CARD IS WHAT COUNTS. Prove the row's statement (the work); the ties are given (YtglfkoegkiplfaaGreatDoorTie.lean); close each card by the builder's one call (the guide's Derived/Test/ToyasCard.lean, 'card_holds'). Laid BY PROGRAM, IN A SANDBOX (cutbox-door.mjs). By AI agents, Wed Nov 11 2026. No macro, syntax, notation, axiom, sorry.
-/
import Derived.Test.YtglfkoegkiplfaaGreatDoorRows
import GoSem.ClaimSeven
namespace Go.Proofs.YtglfkoegkiplfaaGreatDoor
namespace Rows

/-- THE TIED CARD OF 'lectionarylaw10.PathExact'. -/
def pathExactCard : Claim7 := { stood := { row := pathExactRow, standIns := [], harness := (true, "f78245e2d74de7b124634a71e78b1dc42975e61440fa1fc2029d78e9ad63e74c"), looks := true }, kinds := [], alts := [], laidByText := true, laidKinds := [.data, .pinned], laidTests := true, laidLooks := .later }
def PathExactCardSaid : Prop := Claim7.holds Tryz.pinned (.plain (OpenSpec.ofChange pathExactSpec)) pathExactCard

/-- THE TIED CARD OF 'lectionarylaw10.PathPlays'. -/
def pathPlaysCard : Claim7 := { stood := { row := pathPlaysRow, standIns := [], harness := (true, "f78245e2d74de7b124634a71e78b1dc42975e61440fa1fc2029d78e9ad63e74c"), looks := true }, kinds := [], alts := [], laidByText := true, laidKinds := [.data, .pinned], laidTests := true, laidLooks := .later }
def PathPlaysCardSaid : Prop := Claim7.holds Tryz.pinned (.plain (OpenSpec.ofChange pathPlaysSpec)) pathPlaysCard

/-- THE TIED CARD OF 'lectionarylaw10.PathInserts'. -/
def pathInsertsCard : Claim7 := { stood := { row := pathInsertsRow, standIns := [], harness := (true, "f78245e2d74de7b124634a71e78b1dc42975e61440fa1fc2029d78e9ad63e74c"), looks := true }, kinds := [], alts := [], laidByText := true, laidKinds := [.data, .pinned], laidTests := true, laidLooks := .later }
def PathInsertsCardSaid : Prop := Claim7.holds Tryz.pinned (.plain (OpenSpec.ofChange pathInsertsSpec)) pathInsertsCard

/-- THE TIED CARD OF 'lectionarylaw10.PathDeletes'. -/
def pathDeletesCard : Claim7 := { stood := { row := pathDeletesRow, standIns := [], harness := (true, "f78245e2d74de7b124634a71e78b1dc42975e61440fa1fc2029d78e9ad63e74c"), looks := true }, kinds := [], alts := [], laidByText := true, laidKinds := [.data, .pinned], laidTests := true, laidLooks := .later }
def PathDeletesCardSaid : Prop := Claim7.holds Tryz.pinned (.plain (OpenSpec.ofChange pathDeletesSpec)) pathDeletesCard

/-- THE TIED CARD OF 'lectionarylaw10.PathToggles'. -/
def pathTogglesCard : Claim7 := { stood := { row := pathTogglesRow, standIns := [], harness := (true, "f78245e2d74de7b124634a71e78b1dc42975e61440fa1fc2029d78e9ad63e74c"), looks := true }, kinds := [], alts := [], laidByText := true, laidKinds := [.data, .pinned], laidTests := true, laidLooks := .later }
def PathTogglesCardSaid : Prop := Claim7.holds Tryz.pinned (.plain (OpenSpec.ofChange pathTogglesSpec)) pathTogglesCard

/-- THE SECOND FORM's CARD OF 'lectionarylaw10.PathExact'. -/
def pathExactUptoCard : Claim7 := { stood := { row := pathExactUptoRow, standIns := [], harness := (true, "f78245e2d74de7b124634a71e78b1dc42975e61440fa1fc2029d78e9ad63e74c"), looks := true }, kinds := [], alts := [], laidByText := true, laidKinds := [.data, .pinned], laidTests := true, laidLooks := .later }
def PathExactUptoCardSaid : Prop := Claim7.holds Tryz.pinned (.plain (OpenSpec.upto pathExactSpec)) pathExactUptoCard

/-- THE SECOND FORM's CARD OF 'lectionarylaw10.PathPlays'. -/
def pathPlaysUptoCard : Claim7 := { stood := { row := pathPlaysUptoRow, standIns := [], harness := (true, "f78245e2d74de7b124634a71e78b1dc42975e61440fa1fc2029d78e9ad63e74c"), looks := true }, kinds := [], alts := [], laidByText := true, laidKinds := [.data, .pinned], laidTests := true, laidLooks := .later }
def PathPlaysUptoCardSaid : Prop := Claim7.holds Tryz.pinned (.plain (OpenSpec.upto pathPlaysSpec)) pathPlaysUptoCard

/-- THE SECOND FORM's CARD OF 'lectionarylaw10.PathInserts'. -/
def pathInsertsUptoCard : Claim7 := { stood := { row := pathInsertsUptoRow, standIns := [], harness := (true, "f78245e2d74de7b124634a71e78b1dc42975e61440fa1fc2029d78e9ad63e74c"), looks := true }, kinds := [], alts := [], laidByText := true, laidKinds := [.data, .pinned], laidTests := true, laidLooks := .later }
def PathInsertsUptoCardSaid : Prop := Claim7.holds Tryz.pinned (.plain (OpenSpec.upto pathInsertsSpec)) pathInsertsUptoCard

/-- THE SECOND FORM's CARD OF 'lectionarylaw10.PathDeletes'. -/
def pathDeletesUptoCard : Claim7 := { stood := { row := pathDeletesUptoRow, standIns := [], harness := (true, "f78245e2d74de7b124634a71e78b1dc42975e61440fa1fc2029d78e9ad63e74c"), looks := true }, kinds := [], alts := [], laidByText := true, laidKinds := [.data, .pinned], laidTests := true, laidLooks := .later }
def PathDeletesUptoCardSaid : Prop := Claim7.holds Tryz.pinned (.plain (OpenSpec.upto pathDeletesSpec)) pathDeletesUptoCard

/-- THE SECOND FORM's CARD OF 'lectionarylaw10.PathToggles'. -/
def pathTogglesUptoCard : Claim7 := { stood := { row := pathTogglesUptoRow, standIns := [], harness := (true, "f78245e2d74de7b124634a71e78b1dc42975e61440fa1fc2029d78e9ad63e74c"), looks := true }, kinds := [], alts := [], laidByText := true, laidKinds := [.data, .pinned], laidTests := true, laidLooks := .later }
def PathTogglesUptoCardSaid : Prop := Claim7.holds Tryz.pinned (.plain (OpenSpec.upto pathTogglesSpec)) pathTogglesUptoCard
end Rows
end Go.Proofs.YtglfkoegkiplfaaGreatDoor

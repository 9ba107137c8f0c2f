/-
  DERIVED. GIVEN WITH THE SEED: THE CARDS: each row of YtebkeocfgcekmaaGreatDoorRows.lean that lists a variable, with what it lists TIED to the program's text (the seventh form; the later family's looks); each row that meets fmt, with fmt's text TOLD by the authors' own Lean function (tested against real Go, not proved from fmt's source: count such statements apart). THE CARD IS WHAT COUNTS. Prove the row's statement (the work); the ties are given (YtebkeocfgcekmaaGreatDoorTie.lean); close each card by the builder's one call (the guide's Derived/Test/ToyasCard.lean, 'card_holds'). Laid BY PROGRAM, IN A SANDBOX (cutbox-door.mjs). By AI agents, Wed Nov 11 2026. No macro, syntax, notation, axiom, sorry.
-/
import Derived.Test.YtebkeocfgcekmaaGreatDoorRows
import GoSem.ClaimSeven
namespace Go.Proofs.YtebkeocfgcekmaaGreatDoor
namespace Rows

/-- THE TIED CARD OF 'lectionarylaw6.DocTells'. -/
def docTellsCard : Claim7 := { stood := { row := docTellsRow, standIns := [], harness := (true, "dc3c243706d969c898de74c5f404320c4158805194392b57004de90e0492df3c"), looks := true }, kinds := [], alts := [], laidByText := true, laidKinds := [.data, .pinned], laidTests := true, laidLooks := .later }
def DocTellsCardSaid : Prop := Claim7.holds Tryz.pinned (.plain (OpenSpec.ofChange docTellsSpec)) docTellsCard

/-- THE TIED CARD OF 'lectionarylaw6.DocGoes'. -/
def docGoesCard : Claim7 := { stood := { row := docGoesRow, standIns := [], harness := (true, "dc3c243706d969c898de74c5f404320c4158805194392b57004de90e0492df3c"), looks := true }, kinds := [], alts := [], laidByText := true, laidKinds := [.data, .pinned], laidTests := true, laidLooks := .later }
def DocGoesCardSaid : Prop := Claim7.holds Tryz.pinned (.plain (OpenSpec.ofChange docGoesSpec)) docGoesCard

/-- THE TIED CARD OF 'lectionarylaw6.DocUndoes'. -/
def docUndoesCard : Claim7 := { stood := { row := docUndoesRow, standIns := [], harness := (true, "dc3c243706d969c898de74c5f404320c4158805194392b57004de90e0492df3c"), looks := true }, kinds := [], alts := [], laidByText := true, laidKinds := [.data, .pinned], laidTests := true, laidLooks := .later }
def DocUndoesCardSaid : Prop := Claim7.holds Tryz.pinned (.plain (OpenSpec.ofChange docUndoesSpec)) docUndoesCard

/-- THE TIED CARD OF 'lectionarylaw6.DocIdles'. -/
def docIdlesCard : Claim7 := { stood := { row := docIdlesRow, standIns := [], harness := (true, "dc3c243706d969c898de74c5f404320c4158805194392b57004de90e0492df3c"), looks := true }, kinds := [], alts := [], laidByText := true, laidKinds := [.data, .pinned], laidTests := true, laidLooks := .later }
def DocIdlesCardSaid : Prop := Claim7.holds Tryz.pinned (.plain (OpenSpec.ofChange docIdlesSpec)) docIdlesCard

/-- THE SECOND FORM's CARD OF 'lectionarylaw6.DocTells'. -/
def docTellsUptoCard : Claim7 := { stood := { row := docTellsUptoRow, standIns := [], harness := (true, "dc3c243706d969c898de74c5f404320c4158805194392b57004de90e0492df3c"), looks := true }, kinds := [], alts := [], laidByText := true, laidKinds := [.data, .pinned], laidTests := true, laidLooks := .later }
def DocTellsUptoCardSaid : Prop := Claim7.holds Tryz.pinned (.plain (OpenSpec.upto docTellsSpec)) docTellsUptoCard

/-- THE SECOND FORM's CARD OF 'lectionarylaw6.DocGoes'. -/
def docGoesUptoCard : Claim7 := { stood := { row := docGoesUptoRow, standIns := [], harness := (true, "dc3c243706d969c898de74c5f404320c4158805194392b57004de90e0492df3c"), looks := true }, kinds := [], alts := [], laidByText := true, laidKinds := [.data, .pinned], laidTests := true, laidLooks := .later }
def DocGoesUptoCardSaid : Prop := Claim7.holds Tryz.pinned (.plain (OpenSpec.upto docGoesSpec)) docGoesUptoCard

/-- THE SECOND FORM's CARD OF 'lectionarylaw6.DocUndoes'. -/
def docUndoesUptoCard : Claim7 := { stood := { row := docUndoesUptoRow, standIns := [], harness := (true, "dc3c243706d969c898de74c5f404320c4158805194392b57004de90e0492df3c"), looks := true }, kinds := [], alts := [], laidByText := true, laidKinds := [.data, .pinned], laidTests := true, laidLooks := .later }
def DocUndoesUptoCardSaid : Prop := Claim7.holds Tryz.pinned (.plain (OpenSpec.upto docUndoesSpec)) docUndoesUptoCard

/-- THE SECOND FORM's CARD OF 'lectionarylaw6.DocIdles'. -/
def docIdlesUptoCard : Claim7 := { stood := { row := docIdlesUptoRow, standIns := [], harness := (true, "dc3c243706d969c898de74c5f404320c4158805194392b57004de90e0492df3c"), looks := true }, kinds := [], alts := [], laidByText := true, laidKinds := [.data, .pinned], laidTests := true, laidLooks := .later }
def DocIdlesUptoCardSaid : Prop := Claim7.holds Tryz.pinned (.plain (OpenSpec.upto docIdlesSpec)) docIdlesUptoCard
end Rows
end Go.Proofs.YtebkeocfgcekmaaGreatDoor

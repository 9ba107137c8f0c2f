/-
  DERIVED. GIVEN WITH THE SEED: THE CARDS: each row of YtppaiajligakpaaDoorRows.lean that lists a variable, with what it lists TIED to the program's text (the seventh form; the later family's looks); each row that meets fmt, with fmt's text TOLD by the authors' own Lean function (tested against real Go, not proved from fmt's source: count such statements apart). THE CARD IS WHAT COUNTS. Prove the row's statement (the work); the ties are given (YtppaiajligakpaaDoorTie.lean); close each card by the builder's one call (the guide's Derived/Test/ToyasCard.lean, 'card_holds'). Laid BY PROGRAM, IN A SANDBOX (cutbox-door.mjs). By AI agents, Wed Nov 11 2026. No macro, syntax, notation, axiom, sorry.
-/
import Derived.Test.YtppaiajligakpaaDoorRows
import GoSem.ClaimSeven
namespace Go.Proofs.YtppaiajligakpaaDoor
namespace Rows

/-- THE TIED CARD OF 'lectionarylaw3.TextExact'. -/
def textExactCard : Claim7 := { stood := { row := textExactRow, standIns := [], harness := (true, "b679bf1ec9d9927d68846e36dcf6b6d1d2927044af01cfa65c578697a618a130"), looks := false }, kinds := [], alts := [], laidByText := true, laidKinds := [.data, .pinned], laidTests := true, laidLooks := .later }
def TextExactCardSaid : Prop := Claim7.holds Tryd.pinned (.plain (OpenSpec.ofChange textExactSpec)) textExactCard

/-- THE TIED CARD OF 'lectionarylaw3.TextBytes'. -/
def textBytesCard : Claim7 := { stood := { row := textBytesRow, standIns := [], harness := (true, "b679bf1ec9d9927d68846e36dcf6b6d1d2927044af01cfa65c578697a618a130"), looks := false }, kinds := [], alts := [], laidByText := true, laidKinds := [.data, .pinned], laidTests := true, laidLooks := .later }
def TextBytesCardSaid : Prop := Claim7.holds Tryd.pinned (.plain (OpenSpec.ofChange textBytesSpec)) textBytesCard

/-- THE SECOND FORM's CARD OF 'lectionarylaw3.TextExact'. -/
def textExactUptoCard : Claim7 := { stood := { row := textExactUptoRow, standIns := [], harness := (true, "b679bf1ec9d9927d68846e36dcf6b6d1d2927044af01cfa65c578697a618a130"), looks := false }, kinds := [], alts := [], laidByText := true, laidKinds := [.data, .pinned], laidTests := true, laidLooks := .later }
def TextExactUptoCardSaid : Prop := Claim7.holds Tryd.pinned (.plain (OpenSpec.upto textExactSpec)) textExactUptoCard

/-- THE SECOND FORM's CARD OF 'lectionarylaw3.TextBytes'. -/
def textBytesUptoCard : Claim7 := { stood := { row := textBytesUptoRow, standIns := [], harness := (true, "b679bf1ec9d9927d68846e36dcf6b6d1d2927044af01cfa65c578697a618a130"), looks := false }, kinds := [], alts := [], laidByText := true, laidKinds := [.data, .pinned], laidTests := true, laidLooks := .later }
def TextBytesUptoCardSaid : Prop := Claim7.holds Tryd.pinned (.plain (OpenSpec.upto textBytesSpec)) textBytesUptoCard
end Rows
end Go.Proofs.YtppaiajligakpaaDoor

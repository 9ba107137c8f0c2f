/-
  DERIVED. GIVEN WITH THE SEED: THE CARDS: each row of YtnkinbobnhdpaaaDoorRows.lean that lists a variable, with what it lists TIED to the program's text (the seventh form; the later family's looks); each row that meets fmt, with fmt's text TOLD by the authors' own Lean function (tested against real Go, not proved from fmt's source: count such statements apart). THE CARD IS WHAT COUNTS. Prove the row's statement (the work); the ties are given (YtnkinbobnhdpaaaDoorTie.lean); close each card by the builder's one call (the guide's Derived/Test/ToyasCard.lean, 'card_holds'). Laid BY PROGRAM, IN A SANDBOX (cutbox-door.mjs). By AI agents, Wed Nov 11 2026. No macro, syntax, notation, axiom, sorry.
-/
import Derived.Test.YtnkinbobnhdpaaaDoorRows
import GoSem.ClaimSeven
namespace Go.Proofs.YtnkinbobnhdpaaaDoor
namespace Rows

/-- THE TIED CARD OF 'lectionarylaw12.PackOps'. -/
def packOpsCard : Claim7 := { stood := { row := packOpsRow, standIns := [], harness := (true, "cb464d1c734b5e7ff7f34ab020fbc74157824b6b6f6b174562751fe92b5cbb2d"), looks := false }, kinds := [], alts := [], laidByText := true, laidKinds := [.data, .pinned], laidTests := true, laidLooks := .later }
def PackOpsCardSaid : Prop := Claim7.holds Tryd.pinned (.plain (OpenSpec.ofChange packOpsSpec)) packOpsCard

/-- THE TIED CARD OF 'lectionarylaw12.PackMsgs'. -/
def packMsgsCard : Claim7 := { stood := { row := packMsgsRow, standIns := [], harness := (true, "cb464d1c734b5e7ff7f34ab020fbc74157824b6b6f6b174562751fe92b5cbb2d"), looks := false }, kinds := [], alts := [], laidByText := true, laidKinds := [.data, .pinned], laidTests := true, laidLooks := .later }
def PackMsgsCardSaid : Prop := Claim7.holds Tryd.pinned (.plain (OpenSpec.ofChange packMsgsSpec)) packMsgsCard

/-- THE TIED CARD OF 'lectionarylaw12.PackJoin'. -/
def packJoinCard : Claim7 := { stood := { row := packJoinRow, standIns := [], harness := (true, "cb464d1c734b5e7ff7f34ab020fbc74157824b6b6f6b174562751fe92b5cbb2d"), looks := false }, kinds := [], alts := [], laidByText := true, laidKinds := [.data, .pinned], laidTests := true, laidLooks := .later }
def PackJoinCardSaid : Prop := Claim7.holds Tryd.pinned (.plain (OpenSpec.ofChange packJoinSpec)) packJoinCard

/-- THE TIED CARD OF 'lectionarylaw12.PackWelcome'. -/
def packWelcomeCard : Claim7 := { stood := { row := packWelcomeRow, standIns := [], harness := (true, "cb464d1c734b5e7ff7f34ab020fbc74157824b6b6f6b174562751fe92b5cbb2d"), looks := false }, kinds := [], alts := [], laidByText := true, laidKinds := [.data, .pinned], laidTests := true, laidLooks := .later }
def PackWelcomeCardSaid : Prop := Claim7.holds Tryd.pinned (.plain (OpenSpec.ofChange packWelcomeSpec)) packWelcomeCard

/-- THE TIED CARD OF 'lectionarylaw12.PackAsk'. -/
def packAskCard : Claim7 := { stood := { row := packAskRow, standIns := [], harness := (true, "cb464d1c734b5e7ff7f34ab020fbc74157824b6b6f6b174562751fe92b5cbb2d"), looks := false }, kinds := [], alts := [], laidByText := true, laidKinds := [.data, .pinned], laidTests := true, laidLooks := .later }
def PackAskCardSaid : Prop := Claim7.holds Tryd.pinned (.plain (OpenSpec.ofChange packAskSpec)) packAskCard

/-- THE TIED CARD OF 'lectionarylaw12.PackSubmit'. -/
def packSubmitCard : Claim7 := { stood := { row := packSubmitRow, standIns := [], harness := (true, "cb464d1c734b5e7ff7f34ab020fbc74157824b6b6f6b174562751fe92b5cbb2d"), looks := false }, kinds := [], alts := [], laidByText := true, laidKinds := [.data, .pinned], laidTests := true, laidLooks := .later }
def PackSubmitCardSaid : Prop := Claim7.holds Tryd.pinned (.plain (OpenSpec.ofChange packSubmitSpec)) packSubmitCard

/-- THE TIED CARD OF 'lectionarylaw12.PackSend'. -/
def packSendCard : Claim7 := { stood := { row := packSendRow, standIns := [], harness := (true, "cb464d1c734b5e7ff7f34ab020fbc74157824b6b6f6b174562751fe92b5cbb2d"), looks := false }, kinds := [], alts := [], laidByText := true, laidKinds := [.data, .pinned], laidTests := true, laidLooks := .later }
def PackSendCardSaid : Prop := Claim7.holds Tryd.pinned (.plain (OpenSpec.ofChange packSendSpec)) packSendCard

/-- THE TIED CARD OF 'lectionarylaw12.PackDone'. -/
def packDoneCard : Claim7 := { stood := { row := packDoneRow, standIns := [], harness := (true, "cb464d1c734b5e7ff7f34ab020fbc74157824b6b6f6b174562751fe92b5cbb2d"), looks := false }, kinds := [], alts := [], laidByText := true, laidKinds := [.data, .pinned], laidTests := true, laidLooks := .later }
def PackDoneCardSaid : Prop := Claim7.holds Tryd.pinned (.plain (OpenSpec.ofChange packDoneSpec)) packDoneCard

/-- THE TIED CARD OF 'lectionarylaw12.PackForms'. -/
def packFormsCard : Claim7 := { stood := { row := packFormsRow, standIns := [], harness := (true, "cb464d1c734b5e7ff7f34ab020fbc74157824b6b6f6b174562751fe92b5cbb2d"), looks := false }, kinds := [], alts := [], laidByText := true, laidKinds := [.data, .pinned], laidTests := true, laidLooks := .later }
def PackFormsCardSaid : Prop := Claim7.holds Tryd.pinned (.plain (OpenSpec.ofChange packFormsSpec)) packFormsCard

/-- THE TIED CARD OF 'lectionarylaw13.WirePicks'. -/
def wirePicksCard : Claim7 := { stood := { row := wirePicksRow, standIns := [], harness := (true, "cb464d1c734b5e7ff7f34ab020fbc74157824b6b6f6b174562751fe92b5cbb2d"), looks := false }, kinds := [], alts := [], laidByText := true, laidKinds := [.data, .pinned], laidTests := true, laidLooks := .later }
def WirePicksCardSaid : Prop := Claim7.holds Tryd.pinned (.plain (OpenSpec.ofChange wirePicksSpec)) wirePicksCard

/-- THE SECOND FORM's CARD OF 'lectionarylaw12.PackOps'. -/
def packOpsUptoCard : Claim7 := { stood := { row := packOpsUptoRow, standIns := [], harness := (true, "cb464d1c734b5e7ff7f34ab020fbc74157824b6b6f6b174562751fe92b5cbb2d"), looks := false }, kinds := [], alts := [], laidByText := true, laidKinds := [.data, .pinned], laidTests := true, laidLooks := .later }
def PackOpsUptoCardSaid : Prop := Claim7.holds Tryd.pinned (.plain (OpenSpec.upto packOpsSpec)) packOpsUptoCard

/-- THE SECOND FORM's CARD OF 'lectionarylaw12.PackMsgs'. -/
def packMsgsUptoCard : Claim7 := { stood := { row := packMsgsUptoRow, standIns := [], harness := (true, "cb464d1c734b5e7ff7f34ab020fbc74157824b6b6f6b174562751fe92b5cbb2d"), looks := false }, kinds := [], alts := [], laidByText := true, laidKinds := [.data, .pinned], laidTests := true, laidLooks := .later }
def PackMsgsUptoCardSaid : Prop := Claim7.holds Tryd.pinned (.plain (OpenSpec.upto packMsgsSpec)) packMsgsUptoCard

/-- THE SECOND FORM's CARD OF 'lectionarylaw12.PackJoin'. -/
def packJoinUptoCard : Claim7 := { stood := { row := packJoinUptoRow, standIns := [], harness := (true, "cb464d1c734b5e7ff7f34ab020fbc74157824b6b6f6b174562751fe92b5cbb2d"), looks := false }, kinds := [], alts := [], laidByText := true, laidKinds := [.data, .pinned], laidTests := true, laidLooks := .later }
def PackJoinUptoCardSaid : Prop := Claim7.holds Tryd.pinned (.plain (OpenSpec.upto packJoinSpec)) packJoinUptoCard

/-- THE SECOND FORM's CARD OF 'lectionarylaw12.PackWelcome'. -/
def packWelcomeUptoCard : Claim7 := { stood := { row := packWelcomeUptoRow, standIns := [], harness := (true, "cb464d1c734b5e7ff7f34ab020fbc74157824b6b6f6b174562751fe92b5cbb2d"), looks := false }, kinds := [], alts := [], laidByText := true, laidKinds := [.data, .pinned], laidTests := true, laidLooks := .later }
def PackWelcomeUptoCardSaid : Prop := Claim7.holds Tryd.pinned (.plain (OpenSpec.upto packWelcomeSpec)) packWelcomeUptoCard

/-- THE SECOND FORM's CARD OF 'lectionarylaw12.PackAsk'. -/
def packAskUptoCard : Claim7 := { stood := { row := packAskUptoRow, standIns := [], harness := (true, "cb464d1c734b5e7ff7f34ab020fbc74157824b6b6f6b174562751fe92b5cbb2d"), looks := false }, kinds := [], alts := [], laidByText := true, laidKinds := [.data, .pinned], laidTests := true, laidLooks := .later }
def PackAskUptoCardSaid : Prop := Claim7.holds Tryd.pinned (.plain (OpenSpec.upto packAskSpec)) packAskUptoCard

/-- THE SECOND FORM's CARD OF 'lectionarylaw12.PackSubmit'. -/
def packSubmitUptoCard : Claim7 := { stood := { row := packSubmitUptoRow, standIns := [], harness := (true, "cb464d1c734b5e7ff7f34ab020fbc74157824b6b6f6b174562751fe92b5cbb2d"), looks := false }, kinds := [], alts := [], laidByText := true, laidKinds := [.data, .pinned], laidTests := true, laidLooks := .later }
def PackSubmitUptoCardSaid : Prop := Claim7.holds Tryd.pinned (.plain (OpenSpec.upto packSubmitSpec)) packSubmitUptoCard

/-- THE SECOND FORM's CARD OF 'lectionarylaw12.PackSend'. -/
def packSendUptoCard : Claim7 := { stood := { row := packSendUptoRow, standIns := [], harness := (true, "cb464d1c734b5e7ff7f34ab020fbc74157824b6b6f6b174562751fe92b5cbb2d"), looks := false }, kinds := [], alts := [], laidByText := true, laidKinds := [.data, .pinned], laidTests := true, laidLooks := .later }
def PackSendUptoCardSaid : Prop := Claim7.holds Tryd.pinned (.plain (OpenSpec.upto packSendSpec)) packSendUptoCard

/-- THE SECOND FORM's CARD OF 'lectionarylaw12.PackDone'. -/
def packDoneUptoCard : Claim7 := { stood := { row := packDoneUptoRow, standIns := [], harness := (true, "cb464d1c734b5e7ff7f34ab020fbc74157824b6b6f6b174562751fe92b5cbb2d"), looks := false }, kinds := [], alts := [], laidByText := true, laidKinds := [.data, .pinned], laidTests := true, laidLooks := .later }
def PackDoneUptoCardSaid : Prop := Claim7.holds Tryd.pinned (.plain (OpenSpec.upto packDoneSpec)) packDoneUptoCard

/-- THE SECOND FORM's CARD OF 'lectionarylaw12.PackForms'. -/
def packFormsUptoCard : Claim7 := { stood := { row := packFormsUptoRow, standIns := [], harness := (true, "cb464d1c734b5e7ff7f34ab020fbc74157824b6b6f6b174562751fe92b5cbb2d"), looks := false }, kinds := [], alts := [], laidByText := true, laidKinds := [.data, .pinned], laidTests := true, laidLooks := .later }
def PackFormsUptoCardSaid : Prop := Claim7.holds Tryd.pinned (.plain (OpenSpec.upto packFormsSpec)) packFormsUptoCard

/-- THE SECOND FORM's CARD OF 'lectionarylaw13.WirePicks'. -/
def wirePicksUptoCard : Claim7 := { stood := { row := wirePicksUptoRow, standIns := [], harness := (true, "cb464d1c734b5e7ff7f34ab020fbc74157824b6b6f6b174562751fe92b5cbb2d"), looks := false }, kinds := [], alts := [], laidByText := true, laidKinds := [.data, .pinned], laidTests := true, laidLooks := .later }
def WirePicksUptoCardSaid : Prop := Claim7.holds Tryd.pinned (.plain (OpenSpec.upto wirePicksSpec)) wirePicksUptoCard
end Rows
end Go.Proofs.YtnkinbobnhdpaaaDoor

/-
  NARROWER THAN 'FOR EVERY INPUT', by the rows' own cells (each row's printed sentence says how): PackOps: laid · PackMsgs: laid · PackJoin: laid · PackWelcome: laid · PackAsk: laid · PackSubmit: laid · PackSend: laid · PackDone: laid · PackForms: laid · WirePicks: laid.
  DERIVED. THE GIVEN ROWS OF THIS SEAT. 10 by the template 'for every input the law returns true; each argument reads behind the call as it read before'; 0 by the template 'total and deterministic' (their statements: YtnkinbobnhdpaaaDoorTotals.lean).
  GIVEN WITH THE SEED: the statements are not yours to turn. If you find one false, say at which input.
  Laid BY PROGRAM, IN A SANDBOX (cutbox-rows.mjs): the forced cells as the released guide's own fill.sh prints them over the translation a2c3dda4547e67ab… (all of the seat's roots in one cut). By AI agents, Wed Nov 11 2026. No macro, syntax, notation, axiom, sorry.
-/
import Derived.Test.YtnkinbobnhdpaaaDoorChecked
import GoSem.PinnedTables
import GoSem.Claim
import GoSem.ClaimJoined
import GoSem.ClaimMapViews
import Derived.JoinedTies
import Derived.KernelRfl
namespace Go.Proofs.YtnkinbobnhdpaaaDoor
/- THE CELL 'sum', in the pinned program and in every row, IS THE sha256 OF THE DUMP (.gsa) THAT YtnkinbobnhdpaaaDoorProg.lean LOADS. Nothing in Lean hashes anything: it is a label: what it is worth is what the hold of that sum in a sandbox is worth. -/
noncomputable def Tryd.pinned : Pinned := { name := "ytnkinbobnhdpaaadoor", sum := "a2c3dda4547e67abd9de4a22841e34791389dea96a59394c8907116353169fa0", checked := Tryd.checked }
namespace Rows
def none {H : Type} : Left H := { results := [], args := [] }

/- WHAT THE LISTED PACKAGE-LEVEL VARIABLES READ AS WHEN THE CALL BEGINS. Each datum BY PROGRAM (the guide's laid-datum.mjs) off the statement by which the dump's own 'gosem.cut.vars' lays the variable. In a bare row this is a premise. The card (YtnkinbobnhdpaaaDoorCards.lean) ties it to the program's text. -/
def laid_unicode_utf8_acceptRanges {H : Type} : DataW H := .agg [.agg [.lit (.int .u8 128), .lit (.int .u8 191)], .agg [.lit (.int .u8 160), .lit (.int .u8 191)], .agg [.lit (.int .u8 128), .lit (.int .u8 159)], .agg [.lit (.int .u8 144), .lit (.int .u8 191)], .agg [.lit (.int .u8 128), .lit (.int .u8 143)], .agg [.lit (.int .u8 0), .lit (.int .u8 0)], .agg [.lit (.int .u8 0), .lit (.int .u8 0)], .agg [.lit (.int .u8 0), .lit (.int .u8 0)], .agg [.lit (.int .u8 0), .lit (.int .u8 0)], .agg [.lit (.int .u8 0), .lit (.int .u8 0)], .agg [.lit (.int .u8 0), .lit (.int .u8 0)], .agg [.lit (.int .u8 0), .lit (.int .u8 0)], .agg [.lit (.int .u8 0), .lit (.int .u8 0)], .agg [.lit (.int .u8 0), .lit (.int .u8 0)], .agg [.lit (.int .u8 0), .lit (.int .u8 0)], .agg [.lit (.int .u8 0), .lit (.int .u8 0)]]
/-- One of Go's own tables, pinned by name: the form's constant. -/
def laid_unicode_utf8_first : DataW Unit := Go.Pinned.utf8First

/-- 'lectionarylaw12.PackOps': WHATEVER THE INPUT: true; the input reads as it did. -/
def packOpsSpec : ChangeSpec := { name := "packOps", fn := fun _ => fun
  | [d] => { results := [.lit (.bool true)], args := [d] }
  | _ => none }
def packOpsRow : OpenClaim := { program := "ytnkinbobnhdpaaadoor", sum := "a2c3dda4547e67abd9de4a22841e34791389dea96a59394c8907116353169fa0", func := "lectionary/lectionarylaw12.PackOps", spec := "packOps", inPlace := ["internal/abi.NoEscape"], named := ["unicode/utf8.first", "unicode/utf8.acceptRanges"], apart := false, laid := [("unicode/utf8.acceptRanges", laid_unicode_utf8_acceptRanges), ("unicode/utf8.first", laid_unicode_utf8_first)] }
def PackOpsSaid : Prop := packOpsRow.holds Tryd.pinned (OpenSpec.ofChange packOpsSpec)

/-- ITS FALSE NEIGHBOUR: 'it returns false'. Refute it at one input. -/
def packOpsWrong : ChangeSpec := { name := "packOps", fn := fun _ => fun
  | [d] => { results := [.lit (.bool false)], args := [d] }
  | _ => none }
def PackOpsWrongFalsely : Prop := packOpsRow.holds Tryd.pinned (OpenSpec.ofChange packOpsWrong)

/-- 'lectionarylaw12.PackMsgs': WHATEVER THE INPUT: true; the input reads as it did. -/
def packMsgsSpec : ChangeSpec := { name := "packMsgs", fn := fun _ => fun
  | [d] => { results := [.lit (.bool true)], args := [d] }
  | _ => none }
def packMsgsRow : OpenClaim := { program := "ytnkinbobnhdpaaadoor", sum := "a2c3dda4547e67abd9de4a22841e34791389dea96a59394c8907116353169fa0", func := "lectionary/lectionarylaw12.PackMsgs", spec := "packMsgs", inPlace := ["internal/abi.NoEscape"], named := ["unicode/utf8.first", "unicode/utf8.acceptRanges"], apart := false, laid := [("unicode/utf8.acceptRanges", laid_unicode_utf8_acceptRanges), ("unicode/utf8.first", laid_unicode_utf8_first)] }
def PackMsgsSaid : Prop := packMsgsRow.holds Tryd.pinned (OpenSpec.ofChange packMsgsSpec)

/-- ITS FALSE NEIGHBOUR: 'it returns false'. Refute it at one input. -/
def packMsgsWrong : ChangeSpec := { name := "packMsgs", fn := fun _ => fun
  | [d] => { results := [.lit (.bool false)], args := [d] }
  | _ => none }
def PackMsgsWrongFalsely : Prop := packMsgsRow.holds Tryd.pinned (OpenSpec.ofChange packMsgsWrong)

/-- 'lectionarylaw12.PackJoin': WHATEVER THE INPUT: true; the input reads as it did. -/
def packJoinSpec : ChangeSpec := { name := "packJoin", fn := fun _ => fun
  | [d] => { results := [.lit (.bool true)], args := [d] }
  | _ => none }
def packJoinRow : OpenClaim := { program := "ytnkinbobnhdpaaadoor", sum := "a2c3dda4547e67abd9de4a22841e34791389dea96a59394c8907116353169fa0", func := "lectionary/lectionarylaw12.PackJoin", spec := "packJoin", inPlace := ["internal/abi.NoEscape"], named := ["unicode/utf8.first", "unicode/utf8.acceptRanges"], apart := false, laid := [("unicode/utf8.acceptRanges", laid_unicode_utf8_acceptRanges), ("unicode/utf8.first", laid_unicode_utf8_first)] }
def PackJoinSaid : Prop := packJoinRow.holds Tryd.pinned (OpenSpec.ofChange packJoinSpec)

/-- ITS FALSE NEIGHBOUR: 'it returns false'. Refute it at one input. -/
def packJoinWrong : ChangeSpec := { name := "packJoin", fn := fun _ => fun
  | [d] => { results := [.lit (.bool false)], args := [d] }
  | _ => none }
def PackJoinWrongFalsely : Prop := packJoinRow.holds Tryd.pinned (OpenSpec.ofChange packJoinWrong)

/-- 'lectionarylaw12.PackWelcome': WHATEVER THE INPUT: true; the input reads as it did. -/
def packWelcomeSpec : ChangeSpec := { name := "packWelcome", fn := fun _ => fun
  | [d] => { results := [.lit (.bool true)], args := [d] }
  | _ => none }
def packWelcomeRow : OpenClaim := { program := "ytnkinbobnhdpaaadoor", sum := "a2c3dda4547e67abd9de4a22841e34791389dea96a59394c8907116353169fa0", func := "lectionary/lectionarylaw12.PackWelcome", spec := "packWelcome", inPlace := ["internal/abi.NoEscape"], named := ["unicode/utf8.first", "unicode/utf8.acceptRanges"], apart := false, laid := [("unicode/utf8.acceptRanges", laid_unicode_utf8_acceptRanges), ("unicode/utf8.first", laid_unicode_utf8_first)] }
def PackWelcomeSaid : Prop := packWelcomeRow.holds Tryd.pinned (OpenSpec.ofChange packWelcomeSpec)

/-- ITS FALSE NEIGHBOUR: 'it returns false'. Refute it at one input. -/
def packWelcomeWrong : ChangeSpec := { name := "packWelcome", fn := fun _ => fun
  | [d] => { results := [.lit (.bool false)], args := [d] }
  | _ => none }
def PackWelcomeWrongFalsely : Prop := packWelcomeRow.holds Tryd.pinned (OpenSpec.ofChange packWelcomeWrong)

/-- 'lectionarylaw12.PackAsk': WHATEVER THE INPUT: true; the input reads as it did. -/
def packAskSpec : ChangeSpec := { name := "packAsk", fn := fun _ => fun
  | [d] => { results := [.lit (.bool true)], args := [d] }
  | _ => none }
def packAskRow : OpenClaim := { program := "ytnkinbobnhdpaaadoor", sum := "a2c3dda4547e67abd9de4a22841e34791389dea96a59394c8907116353169fa0", func := "lectionary/lectionarylaw12.PackAsk", spec := "packAsk", inPlace := ["internal/abi.NoEscape"], named := ["unicode/utf8.first", "unicode/utf8.acceptRanges"], apart := false, laid := [("unicode/utf8.acceptRanges", laid_unicode_utf8_acceptRanges), ("unicode/utf8.first", laid_unicode_utf8_first)] }
def PackAskSaid : Prop := packAskRow.holds Tryd.pinned (OpenSpec.ofChange packAskSpec)

/-- ITS FALSE NEIGHBOUR: 'it returns false'. Refute it at one input. -/
def packAskWrong : ChangeSpec := { name := "packAsk", fn := fun _ => fun
  | [d] => { results := [.lit (.bool false)], args := [d] }
  | _ => none }
def PackAskWrongFalsely : Prop := packAskRow.holds Tryd.pinned (OpenSpec.ofChange packAskWrong)

/-- 'lectionarylaw12.PackSubmit': WHATEVER THE INPUT: true; the input reads as it did. -/
def packSubmitSpec : ChangeSpec := { name := "packSubmit", fn := fun _ => fun
  | [d] => { results := [.lit (.bool true)], args := [d] }
  | _ => none }
def packSubmitRow : OpenClaim := { program := "ytnkinbobnhdpaaadoor", sum := "a2c3dda4547e67abd9de4a22841e34791389dea96a59394c8907116353169fa0", func := "lectionary/lectionarylaw12.PackSubmit", spec := "packSubmit", inPlace := ["internal/abi.NoEscape"], named := ["unicode/utf8.first", "unicode/utf8.acceptRanges"], apart := false, laid := [("unicode/utf8.acceptRanges", laid_unicode_utf8_acceptRanges), ("unicode/utf8.first", laid_unicode_utf8_first)] }
def PackSubmitSaid : Prop := packSubmitRow.holds Tryd.pinned (OpenSpec.ofChange packSubmitSpec)

/-- ITS FALSE NEIGHBOUR: 'it returns false'. Refute it at one input. -/
def packSubmitWrong : ChangeSpec := { name := "packSubmit", fn := fun _ => fun
  | [d] => { results := [.lit (.bool false)], args := [d] }
  | _ => none }
def PackSubmitWrongFalsely : Prop := packSubmitRow.holds Tryd.pinned (OpenSpec.ofChange packSubmitWrong)

/-- 'lectionarylaw12.PackSend': WHATEVER THE INPUT: true; the input reads as it did. -/
def packSendSpec : ChangeSpec := { name := "packSend", fn := fun _ => fun
  | [d] => { results := [.lit (.bool true)], args := [d] }
  | _ => none }
def packSendRow : OpenClaim := { program := "ytnkinbobnhdpaaadoor", sum := "a2c3dda4547e67abd9de4a22841e34791389dea96a59394c8907116353169fa0", func := "lectionary/lectionarylaw12.PackSend", spec := "packSend", inPlace := ["internal/abi.NoEscape"], named := ["unicode/utf8.first", "unicode/utf8.acceptRanges"], apart := false, laid := [("unicode/utf8.acceptRanges", laid_unicode_utf8_acceptRanges), ("unicode/utf8.first", laid_unicode_utf8_first)] }
def PackSendSaid : Prop := packSendRow.holds Tryd.pinned (OpenSpec.ofChange packSendSpec)

/-- ITS FALSE NEIGHBOUR: 'it returns false'. Refute it at one input. -/
def packSendWrong : ChangeSpec := { name := "packSend", fn := fun _ => fun
  | [d] => { results := [.lit (.bool false)], args := [d] }
  | _ => none }
def PackSendWrongFalsely : Prop := packSendRow.holds Tryd.pinned (OpenSpec.ofChange packSendWrong)

/-- 'lectionarylaw12.PackDone': WHATEVER THE INPUT: true; the input reads as it did. -/
def packDoneSpec : ChangeSpec := { name := "packDone", fn := fun _ => fun
  | [d] => { results := [.lit (.bool true)], args := [d] }
  | _ => none }
def packDoneRow : OpenClaim := { program := "ytnkinbobnhdpaaadoor", sum := "a2c3dda4547e67abd9de4a22841e34791389dea96a59394c8907116353169fa0", func := "lectionary/lectionarylaw12.PackDone", spec := "packDone", inPlace := ["internal/abi.NoEscape"], named := ["unicode/utf8.first", "unicode/utf8.acceptRanges"], apart := false, laid := [("unicode/utf8.acceptRanges", laid_unicode_utf8_acceptRanges), ("unicode/utf8.first", laid_unicode_utf8_first)] }
def PackDoneSaid : Prop := packDoneRow.holds Tryd.pinned (OpenSpec.ofChange packDoneSpec)

/-- ITS FALSE NEIGHBOUR: 'it returns false'. Refute it at one input. -/
def packDoneWrong : ChangeSpec := { name := "packDone", fn := fun _ => fun
  | [d] => { results := [.lit (.bool false)], args := [d] }
  | _ => none }
def PackDoneWrongFalsely : Prop := packDoneRow.holds Tryd.pinned (OpenSpec.ofChange packDoneWrong)

/-- 'lectionarylaw12.PackForms': WHATEVER THE INPUT: true; the input reads as it did. -/
def packFormsSpec : ChangeSpec := { name := "packForms", fn := fun _ => fun
  | [d] => { results := [.lit (.bool true)], args := [d] }
  | _ => none }
def packFormsRow : OpenClaim := { program := "ytnkinbobnhdpaaadoor", sum := "a2c3dda4547e67abd9de4a22841e34791389dea96a59394c8907116353169fa0", func := "lectionary/lectionarylaw12.PackForms", spec := "packForms", inPlace := ["internal/abi.NoEscape"], named := ["unicode/utf8.first", "unicode/utf8.acceptRanges"], apart := false, laid := [("unicode/utf8.acceptRanges", laid_unicode_utf8_acceptRanges), ("unicode/utf8.first", laid_unicode_utf8_first)] }
def PackFormsSaid : Prop := packFormsRow.holds Tryd.pinned (OpenSpec.ofChange packFormsSpec)

/-- ITS FALSE NEIGHBOUR: 'it returns false'. Refute it at one input. -/
def packFormsWrong : ChangeSpec := { name := "packForms", fn := fun _ => fun
  | [d] => { results := [.lit (.bool false)], args := [d] }
  | _ => none }
def PackFormsWrongFalsely : Prop := packFormsRow.holds Tryd.pinned (OpenSpec.ofChange packFormsWrong)

/-- 'lectionarylaw13.WirePicks': WHATEVER THE INPUT: true; the input reads as it did. -/
def wirePicksSpec : ChangeSpec := { name := "wirePicks", fn := fun _ => fun
  | [d] => { results := [.lit (.bool true)], args := [d] }
  | _ => none }
def wirePicksRow : OpenClaim := { program := "ytnkinbobnhdpaaadoor", sum := "a2c3dda4547e67abd9de4a22841e34791389dea96a59394c8907116353169fa0", func := "lectionary/lectionarylaw13.WirePicks", spec := "wirePicks", inPlace := ["internal/abi.NoEscape"], unfollowed := true, recurses := true, named := ["unicode/utf8.first", "unicode/utf8.acceptRanges"], apart := false, laid := [("unicode/utf8.acceptRanges", laid_unicode_utf8_acceptRanges), ("unicode/utf8.first", laid_unicode_utf8_first)] }
def WirePicksSaid : Prop := wirePicksRow.holds Tryd.pinned (OpenSpec.ofChange wirePicksSpec)

/-- ITS FALSE NEIGHBOUR: 'it returns false'. Refute it at one input. -/
def wirePicksWrong : ChangeSpec := { name := "wirePicks", fn := fun _ => fun
  | [d] => { results := [.lit (.bool false)], args := [d] }
  | _ => none }
def WirePicksWrongFalsely : Prop := wirePicksRow.holds Tryd.pinned (OpenSpec.ofChange wirePicksWrong)

/- THE SECOND FORM. 'bulk': how many values and letters a reading holds, each counted each time it is reached (what is shared counts as often as it is met; a slice's spare places count too). A statement '..UptoSaid' is the law's where the arguments, and the package variables that the reading takes, are together of bulk at most 1048576: NARROWER than '..Said'. Prove '..Said' where nothing that the law and all that it calls make is longer than what came in: it says more and counts as full. Else prove '..UptoSaid'. A law counts once. -/
mutual
def uptoBulk {H : Type} : DataW H → Nat
  | .lit (.string bytes) => bytes.length + 1
  | .lit _ => 1
  | .nil => 1
  | .ptr d => uptoBulk d + 1
  | .slice elems spare => uptoBulkAll elems + uptoBulkAll spare + 1
  | .agg parts => uptoBulkAll parts + 1
  | .iface _ d => uptoBulk d + 1
  | .map entries => uptoBulkEntries entries + 1
  | .held _ => 1
def uptoBulkAll {H : Type} : List (DataW H) → Nat
  | [] => 0
  | d :: r => uptoBulk d + uptoBulkAll r
def uptoBulkEntries {H : Type} : List (Lit × DataW H) → Nat
  | [] => 0
  | x :: r => uptoBulkEntry x + uptoBulkEntries r
def uptoBulkEntry {H : Type} : Lit × DataW H → Nat
  | (.string bytes, d) => bytes.length + uptoBulk d + 1
  | (_, d) => uptoBulk d + 1
 end
def uptoSmall : (H : Type) → List (DataW H) → Bool := fun _ ds => decide (uptoBulkAll ds ≤ 1048576)
def OpenSpec.upto (s : _root_.Go.ChangeSpec) : _root_.Go.OpenSpec := { _root_.Go.OpenSpec.ofChange s with cond := some uptoSmall }

/-- 'lectionarylaw12.PackOps', WHERE WHAT IT READS IS OF BULK AT MOST 1048576: true; the input reads as it did. -/
def packOpsUptoRow : OpenClaim := { program := "ytnkinbobnhdpaaadoor", sum := "a2c3dda4547e67abd9de4a22841e34791389dea96a59394c8907116353169fa0", func := "lectionary/lectionarylaw12.PackOps", spec := "packOps", inPlace := ["internal/abi.NoEscape"], named := ["unicode/utf8.first", "unicode/utf8.acceptRanges"], apart := false, laid := [("unicode/utf8.acceptRanges", laid_unicode_utf8_acceptRanges), ("unicode/utf8.first", laid_unicode_utf8_first)], narrowed := true }
def PackOpsUptoSaid : Prop := packOpsUptoRow.holds Tryd.pinned (OpenSpec.upto packOpsSpec)

/-- 'lectionarylaw12.PackMsgs', WHERE WHAT IT READS IS OF BULK AT MOST 1048576: true; the input reads as it did. -/
def packMsgsUptoRow : OpenClaim := { program := "ytnkinbobnhdpaaadoor", sum := "a2c3dda4547e67abd9de4a22841e34791389dea96a59394c8907116353169fa0", func := "lectionary/lectionarylaw12.PackMsgs", spec := "packMsgs", inPlace := ["internal/abi.NoEscape"], named := ["unicode/utf8.first", "unicode/utf8.acceptRanges"], apart := false, laid := [("unicode/utf8.acceptRanges", laid_unicode_utf8_acceptRanges), ("unicode/utf8.first", laid_unicode_utf8_first)], narrowed := true }
def PackMsgsUptoSaid : Prop := packMsgsUptoRow.holds Tryd.pinned (OpenSpec.upto packMsgsSpec)

/-- 'lectionarylaw12.PackJoin', WHERE WHAT IT READS IS OF BULK AT MOST 1048576: true; the input reads as it did. -/
def packJoinUptoRow : OpenClaim := { program := "ytnkinbobnhdpaaadoor", sum := "a2c3dda4547e67abd9de4a22841e34791389dea96a59394c8907116353169fa0", func := "lectionary/lectionarylaw12.PackJoin", spec := "packJoin", inPlace := ["internal/abi.NoEscape"], named := ["unicode/utf8.first", "unicode/utf8.acceptRanges"], apart := false, laid := [("unicode/utf8.acceptRanges", laid_unicode_utf8_acceptRanges), ("unicode/utf8.first", laid_unicode_utf8_first)], narrowed := true }
def PackJoinUptoSaid : Prop := packJoinUptoRow.holds Tryd.pinned (OpenSpec.upto packJoinSpec)

/-- 'lectionarylaw12.PackWelcome', WHERE WHAT IT READS IS OF BULK AT MOST 1048576: true; the input reads as it did. -/
def packWelcomeUptoRow : OpenClaim := { program := "ytnkinbobnhdpaaadoor", sum := "a2c3dda4547e67abd9de4a22841e34791389dea96a59394c8907116353169fa0", func := "lectionary/lectionarylaw12.PackWelcome", spec := "packWelcome", inPlace := ["internal/abi.NoEscape"], named := ["unicode/utf8.first", "unicode/utf8.acceptRanges"], apart := false, laid := [("unicode/utf8.acceptRanges", laid_unicode_utf8_acceptRanges), ("unicode/utf8.first", laid_unicode_utf8_first)], narrowed := true }
def PackWelcomeUptoSaid : Prop := packWelcomeUptoRow.holds Tryd.pinned (OpenSpec.upto packWelcomeSpec)

/-- 'lectionarylaw12.PackAsk', WHERE WHAT IT READS IS OF BULK AT MOST 1048576: true; the input reads as it did. -/
def packAskUptoRow : OpenClaim := { program := "ytnkinbobnhdpaaadoor", sum := "a2c3dda4547e67abd9de4a22841e34791389dea96a59394c8907116353169fa0", func := "lectionary/lectionarylaw12.PackAsk", spec := "packAsk", inPlace := ["internal/abi.NoEscape"], named := ["unicode/utf8.first", "unicode/utf8.acceptRanges"], apart := false, laid := [("unicode/utf8.acceptRanges", laid_unicode_utf8_acceptRanges), ("unicode/utf8.first", laid_unicode_utf8_first)], narrowed := true }
def PackAskUptoSaid : Prop := packAskUptoRow.holds Tryd.pinned (OpenSpec.upto packAskSpec)

/-- 'lectionarylaw12.PackSubmit', WHERE WHAT IT READS IS OF BULK AT MOST 1048576: true; the input reads as it did. -/
def packSubmitUptoRow : OpenClaim := { program := "ytnkinbobnhdpaaadoor", sum := "a2c3dda4547e67abd9de4a22841e34791389dea96a59394c8907116353169fa0", func := "lectionary/lectionarylaw12.PackSubmit", spec := "packSubmit", inPlace := ["internal/abi.NoEscape"], named := ["unicode/utf8.first", "unicode/utf8.acceptRanges"], apart := false, laid := [("unicode/utf8.acceptRanges", laid_unicode_utf8_acceptRanges), ("unicode/utf8.first", laid_unicode_utf8_first)], narrowed := true }
def PackSubmitUptoSaid : Prop := packSubmitUptoRow.holds Tryd.pinned (OpenSpec.upto packSubmitSpec)

/-- 'lectionarylaw12.PackSend', WHERE WHAT IT READS IS OF BULK AT MOST 1048576: true; the input reads as it did. -/
def packSendUptoRow : OpenClaim := { program := "ytnkinbobnhdpaaadoor", sum := "a2c3dda4547e67abd9de4a22841e34791389dea96a59394c8907116353169fa0", func := "lectionary/lectionarylaw12.PackSend", spec := "packSend", inPlace := ["internal/abi.NoEscape"], named := ["unicode/utf8.first", "unicode/utf8.acceptRanges"], apart := false, laid := [("unicode/utf8.acceptRanges", laid_unicode_utf8_acceptRanges), ("unicode/utf8.first", laid_unicode_utf8_first)], narrowed := true }
def PackSendUptoSaid : Prop := packSendUptoRow.holds Tryd.pinned (OpenSpec.upto packSendSpec)

/-- 'lectionarylaw12.PackDone', WHERE WHAT IT READS IS OF BULK AT MOST 1048576: true; the input reads as it did. -/
def packDoneUptoRow : OpenClaim := { program := "ytnkinbobnhdpaaadoor", sum := "a2c3dda4547e67abd9de4a22841e34791389dea96a59394c8907116353169fa0", func := "lectionary/lectionarylaw12.PackDone", spec := "packDone", inPlace := ["internal/abi.NoEscape"], named := ["unicode/utf8.first", "unicode/utf8.acceptRanges"], apart := false, laid := [("unicode/utf8.acceptRanges", laid_unicode_utf8_acceptRanges), ("unicode/utf8.first", laid_unicode_utf8_first)], narrowed := true }
def PackDoneUptoSaid : Prop := packDoneUptoRow.holds Tryd.pinned (OpenSpec.upto packDoneSpec)

/-- 'lectionarylaw12.PackForms', WHERE WHAT IT READS IS OF BULK AT MOST 1048576: true; the input reads as it did. -/
def packFormsUptoRow : OpenClaim := { program := "ytnkinbobnhdpaaadoor", sum := "a2c3dda4547e67abd9de4a22841e34791389dea96a59394c8907116353169fa0", func := "lectionary/lectionarylaw12.PackForms", spec := "packForms", inPlace := ["internal/abi.NoEscape"], named := ["unicode/utf8.first", "unicode/utf8.acceptRanges"], apart := false, laid := [("unicode/utf8.acceptRanges", laid_unicode_utf8_acceptRanges), ("unicode/utf8.first", laid_unicode_utf8_first)], narrowed := true }
def PackFormsUptoSaid : Prop := packFormsUptoRow.holds Tryd.pinned (OpenSpec.upto packFormsSpec)

/-- 'lectionarylaw13.WirePicks', WHERE WHAT IT READS IS OF BULK AT MOST 1048576: true; the input reads as it did. -/
def wirePicksUptoRow : OpenClaim := { program := "ytnkinbobnhdpaaadoor", sum := "a2c3dda4547e67abd9de4a22841e34791389dea96a59394c8907116353169fa0", func := "lectionary/lectionarylaw13.WirePicks", spec := "wirePicks", inPlace := ["internal/abi.NoEscape"], unfollowed := true, recurses := true, named := ["unicode/utf8.first", "unicode/utf8.acceptRanges"], apart := false, laid := [("unicode/utf8.acceptRanges", laid_unicode_utf8_acceptRanges), ("unicode/utf8.first", laid_unicode_utf8_first)], narrowed := true }
def WirePicksUptoSaid : Prop := wirePicksUptoRow.holds Tryd.pinned (OpenSpec.upto wirePicksSpec)

end Rows
end Go.Proofs.YtnkinbobnhdpaaaDoor

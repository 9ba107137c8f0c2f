/-
  NARROWER THAN 'FOR EVERY INPUT', by the rows' own cells (each row's printed sentence says how): PathPlays: laid · CaretTells: laid · CaretStays: laid · CaretDeletes: laid · CaretUndoes: laid.
  DERIVED. THE GIVEN ROWS OF THIS SEAT. 5 by the template 'for every input the law returns true; each argument reads behind the call as it read before'; 0 by the template 'total and deterministic' (their statements: YthnedehihbploaaGreatDoorTotals.lean).
  GIVEN WITH THE SEED: the statements are not yours to turn. If you find one false, say at which input.
  Laid BY PROGRAM, IN A SANDBOX (cutbox-rows.mjs): the forced cells as the released guide's own fill.sh prints them over the translation be70d7a97a8a7898… (all of the seat's roots in one cut). By AI agents, Wed Nov 11 2026. No macro, syntax, notation, axiom, sorry.
-/
import Derived.Test.YthnedehihbploaaGreatDoorChecked
import GoSem.PinnedTables
import GoSem.Claim
import GoSem.ClaimJoined
import GoSem.ClaimMapViews
import Derived.JoinedTies
import Derived.KernelRfl
namespace Go.Proofs.YthnedehihbploaaGreatDoor
/- THE CELL 'sum', in the pinned program and in every row, IS THE sha256 OF THE DUMP (.gsa) THAT YthnedehihbploaaGreatDoorProg.lean LOADS. Nothing in Lean hashes anything: it is a label: what it is worth is what the hold of that sum in a sandbox is worth. -/
noncomputable def Tryz.pinned : Pinned := { name := "ythnedehihbploaagreatdoor", sum := "be70d7a97a8a78988beff73bf217a83cbc4b31f6226f1de6615826149bb22cfb", checked := Tryz.checked }
namespace Rows
def none {H : Type} : Left H := { results := [], args := [] }

/- WHAT THE LISTED PACKAGE-LEVEL VARIABLES READ AS WHEN THE CALL BEGINS. Each datum BY PROGRAM (the guide's laid-datum.mjs) off the statement by which the dump's own 'gosem.cut.vars' lays the variable. In a bare row this is a premise. The card (YthnedehihbploaaGreatDoorCards.lean) ties it to the program's text. -/
def laid_unicode_utf8_acceptRanges {H : Type} : DataW H := .agg [.agg [.lit (.int .u8 128), .lit (.int .u8 191)], .agg [.lit (.int .u8 160), .lit (.int .u8 191)], .agg [.lit (.int .u8 128), .lit (.int .u8 159)], .agg [.lit (.int .u8 144), .lit (.int .u8 191)], .agg [.lit (.int .u8 128), .lit (.int .u8 143)], .agg [.lit (.int .u8 0), .lit (.int .u8 0)], .agg [.lit (.int .u8 0), .lit (.int .u8 0)], .agg [.lit (.int .u8 0), .lit (.int .u8 0)], .agg [.lit (.int .u8 0), .lit (.int .u8 0)], .agg [.lit (.int .u8 0), .lit (.int .u8 0)], .agg [.lit (.int .u8 0), .lit (.int .u8 0)], .agg [.lit (.int .u8 0), .lit (.int .u8 0)], .agg [.lit (.int .u8 0), .lit (.int .u8 0)], .agg [.lit (.int .u8 0), .lit (.int .u8 0)], .agg [.lit (.int .u8 0), .lit (.int .u8 0)], .agg [.lit (.int .u8 0), .lit (.int .u8 0)]]
/-- One of Go's own tables, pinned by name: the form's constant. -/
def laid_unicode_utf8_first : DataW Unit := Go.Pinned.utf8First

/-- 'lectionarylaw10.PathPlays': WHATEVER THE INPUT: true; the input reads as it did. -/
def pathPlaysSpec : ChangeSpec := { name := "pathPlays", fn := fun _ => fun
  | [d] => { results := [.lit (.bool true)], args := [d] }
  | _ => none }
def pathPlaysRow : OpenClaim := { program := "ythnedehihbploaagreatdoor", sum := "be70d7a97a8a78988beff73bf217a83cbc4b31f6226f1de6615826149bb22cfb", func := "lectionary/lectionarylaw10.PathPlays", spec := "pathPlays", inPlace := ["internal/abi.NoEscape", "slices.overlaps[rune]"], unfollowed := true, recurses := true, named := ["unicode/utf8.first", "unicode/utf8.acceptRanges"], plainKeys := false, apart := false, laid := [("unicode/utf8.acceptRanges", laid_unicode_utf8_acceptRanges), ("unicode/utf8.first", laid_unicode_utf8_first)] }
def PathPlaysSaid : Prop := pathPlaysRow.holds Tryz.pinned (OpenSpec.ofChange pathPlaysSpec)

/-- ITS FALSE NEIGHBOUR: 'it returns false'. Refute it at one input. -/
def pathPlaysWrong : ChangeSpec := { name := "pathPlays", fn := fun _ => fun
  | [d] => { results := [.lit (.bool false)], args := [d] }
  | _ => none }
def PathPlaysWrongFalsely : Prop := pathPlaysRow.holds Tryz.pinned (OpenSpec.ofChange pathPlaysWrong)

/-- 'lectionarylaw11.CaretTells': WHATEVER THE INPUT: true; the input reads as it did. -/
def caretTellsSpec : ChangeSpec := { name := "caretTells", fn := fun _ => fun
  | [d] => { results := [.lit (.bool true)], args := [d] }
  | _ => none }
def caretTellsRow : OpenClaim := { program := "ythnedehihbploaagreatdoor", sum := "be70d7a97a8a78988beff73bf217a83cbc4b31f6226f1de6615826149bb22cfb", func := "lectionary/lectionarylaw11.CaretTells", spec := "caretTells", unfollowed := true, recurses := true, named := ["unicode/utf8.first", "unicode/utf8.acceptRanges"], plainKeys := false, apart := false, laid := [("unicode/utf8.acceptRanges", laid_unicode_utf8_acceptRanges), ("unicode/utf8.first", laid_unicode_utf8_first)] }
def CaretTellsSaid : Prop := caretTellsRow.holds Tryz.pinned (OpenSpec.ofChange caretTellsSpec)

/-- ITS FALSE NEIGHBOUR: 'it returns false'. Refute it at one input. -/
def caretTellsWrong : ChangeSpec := { name := "caretTells", fn := fun _ => fun
  | [d] => { results := [.lit (.bool false)], args := [d] }
  | _ => none }
def CaretTellsWrongFalsely : Prop := caretTellsRow.holds Tryz.pinned (OpenSpec.ofChange caretTellsWrong)

/-- 'lectionarylaw11.CaretStays': WHATEVER THE INPUT: true; the input reads as it did. -/
def caretStaysSpec : ChangeSpec := { name := "caretStays", fn := fun _ => fun
  | [d] => { results := [.lit (.bool true)], args := [d] }
  | _ => none }
def caretStaysRow : OpenClaim := { program := "ythnedehihbploaagreatdoor", sum := "be70d7a97a8a78988beff73bf217a83cbc4b31f6226f1de6615826149bb22cfb", func := "lectionary/lectionarylaw11.CaretStays", spec := "caretStays", inPlace := ["internal/abi.NoEscape", "internal/reflectlite.ValueOf", "internal/reflectlite.Swapper", "(internal/reflectlite.Value).Len"], unfollowed := true, recurses := true, named := ["unicode/utf8.first", "unicode/utf8.acceptRanges"], plainKeys := false, apart := false, laid := [("unicode/utf8.acceptRanges", laid_unicode_utf8_acceptRanges), ("unicode/utf8.first", laid_unicode_utf8_first)] }
def CaretStaysSaid : Prop := caretStaysRow.holds Tryz.pinned (OpenSpec.ofChange caretStaysSpec)

/-- ITS FALSE NEIGHBOUR: 'it returns false'. Refute it at one input. -/
def caretStaysWrong : ChangeSpec := { name := "caretStays", fn := fun _ => fun
  | [d] => { results := [.lit (.bool false)], args := [d] }
  | _ => none }
def CaretStaysWrongFalsely : Prop := caretStaysRow.holds Tryz.pinned (OpenSpec.ofChange caretStaysWrong)

/-- 'lectionarylaw11.CaretDeletes': WHATEVER THE INPUT: true; the input reads as it did. -/
def caretDeletesSpec : ChangeSpec := { name := "caretDeletes", fn := fun _ => fun
  | [d] => { results := [.lit (.bool true)], args := [d] }
  | _ => none }
def caretDeletesRow : OpenClaim := { program := "ythnedehihbploaagreatdoor", sum := "be70d7a97a8a78988beff73bf217a83cbc4b31f6226f1de6615826149bb22cfb", func := "lectionary/lectionarylaw11.CaretDeletes", spec := "caretDeletes", unfollowed := true, recurses := true, named := ["unicode/utf8.first", "unicode/utf8.acceptRanges"], plainKeys := false, apart := false, laid := [("unicode/utf8.acceptRanges", laid_unicode_utf8_acceptRanges), ("unicode/utf8.first", laid_unicode_utf8_first)] }
def CaretDeletesSaid : Prop := caretDeletesRow.holds Tryz.pinned (OpenSpec.ofChange caretDeletesSpec)

/-- ITS FALSE NEIGHBOUR: 'it returns false'. Refute it at one input. -/
def caretDeletesWrong : ChangeSpec := { name := "caretDeletes", fn := fun _ => fun
  | [d] => { results := [.lit (.bool false)], args := [d] }
  | _ => none }
def CaretDeletesWrongFalsely : Prop := caretDeletesRow.holds Tryz.pinned (OpenSpec.ofChange caretDeletesWrong)

/-- 'lectionarylaw11.CaretUndoes': WHATEVER THE INPUT: true; the input reads as it did. -/
def caretUndoesSpec : ChangeSpec := { name := "caretUndoes", fn := fun _ => fun
  | [d] => { results := [.lit (.bool true)], args := [d] }
  | _ => none }
def caretUndoesRow : OpenClaim := { program := "ythnedehihbploaagreatdoor", sum := "be70d7a97a8a78988beff73bf217a83cbc4b31f6226f1de6615826149bb22cfb", func := "lectionary/lectionarylaw11.CaretUndoes", spec := "caretUndoes", unfollowed := true, recurses := true, named := ["unicode/utf8.first", "unicode/utf8.acceptRanges"], plainKeys := false, apart := false, laid := [("unicode/utf8.acceptRanges", laid_unicode_utf8_acceptRanges), ("unicode/utf8.first", laid_unicode_utf8_first)] }
def CaretUndoesSaid : Prop := caretUndoesRow.holds Tryz.pinned (OpenSpec.ofChange caretUndoesSpec)

/-- ITS FALSE NEIGHBOUR: 'it returns false'. Refute it at one input. -/
def caretUndoesWrong : ChangeSpec := { name := "caretUndoes", fn := fun _ => fun
  | [d] => { results := [.lit (.bool false)], args := [d] }
  | _ => none }
def CaretUndoesWrongFalsely : Prop := caretUndoesRow.holds Tryz.pinned (OpenSpec.ofChange caretUndoesWrong)

/- THE SECOND FORM. 'bulk': how many values and letters a reading holds, each counted each time it is reached (what is shared counts as often as it is met; a slice's spare places count too). A statement '..UptoSaid' is the law's where the arguments, and the package variables that the reading takes, are together of bulk at most 1048576: NARROWER than '..Said'. Prove '..Said' where nothing that the law and all that it calls make is longer than what came in: it says more and counts as full. Else prove '..UptoSaid'. A law counts once. -/
mutual
def uptoBulk {H : Type} : DataW H → Nat
  | .lit (.string bytes) => bytes.length + 1
  | .lit _ => 1
  | .nil => 1
  | .ptr d => uptoBulk d + 1
  | .slice elems spare => uptoBulkAll elems + uptoBulkAll spare + 1
  | .agg parts => uptoBulkAll parts + 1
  | .iface _ d => uptoBulk d + 1
  | .map entries => uptoBulkEntries entries + 1
  | .held _ => 1
def uptoBulkAll {H : Type} : List (DataW H) → Nat
  | [] => 0
  | d :: r => uptoBulk d + uptoBulkAll r
def uptoBulkEntries {H : Type} : List (Lit × DataW H) → Nat
  | [] => 0
  | x :: r => uptoBulkEntry x + uptoBulkEntries r
def uptoBulkEntry {H : Type} : Lit × DataW H → Nat
  | (.string bytes, d) => bytes.length + uptoBulk d + 1
  | (_, d) => uptoBulk d + 1
 end
def uptoSmall : (H : Type) → List (DataW H) → Bool := fun _ ds => decide (uptoBulkAll ds ≤ 1048576)
def OpenSpec.upto (s : _root_.Go.ChangeSpec) : _root_.Go.OpenSpec := { _root_.Go.OpenSpec.ofChange s with cond := some uptoSmall }

/-- 'lectionarylaw10.PathPlays', WHERE WHAT IT READS IS OF BULK AT MOST 1048576: true; the input reads as it did. -/
def pathPlaysUptoRow : OpenClaim := { program := "ythnedehihbploaagreatdoor", sum := "be70d7a97a8a78988beff73bf217a83cbc4b31f6226f1de6615826149bb22cfb", func := "lectionary/lectionarylaw10.PathPlays", spec := "pathPlays", inPlace := ["internal/abi.NoEscape", "slices.overlaps[rune]"], unfollowed := true, recurses := true, named := ["unicode/utf8.first", "unicode/utf8.acceptRanges"], plainKeys := false, apart := false, laid := [("unicode/utf8.acceptRanges", laid_unicode_utf8_acceptRanges), ("unicode/utf8.first", laid_unicode_utf8_first)], narrowed := true }
def PathPlaysUptoSaid : Prop := pathPlaysUptoRow.holds Tryz.pinned (OpenSpec.upto pathPlaysSpec)

/-- 'lectionarylaw11.CaretTells', WHERE WHAT IT READS IS OF BULK AT MOST 1048576: true; the input reads as it did. -/
def caretTellsUptoRow : OpenClaim := { program := "ythnedehihbploaagreatdoor", sum := "be70d7a97a8a78988beff73bf217a83cbc4b31f6226f1de6615826149bb22cfb", func := "lectionary/lectionarylaw11.CaretTells", spec := "caretTells", unfollowed := true, recurses := true, named := ["unicode/utf8.first", "unicode/utf8.acceptRanges"], plainKeys := false, apart := false, laid := [("unicode/utf8.acceptRanges", laid_unicode_utf8_acceptRanges), ("unicode/utf8.first", laid_unicode_utf8_first)], narrowed := true }
def CaretTellsUptoSaid : Prop := caretTellsUptoRow.holds Tryz.pinned (OpenSpec.upto caretTellsSpec)

/-- 'lectionarylaw11.CaretStays', WHERE WHAT IT READS IS OF BULK AT MOST 1048576: true; the input reads as it did. -/
def caretStaysUptoRow : OpenClaim := { program := "ythnedehihbploaagreatdoor", sum := "be70d7a97a8a78988beff73bf217a83cbc4b31f6226f1de6615826149bb22cfb", func := "lectionary/lectionarylaw11.CaretStays", spec := "caretStays", inPlace := ["internal/abi.NoEscape", "internal/reflectlite.ValueOf", "internal/reflectlite.Swapper", "(internal/reflectlite.Value).Len"], unfollowed := true, recurses := true, named := ["unicode/utf8.first", "unicode/utf8.acceptRanges"], plainKeys := false, apart := false, laid := [("unicode/utf8.acceptRanges", laid_unicode_utf8_acceptRanges), ("unicode/utf8.first", laid_unicode_utf8_first)], narrowed := true }
def CaretStaysUptoSaid : Prop := caretStaysUptoRow.holds Tryz.pinned (OpenSpec.upto caretStaysSpec)

/-- 'lectionarylaw11.CaretDeletes', WHERE WHAT IT READS IS OF BULK AT MOST 1048576: true; the input reads as it did. -/
def caretDeletesUptoRow : OpenClaim := { program := "ythnedehihbploaagreatdoor", sum := "be70d7a97a8a78988beff73bf217a83cbc4b31f6226f1de6615826149bb22cfb", func := "lectionary/lectionarylaw11.CaretDeletes", spec := "caretDeletes", unfollowed := true, recurses := true, named := ["unicode/utf8.first", "unicode/utf8.acceptRanges"], plainKeys := false, apart := false, laid := [("unicode/utf8.acceptRanges", laid_unicode_utf8_acceptRanges), ("unicode/utf8.first", laid_unicode_utf8_first)], narrowed := true }
def CaretDeletesUptoSaid : Prop := caretDeletesUptoRow.holds Tryz.pinned (OpenSpec.upto caretDeletesSpec)

/-- 'lectionarylaw11.CaretUndoes', WHERE WHAT IT READS IS OF BULK AT MOST 1048576: true; the input reads as it did. -/
def caretUndoesUptoRow : OpenClaim := { program := "ythnedehihbploaagreatdoor", sum := "be70d7a97a8a78988beff73bf217a83cbc4b31f6226f1de6615826149bb22cfb", func := "lectionary/lectionarylaw11.CaretUndoes", spec := "caretUndoes", unfollowed := true, recurses := true, named := ["unicode/utf8.first", "unicode/utf8.acceptRanges"], plainKeys := false, apart := false, laid := [("unicode/utf8.acceptRanges", laid_unicode_utf8_acceptRanges), ("unicode/utf8.first", laid_unicode_utf8_first)], narrowed := true }
def CaretUndoesUptoSaid : Prop := caretUndoesUptoRow.holds Tryz.pinned (OpenSpec.upto caretUndoesSpec)

end Rows
end Go.Proofs.YthnedehihbploaaGreatDoor

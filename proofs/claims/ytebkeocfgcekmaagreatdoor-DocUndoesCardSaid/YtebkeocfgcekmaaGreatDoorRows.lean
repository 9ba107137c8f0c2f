/-
  NARROWER THAN 'FOR EVERY INPUT', by the rows' own cells (each row's printed sentence says how): DocTells: laid · DocGoes: laid · DocUndoes: laid · DocIdles: laid.
  DERIVED. THE GIVEN ROWS OF THIS SEAT. 4 by the template 'for every input the law returns true; each argument reads behind the call as it read before'; 0 by the template 'total and deterministic' (their statements: YtebkeocfgcekmaaGreatDoorTotals.lean).
  GIVEN WITH THE SEED: the statements are not yours to turn. If you find one false, say at which input.
  Laid BY PROGRAM, IN A SANDBOX (cutbox-rows.mjs): the forced cells as the released guide's own fill.sh prints them over the translation a4e1835bddb4dc86… (all of the seat's roots in one cut). By AI agents, Wed Nov 11 2026. No macro, syntax, notation, axiom, sorry.
-/
import Derived.Test.YtebkeocfgcekmaaGreatDoorChecked
import GoSem.PinnedTables
import GoSem.Claim
import GoSem.ClaimJoined
import GoSem.ClaimMapViews
import Derived.JoinedTies
import Derived.KernelRfl
namespace Go.Proofs.YtebkeocfgcekmaaGreatDoor
/- THE CELL 'sum', in the pinned program and in every row, IS THE sha256 OF THE DUMP (.gsa) THAT YtebkeocfgcekmaaGreatDoorProg.lean LOADS. Nothing in Lean hashes anything: it is a label: what it is worth is what the hold of that sum in a sandbox is worth. -/
noncomputable def Tryz.pinned : Pinned := { name := "ytebkeocfgcekmaagreatdoor", sum := "a4e1835bddb4dc86742dc76780a704d9ae553203ed1552a96c748238c66937b7", checked := Tryz.checked }
namespace Rows
def none {H : Type} : Left H := { results := [], args := [] }

/- WHAT THE LISTED PACKAGE-LEVEL VARIABLES READ AS WHEN THE CALL BEGINS. Each datum BY PROGRAM (the guide's laid-datum.mjs) off the statement by which the dump's own 'gosem.cut.vars' lays the variable. In a bare row this is a premise. The card (YtebkeocfgcekmaaGreatDoorCards.lean) ties it to the program's text. -/
def laid_unicode_utf8_acceptRanges {H : Type} : DataW H := .agg [.agg [.lit (.int .u8 128), .lit (.int .u8 191)], .agg [.lit (.int .u8 160), .lit (.int .u8 191)], .agg [.lit (.int .u8 128), .lit (.int .u8 159)], .agg [.lit (.int .u8 144), .lit (.int .u8 191)], .agg [.lit (.int .u8 128), .lit (.int .u8 143)], .agg [.lit (.int .u8 0), .lit (.int .u8 0)], .agg [.lit (.int .u8 0), .lit (.int .u8 0)], .agg [.lit (.int .u8 0), .lit (.int .u8 0)], .agg [.lit (.int .u8 0), .lit (.int .u8 0)], .agg [.lit (.int .u8 0), .lit (.int .u8 0)], .agg [.lit (.int .u8 0), .lit (.int .u8 0)], .agg [.lit (.int .u8 0), .lit (.int .u8 0)], .agg [.lit (.int .u8 0), .lit (.int .u8 0)], .agg [.lit (.int .u8 0), .lit (.int .u8 0)], .agg [.lit (.int .u8 0), .lit (.int .u8 0)], .agg [.lit (.int .u8 0), .lit (.int .u8 0)]]
/-- One of Go's own tables, pinned by name: the form's constant. -/
def laid_unicode_utf8_first : DataW Unit := Go.Pinned.utf8First

/-- 'lectionarylaw6.DocTells': WHATEVER THE INPUT: true; the input reads as it did. -/
def docTellsSpec : ChangeSpec := { name := "docTells", fn := fun _ => fun
  | [d] => { results := [.lit (.bool true)], args := [d] }
  | _ => none }
def docTellsRow : OpenClaim := { program := "ytebkeocfgcekmaagreatdoor", sum := "a4e1835bddb4dc86742dc76780a704d9ae553203ed1552a96c748238c66937b7", func := "lectionary/lectionarylaw6.DocTells", spec := "docTells", inPlace := ["internal/abi.NoEscape"], unfollowed := true, recurses := true, named := ["unicode/utf8.first", "unicode/utf8.acceptRanges"], plainKeys := false, apart := false, laid := [("unicode/utf8.acceptRanges", laid_unicode_utf8_acceptRanges), ("unicode/utf8.first", laid_unicode_utf8_first)] }
def DocTellsSaid : Prop := docTellsRow.holds Tryz.pinned (OpenSpec.ofChange docTellsSpec)

/-- ITS FALSE NEIGHBOUR: 'it returns false'. Refute it at one input. -/
def docTellsWrong : ChangeSpec := { name := "docTells", fn := fun _ => fun
  | [d] => { results := [.lit (.bool false)], args := [d] }
  | _ => none }
def DocTellsWrongFalsely : Prop := docTellsRow.holds Tryz.pinned (OpenSpec.ofChange docTellsWrong)

/-- 'lectionarylaw6.DocGoes': WHATEVER THE INPUT: true; the input reads as it did. -/
def docGoesSpec : ChangeSpec := { name := "docGoes", fn := fun _ => fun
  | [d] => { results := [.lit (.bool true)], args := [d] }
  | _ => none }
def docGoesRow : OpenClaim := { program := "ytebkeocfgcekmaagreatdoor", sum := "a4e1835bddb4dc86742dc76780a704d9ae553203ed1552a96c748238c66937b7", func := "lectionary/lectionarylaw6.DocGoes", spec := "docGoes", inPlace := ["internal/abi.NoEscape"], unfollowed := true, recurses := true, named := ["unicode/utf8.first", "unicode/utf8.acceptRanges"], plainKeys := false, apart := false, laid := [("unicode/utf8.acceptRanges", laid_unicode_utf8_acceptRanges), ("unicode/utf8.first", laid_unicode_utf8_first)] }
def DocGoesSaid : Prop := docGoesRow.holds Tryz.pinned (OpenSpec.ofChange docGoesSpec)

/-- ITS FALSE NEIGHBOUR: 'it returns false'. Refute it at one input. -/
def docGoesWrong : ChangeSpec := { name := "docGoes", fn := fun _ => fun
  | [d] => { results := [.lit (.bool false)], args := [d] }
  | _ => none }
def DocGoesWrongFalsely : Prop := docGoesRow.holds Tryz.pinned (OpenSpec.ofChange docGoesWrong)

/-- 'lectionarylaw6.DocUndoes': WHATEVER THE INPUT: true; the input reads as it did. -/
def docUndoesSpec : ChangeSpec := { name := "docUndoes", fn := fun _ => fun
  | [d] => { results := [.lit (.bool true)], args := [d] }
  | _ => none }
def docUndoesRow : OpenClaim := { program := "ytebkeocfgcekmaagreatdoor", sum := "a4e1835bddb4dc86742dc76780a704d9ae553203ed1552a96c748238c66937b7", func := "lectionary/lectionarylaw6.DocUndoes", spec := "docUndoes", inPlace := ["internal/abi.NoEscape"], unfollowed := true, recurses := true, named := ["unicode/utf8.first", "unicode/utf8.acceptRanges"], plainKeys := false, apart := false, laid := [("unicode/utf8.acceptRanges", laid_unicode_utf8_acceptRanges), ("unicode/utf8.first", laid_unicode_utf8_first)] }
def DocUndoesSaid : Prop := docUndoesRow.holds Tryz.pinned (OpenSpec.ofChange docUndoesSpec)

/-- ITS FALSE NEIGHBOUR: 'it returns false'. Refute it at one input. -/
def docUndoesWrong : ChangeSpec := { name := "docUndoes", fn := fun _ => fun
  | [d] => { results := [.lit (.bool false)], args := [d] }
  | _ => none }
def DocUndoesWrongFalsely : Prop := docUndoesRow.holds Tryz.pinned (OpenSpec.ofChange docUndoesWrong)

/-- 'lectionarylaw6.DocIdles': WHATEVER THE INPUT: true; the input reads as it did. -/
def docIdlesSpec : ChangeSpec := { name := "docIdles", fn := fun _ => fun
  | [d] => { results := [.lit (.bool true)], args := [d] }
  | _ => none }
def docIdlesRow : OpenClaim := { program := "ytebkeocfgcekmaagreatdoor", sum := "a4e1835bddb4dc86742dc76780a704d9ae553203ed1552a96c748238c66937b7", func := "lectionary/lectionarylaw6.DocIdles", spec := "docIdles", inPlace := ["internal/abi.NoEscape"], unfollowed := true, recurses := true, named := ["unicode/utf8.first", "unicode/utf8.acceptRanges"], plainKeys := false, apart := false, laid := [("unicode/utf8.acceptRanges", laid_unicode_utf8_acceptRanges), ("unicode/utf8.first", laid_unicode_utf8_first)] }
def DocIdlesSaid : Prop := docIdlesRow.holds Tryz.pinned (OpenSpec.ofChange docIdlesSpec)

/-- ITS FALSE NEIGHBOUR: 'it returns false'. Refute it at one input. -/
def docIdlesWrong : ChangeSpec := { name := "docIdles", fn := fun _ => fun
  | [d] => { results := [.lit (.bool false)], args := [d] }
  | _ => none }
def DocIdlesWrongFalsely : Prop := docIdlesRow.holds Tryz.pinned (OpenSpec.ofChange docIdlesWrong)

/- THE SECOND FORM. 'bulk': how many values and letters a reading holds, each counted each time it is reached (what is shared counts as often as it is met; a slice's spare places count too). A statement '..UptoSaid' is the law's where the arguments, and the package variables that the reading takes, are together of bulk at most 1048576: NARROWER than '..Said'. Prove '..Said' where nothing that the law and all that it calls make is longer than what came in: it says more and counts as full. Else prove '..UptoSaid'. A law counts once. -/
mutual
def uptoBulk {H : Type} : DataW H → Nat
  | .lit (.string bytes) => bytes.length + 1
  | .lit _ => 1
  | .nil => 1
  | .ptr d => uptoBulk d + 1
  | .slice elems spare => uptoBulkAll elems + uptoBulkAll spare + 1
  | .agg parts => uptoBulkAll parts + 1
  | .iface _ d => uptoBulk d + 1
  | .map entries => uptoBulkEntries entries + 1
  | .held _ => 1
def uptoBulkAll {H : Type} : List (DataW H) → Nat
  | [] => 0
  | d :: r => uptoBulk d + uptoBulkAll r
def uptoBulkEntries {H : Type} : List (Lit × DataW H) → Nat
  | [] => 0
  | x :: r => uptoBulkEntry x + uptoBulkEntries r
def uptoBulkEntry {H : Type} : Lit × DataW H → Nat
  | (.string bytes, d) => bytes.length + uptoBulk d + 1
  | (_, d) => uptoBulk d + 1
 end
def uptoSmall : (H : Type) → List (DataW H) → Bool := fun _ ds => decide (uptoBulkAll ds ≤ 1048576)
def OpenSpec.upto (s : _root_.Go.ChangeSpec) : _root_.Go.OpenSpec := { _root_.Go.OpenSpec.ofChange s with cond := some uptoSmall }

/-- 'lectionarylaw6.DocTells', WHERE WHAT IT READS IS OF BULK AT MOST 1048576: true; the input reads as it did. -/
def docTellsUptoRow : OpenClaim := { program := "ytebkeocfgcekmaagreatdoor", sum := "a4e1835bddb4dc86742dc76780a704d9ae553203ed1552a96c748238c66937b7", func := "lectionary/lectionarylaw6.DocTells", spec := "docTells", inPlace := ["internal/abi.NoEscape"], unfollowed := true, recurses := true, named := ["unicode/utf8.first", "unicode/utf8.acceptRanges"], plainKeys := false, apart := false, laid := [("unicode/utf8.acceptRanges", laid_unicode_utf8_acceptRanges), ("unicode/utf8.first", laid_unicode_utf8_first)], narrowed := true }
def DocTellsUptoSaid : Prop := docTellsUptoRow.holds Tryz.pinned (OpenSpec.upto docTellsSpec)

/-- 'lectionarylaw6.DocGoes', WHERE WHAT IT READS IS OF BULK AT MOST 1048576: true; the input reads as it did. -/
def docGoesUptoRow : OpenClaim := { program := "ytebkeocfgcekmaagreatdoor", sum := "a4e1835bddb4dc86742dc76780a704d9ae553203ed1552a96c748238c66937b7", func := "lectionary/lectionarylaw6.DocGoes", spec := "docGoes", inPlace := ["internal/abi.NoEscape"], unfollowed := true, recurses := true, named := ["unicode/utf8.first", "unicode/utf8.acceptRanges"], plainKeys := false, apart := false, laid := [("unicode/utf8.acceptRanges", laid_unicode_utf8_acceptRanges), ("unicode/utf8.first", laid_unicode_utf8_first)], narrowed := true }
def DocGoesUptoSaid : Prop := docGoesUptoRow.holds Tryz.pinned (OpenSpec.upto docGoesSpec)

/-- 'lectionarylaw6.DocUndoes', WHERE WHAT IT READS IS OF BULK AT MOST 1048576: true; the input reads as it did. -/
def docUndoesUptoRow : OpenClaim := { program := "ytebkeocfgcekmaagreatdoor", sum := "a4e1835bddb4dc86742dc76780a704d9ae553203ed1552a96c748238c66937b7", func := "lectionary/lectionarylaw6.DocUndoes", spec := "docUndoes", inPlace := ["internal/abi.NoEscape"], unfollowed := true, recurses := true, named := ["unicode/utf8.first", "unicode/utf8.acceptRanges"], plainKeys := false, apart := false, laid := [("unicode/utf8.acceptRanges", laid_unicode_utf8_acceptRanges), ("unicode/utf8.first", laid_unicode_utf8_first)], narrowed := true }
def DocUndoesUptoSaid : Prop := docUndoesUptoRow.holds Tryz.pinned (OpenSpec.upto docUndoesSpec)

/-- 'lectionarylaw6.DocIdles', WHERE WHAT IT READS IS OF BULK AT MOST 1048576: true; the input reads as it did. -/
def docIdlesUptoRow : OpenClaim := { program := "ytebkeocfgcekmaagreatdoor", sum := "a4e1835bddb4dc86742dc76780a704d9ae553203ed1552a96c748238c66937b7", func := "lectionary/lectionarylaw6.DocIdles", spec := "docIdles", inPlace := ["internal/abi.NoEscape"], unfollowed := true, recurses := true, named := ["unicode/utf8.first", "unicode/utf8.acceptRanges"], plainKeys := false, apart := false, laid := [("unicode/utf8.acceptRanges", laid_unicode_utf8_acceptRanges), ("unicode/utf8.first", laid_unicode_utf8_first)], narrowed := true }
def DocIdlesUptoSaid : Prop := docIdlesUptoRow.holds Tryz.pinned (OpenSpec.upto docIdlesSpec)

end Rows
end Go.Proofs.YtebkeocfgcekmaaGreatDoor

/-
  NARROWER THAN 'FOR EVERY INPUT', by the rows' own cells (each row's printed sentence says how): PathExact: laid · PathPlays: laid · PathInserts: laid · PathDeletes: laid · PathToggles: laid.
  DERIVED. THE GIVEN ROWS OF THIS SEAT. 5 by the template 'for every input the law returns true; each argument reads behind the call as it read before'; 0 by the template 'total and deterministic' (their statements: YtglfkoegkiplfaaGreatDoorTotals.lean).
  GIVEN WITH THE SEED: the statements are not yours to turn. If you find one false, say at which input.
  Laid BY PROGRAM, IN A SANDBOX (cutbox-rows.mjs): the forced cells as the released guide's own fill.sh prints them over the translation 749816af9f9c3b41… (all of the seat's roots in one cut). By AI agents, Wed Nov 11 2026. No macro, syntax, notation, axiom, sorry.
-/
import Derived.Test.YtglfkoegkiplfaaGreatDoorChecked
import GoSem.PinnedTables
import GoSem.Claim
import GoSem.ClaimJoined
import GoSem.ClaimMapViews
import Derived.JoinedTies
import Derived.KernelRfl
namespace Go.Proofs.YtglfkoegkiplfaaGreatDoor
/- THE CELL 'sum', in the pinned program and in every row, IS THE sha256 OF THE DUMP (.gsa) THAT YtglfkoegkiplfaaGreatDoorProg.lean LOADS. Nothing in Lean hashes anything: it is a label: what it is worth is what the hold of that sum in a sandbox is worth. -/
noncomputable def Tryz.pinned : Pinned := { name := "ytglfkoegkiplfaagreatdoor", sum := "749816af9f9c3b415d4548682d21ba3404b47a77fec67e85b62d3791e58c1c3b", checked := Tryz.checked }
namespace Rows
def none {H : Type} : Left H := { results := [], args := [] }

/- WHAT THE LISTED PACKAGE-LEVEL VARIABLES READ AS WHEN THE CALL BEGINS. Each datum BY PROGRAM (the guide's laid-datum.mjs) off the statement by which the dump's own 'gosem.cut.vars' lays the variable. In a bare row this is a premise. The card (YtglfkoegkiplfaaGreatDoorCards.lean) ties it to the program's text. -/
def laid_unicode_utf8_acceptRanges {H : Type} : DataW H := .agg [.agg [.lit (.int .u8 128), .lit (.int .u8 191)], .agg [.lit (.int .u8 160), .lit (.int .u8 191)], .agg [.lit (.int .u8 128), .lit (.int .u8 159)], .agg [.lit (.int .u8 144), .lit (.int .u8 191)], .agg [.lit (.int .u8 128), .lit (.int .u8 143)], .agg [.lit (.int .u8 0), .lit (.int .u8 0)], .agg [.lit (.int .u8 0), .lit (.int .u8 0)], .agg [.lit (.int .u8 0), .lit (.int .u8 0)], .agg [.lit (.int .u8 0), .lit (.int .u8 0)], .agg [.lit (.int .u8 0), .lit (.int .u8 0)], .agg [.lit (.int .u8 0), .lit (.int .u8 0)], .agg [.lit (.int .u8 0), .lit (.int .u8 0)], .agg [.lit (.int .u8 0), .lit (.int .u8 0)], .agg [.lit (.int .u8 0), .lit (.int .u8 0)], .agg [.lit (.int .u8 0), .lit (.int .u8 0)], .agg [.lit (.int .u8 0), .lit (.int .u8 0)]]
/-- One of Go's own tables, pinned by name: the form's constant. -/
def laid_unicode_utf8_first : DataW Unit := Go.Pinned.utf8First

/-- 'lectionarylaw10.PathExact': WHATEVER THE INPUT: true; the input reads as it did. -/
def pathExactSpec : ChangeSpec := { name := "pathExact", fn := fun _ => fun
  | [d] => { results := [.lit (.bool true)], args := [d] }
  | _ => none }
def pathExactRow : OpenClaim := { program := "ytglfkoegkiplfaagreatdoor", sum := "749816af9f9c3b415d4548682d21ba3404b47a77fec67e85b62d3791e58c1c3b", func := "lectionary/lectionarylaw10.PathExact", spec := "pathExact", inPlace := ["internal/abi.NoEscape", "slices.overlaps[rune]"], unfollowed := true, recurses := true, named := ["unicode/utf8.first", "unicode/utf8.acceptRanges"], plainKeys := false, apart := false, laid := [("unicode/utf8.acceptRanges", laid_unicode_utf8_acceptRanges), ("unicode/utf8.first", laid_unicode_utf8_first)] }
def PathExactSaid : Prop := pathExactRow.holds Tryz.pinned (OpenSpec.ofChange pathExactSpec)

/-- ITS FALSE NEIGHBOUR: 'it returns false'. Refute it at one input. -/
def pathExactWrong : ChangeSpec := { name := "pathExact", fn := fun _ => fun
  | [d] => { results := [.lit (.bool false)], args := [d] }
  | _ => none }
def PathExactWrongFalsely : Prop := pathExactRow.holds Tryz.pinned (OpenSpec.ofChange pathExactWrong)

/-- 'lectionarylaw10.PathPlays': WHATEVER THE INPUT: true; the input reads as it did. -/
def pathPlaysSpec : ChangeSpec := { name := "pathPlays", fn := fun _ => fun
  | [d] => { results := [.lit (.bool true)], args := [d] }
  | _ => none }
def pathPlaysRow : OpenClaim := { program := "ytglfkoegkiplfaagreatdoor", sum := "749816af9f9c3b415d4548682d21ba3404b47a77fec67e85b62d3791e58c1c3b", func := "lectionary/lectionarylaw10.PathPlays", spec := "pathPlays", inPlace := ["internal/abi.NoEscape", "slices.overlaps[rune]"], unfollowed := true, recurses := true, named := ["unicode/utf8.first", "unicode/utf8.acceptRanges"], plainKeys := false, apart := false, laid := [("unicode/utf8.acceptRanges", laid_unicode_utf8_acceptRanges), ("unicode/utf8.first", laid_unicode_utf8_first)] }
def PathPlaysSaid : Prop := pathPlaysRow.holds Tryz.pinned (OpenSpec.ofChange pathPlaysSpec)

/-- ITS FALSE NEIGHBOUR: 'it returns false'. Refute it at one input. -/
def pathPlaysWrong : ChangeSpec := { name := "pathPlays", fn := fun _ => fun
  | [d] => { results := [.lit (.bool false)], args := [d] }
  | _ => none }
def PathPlaysWrongFalsely : Prop := pathPlaysRow.holds Tryz.pinned (OpenSpec.ofChange pathPlaysWrong)

/-- 'lectionarylaw10.PathInserts': WHATEVER THE INPUT: true; the input reads as it did. -/
def pathInsertsSpec : ChangeSpec := { name := "pathInserts", fn := fun _ => fun
  | [d] => { results := [.lit (.bool true)], args := [d] }
  | _ => none }
def pathInsertsRow : OpenClaim := { program := "ytglfkoegkiplfaagreatdoor", sum := "749816af9f9c3b415d4548682d21ba3404b47a77fec67e85b62d3791e58c1c3b", func := "lectionary/lectionarylaw10.PathInserts", spec := "pathInserts", inPlace := ["internal/abi.NoEscape", "slices.overlaps[rune]"], unfollowed := true, recurses := true, named := ["unicode/utf8.first", "unicode/utf8.acceptRanges"], plainKeys := false, apart := false, laid := [("unicode/utf8.acceptRanges", laid_unicode_utf8_acceptRanges), ("unicode/utf8.first", laid_unicode_utf8_first)] }
def PathInsertsSaid : Prop := pathInsertsRow.holds Tryz.pinned (OpenSpec.ofChange pathInsertsSpec)

/-- ITS FALSE NEIGHBOUR: 'it returns false'. Refute it at one input. -/
def pathInsertsWrong : ChangeSpec := { name := "pathInserts", fn := fun _ => fun
  | [d] => { results := [.lit (.bool false)], args := [d] }
  | _ => none }
def PathInsertsWrongFalsely : Prop := pathInsertsRow.holds Tryz.pinned (OpenSpec.ofChange pathInsertsWrong)

/-- 'lectionarylaw10.PathDeletes': WHATEVER THE INPUT: true; the input reads as it did. -/
def pathDeletesSpec : ChangeSpec := { name := "pathDeletes", fn := fun _ => fun
  | [d] => { results := [.lit (.bool true)], args := [d] }
  | _ => none }
def pathDeletesRow : OpenClaim := { program := "ytglfkoegkiplfaagreatdoor", sum := "749816af9f9c3b415d4548682d21ba3404b47a77fec67e85b62d3791e58c1c3b", func := "lectionary/lectionarylaw10.PathDeletes", spec := "pathDeletes", inPlace := ["internal/abi.NoEscape", "slices.overlaps[rune]"], unfollowed := true, recurses := true, named := ["unicode/utf8.first", "unicode/utf8.acceptRanges"], plainKeys := false, apart := false, laid := [("unicode/utf8.acceptRanges", laid_unicode_utf8_acceptRanges), ("unicode/utf8.first", laid_unicode_utf8_first)] }
def PathDeletesSaid : Prop := pathDeletesRow.holds Tryz.pinned (OpenSpec.ofChange pathDeletesSpec)

/-- ITS FALSE NEIGHBOUR: 'it returns false'. Refute it at one input. -/
def pathDeletesWrong : ChangeSpec := { name := "pathDeletes", fn := fun _ => fun
  | [d] => { results := [.lit (.bool false)], args := [d] }
  | _ => none }
def PathDeletesWrongFalsely : Prop := pathDeletesRow.holds Tryz.pinned (OpenSpec.ofChange pathDeletesWrong)

/-- 'lectionarylaw10.PathToggles': WHATEVER THE INPUT: true; the input reads as it did. -/
def pathTogglesSpec : ChangeSpec := { name := "pathToggles", fn := fun _ => fun
  | [d] => { results := [.lit (.bool true)], args := [d] }
  | _ => none }
def pathTogglesRow : OpenClaim := { program := "ytglfkoegkiplfaagreatdoor", sum := "749816af9f9c3b415d4548682d21ba3404b47a77fec67e85b62d3791e58c1c3b", func := "lectionary/lectionarylaw10.PathToggles", spec := "pathToggles", inPlace := ["internal/abi.NoEscape", "slices.overlaps[rune]"], unfollowed := true, recurses := true, named := ["unicode/utf8.first", "unicode/utf8.acceptRanges"], plainKeys := false, apart := false, laid := [("unicode/utf8.acceptRanges", laid_unicode_utf8_acceptRanges), ("unicode/utf8.first", laid_unicode_utf8_first)] }
def PathTogglesSaid : Prop := pathTogglesRow.holds Tryz.pinned (OpenSpec.ofChange pathTogglesSpec)

/-- ITS FALSE NEIGHBOUR: 'it returns false'. Refute it at one input. -/
def pathTogglesWrong : ChangeSpec := { name := "pathToggles", fn := fun _ => fun
  | [d] => { results := [.lit (.bool false)], args := [d] }
  | _ => none }
def PathTogglesWrongFalsely : Prop := pathTogglesRow.holds Tryz.pinned (OpenSpec.ofChange pathTogglesWrong)

/- THE SECOND FORM. 'bulk': how many values and letters a reading holds, each counted each time it is reached (what is shared counts as often as it is met; a slice's spare places count too). A statement '..UptoSaid' is the law's where the arguments, and the package variables that the reading takes, are together of bulk at most 1048576: NARROWER than '..Said'. Prove '..Said' where nothing that the law and all that it calls make is longer than what came in: it says more and counts as full. Else prove '..UptoSaid'. A law counts once. -/
mutual
def uptoBulk {H : Type} : DataW H → Nat
  | .lit (.string bytes) => bytes.length + 1
  | .lit _ => 1
  | .nil => 1
  | .ptr d => uptoBulk d + 1
  | .slice elems spare => uptoBulkAll elems + uptoBulkAll spare + 1
  | .agg parts => uptoBulkAll parts + 1
  | .iface _ d => uptoBulk d + 1
  | .map entries => uptoBulkEntries entries + 1
  | .held _ => 1
def uptoBulkAll {H : Type} : List (DataW H) → Nat
  | [] => 0
  | d :: r => uptoBulk d + uptoBulkAll r
def uptoBulkEntries {H : Type} : List (Lit × DataW H) → Nat
  | [] => 0
  | x :: r => uptoBulkEntry x + uptoBulkEntries r
def uptoBulkEntry {H : Type} : Lit × DataW H → Nat
  | (.string bytes, d) => bytes.length + uptoBulk d + 1
  | (_, d) => uptoBulk d + 1
 end
def uptoSmall : (H : Type) → List (DataW H) → Bool := fun _ ds => decide (uptoBulkAll ds ≤ 1048576)
def OpenSpec.upto (s : _root_.Go.ChangeSpec) : _root_.Go.OpenSpec := { _root_.Go.OpenSpec.ofChange s with cond := some uptoSmall }

/-- 'lectionarylaw10.PathExact', WHERE WHAT IT READS IS OF BULK AT MOST 1048576: true; the input reads as it did. -/
def pathExactUptoRow : OpenClaim := { program := "ytglfkoegkiplfaagreatdoor", sum := "749816af9f9c3b415d4548682d21ba3404b47a77fec67e85b62d3791e58c1c3b", func := "lectionary/lectionarylaw10.PathExact", spec := "pathExact", inPlace := ["internal/abi.NoEscape", "slices.overlaps[rune]"], unfollowed := true, recurses := true, named := ["unicode/utf8.first", "unicode/utf8.acceptRanges"], plainKeys := false, apart := false, laid := [("unicode/utf8.acceptRanges", laid_unicode_utf8_acceptRanges), ("unicode/utf8.first", laid_unicode_utf8_first)], narrowed := true }
def PathExactUptoSaid : Prop := pathExactUptoRow.holds Tryz.pinned (OpenSpec.upto pathExactSpec)

/-- 'lectionarylaw10.PathPlays', WHERE WHAT IT READS IS OF BULK AT MOST 1048576: true; the input reads as it did. -/
def pathPlaysUptoRow : OpenClaim := { program := "ytglfkoegkiplfaagreatdoor", sum := "749816af9f9c3b415d4548682d21ba3404b47a77fec67e85b62d3791e58c1c3b", func := "lectionary/lectionarylaw10.PathPlays", spec := "pathPlays", inPlace := ["internal/abi.NoEscape", "slices.overlaps[rune]"], unfollowed := true, recurses := true, named := ["unicode/utf8.first", "unicode/utf8.acceptRanges"], plainKeys := false, apart := false, laid := [("unicode/utf8.acceptRanges", laid_unicode_utf8_acceptRanges), ("unicode/utf8.first", laid_unicode_utf8_first)], narrowed := true }
def PathPlaysUptoSaid : Prop := pathPlaysUptoRow.holds Tryz.pinned (OpenSpec.upto pathPlaysSpec)

/-- 'lectionarylaw10.PathInserts', WHERE WHAT IT READS IS OF BULK AT MOST 1048576: true; the input reads as it did. -/
def pathInsertsUptoRow : OpenClaim := { program := "ytglfkoegkiplfaagreatdoor", sum := "749816af9f9c3b415d4548682d21ba3404b47a77fec67e85b62d3791e58c1c3b", func := "lectionary/lectionarylaw10.PathInserts", spec := "pathInserts", inPlace := ["internal/abi.NoEscape", "slices.overlaps[rune]"], unfollowed := true, recurses := true, named := ["unicode/utf8.first", "unicode/utf8.acceptRanges"], plainKeys := false, apart := false, laid := [("unicode/utf8.acceptRanges", laid_unicode_utf8_acceptRanges), ("unicode/utf8.first", laid_unicode_utf8_first)], narrowed := true }
def PathInsertsUptoSaid : Prop := pathInsertsUptoRow.holds Tryz.pinned (OpenSpec.upto pathInsertsSpec)

/-- 'lectionarylaw10.PathDeletes', WHERE WHAT IT READS IS OF BULK AT MOST 1048576: true; the input reads as it did. -/
def pathDeletesUptoRow : OpenClaim := { program := "ytglfkoegkiplfaagreatdoor", sum := "749816af9f9c3b415d4548682d21ba3404b47a77fec67e85b62d3791e58c1c3b", func := "lectionary/lectionarylaw10.PathDeletes", spec := "pathDeletes", inPlace := ["internal/abi.NoEscape", "slices.overlaps[rune]"], unfollowed := true, recurses := true, named := ["unicode/utf8.first", "unicode/utf8.acceptRanges"], plainKeys := false, apart := false, laid := [("unicode/utf8.acceptRanges", laid_unicode_utf8_acceptRanges), ("unicode/utf8.first", laid_unicode_utf8_first)], narrowed := true }
def PathDeletesUptoSaid : Prop := pathDeletesUptoRow.holds Tryz.pinned (OpenSpec.upto pathDeletesSpec)

/-- 'lectionarylaw10.PathToggles', WHERE WHAT IT READS IS OF BULK AT MOST 1048576: true; the input reads as it did. -/
def pathTogglesUptoRow : OpenClaim := { program := "ytglfkoegkiplfaagreatdoor", sum := "749816af9f9c3b415d4548682d21ba3404b47a77fec67e85b62d3791e58c1c3b", func := "lectionary/lectionarylaw10.PathToggles", spec := "pathToggles", inPlace := ["internal/abi.NoEscape", "slices.overlaps[rune]"], unfollowed := true, recurses := true, named := ["unicode/utf8.first", "unicode/utf8.acceptRanges"], plainKeys := false, apart := false, laid := [("unicode/utf8.acceptRanges", laid_unicode_utf8_acceptRanges), ("unicode/utf8.first", laid_unicode_utf8_first)], narrowed := true }
def PathTogglesUptoSaid : Prop := pathTogglesUptoRow.holds Tryz.pinned (OpenSpec.upto pathTogglesSpec)

end Rows
end Go.Proofs.YtglfkoegkiplfaaGreatDoor

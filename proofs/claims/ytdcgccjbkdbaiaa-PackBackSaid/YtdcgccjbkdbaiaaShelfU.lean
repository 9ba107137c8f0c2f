/- utf8.DecodeRuneInString at this dump, in the shelf's form -/
import Derived.Shelf.Unicode.DecodeSlow
import Derived.Shelf.Unicode.DecodeAny
import Derived.Test.YtdcgccjbkdbaiaaProg
namespace Go.Proofs
open Go.Shelf
end Go.Proofs

/- contracts of the page's own functions on elements -/
import Derived.Test.YtdcgccjbkdbaiaaProg
import Derived.Test.YtdcgccjbkdbaiaaOBase
import Derived.WalkKit
import Derived.BigCall
import Derived.Below
import Derived.Lib.Hide
import Derived.BigQuiet
namespace Go.Proofs.Ytdcgccjbkdbaiaa
open Go.RowKit Go.Lib
end Go.Proofs.Ytdcgccjbkdbaiaa


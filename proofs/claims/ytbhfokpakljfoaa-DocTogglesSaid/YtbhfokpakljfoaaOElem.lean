/- contracts of the page's own functions on elements -/
import Derived.Test.YtbhfokpakljfoaaProg
import Derived.Test.YtbhfokpakljfoaaOBase
import Derived.WalkKit
import Derived.BigCall
import Derived.Below
import Derived.Lib.Hide
import Derived.BigQuiet
namespace Go.Proofs.Ytbhfokpakljfoaa
open Go.RowKit Go.Lib
end Go.Proofs.Ytbhfokpakljfoaa


/- contracts of the page's own functions on elements -/
import Derived.Test.YtebkeocfgcekmaaProg
import Derived.Test.YtebkeocfgcekmaaOBase
import Derived.WalkKit
import Derived.BigCall
import Derived.Below
import Derived.Lib.Hide
import Derived.BigQuiet
namespace Go.Proofs.Ytebkeocfgcekmaa
open Go.RowKit Go.Lib
end Go.Proofs.Ytebkeocfgcekmaa


/- Contracts, the ground: the byte type row of the table. -/
import Derived.Test.YtijggjgdepjjgaaRows
import Derived.Test.YtijggjgdepjjgaaPlain
import Derived.WalkKit
import Derived.WalkLawsBesides
import Derived.Handy
import Derived.Lib.Hide
namespace Go.Proofs.Ytijggjgdepjjgaa
open Go.RowKit Go.Lib

theorem Try.info5 : (Try.prog.info? 5).map (fun i => (i.zero, i.size, i.bytes)) = some (some (.int .u8 0), 1, 1) := by kernel_rfl

end Go.Proofs.Ytijggjgdepjjgaa

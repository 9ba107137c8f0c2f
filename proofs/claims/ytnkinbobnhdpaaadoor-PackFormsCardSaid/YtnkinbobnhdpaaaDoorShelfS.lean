/- slices.SortFunc at elements and cmp.Compare at int, laid at this dump in the shelf's form -/
import Derived.Shelf.SlGeneric
import Derived.Shelf.Lays
import Derived.Test.YtnkinbobnhdpaaaDoorProg
namespace Go.Proofs
open Go.Shelf
def Tryd.cmpInt_ren : Go.Shelf.Ren := ⟨fun | 122 => 136 | 215 => 138 | n => n, fun | 3 => 3 | 4 => 4 | n => n, fun | n => n⟩
theorem Tryd.cmpInt : Go.Proofs.Lays.n122 Tryd.prog Tryd.cmpInt_ren := {
  mixed := by kernel_rfl
  f122 := Tryd.func136.trans (congrArg some (by kernel_rfl))
  f215 := Tryd.func138.trans (congrArg some (by kernel_rfl))
  t3 := Tryd.underlying3
  a3 := Tryd.isAgg3
  z3 := Tryd.sizeOf3
  v3 := Tryd.zeroValue3
  t4 := Tryd.underlying4
  a4 := Tryd.isAgg4
  z4 := Tryd.sizeOf4
  v4 := Tryd.zeroValue4 }
end Go.Proofs

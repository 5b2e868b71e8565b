/- Contracts of Go's library that package buddy leans on, laid at this program's numbers. -/
import Derived.Shelf.SlMaps.Clone
import Derived.Ground.SlmcProg
import Derived.Test.YtcllfedpdcjbcaaDoorProg
namespace Go.Proofs
open Go.Shelf
def Tryd.cloneL_ren : Go.Shelf.Ren := ⟨fun | 5 => 112 | 7 => 132 | n => n, fun | 23 => 166 | 25 => 3 | 3 => 172 | 4 => 4 | 20 => 20 | n => n, fun | n => n⟩
theorem Tryd.cloneL : Go.Proofs.SlLaysW.n5 Tryd.prog Tryd.cloneL_ren := {
  mixed := by kernel_rfl
  f5 := ⟨Tryd.f112.name, by decide, Tryd.func112.trans (congrArg some (by kernel_rfl))⟩
  f7 := Tryd.func132.trans (congrArg some (by kernel_rfl))
  t4 := Tryd.underlying4
  a4 := Tryd.isAgg4
  z4 := Tryd.sizeOf4
  v4 := Tryd.zeroValue4
  t20 := Tryd.underlying20
  a20 := Tryd.isAgg20
  z20 := Tryd.sizeOf20
  v20 := Tryd.zeroValue20
  t23 := Tryd.underlying166
  a23 := Tryd.isAgg166
  z23 := Tryd.sizeOf166
  v23 := Tryd.zeroValue166 }
end Go.Proofs

/- Contracts of Go's library that package buddy leans on, laid at this program's numbers. -/
import Derived.Shelf.SlicesQ.Equal
import Derived.Ground.SlgqProg
import Derived.Test.YtaggodghaemkiaaDoorProg
namespace Go.Proofs
open Go.Shelf
def Tryd.equalL_ren : Go.Shelf.Ren := ⟨fun | 8 => 29 | n => n, fun | 22 => 48 | 24 => 62 | 4 => 4 | 3 => 3 | 0 => 0 | n => n, fun | n => n⟩
theorem Tryd.equalL : Go.Proofs.SlLaysQ.n8 Tryd.prog Tryd.equalL_ren := {
  mixed := by kernel_rfl
  f8 := ⟨Tryd.f29.name, by decide, Tryd.func29.trans (congrArg some (by kernel_rfl))⟩
  t0 := Tryd.underlying0
  a0 := Tryd.isAgg0
  z0 := Tryd.sizeOf0
  v0 := Tryd.zeroValue0
  t3 := Tryd.underlying3
  a3 := Tryd.isAgg3
  z3 := Tryd.sizeOf3
  v3 := Tryd.zeroValue3
  t4 := Tryd.underlying4
  a4 := Tryd.isAgg4
  z4 := Tryd.sizeOf4
  v4 := Tryd.zeroValue4
  t22 := Tryd.underlying48
  a22 := Tryd.isAgg48
  z22 := Tryd.sizeOf48
  v22 := Tryd.zeroValue48 }
end Go.Proofs

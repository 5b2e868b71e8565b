/- Contracts of Go's library that package buddy leans on, laid at this program's numbers. -/
import Derived.Ground.Names2Prog
import Derived.Shelf.Slices.SearchI
import Derived.Shelf.Slices.Empties
import Derived.Shelf.Spec.SlicesInsert
import Derived.Shelf.Spec.SlicesInsertGrow
import Derived.Ground.SlgfProg
import Derived.Shelf.SlicesE.IndexFunc
import Derived.Shelf.SlicesE.DeleteFunc
import Derived.Test.YtcllfedpdcjbcaaDoorProg
namespace Go.Proofs
open Go.Shelf
def Tryd.searchL_ren : Go.Shelf.Ren := ⟨fun | 25 => 114 | 31 => 133 | 32 => 134 | 37 => 118 | n => n, fun | 22 => 56 | 3 => 3 | 4 => 4 | 40 => 34 | 0 => 0 | n => n, fun | n => n⟩
theorem Tryd.searchL : Go.Proofs.Lays2.n25 Tryd.prog Tryd.searchL_ren := {
  mixed := by kernel_rfl
  f25 := Tryd.func114.trans (congrArg some (by kernel_rfl))
  f31 := Tryd.func133.trans (congrArg some (by kernel_rfl))
  f32 := Tryd.func134.trans (congrArg some (by kernel_rfl))
  f37 := Tryd.func118.trans (congrArg some (by kernel_rfl))
  t0 := Tryd.underlying0
  a0 := Tryd.isAgg0
  z0 := Tryd.sizeOf0
  v0 := Tryd.zeroValue0
  t3 := Tryd.underlying3
  a3 := Tryd.isAgg3
  z3 := Tryd.sizeOf3
  v3 := Tryd.zeroValue3
  t4 := Tryd.underlying4
  a4 := Tryd.isAgg4
  z4 := Tryd.sizeOf4
  v4 := Tryd.zeroValue4
  t22 := Tryd.underlying56
  a22 := Tryd.isAgg56
  z22 := Tryd.sizeOf56
  v22 := Tryd.zeroValue56
  t40 := Tryd.underlying34
  a40 := Tryd.isAgg34
  z40 := Tryd.sizeOf34
  v40 := Tryd.zeroValue34 }
def Tryd.insertL_ren : Go.Shelf.Ren := ⟨fun | 21 => 115 | 27 => 135 | 28 => 136 | 35 => 153 | 39 => 168 | n => n, fun | 22 => 56 | 3 => 3 | 4 => 4 | 0 => 0 | n => n, fun | n => n⟩
theorem Tryd.insertL : Go.Proofs.Lays2.n21 Tryd.prog Tryd.insertL_ren := {
  mixed := by kernel_rfl
  f21 := Tryd.func115.trans (congrArg some (by kernel_rfl))
  f27 := Tryd.func135.trans (congrArg some (by kernel_rfl))
  f28 := Tryd.func136.trans (congrArg some (by kernel_rfl))
  f35 := Tryd.func153.trans (congrArg some (by kernel_rfl))
  f39 := Tryd.func168.trans (congrArg some (by kernel_rfl))
  t0 := Tryd.underlying0
  a0 := Tryd.isAgg0
  z0 := Tryd.sizeOf0
  v0 := Tryd.zeroValue0
  t3 := Tryd.underlying3
  a3 := Tryd.isAgg3
  z3 := Tryd.sizeOf3
  v3 := Tryd.zeroValue3
  t4 := Tryd.underlying4
  a4 := Tryd.isAgg4
  z4 := Tryd.sizeOf4
  v4 := Tryd.zeroValue4
  t22 := Tryd.underlying56
  a22 := Tryd.isAgg56
  z22 := Tryd.sizeOf56
  v22 := Tryd.zeroValue56
  i3 := by kernel_rfl }
def Tryd.indexL_ren : Go.Shelf.Ren := ⟨fun | 6 => 127 | n => n, fun | 22 => 56 | 23 => 3 | 25 => 131 | 3 => 3 | 0 => 0 | 4 => 4 | n => n, fun | n => n⟩
theorem Tryd.indexL : Go.Proofs.SlLaysH.n6 Tryd.prog Tryd.indexL_ren := {
  mixed := by kernel_rfl
  f6 := ⟨Tryd.f127.name, by decide, Tryd.func127.trans (congrArg some (by kernel_rfl))⟩
  t0 := Tryd.underlying0
  a0 := Tryd.isAgg0
  z0 := Tryd.sizeOf0
  v0 := Tryd.zeroValue0
  t3 := Tryd.underlying3
  a3 := Tryd.isAgg3
  z3 := Tryd.sizeOf3
  v3 := Tryd.zeroValue3
  t4 := Tryd.underlying4
  a4 := Tryd.isAgg4
  z4 := Tryd.sizeOf4
  v4 := Tryd.zeroValue4
  t22 := Tryd.underlying56
  a22 := Tryd.isAgg56
  z22 := Tryd.sizeOf56
  v22 := Tryd.zeroValue56
  a23 := Tryd.isAgg3
  z23 := Tryd.sizeOf3
  t25 := Tryd.underlying131
  a25 := Tryd.isAgg131
  z25 := Tryd.sizeOf131
  v25 := Tryd.zeroValue131 }
def Tryd.deleteL_ren : Go.Shelf.Ren := ⟨fun | 10 => 119 | 6 => 127 | n => n, fun | 22 => 56 | 23 => 3 | 25 => 131 | 3 => 3 | 4 => 4 | 0 => 0 | n => n, fun | n => n⟩
theorem Tryd.deleteL : Go.Proofs.SlLaysH.n10 Tryd.prog Tryd.deleteL_ren := {
  mixed := by kernel_rfl
  f6 := ⟨Tryd.f127.name, by decide, Tryd.func127.trans (congrArg some (by kernel_rfl))⟩
  f10 := ⟨Tryd.f119.name, by decide, Tryd.func119.trans (congrArg some (by kernel_rfl))⟩
  t0 := Tryd.underlying0
  a0 := Tryd.isAgg0
  z0 := Tryd.sizeOf0
  v0 := Tryd.zeroValue0
  t3 := Tryd.underlying3
  a3 := Tryd.isAgg3
  z3 := Tryd.sizeOf3
  v3 := Tryd.zeroValue3
  t4 := Tryd.underlying4
  a4 := Tryd.isAgg4
  z4 := Tryd.sizeOf4
  v4 := Tryd.zeroValue4
  t22 := Tryd.underlying56
  a22 := Tryd.isAgg56
  z22 := Tryd.sizeOf56
  v22 := Tryd.zeroValue56
  a23 := Tryd.isAgg3
  z23 := Tryd.sizeOf3
  t25 := Tryd.underlying131
  a25 := Tryd.isAgg131
  z25 := Tryd.sizeOf131
  v25 := Tryd.zeroValue131 }
end Go.Proofs

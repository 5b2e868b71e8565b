/- Contracts of Go's library that package buddy leans on, laid at this program's numbers. -/
import Derived.Shelf.Strings.LastIndex
import Derived.Shelf.Strings.Prefix
import Derived.Ground.NamesProg
import Derived.Test.YtpibokijbidgdabDoorProg
namespace Go.Proofs
open Go.Shelf
def Tryd.lastL_ren : Go.Shelf.Ren := ⟨fun | 148 => 36 | 222 => 72 | 223 => 73 | 269 => 110 | n => n, fun | 9 => 9 | 3 => 3 | 4 => 4 | 5 => 5 | 146 => 187 | 51 => 186 | 46 => 96 | n => n, fun | n => n⟩
theorem Tryd.lastL : Go.Proofs.Lays.n148 Tryd.prog Tryd.lastL_ren := {
  mixed := by kernel_rfl
  f148 := Tryd.func36.trans (congrArg some (by kernel_rfl))
  f222 := Tryd.func72.trans (congrArg some (by kernel_rfl))
  f223 := Tryd.func73.trans (congrArg some (by kernel_rfl))
  f269 := Tryd.func110.trans (congrArg some (by kernel_rfl))
  t3 := Tryd.underlying3
  a3 := Tryd.isAgg3
  z3 := Tryd.sizeOf3
  v3 := Tryd.zeroValue3
  t4 := Tryd.underlying4
  a4 := Tryd.isAgg4
  z4 := Tryd.sizeOf4
  v4 := Tryd.zeroValue4
  t5 := Tryd.underlying5
  a5 := Tryd.isAgg5
  z5 := Tryd.sizeOf5
  v5 := Tryd.zeroValue5
  t9 := Tryd.underlying9
  a9 := Tryd.isAgg9
  z9 := Tryd.sizeOf9
  v9 := Tryd.zeroValue9
  t46 := Tryd.underlying96
  a46 := Tryd.isAgg96
  z46 := Tryd.sizeOf96
  v46 := Tryd.zeroValue96
  t51 := Tryd.underlying186
  a51 := Tryd.isAgg186
  z51 := Tryd.sizeOf186
  v51 := Tryd.zeroValue186
  t146 := Tryd.underlying187
  a146 := Tryd.isAgg187
  z146 := Tryd.sizeOf187
  v146 := Tryd.zeroValue187 }
def Tryd.trimSuffixL_ren : Go.Shelf.Ren := ⟨fun | 102 => 70 | 209 => 109 | 207 => 138 | n => n, fun | 9 => 9 | 4 => 4 | 3 => 3 | n => n, fun | n => n⟩
theorem Tryd.trimSuffixL : Go.Proofs.Lays.n102 Tryd.prog Tryd.trimSuffixL_ren := {
  mixed := by kernel_rfl
  f102 := Tryd.func70.trans (congrArg some (by kernel_rfl))
  f207 := Tryd.func138.trans (congrArg some (by kernel_rfl))
  f209 := Tryd.func109.trans (congrArg some (by kernel_rfl))
  t3 := Tryd.underlying3
  a3 := Tryd.isAgg3
  z3 := Tryd.sizeOf3
  v3 := Tryd.zeroValue3
  t4 := Tryd.underlying4
  a4 := Tryd.isAgg4
  z4 := Tryd.sizeOf4
  v4 := Tryd.zeroValue4
  t9 := Tryd.underlying9
  a9 := Tryd.isAgg9
  z9 := Tryd.sizeOf9
  v9 := Tryd.zeroValue9 }
end Go.Proofs

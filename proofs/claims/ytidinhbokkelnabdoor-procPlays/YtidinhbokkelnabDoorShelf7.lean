/- Contracts of Go's library that the proof leans on, laid at this program's numbers. -/
import Derived.Shelf.Sort.Plain
import Derived.Shelf.Slices.In.SortNone2
import Derived.Ground.NamesProg
import Derived.Test.YtidinhbokkelnabDoorProg
namespace Go.Proofs
open Go.Shelf
def Tryd.intsL_ren : Go.Shelf.Ren := ⟨fun | 191 => 126 | 189 => 165 | 125 => 184 | 257 => 195 | 128 => 217 | 129 => 218 | 294 => 224 | 295 => 225 | 296 => 226 | 297 => 227 | 298 => 228 | 299 => 229 | 216 => 200 | 300 => 230 | 301 => 231 | 328 => 248 | 329 => 238 | 330 => 239 | 331 => 249 | 332 => 250 | 215 => 232 | 343 => 255 | n => n, fun | 28 => 23 | 0 => 0 | 3 => 3 | 46 => 123 | 51 => 226 | 53 => 238 | 4 => 4 | 183 => 283 | 182 => 282 | 131 => 230 | 5 => 5 | 9 => 9 | 218 => 300 | 222 => 150 | 228 => 307 | 229 => 64 | n => n, fun | n => n⟩
theorem Tryd.intsL : Go.Proofs.Lays.n191 Tryd.prog Tryd.intsL_ren := {
  mixed := by kernel_rfl
  f125 := Tryd.func184.trans (congrArg some (by kernel_rfl))
  f128 := Tryd.func217.trans (congrArg some (by kernel_rfl))
  f129 := Tryd.func218.trans (congrArg some (by kernel_rfl))
  f189 := Tryd.func165.trans (congrArg some (by kernel_rfl))
  f191 := Tryd.func126.trans (congrArg some (by kernel_rfl))
  f215 := Tryd.func232.trans (congrArg some (by kernel_rfl))
  f216 := Tryd.func200.trans (congrArg some (by kernel_rfl))
  f257 := Tryd.func195.trans (congrArg some (by kernel_rfl))
  f294 := Tryd.func224.trans (congrArg some (by kernel_rfl))
  f295 := Tryd.func225.trans (congrArg some (by kernel_rfl))
  f296 := Tryd.func226.trans (congrArg some (by kernel_rfl))
  f297 := Tryd.func227.trans (congrArg some (by kernel_rfl))
  f298 := Tryd.func228.trans (congrArg some (by kernel_rfl))
  f299 := Tryd.func229.trans (congrArg some (by kernel_rfl))
  f300 := Tryd.func230.trans (congrArg some (by kernel_rfl))
  f301 := Tryd.func231.trans (congrArg some (by kernel_rfl))
  f328 := Tryd.func248.trans (congrArg some (by kernel_rfl))
  f329 := Tryd.func238.trans (congrArg some (by kernel_rfl))
  f330 := Tryd.func239.trans (congrArg some (by kernel_rfl))
  f331 := Tryd.func249.trans (congrArg some (by kernel_rfl))
  f332 := Tryd.func250.trans (congrArg some (by kernel_rfl))
  f343 := Tryd.func255.trans (congrArg some (by kernel_rfl))
  t0 := Tryd.underlying0
  a0 := Tryd.isAgg0
  z0 := Tryd.sizeOf0
  v0 := Tryd.zeroValue0
  t3 := Tryd.underlying3
  a3 := Tryd.isAgg3
  z3 := Tryd.sizeOf3
  v3 := Tryd.zeroValue3
  t4 := Tryd.underlying4
  a4 := Tryd.isAgg4
  z4 := Tryd.sizeOf4
  v4 := Tryd.zeroValue4
  t5 := Tryd.underlying5
  a5 := Tryd.isAgg5
  z5 := Tryd.sizeOf5
  v5 := Tryd.zeroValue5
  t9 := Tryd.underlying9
  a9 := Tryd.isAgg9
  z9 := Tryd.sizeOf9
  v9 := Tryd.zeroValue9
  t28 := Tryd.underlying23
  a28 := Tryd.isAgg23
  z28 := Tryd.sizeOf23
  v28 := Tryd.zeroValue23
  t46 := Tryd.underlying123
  a46 := Tryd.isAgg123
  z46 := Tryd.sizeOf123
  v46 := Tryd.zeroValue123
  t51 := Tryd.underlying226
  a51 := Tryd.isAgg226
  z51 := Tryd.sizeOf226
  v51 := Tryd.zeroValue226
  t53 := Tryd.underlying238
  a53 := Tryd.isAgg238
  z53 := Tryd.sizeOf238
  v53 := Tryd.zeroValue238
  t131 := Tryd.underlying230
  a131 := Tryd.isAgg230
  z131 := Tryd.sizeOf230
  v131 := Tryd.zeroValue230
  t182 := Tryd.underlying282
  a182 := Tryd.isAgg282
  z182 := Tryd.sizeOf282
  v182 := Tryd.zeroValue282
  t183 := Tryd.underlying283
  a183 := Tryd.isAgg283
  z183 := Tryd.sizeOf283
  v183 := Tryd.zeroValue283
  t218 := Tryd.underlying300
  a218 := Tryd.isAgg300
  z218 := Tryd.sizeOf300
  v218 := Tryd.zeroValue300
  t222 := Tryd.underlying150
  a222 := Tryd.isAgg150
  z222 := Tryd.sizeOf150
  v222 := Tryd.zeroValue150
  t228 := Tryd.underlying307
  a228 := Tryd.isAgg307
  z228 := Tryd.sizeOf307
  v228 := Tryd.zeroValue307
  t229 := Tryd.underlying64
  a229 := Tryd.isAgg64
  z229 := Tryd.sizeOf64
  v229 := Tryd.zeroValue64 }
end Go.Proofs

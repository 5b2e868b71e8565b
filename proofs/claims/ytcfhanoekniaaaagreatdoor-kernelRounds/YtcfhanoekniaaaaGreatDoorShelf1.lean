/- Contracts of Go's library that package buddy leans on, laid at this program's numbers. -/
import Derived.Ground.Names2Prog
import Derived.Shelf.Slices.SearchI
import Derived.Shelf.Slices.Empties
import Derived.Shelf.Spec.SlicesInsert
import Derived.Shelf.Spec.SlicesInsertGrow
import Derived.Ground.SlgfProg
import Derived.Shelf.SlicesE.IndexFunc
import Derived.Shelf.SlicesE.DeleteFunc
import Derived.Test.YtcfhanoekniaaaaGreatDoorProg
namespace Go.Proofs
open Go.Shelf
def Tryz.searchL_ren:Go.Shelf.Ren:=⟨fun|25=>292|31=>330|32=>331|37=>289|n=>n,fun|22=>23|3=>3|4=>4|40=>122|0=>0|n=>n,fun|n=>n⟩
theorem Tryz.searchL:Go.Proofs.Lays2.n25 Tryz.prog Tryz.searchL_ren:={
 mixed:=by kernel_rfl
 f25:=Tryz.func292.trans (congrArg some (by kernel_rfl))
 f31:=Tryz.func330.trans (congrArg some (by kernel_rfl))
 f32:=Tryz.func331.trans (congrArg some (by kernel_rfl))
 f37:=Tryz.func289.trans (congrArg some (by kernel_rfl))
 t0:=Tryz.underlying0
 a0:=Tryz.isAgg0
 z0:=Tryz.sizeOf0
 v0:=Tryz.zeroValue0
 t3:=Tryz.underlying3
 a3:=Tryz.isAgg3
 z3:=Tryz.sizeOf3
 v3:=Tryz.zeroValue3
 t4:=Tryz.underlying4
 a4:=Tryz.isAgg4
 z4:=Tryz.sizeOf4
 v4:=Tryz.zeroValue4
 t22:=Tryz.underlying23
 a22:=Tryz.isAgg23
 z22:=Tryz.sizeOf23
 v22:=Tryz.zeroValue23
 t40:=Tryz.underlying122
 a40:=Tryz.isAgg122
 z40:=Tryz.sizeOf122
 v40:=Tryz.zeroValue122 }
def Tryz.insertL_ren:Go.Shelf.Ren:=⟨fun|21=>293|27=>332|28=>333|35=>357|39=>381|n=>n,fun|22=>23|3=>3|4=>4|0=>0|n=>n,fun|n=>n⟩
theorem Tryz.insertL:Go.Proofs.Lays2.n21 Tryz.prog Tryz.insertL_ren:={
 mixed:=by kernel_rfl
 f21:=Tryz.func293.trans (congrArg some (by kernel_rfl))
 f27:=Tryz.func332.trans (congrArg some (by kernel_rfl))
 f28:=Tryz.func333.trans (congrArg some (by kernel_rfl))
 f35:=Tryz.func357.trans (congrArg some (by kernel_rfl))
 f39:=Tryz.func381.trans (congrArg some (by kernel_rfl))
 t0:=Tryz.underlying0
 a0:=Tryz.isAgg0
 z0:=Tryz.sizeOf0
 v0:=Tryz.zeroValue0
 t3:=Tryz.underlying3
 a3:=Tryz.isAgg3
 z3:=Tryz.sizeOf3
 v3:=Tryz.zeroValue3
 t4:=Tryz.underlying4
 a4:=Tryz.isAgg4
 z4:=Tryz.sizeOf4
 v4:=Tryz.zeroValue4
 t22:=Tryz.underlying23
 a22:=Tryz.isAgg23
 z22:=Tryz.sizeOf23
 v22:=Tryz.zeroValue23
 i3:=by kernel_rfl }
def Tryz.indexL_ren:Go.Shelf.Ren:=⟨fun|6=>213|n=>n,fun|22=>23|23=>3|25=>150|3=>3|0=>0|4=>4|n=>n,fun|n=>n⟩
theorem Tryz.indexL:Go.Proofs.SlLaysH.n6 Tryz.prog Tryz.indexL_ren:={
 mixed:=by kernel_rfl
 f6:=⟨Tryz.f213.name,by decide,Tryz.func213.trans (congrArg some (by kernel_rfl))⟩
 t0:=Tryz.underlying0
 a0:=Tryz.isAgg0
 z0:=Tryz.sizeOf0
 v0:=Tryz.zeroValue0
 t3:=Tryz.underlying3
 a3:=Tryz.isAgg3
 z3:=Tryz.sizeOf3
 v3:=Tryz.zeroValue3
 t4:=Tryz.underlying4
 a4:=Tryz.isAgg4
 z4:=Tryz.sizeOf4
 v4:=Tryz.zeroValue4
 t22:=Tryz.underlying23
 a22:=Tryz.isAgg23
 z22:=Tryz.sizeOf23
 v22:=Tryz.zeroValue23
 a23:=Tryz.isAgg3
 z23:=Tryz.sizeOf3
 t25:=Tryz.underlying150
 a25:=Tryz.isAgg150
 z25:=Tryz.sizeOf150
 v25:=Tryz.zeroValue150 }
def Tryz.deleteL_ren:Go.Shelf.Ren:=⟨fun|10=>281|6=>213|n=>n,fun|22=>23|23=>3|25=>150|3=>3|4=>4|0=>0|n=>n,fun|n=>n⟩
theorem Tryz.deleteL:Go.Proofs.SlLaysH.n10 Tryz.prog Tryz.deleteL_ren:={
 mixed:=by kernel_rfl
 f6:=⟨Tryz.f213.name,by decide,Tryz.func213.trans (congrArg some (by kernel_rfl))⟩
 f10:=⟨Tryz.f281.name,by decide,Tryz.func281.trans (congrArg some (by kernel_rfl))⟩
 t0:=Tryz.underlying0
 a0:=Tryz.isAgg0
 z0:=Tryz.sizeOf0
 v0:=Tryz.zeroValue0
 t3:=Tryz.underlying3
 a3:=Tryz.isAgg3
 z3:=Tryz.sizeOf3
 v3:=Tryz.zeroValue3
 t4:=Tryz.underlying4
 a4:=Tryz.isAgg4
 z4:=Tryz.sizeOf4
 v4:=Tryz.zeroValue4
 t22:=Tryz.underlying23
 a22:=Tryz.isAgg23
 z22:=Tryz.sizeOf23
 v22:=Tryz.zeroValue23
 a23:=Tryz.isAgg3
 z23:=Tryz.sizeOf3
 t25:=Tryz.underlying150
 a25:=Tryz.isAgg150
 z25:=Tryz.sizeOf150
 v25:=Tryz.zeroValue150 }
end Go.Proofs

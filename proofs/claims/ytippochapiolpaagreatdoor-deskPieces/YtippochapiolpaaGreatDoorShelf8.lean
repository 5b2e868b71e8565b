/- Contracts of Go's library that package buddy leans on, laid at this program's numbers. -/
import Derived.Shelf.SlMaps.Clone
import Derived.Test.YtippochapiolpaaGreatDoorProg
namespace Go.Proofs
open Go.Shelf
def Tryz.cloneL_ren:Go.Shelf.Ren:=⟨fun|5=>297|7=>331|n=>n,fun|23=>163|25=>3|3=>264|4=>4|20=>20|n=>n,fun|n=>n⟩
theorem Tryz.cloneL:Go.Proofs.SlLaysW.n5 Tryz.prog Tryz.cloneL_ren:={
 mixed:=by kernel_rfl
 f5:=⟨Tryz.f297.name,by decide,Tryz.func297.trans (congrArg some (by kernel_rfl))⟩
 f7:=Tryz.func331.trans (congrArg some (by kernel_rfl))
 t4:=Tryz.underlying4
 a4:=Tryz.isAgg4
 z4:=Tryz.sizeOf4
 v4:=Tryz.zeroValue4
 t20:=Tryz.underlying20
 a20:=Tryz.isAgg20
 z20:=Tryz.sizeOf20
 v20:=Tryz.zeroValue20
 t23:=Tryz.underlying163
 a23:=Tryz.isAgg163
 z23:=Tryz.sizeOf163
 v23:=Tryz.zeroValue163 }
end Go.Proofs

/- Contracts of Go's library that package buddy leans on, laid at this program's numbers. -/
import Derived.Shelf.Strings.Cut
import Derived.Shelf.Strings.Search3
import Derived.Shelf.Strings.Prefix
import Derived.Shelf.Strings.LastIndex
import Derived.Shelf.Small.Wraps
import Derived.Ground.NamesProg
import Derived.Test.YtcfhanoekniaaaaGreatDoorProg
namespace Go.Proofs
open Go.Shelf
def Tryz.indexSL_ren:Go.Shelf.Ren:=⟨fun|143=>384|219=>398|217=>402|225=>403|224=>404|267=>405|266=>406|314=>407|n=>n,fun|9=>9|3=>3|4=>4|5=>5|46=>122|146=>477|51=>397|n=>n,fun|1=>4|n=>n⟩
theorem Tryz.indexSL:Go.Proofs.Lays.n143 Tryz.prog Tryz.indexSL_ren:={
 mixed:=by kernel_rfl
 f143:=Tryz.func384.trans (congrArg some (by kernel_rfl))
 f217:=Tryz.func402.trans (congrArg some (by kernel_rfl))
 f219:=Tryz.func398.trans (congrArg some (by kernel_rfl))
 f224:=Tryz.func404.trans (congrArg some (by kernel_rfl))
 f225:=Tryz.func403.trans (congrArg some (by kernel_rfl))
 f266:=Tryz.func406.trans (congrArg some (by kernel_rfl))
 f267:=Tryz.func405.trans (congrArg some (by kernel_rfl))
 f314:=Tryz.func407.trans (congrArg some (by kernel_rfl))
 t3:=Tryz.underlying3
 a3:=Tryz.isAgg3
 z3:=Tryz.sizeOf3
 v3:=Tryz.zeroValue3
 t4:=Tryz.underlying4
 a4:=Tryz.isAgg4
 z4:=Tryz.sizeOf4
 v4:=Tryz.zeroValue4
 t5:=Tryz.underlying5
 a5:=Tryz.isAgg5
 z5:=Tryz.sizeOf5
 v5:=Tryz.zeroValue5
 t9:=Tryz.underlying9
 a9:=Tryz.isAgg9
 z9:=Tryz.sizeOf9
 v9:=Tryz.zeroValue9
 t46:=Tryz.underlying122
 a46:=Tryz.isAgg122
 z46:=Tryz.sizeOf122
 v46:=Tryz.zeroValue122
 t51:=Tryz.underlying397
 a51:=Tryz.isAgg397
 z51:=Tryz.sizeOf397
 v51:=Tryz.zeroValue397
 t146:=Tryz.underlying477
 a146:=Tryz.isAgg477
 z146:=Tryz.sizeOf477
 v146:=Tryz.zeroValue477
 g1:=by kernel_rfl }
def Tryz.cutL_ren:Go.Shelf.Ren:=⟨fun|145=>371|220=>391|219=>398|217=>402|225=>403|224=>404|267=>405|266=>406|314=>407|n=>n,fun|9=>9|4=>4|59=>452|3=>3|5=>5|46=>122|146=>477|51=>397|n=>n,fun|1=>4|n=>n⟩
theorem Tryz.cutL:Go.Proofs.Lays.n145 Tryz.prog Tryz.cutL_ren:={
 mixed:=by kernel_rfl
 f145:=Tryz.func371.trans (congrArg some (by kernel_rfl))
 f217:=Tryz.func402.trans (congrArg some (by kernel_rfl))
 f219:=Tryz.func398.trans (congrArg some (by kernel_rfl))
 f220:=Tryz.func391.trans (congrArg some (by kernel_rfl))
 f224:=Tryz.func404.trans (congrArg some (by kernel_rfl))
 f225:=Tryz.func403.trans (congrArg some (by kernel_rfl))
 f266:=Tryz.func406.trans (congrArg some (by kernel_rfl))
 f267:=Tryz.func405.trans (congrArg some (by kernel_rfl))
 f314:=Tryz.func407.trans (congrArg some (by kernel_rfl))
 t3:=Tryz.underlying3
 a3:=Tryz.isAgg3
 z3:=Tryz.sizeOf3
 v3:=Tryz.zeroValue3
 t4:=Tryz.underlying4
 a4:=Tryz.isAgg4
 z4:=Tryz.sizeOf4
 v4:=Tryz.zeroValue4
 t5:=Tryz.underlying5
 a5:=Tryz.isAgg5
 z5:=Tryz.sizeOf5
 v5:=Tryz.zeroValue5
 t9:=Tryz.underlying9
 a9:=Tryz.isAgg9
 z9:=Tryz.sizeOf9
 v9:=Tryz.zeroValue9
 t46:=Tryz.underlying122
 a46:=Tryz.isAgg122
 z46:=Tryz.sizeOf122
 v46:=Tryz.zeroValue122
 t51:=Tryz.underlying397
 a51:=Tryz.isAgg397
 z51:=Tryz.sizeOf397
 v51:=Tryz.zeroValue397
 t59:=Tryz.underlying452
 a59:=Tryz.isAgg452
 z59:=Tryz.sizeOf452
 v59:=Tryz.zeroValue452
 t146:=Tryz.underlying477
 a146:=Tryz.isAgg477
 z146:=Tryz.sizeOf477
 v146:=Tryz.zeroValue477
 g1:=by kernel_rfl }
def Tryz.cutPrefixL_ren:Go.Shelf.Ren:=⟨fun|103=>368|210=>389|206=>304|n=>n,fun|9=>9|4=>4|24=>449|3=>3|n=>n,fun|n=>n⟩
theorem Tryz.cutPrefixL:Go.Proofs.Lays.n103 Tryz.prog Tryz.cutPrefixL_ren:={
 mixed:=by kernel_rfl
 f103:=Tryz.func368.trans (congrArg some (by kernel_rfl))
 f206:=Tryz.func304.trans (congrArg some (by kernel_rfl))
 f210:=Tryz.func389.trans (congrArg some (by kernel_rfl))
 t3:=Tryz.underlying3
 a3:=Tryz.isAgg3
 z3:=Tryz.sizeOf3
 v3:=Tryz.zeroValue3
 t4:=Tryz.underlying4
 a4:=Tryz.isAgg4
 z4:=Tryz.sizeOf4
 v4:=Tryz.zeroValue4
 t9:=Tryz.underlying9
 a9:=Tryz.isAgg9
 z9:=Tryz.sizeOf9
 v9:=Tryz.zeroValue9
 t24:=Tryz.underlying449
 a24:=Tryz.isAgg449
 z24:=Tryz.sizeOf449
 v24:=Tryz.zeroValue449 }
def Tryz.trimPrefixL_ren:Go.Shelf.Ren:=⟨fun|101=>373|208=>393|206=>304|n=>n,fun|9=>9|4=>4|3=>3|n=>n,fun|n=>n⟩
theorem Tryz.trimPrefixL:Go.Proofs.Lays.n101 Tryz.prog Tryz.trimPrefixL_ren:={
 mixed:=by kernel_rfl
 f101:=Tryz.func373.trans (congrArg some (by kernel_rfl))
 f206:=Tryz.func304.trans (congrArg some (by kernel_rfl))
 f208:=Tryz.func393.trans (congrArg some (by kernel_rfl))
 t3:=Tryz.underlying3
 a3:=Tryz.isAgg3
 z3:=Tryz.sizeOf3
 v3:=Tryz.zeroValue3
 t4:=Tryz.underlying4
 a4:=Tryz.isAgg4
 z4:=Tryz.sizeOf4
 v4:=Tryz.zeroValue4
 t9:=Tryz.underlying9
 a9:=Tryz.isAgg9
 z9:=Tryz.sizeOf9
 v9:=Tryz.zeroValue9 }
def Tryz.lastByteL_ren:Go.Shelf.Ren:=⟨fun|149=>372|222=>392|n=>n,fun|9=>9|5=>5|3=>3|4=>4|n=>n,fun|n=>n⟩
theorem Tryz.lastByteL:Go.Proofs.Lays.n149 Tryz.prog Tryz.lastByteL_ren:={
 mixed:=by kernel_rfl
 f149:=Tryz.func372.trans (congrArg some (by kernel_rfl))
 f222:=Tryz.func392.trans (congrArg some (by kernel_rfl))
 t3:=Tryz.underlying3
 a3:=Tryz.isAgg3
 z3:=Tryz.sizeOf3
 v3:=Tryz.zeroValue3
 t4:=Tryz.underlying4
 a4:=Tryz.isAgg4
 z4:=Tryz.sizeOf4
 v4:=Tryz.zeroValue4
 t5:=Tryz.underlying5
 a5:=Tryz.isAgg5
 z5:=Tryz.sizeOf5
 v5:=Tryz.zeroValue5
 t9:=Tryz.underlying9
 a9:=Tryz.isAgg9
 z9:=Tryz.sizeOf9
 v9:=Tryz.zeroValue9 }
def Tryz.prefixUL_ren:Go.Shelf.Ren:=⟨fun|99=>263|206=>304|n=>n,fun|9=>9|4=>4|3=>3|n=>n,fun|n=>n⟩
theorem Tryz.prefixUL:Go.Proofs.Lays.n99 Tryz.prog Tryz.prefixUL_ren:={
 mixed:=by kernel_rfl
 f99:=Tryz.func263.trans (congrArg some (by kernel_rfl))
 f206:=Tryz.func304.trans (congrArg some (by kernel_rfl))
 t3:=Tryz.underlying3
 a3:=Tryz.isAgg3
 z3:=Tryz.sizeOf3
 v3:=Tryz.zeroValue3
 t4:=Tryz.underlying4
 a4:=Tryz.isAgg4
 z4:=Tryz.sizeOf4
 v4:=Tryz.zeroValue4
 t9:=Tryz.underlying9
 a9:=Tryz.isAgg9
 z9:=Tryz.sizeOf9
 v9:=Tryz.zeroValue9 }
end Go.Proofs

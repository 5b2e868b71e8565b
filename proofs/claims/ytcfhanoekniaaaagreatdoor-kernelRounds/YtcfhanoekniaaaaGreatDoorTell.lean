/- Facts on the entries of internal reflectlite at the types that errors.As meets with an Errno. -/
import Derived.Test.YtcfhanoekniaaaaGreatDoorRows
import Derived.WalkKit
import Derived.LaidEql
import Derived.Stop.Asserts
import Derived.RowKitTokens
import Derived.WalkLawsBesides
import Derived.Outline
set_option maxHeartbeats 4000000
namespace Go.Proofs.YtcfhanoekniaaaaGreatDoor
open Go.RowKit Go.Extern.Stop Go.Stop Go.Extern
abbrev fJ:Value:=.iface 350 (.agg #[.pointer (some ⟨7,27,none⟩)])
abbrev Zq (c:Int):Value:=.iface 36 (.int .i64 c)
theorem Tryz.Dc (t:Addr) (w:World):(ReflectliteValue.unpack (.iface 121 (.pointer (some t)))).run Tryz.prog w
 = .ok (.agg #[.pointer (some ⟨7,121,none⟩),.pointer (some ⟨w.heap.size,0,none⟩),.int .u64 150]) (w.alloc (.cells #[.pointer (some t)] 121)):=by kernel_rfl
theorem Tryz.TB (a:Addr) (w:World):(ReflectliteValue.methodAny (ReflectliteValue.valueError "reflectlite.Value.Type" 0) (fun t _ _ _=>ReflectliteType.toType t) #[.agg #[.pointer (some ⟨7,121,none⟩),.pointer (some a),.int .u64 150]]).run Tryz.prog w
 = .ok (.iface 350 (.agg #[.pointer (some ⟨7,121,none⟩)])) w:=by kernel_rfl
theorem Tryz.xR (h:Value) (w:World):(Go.method 605 350 (.agg #[h]) "Kind").run Tryz.prog w=.ok (422,h) w:=by kernel_rfl
theorem Tryz.TL (w:World):((ReflectliteType.abiMethod fun t=>(fun a:Nat=>Value.int IntKind.u8 (a:Int)) <$> Rtype.kind t) #[.pointer (some ⟨7,121,none⟩)]).run Tryz.prog w=.ok (.int .u8 22) w:=by kernel_rfl
theorem Tryz.TM (w:World):((ReflectliteType.abiMethod fun t=>(fun a:Nat=>Value.int IntKind.u8 (a:Int)) <$> Rtype.kind t) #[.pointer (some ⟨7,36,none⟩)]).run Tryz.prog w=.ok (.int .u8 2) w:=by kernel_rfl
theorem rlm (z:Sem Value) (f:TypeId→Addr→Nat→Nat→Sem Value) (v:Value) :
 ReflectliteValue.method z f #[v]=(do match ←ReflectliteValue.parts v with|none=>z|some (t,a,fl)=>f t a fl (fl % 32)):=rfl
theorem Tryz.Nn (a:Addr) (w:World):(ReflectliteValue.parts (.agg #[.pointer (some ⟨7,121,none⟩),.pointer (some a),.int .u64 150])).run Tryz.prog w=.ok (some (121,a,150)) w:=by kernel_rfl
theorem Tryz.Nv (a p:Addr) (W:World) (ha:W.cell? a=some (.pointer (some p))) :
 (ReflectliteValue.method (ReflectliteValue.valueError "reflectlite.Value.IsNil" 0) ReflectliteValue.isNil #[.agg #[.pointer (some ⟨7,121,none⟩),.pointer (some a),.int .u64 150]]).run Tryz.prog W=.ok (.bool false) W:=by
 rw [rlm]
 simp only [Sem.run_bind,Tryz.Nn,Result.andThen]
 simp [ReflectliteValue.isNil,loadVar,isAgg,underlying,Tryz.underlying121,ha,Result.andThen]
theorem Tryz.xS (h:Value) (w:World):(Go.method 605 350 (.agg #[h]) "Elem").run Tryz.prog w=.ok (433,.agg #[h]) w:=by kernel_rfl
theorem Tryz.ng (h:Value) (w:World):(Go.method 605 350 (.agg #[h]) "Implements").run Tryz.prog w=.ok (434,.agg #[h]) w:=by kernel_rfl
theorem Tryz.kR (h:Value) (w:World):(Go.method 605 350 (.agg #[h]) "AssignableTo").run Tryz.prog w=.ok (431,.agg #[h]) w:=by kernel_rfl
theorem Tryz.Ub (w:World):(ReflectliteType.method ReflectliteType.elem #[.agg #[.pointer (some ⟨7,121,none⟩)]]).run Tryz.prog w=.ok (.iface 350 (.agg #[.pointer (some ⟨7,36,none⟩)])) w:=by kernel_rfl
theorem Tryz.uX (w:World):(ReflectliteType.relation "Implements" ReflectliteType.implements_ #[.agg #[.pointer (some ⟨7,36,none⟩)],.iface 350 (.agg #[.pointer (some ⟨7,27,none⟩)])]).run Tryz.prog w=.ok (.bool true) w:=by kernel_rfl
theorem Tryz.Ih (v:Value) (w:World):(ReflectliteType.typeOf #[.iface 36 v]).run Tryz.prog w=.ok (.iface 350 (.agg #[.pointer (some ⟨7,36,none⟩)])) w:=by kernel_rfl
theorem Tryz.vk (w:World):(ReflectliteType.relation "AssignableTo" ReflectliteType.assignableTo #[.agg #[.pointer (some ⟨7,36,none⟩)],.iface 350 (.agg #[.pointer (some ⟨7,36,none⟩)])]).run Tryz.prog w=.ok (.bool true) w:=by kernel_rfl
theorem Tryz.De (c:Int) (w:World):(ReflectliteValue.unpack (.iface 36 (.int .i64 c))).run Tryz.prog w
 = .ok (.agg #[.pointer (some ⟨7,36,none⟩),.pointer (some ⟨w.heap.size,0,none⟩),.int .u64 130]) (w.alloc (.cells #[.int .i64 c] 36)):=by kernel_rfl
theorem Tryz.Sy (w:World):(Rtype.elem? 121).run Tryz.prog w=.ok (some 36) w:=by kernel_rfl
theorem Tryz.mkE (p:Addr) (w:World):(ReflectliteValue.mk 36 p ReflectliteValue.flagAddr).run Tryz.prog w=.ok (.agg #[.pointer (some ⟨7,36,none⟩),.pointer (some p),.int .u64 386]) w:=by kernel_rfl
theorem Tryz.NA (a p:Addr) (W:World) (ha:W.cell? a=some (.pointer (some p))) :
 (ReflectliteValue.method (ReflectliteValue.valueError "reflectlite.Value.Elem" 0) ReflectliteValue.elem #[.agg #[.pointer (some ⟨7,121,none⟩),.pointer (some a),.int .u64 150]]).run Tryz.prog W
   = .ok (.agg #[.pointer (some ⟨7,36,none⟩),.pointer (some p),.int .u64 386]) W:=by
 rw [rlm]
 simp only [Sem.run_bind,Tryz.Nn,Result.andThen]
 simp [ReflectliteValue.elem,loadVar,isAgg,underlying,Tryz.underlying121,ha,Result.andThen,Tryz.Sy,Tryz.mkE]
theorem Tryz.Rs (a:Addr) (w:World):(ReflectliteValue.parts (.agg #[.pointer (some ⟨7,36,none⟩),.pointer (some a),.int .u64 386])).run Tryz.prog w=.ok (some (36,a,386)) w:=by kernel_rfl
theorem Tryz.Ve (a:Addr) (w:World):(ReflectliteValue.parts (.agg #[.pointer (some ⟨7,36,none⟩),.pointer (some a),.int .u64 130])).run Tryz.prog w=.ok (some (36,a,130)) w:=by kernel_rfl
theorem Tryz.SB (w:World):(Rtype.directlyAssignable 36 36).run Tryz.prog w=.ok true w:=by kernel_rfl
theorem Tryz.Xe (ta b:Addr) (c:Int) (old:Value) (W:World) (hb:W.cell? b=some (.int .i64 c)) (ht:W.cell? ta=some old) (hf:W.frozen? ta=false) :
 (ReflectliteValue.set #[.agg #[.pointer (some ⟨7,36,none⟩),.pointer (some ta),.int .u64 386],.agg #[.pointer (some ⟨7,36,none⟩),.pointer (some b),.int .u64 130]]).run Tryz.prog W
   = .ok (.tuple #[]) (W.setCell ta (.int .i64 c)):=by
 change (bind (ReflectliteValue.parts (.agg #[.pointer (some ⟨7,36,none⟩),.pointer (some ta),.int .u64 386])) (fun p=>bind (ReflectliteValue.parts (.agg #[.pointer (some ⟨7,36,none⟩),.pointer (some b),.int .u64 130])) (fun q=>_)):Sem Value).run Tryz.prog W=_
 simp only [Sem.run_bind,Tryz.Rs,Tryz.Ve,Result.andThen]
 simp [ReflectliteValue.flagAddr,loadVar,isAgg,underlying,Tryz.underlying36,hb,Result.andThen,Tryz.SB,storeVar,Value.cells,storeCells,Addr.add]
 rw [run_store Tryz.prog W ta _ _ (by rfl)]
 simp [ht,hf]
theorem V6 (c:Int) (t:Addr) (old:Value) (w:World) (hg:w.cell? ⟨0,0,none⟩=some fJ) (ht0:w.cell? t=some old) (hf0:w.frozen? t=false) :
 Calls Tryz.prog 62 #[Zq c,.iface 121 (.pointer (some t))] w fun ev w'=>ev=.returned (.bool true)∧w'=((((w.alloc (.cells #[.pointer (some t)] 121)).alloc (.cells #[.pointer (some ⟨7,121,none⟩),.pointer (some ⟨w.heap.size,0,none⟩),.int .u64 150] 247)).alloc (.cells #[.pointer (some ⟨7,121,none⟩),.pointer (some ⟨w.heap.size,0,none⟩),.int .u64 150] 247)).alloc (.cells #[.int .i64 c] 36)).setCell t (.int .i64 c):=by
 have hVO:=@run_callFunc_extern Tryz.prog 152 _ (fun args=>ReflectliteValue.unpack (args.getD 0 (.tuple #[]))) Tryz.func152 (by kernel_rfl) (by kernel_rfl) (by kernel_rfl) (by kernel_rfl)
 have hTY:=@run_callFunc_extern Tryz.prog 153 _ (ReflectliteValue.methodAny (ReflectliteValue.valueError "reflectlite.Value.Type" 0) (fun t _ _ _=>ReflectliteType.toType t)) Tryz.func153 (by kernel_rfl) (by kernel_rfl) (by kernel_rfl) (by kernel_rfl)
 have hNI:=@run_callFunc_extern Tryz.prog 154 _ (ReflectliteValue.method (ReflectliteValue.valueError "reflectlite.Value.IsNil" 0) ReflectliteValue.isNil) Tryz.func154 (by kernel_rfl) (by kernel_rfl) (by kernel_rfl) (by kernel_rfl)
 have hKI:=@run_callFunc_extern Tryz.prog 422 _ (ReflectliteType.abiMethod fun t=>do pure (.int .u8 (←Rtype.kind t))) Tryz.func422 (by kernel_rfl) (by kernel_rfl) (by kernel_rfl) (by kernel_rfl)
 have hRE:=@run_callFunc_extern Tryz.prog 433 _ (ReflectliteType.method ReflectliteType.elem) Tryz.func433 (by kernel_rfl) (by kernel_rfl) (by kernel_rfl) (by kernel_rfl)
 have hIM:=@run_callFunc_extern Tryz.prog 434 _ (ReflectliteType.relation "Implements" ReflectliteType.implements_) Tryz.func434 (by kernel_rfl) (by kernel_rfl) (by kernel_rfl) (by kernel_rfl)
 have hTO:=@run_callFunc_extern Tryz.prog 243 _ ReflectliteType.typeOf Tryz.func243 (by kernel_rfl) (by kernel_rfl) (by kernel_rfl) (by kernel_rfl)
 have hAT:=@run_callFunc_extern Tryz.prog 431 _ (ReflectliteType.relation "AssignableTo" ReflectliteType.assignableTo) Tryz.func431 (by kernel_rfl) (by kernel_rfl) (by kernel_rfl) (by kernel_rfl)
 have hEL:=@run_callFunc_extern Tryz.prog 244 _ (ReflectliteValue.method (ReflectliteValue.valueError "reflectlite.Value.Elem" 0) ReflectliteValue.elem) Tryz.func244 (by kernel_rfl) (by kernel_rfl) (by kernel_rfl) (by kernel_rfl)
 have hST:=@run_callFunc_extern Tryz.prog 245 _ ReflectliteValue.set Tryz.func245 (by kernel_rfl) (by kernel_rfl) (by kernel_rfl) (by kernel_rfl)
 have tO:=Tryz.Ih
 have mA:=Tryz.kR
 have aE:=Tryz.vk
 have vE:=Tryz.De
 have f6:=Tryz.Dc
 have f7:=Tryz.TB
 have mK:=Tryz.xR
 have mE:=Tryz.xS
 have mI:=Tryz.ng
 have kT:=Tryz.TL
 have kE:=Tryz.TM
 have eT:=Tryz.Ub
 have iE:=Tryz.uX
 have n8:=Tryz.Nv ⟨w.heap.size,0,none⟩ t ((w.alloc (.cells #[.pointer (some t)] 121)).alloc (.cells #[.pointer (some ⟨7,121,none⟩),.pointer (some ⟨w.heap.size,0,none⟩),.int .u64 150] 247)) (by simp)
 have hlt:0<w.heap.size:=World.block_lt_of_cell? w _ hg
 have hg2:((w.alloc (.cells #[.pointer (some t)] 121)).alloc (.cells #[.pointer (some ⟨7,121,none⟩),.pointer (some ⟨w.heap.size,0,none⟩),.int .u64 150] 247)).cell? ⟨0,0,none⟩=some (.iface 350 (.agg #[.pointer (some ⟨7,27,none⟩)])):=by
  rw [World.cell?_alloc_lt _ _ ⟨0,0,none⟩ (by rw [World.size_alloc];exact Nat.lt_succ_of_lt hlt),World.cell?_alloc_lt _ _ ⟨0,0,none⟩ hlt];exact hg
 have htl:t.block<w.heap.size:=World.block_lt_of_cell? w _ ht0
 have el:=Tryz.NA ⟨w.heap.size,0,none⟩ t (((w.alloc (.cells #[.pointer (some t)] 121)).alloc (.cells #[.pointer (some ⟨7,121,none⟩),.pointer (some ⟨w.heap.size,0,none⟩),.int .u64 150] 247)).alloc (.cells #[.pointer (some ⟨7,121,none⟩),.pointer (some ⟨w.heap.size,0,none⟩),.int .u64 150] 247)) (by rw [World.cell?_alloc_lt _ _ ⟨w.heap.size,0,none⟩ (by simp;omega)];simp)
 have st:=Tryz.Xe t ⟨w.heap.size+1+1+1,0,none⟩ c old ((((w.alloc (.cells #[.pointer (some t)] 121)).alloc (.cells #[.pointer (some ⟨7,121,none⟩),.pointer (some ⟨w.heap.size,0,none⟩),.int .u64 150] 247)).alloc (.cells #[.pointer (some ⟨7,121,none⟩),.pointer (some ⟨w.heap.size,0,none⟩),.int .u64 150] 247)).alloc (.cells #[.int .i64 c] 36))
  (by rw [World.cell?_alloc_at _ _ _ _ (by simp)];rfl)
  (by rw [World.cell?_alloc_lt _ _ t (by simp;omega),World.cell?_alloc_lt _ _ t (by simp;omega),World.cell?_alloc_lt _ _ t (by simp;omega),World.cell?_alloc_lt _ _ t htl];exact ht0)
  (by rw [World.frozen?_alloc_old _ _ t (by simp;omega),World.frozen?_alloc_old _ _ t (by simp;omega),World.frozen?_alloc_old _ _ t (by simp;omega),World.frozen?_alloc_old _ _ t (Nat.ne_of_lt htl)];exact hf0)
 go_enter Tryz.func62,Tryz.ntmps62
 go_wp2
 refine wp_loop_rounds 1 ?_
 rw [rounds_succ]
 go_wp2
 go_ret
 exact ⟨rfl,rfl⟩
theorem Dk (w:World):Calls Tryz.prog 17 #[.nilIface] w fun e w'=>e=.returned (.int .i64 0)∧w'=w:=by
 go_enter Tryz.func17,Tryz.ntmps17
 go_wp2
 go_ret
 exact ⟨rfl,rfl⟩
theorem Dl (c:Int) (w:World) (hg:w.cell? ⟨0,0,none⟩=some fJ):Calls Tryz.prog 17 #[Zq c] w fun e w'=>e=.returned (.int .i64 c)∧Below w.heap.size w w':=by
 have hlt:0<w.heap.size:=World.block_lt_of_cell? w _ hg
 have hgA:(w.alloc (.cells #[.int .i64 0] 36)).cell? ⟨0,0,none⟩=some fJ:=by
  rw [World.cell?_alloc_lt _ _ ⟨0,0,none⟩ hlt];exact hg
 have Y1:(w.alloc (.cells #[.int .i64 0] 36)).cell? ⟨w.heap.size,0,none⟩=some (.int .i64 0):=by simp
 have hfA:(w.alloc (.cells #[.int .i64 0] 36)).frozen? ⟨w.heap.size,0,none⟩=false:=by simp
 go_enter Tryz.func17,Tryz.ntmps17
 go_wp2_with fail
 refine (V6 c _ (.int .i64 0) _ hgA Y1 hfA).mono ?_
 rintro e w' ⟨rfl,rfl⟩
 go_wp2_with fail
 go_ret
 refine ⟨rfl,?_⟩
 repeat first|exact Below.refl _ _|refine Below.alloc ?_ (by simp<;>omega) _
end Go.Proofs.YtcfhanoekniaaaaGreatDoor

/- Facts on the entries of internal reflectlite at the types that errors.As meets with an Errno. -/
import Derived.Test.YtippochapiolpaaGreatDoorRows
import Derived.WalkKit
import Derived.LaidEql
import Derived.Stop.Asserts
import Derived.RowKitTokens
import Derived.WalkLawsBesides
import Derived.Outline
set_option maxHeartbeats 4000000
namespace Go.Proofs.YtippochapiolpaaGreatDoor
open Go.RowKit Go.Extern.Stop Go.Stop Go.Extern
abbrev iB:Value:=.iface 208 (.agg #[.pointer (some ⟨9,28,none⟩)])
abbrev eno (c:Int):Value:=.iface 25 (.int .i64 c)
theorem Tryz.zm (t:Addr) (w:World):(ReflectliteValue.unpack (.iface 90 (.pointer (some t)))).run Tryz.prog w
 = .ok (.agg #[.pointer (some ⟨9,90,none⟩),.pointer (some ⟨w.heap.size,0,none⟩),.int .u64 150]) (w.alloc (.cells #[.pointer (some t)] 90)):=by kernel_rfl
theorem Tryz.Q7 (a:Addr) (w:World):(ReflectliteValue.methodAny (ReflectliteValue.valueError "reflectlite.Value.Type" 0) (fun t _ _ _=>ReflectliteType.toType t) #[.agg #[.pointer (some ⟨9,90,none⟩),.pointer (some a),.int .u64 150]]).run Tryz.prog w
 = .ok (.iface 208 (.agg #[.pointer (some ⟨9,90,none⟩)])) w:=by kernel_rfl
theorem Tryz.tC (h:Value) (w:World):(Go.method 512 208 (.agg #[h]) "Kind").run Tryz.prog w=.ok (389,h) w:=by kernel_rfl
theorem Tryz.Rl (w:World):((ReflectliteType.abiMethod fun t=>(fun a:Nat=>Value.int IntKind.u8 (a:Int)) <$> Rtype.kind t) #[.pointer (some ⟨9,90,none⟩)]).run Tryz.prog w=.ok (.int .u8 22) w:=by kernel_rfl
theorem Tryz.Rm (w:World):((ReflectliteType.abiMethod fun t=>(fun a:Nat=>Value.int IntKind.u8 (a:Int)) <$> Rtype.kind t) #[.pointer (some ⟨9,25,none⟩)]).run Tryz.prog w=.ok (.int .u8 2) w:=by kernel_rfl
theorem rlm (z:Sem Value) (f:TypeId→Addr→Nat→Nat→Sem Value) (v:Value) :
 ReflectliteValue.method z f #[v]=(do match ←ReflectliteValue.parts v with|none=>z|some (t,a,fl)=>f t a fl (fl % 32)):=rfl
theorem Tryz.RS (a:Addr) (w:World):(ReflectliteValue.parts (.agg #[.pointer (some ⟨9,90,none⟩),.pointer (some a),.int .u64 150])).run Tryz.prog w=.ok (some (90,a,150)) w:=by kernel_rfl
theorem Tryz.Jz (a p:Addr) (W:World) (ha:W.cell? a=some (.pointer (some p))) :
 (ReflectliteValue.method (ReflectliteValue.valueError "reflectlite.Value.IsNil" 0) ReflectliteValue.isNil #[.agg #[.pointer (some ⟨9,90,none⟩),.pointer (some a),.int .u64 150]]).run Tryz.prog W=.ok (.bool false) W:=by
 rw [rlm]
 simp only [Sem.run_bind,Tryz.RS,Result.andThen]
 simp [ReflectliteValue.isNil,loadVar,isAgg,underlying,Tryz.underlying90,ha,Result.andThen]
theorem Tryz.tF (h:Value) (w:World):(Go.method 512 208 (.agg #[h]) "Elem").run Tryz.prog w=.ok (402,.agg #[h]) w:=by kernel_rfl
theorem Tryz.jV (h:Value) (w:World):(Go.method 512 208 (.agg #[h]) "Implements").run Tryz.prog w=.ok (403,.agg #[h]) w:=by kernel_rfl
theorem Tryz.jb (h:Value) (w:World):(Go.method 512 208 (.agg #[h]) "AssignableTo").run Tryz.prog w=.ok (400,.agg #[h]) w:=by kernel_rfl
theorem Tryz.Ru (w:World):(ReflectliteType.method ReflectliteType.elem #[.agg #[.pointer (some ⟨9,90,none⟩)]]).run Tryz.prog w=.ok (.iface 208 (.agg #[.pointer (some ⟨9,25,none⟩)])) w:=by kernel_rfl
theorem Tryz.qP (w:World):(ReflectliteType.relation "Implements" ReflectliteType.implements_ #[.agg #[.pointer (some ⟨9,25,none⟩)],.iface 208 (.agg #[.pointer (some ⟨9,28,none⟩)])]).run Tryz.prog w=.ok (.bool true) w:=by kernel_rfl
theorem Tryz.D8 (v:Value) (w:World):(ReflectliteType.typeOf #[.iface 25 v]).run Tryz.prog w=.ok (.iface 208 (.agg #[.pointer (some ⟨9,25,none⟩)])) w:=by kernel_rfl
theorem Tryz.qR (w:World):(ReflectliteType.relation "AssignableTo" ReflectliteType.assignableTo #[.agg #[.pointer (some ⟨9,25,none⟩)],.iface 208 (.agg #[.pointer (some ⟨9,25,none⟩)])]).run Tryz.prog w=.ok (.bool true) w:=by kernel_rfl
theorem Tryz.zn (c:Int) (w:World):(ReflectliteValue.unpack (.iface 25 (.int .i64 c))).run Tryz.prog w
 = .ok (.agg #[.pointer (some ⟨9,25,none⟩),.pointer (some ⟨w.heap.size,0,none⟩),.int .u64 130]) (w.alloc (.cells #[.int .i64 c] 25)):=by kernel_rfl
theorem Tryz.X5 (w:World):(Rtype.elem? 90).run Tryz.prog w=.ok (some 25) w:=by kernel_rfl
theorem Tryz.mkE (p:Addr) (w:World):(ReflectliteValue.mk 25 p ReflectliteValue.flagAddr).run Tryz.prog w=.ok (.agg #[.pointer (some ⟨9,25,none⟩),.pointer (some p),.int .u64 386]) w:=by kernel_rfl
theorem Tryz.JB (a p:Addr) (W:World) (ha:W.cell? a=some (.pointer (some p))) :
 (ReflectliteValue.method (ReflectliteValue.valueError "reflectlite.Value.Elem" 0) ReflectliteValue.elem #[.agg #[.pointer (some ⟨9,90,none⟩),.pointer (some a),.int .u64 150]]).run Tryz.prog W
   = .ok (.agg #[.pointer (some ⟨9,25,none⟩),.pointer (some p),.int .u64 386]) W:=by
 rw [rlm]
 simp only [Sem.run_bind,Tryz.RS,Result.andThen]
 simp [ReflectliteValue.elem,loadVar,isAgg,underlying,Tryz.underlying90,ha,Result.andThen,Tryz.X5,Tryz.mkE]
theorem Tryz.WO (a:Addr) (w:World):(ReflectliteValue.parts (.agg #[.pointer (some ⟨9,25,none⟩),.pointer (some a),.int .u64 386])).run Tryz.prog w=.ok (some (25,a,386)) w:=by kernel_rfl
theorem Tryz.aap (a:Addr) (w:World):(ReflectliteValue.parts (.agg #[.pointer (some ⟨9,25,none⟩),.pointer (some a),.int .u64 130])).run Tryz.prog w=.ok (some (25,a,130)) w:=by kernel_rfl
theorem Tryz.Yb (w:World):(Rtype.directlyAssignable 25 25).run Tryz.prog w=.ok true w:=by kernel_rfl
theorem Tryz.ZK (ta b:Addr) (c:Int) (old:Value) (W:World) (hb:W.cell? b=some (.int .i64 c)) (ht:W.cell? ta=some old) (hf:W.frozen? ta=false) :
 (ReflectliteValue.set #[.agg #[.pointer (some ⟨9,25,none⟩),.pointer (some ta),.int .u64 386],.agg #[.pointer (some ⟨9,25,none⟩),.pointer (some b),.int .u64 130]]).run Tryz.prog W
   = .ok (.tuple #[]) (W.setCell ta (.int .i64 c)):=by
 change (bind (ReflectliteValue.parts (.agg #[.pointer (some ⟨9,25,none⟩),.pointer (some ta),.int .u64 386])) (fun p=>bind (ReflectliteValue.parts (.agg #[.pointer (some ⟨9,25,none⟩),.pointer (some b),.int .u64 130])) (fun q=>_)):Sem Value).run Tryz.prog W=_
 simp only [Sem.run_bind,Tryz.WO,Tryz.aap,Result.andThen]
 simp [ReflectliteValue.flagAddr,loadVar,isAgg,underlying,Tryz.underlying25,hb,Result.andThen,Tryz.Yb,storeVar,Value.cells,storeCells,Addr.add]
 rw [run_store Tryz.prog W ta _ _ (by rfl)]
 simp [ht,hf]
theorem abE (c:Int) (t:Addr) (old:Value) (w:World) (hg:w.cell? ⟨0,0,none⟩=some iB) (ht0:w.cell? t=some old) (hf0:w.frozen? t=false) :
 Calls Tryz.prog 34 #[eno c,.iface 90 (.pointer (some t))] w fun ev w'=>ev=.returned (.bool true)∧w'=((((w.alloc (.cells #[.pointer (some t)] 90)).alloc (.cells #[.pointer (some ⟨9,90,none⟩),.pointer (some ⟨w.heap.size,0,none⟩),.int .u64 150] 143)).alloc (.cells #[.pointer (some ⟨9,90,none⟩),.pointer (some ⟨w.heap.size,0,none⟩),.int .u64 150] 143)).alloc (.cells #[.int .i64 c] 25)).setCell t (.int .i64 c):=by
 have hVO:=@run_callFunc_extern Tryz.prog 79 _ (fun args=>ReflectliteValue.unpack (args.getD 0 (.tuple #[]))) Tryz.func79 (by kernel_rfl) (by kernel_rfl) (by kernel_rfl) (by kernel_rfl)
 have hTY:=@run_callFunc_extern Tryz.prog 80 _ (ReflectliteValue.methodAny (ReflectliteValue.valueError "reflectlite.Value.Type" 0) (fun t _ _ _=>ReflectliteType.toType t)) Tryz.func80 (by kernel_rfl) (by kernel_rfl) (by kernel_rfl) (by kernel_rfl)
 have hNI:=@run_callFunc_extern Tryz.prog 81 _ (ReflectliteValue.method (ReflectliteValue.valueError "reflectlite.Value.IsNil" 0) ReflectliteValue.isNil) Tryz.func81 (by kernel_rfl) (by kernel_rfl) (by kernel_rfl) (by kernel_rfl)
 have hKI:=@run_callFunc_extern Tryz.prog 389 _ (ReflectliteType.abiMethod fun t=>do pure (.int .u8 (←Rtype.kind t))) Tryz.func389 (by kernel_rfl) (by kernel_rfl) (by kernel_rfl) (by kernel_rfl)
 have hRE:=@run_callFunc_extern Tryz.prog 402 _ (ReflectliteType.method ReflectliteType.elem) Tryz.func402 (by kernel_rfl) (by kernel_rfl) (by kernel_rfl) (by kernel_rfl)
 have hIM:=@run_callFunc_extern Tryz.prog 403 _ (ReflectliteType.relation "Implements" ReflectliteType.implements_) Tryz.func403 (by kernel_rfl) (by kernel_rfl) (by kernel_rfl) (by kernel_rfl)
 have hTO:=@run_callFunc_extern Tryz.prog 134 _ ReflectliteType.typeOf Tryz.func134 (by kernel_rfl) (by kernel_rfl) (by kernel_rfl) (by kernel_rfl)
 have hAT:=@run_callFunc_extern Tryz.prog 400 _ (ReflectliteType.relation "AssignableTo" ReflectliteType.assignableTo) Tryz.func400 (by kernel_rfl) (by kernel_rfl) (by kernel_rfl) (by kernel_rfl)
 have hEL:=@run_callFunc_extern Tryz.prog 135 _ (ReflectliteValue.method (ReflectliteValue.valueError "reflectlite.Value.Elem" 0) ReflectliteValue.elem) Tryz.func135 (by kernel_rfl) (by kernel_rfl) (by kernel_rfl) (by kernel_rfl)
 have hST:=@run_callFunc_extern Tryz.prog 136 _ ReflectliteValue.set Tryz.func136 (by kernel_rfl) (by kernel_rfl) (by kernel_rfl) (by kernel_rfl)
 have tO:=Tryz.D8
 have mA:=Tryz.jb
 have aE:=Tryz.qR
 have vE:=Tryz.zn
 have f6:=Tryz.zm
 have f7:=Tryz.Q7
 have mK:=Tryz.tC
 have mE:=Tryz.tF
 have mI:=Tryz.jV
 have kT:=Tryz.Rl
 have kE:=Tryz.Rm
 have eT:=Tryz.Ru
 have iE:=Tryz.qP
 have n8:=Tryz.Jz ⟨w.heap.size,0,none⟩ t ((w.alloc (.cells #[.pointer (some t)] 90)).alloc (.cells #[.pointer (some ⟨9,90,none⟩),.pointer (some ⟨w.heap.size,0,none⟩),.int .u64 150] 143)) (by simp)
 have hlt:0<w.heap.size:=World.block_lt_of_cell? w _ hg
 have hg2:((w.alloc (.cells #[.pointer (some t)] 90)).alloc (.cells #[.pointer (some ⟨9,90,none⟩),.pointer (some ⟨w.heap.size,0,none⟩),.int .u64 150] 143)).cell? ⟨0,0,none⟩=some (.iface 208 (.agg #[.pointer (some ⟨9,28,none⟩)])):=by
  rw [World.cell?_alloc_lt _ _ ⟨0,0,none⟩ (by rw [World.size_alloc];exact Nat.lt_succ_of_lt hlt),World.cell?_alloc_lt _ _ ⟨0,0,none⟩ hlt];exact hg
 have htl:t.block<w.heap.size:=World.block_lt_of_cell? w _ ht0
 have el:=Tryz.JB ⟨w.heap.size,0,none⟩ t (((w.alloc (.cells #[.pointer (some t)] 90)).alloc (.cells #[.pointer (some ⟨9,90,none⟩),.pointer (some ⟨w.heap.size,0,none⟩),.int .u64 150] 143)).alloc (.cells #[.pointer (some ⟨9,90,none⟩),.pointer (some ⟨w.heap.size,0,none⟩),.int .u64 150] 143)) (by rw [World.cell?_alloc_lt _ _ ⟨w.heap.size,0,none⟩ (by simp;omega)];simp)
 have st:=Tryz.ZK t ⟨w.heap.size+1+1+1,0,none⟩ c old ((((w.alloc (.cells #[.pointer (some t)] 90)).alloc (.cells #[.pointer (some ⟨9,90,none⟩),.pointer (some ⟨w.heap.size,0,none⟩),.int .u64 150] 143)).alloc (.cells #[.pointer (some ⟨9,90,none⟩),.pointer (some ⟨w.heap.size,0,none⟩),.int .u64 150] 143)).alloc (.cells #[.int .i64 c] 25))
  (by rw [World.cell?_alloc_at _ _ _ _ (by simp)];rfl)
  (by rw [World.cell?_alloc_lt _ _ t (by simp;omega),World.cell?_alloc_lt _ _ t (by simp;omega),World.cell?_alloc_lt _ _ t (by simp;omega),World.cell?_alloc_lt _ _ t htl];exact ht0)
  (by rw [World.frozen?_alloc_old _ _ t (by simp;omega),World.frozen?_alloc_old _ _ t (by simp;omega),World.frozen?_alloc_old _ _ t (by simp;omega),World.frozen?_alloc_old _ _ t (Nat.ne_of_lt htl)];exact hf0)
 go_enter Tryz.func34,Tryz.ntmps34
 go_wp2
 refine wp_loop_rounds 1 ?_
 rw [rounds_succ]
 go_wp2
 go_ret
 exact ⟨rfl,rfl⟩
theorem F9 (w:World):Calls Tryz.prog 14 #[.nilIface] w fun e w'=>e=.returned (.int .i64 0)∧w'=w:=by
 go_enter Tryz.func14,Tryz.ntmps14
 go_wp2
 go_ret
 exact ⟨rfl,rfl⟩
theorem zw (c:Int) (w:World) (hg:w.cell? ⟨0,0,none⟩=some iB):Calls Tryz.prog 14 #[eno c] w fun e w'=>e=.returned (.int .i64 c)∧Below w.heap.size w w':=by
 have hlt:0<w.heap.size:=World.block_lt_of_cell? w _ hg
 have hgA:(w.alloc (.cells #[.int .i64 0] 25)).cell? ⟨0,0,none⟩=some iB:=by
  rw [World.cell?_alloc_lt _ _ ⟨0,0,none⟩ hlt];exact hg
 have Zx:(w.alloc (.cells #[.int .i64 0] 25)).cell? ⟨w.heap.size,0,none⟩=some (.int .i64 0):=by simp
 have hfA:(w.alloc (.cells #[.int .i64 0] 25)).frozen? ⟨w.heap.size,0,none⟩=false:=by simp
 go_enter Tryz.func14,Tryz.ntmps14
 go_wp2_with fail
 refine (abE c _ (.int .i64 0) _ hgA Zx hfA).mono ?_
 rintro e w' ⟨rfl,rfl⟩
 go_wp2_with fail
 go_ret
 refine ⟨rfl,?_⟩
 repeat first|exact Below.refl _ _|refine Below.alloc ?_ (by simp<;>omega) _
end Go.Proofs.YtippochapiolpaaGreatDoor

/- Ours. -/
import Derived.Test.YtippochapiolpaaGreatDoorRows
import Derived.Stop.Asserts
import Derived.RowKitTokens
import Derived.WalkLawsBesides
set_option maxHeartbeats 4000000
namespace Go.Proofs.YtippochapiolpaaGreatDoor
open Go.Proofs.Tryz(func14 ntmps14 prog)
open Go.World(cell?_alloc_lt frozen?_alloc_old)
open Go.RowKit Go.Extern.Stop Go.Stop Go.Extern
abbrev iA:Value:=.iface 208 (.agg #[.pointer (some ⟨9,28,none⟩)])
abbrev eno(c:Int):Value:=.iface 25 (.int .i64 c)
theorem Tryz.zm(t:Addr)(w:World):(ReflectliteValue.unpack (.iface 90 (.pointer (some t)))).run prog w
 = .ok (.agg #[.pointer (some ⟨9,90,none⟩),.pointer (some ⟨w.heap.size,0,none⟩),.int .u64 150]) (w.alloc (.cells #[.pointer (some t)] 90)):=by kernel_rfl
theorem Tryz.Q6(a:Addr)(w:World):(ReflectliteValue.methodAny (ReflectliteValue.valueError "reflectlite.Value.Type" 0) (fun t _ _ _=>ReflectliteType.toType t) #[.agg #[.pointer (some ⟨9,90,none⟩),.pointer (some a),.int .u64 150]]).run prog w
 = .ok (.iface 208 (.agg #[.pointer (some ⟨9,90,none⟩)])) w:=by kernel_rfl
theorem Tryz.tC(h:Value)(w:World):(Go.method 512 208 (.agg #[h]) "Kind").run prog w=.ok (389,h) w:=by kernel_rfl
theorem Tryz.Rk(w:World):((ReflectliteType.abiMethod fun t=>(fun a:Nat=>Value.int IntKind.u8 (a:Int)) <$> Rtype.kind t) #[.pointer (some ⟨9,90,none⟩)]).run prog w=.ok (.int .u8 22) w:=by kernel_rfl
theorem Tryz.Rl(w:World):((ReflectliteType.abiMethod fun t=>(fun a:Nat=>Value.int IntKind.u8 (a:Int)) <$> Rtype.kind t) #[.pointer (some ⟨9,25,none⟩)]).run prog w=.ok (.int .u8 2) w:=by kernel_rfl
theorem rlm(z:Sem Value)(f:TypeId->Addr->Nat->Nat->Sem Value)(v:Value):ReflectliteValue.method z f #[v]=(do match <-ReflectliteValue.parts v with|none=>z|some (t,a,fl)=>f t a fl (fl % 32)):=rfl
theorem Tryz.RQ(a:Addr)(w:World):(ReflectliteValue.parts (.agg #[.pointer (some ⟨9,90,none⟩),.pointer (some a),.int .u64 150])).run prog w=.ok (some (90,a,150)) w:=by kernel_rfl
theorem Tryz.Jz(a p:Addr)(W:World)(b:W.cell? a=some (.pointer (some p))):(ReflectliteValue.method (ReflectliteValue.valueError "reflectlite.Value.IsNil" 0) ReflectliteValue.isNil #[.agg #[.pointer (some ⟨9,90,none⟩),.pointer (some a),.int .u64 150]]).run prog W=.ok (.bool false) W:=by
 rw[rlm];simp only[Sem.run_bind,Tryz.RQ,Result.andThen];simp[ReflectliteValue.isNil,loadVar,isAgg,underlying,Tryz.underlying90,b,Result.andThen]
theorem Tryz.tF(h:Value)(w:World):(Go.method 512 208 (.agg #[h]) "Elem").run prog w=.ok (402,.agg #[h]) w:=by kernel_rfl
theorem Tryz.jV(h:Value)(w:World):(Go.method 512 208 (.agg #[h]) "Implements").run prog w=.ok (403,.agg #[h]) w:=by kernel_rfl
theorem Tryz.ja(h:Value)(w:World):(Go.method 512 208 (.agg #[h]) "AssignableTo").run prog w=.ok (400,.agg #[h]) w:=by kernel_rfl
theorem Tryz.Rt(w:World):(ReflectliteType.method ReflectliteType.elem #[.agg #[.pointer (some ⟨9,90,none⟩)]]).run prog w=.ok (.iface 208 (.agg #[.pointer (some ⟨9,25,none⟩)])) w:=by kernel_rfl
theorem Tryz.qP(w:World):(ReflectliteType.relation "Implements" ReflectliteType.implements_ #[.agg #[.pointer (some ⟨9,25,none⟩)],.iface 208 (.agg #[.pointer (some ⟨9,28,none⟩)])]).run prog w=.ok (.bool true) w:=by kernel_rfl
theorem Tryz.D8(v:Value)(w:World):(ReflectliteType.typeOf #[.iface 25 v]).run prog w=.ok (.iface 208 (.agg #[.pointer (some ⟨9,25,none⟩)])) w:=by kernel_rfl
theorem Tryz.qR(w:World):(ReflectliteType.relation "AssignableTo" ReflectliteType.assignableTo #[.agg #[.pointer (some ⟨9,25,none⟩)],.iface 208 (.agg #[.pointer (some ⟨9,25,none⟩)])]).run prog w=.ok (.bool true) w:=by kernel_rfl
theorem Tryz.zn(c:Int)(w:World):(ReflectliteValue.unpack (.iface 25 (.int .i64 c))).run prog w
 = .ok (.agg #[.pointer (some ⟨9,25,none⟩),.pointer (some ⟨w.heap.size,0,none⟩),.int .u64 130]) (w.alloc (.cells #[.int .i64 c] 25)):=by kernel_rfl
theorem Tryz.XX(w:World):(Rtype.elem? 90).run prog w=.ok (some 25) w:=by kernel_rfl
theorem Tryz.mkE(p:Addr)(w:World):(ReflectliteValue.mk 25 p ReflectliteValue.flagAddr).run prog w=.ok (.agg #[.pointer (some ⟨9,25,none⟩),.pointer (some p),.int .u64 386]) w:=by kernel_rfl
theorem Tryz.JB(a p:Addr)(W:World)(b:W.cell? a=some (.pointer (some p))):(ReflectliteValue.method (ReflectliteValue.valueError "reflectlite.Value.Elem" 0) ReflectliteValue.elem #[.agg #[.pointer (some ⟨9,90,none⟩),.pointer (some a),.int .u64 150]]).run prog W
   = .ok (.agg #[.pointer (some ⟨9,25,none⟩),.pointer (some p),.int .u64 386]) W:=by
 rw[rlm];simp only[Sem.run_bind,Tryz.RQ,Result.andThen];simp[ReflectliteValue.elem,loadVar,isAgg,underlying,Tryz.underlying90,b,Result.andThen,Tryz.XX,Tryz.mkE]
theorem Tryz.WJ(a:Addr)(w:World):(ReflectliteValue.parts (.agg #[.pointer (some ⟨9,25,none⟩),.pointer (some a),.int .u64 386])).run prog w=.ok (some (25,a,386)) w:=by kernel_rfl
theorem Tryz.aah(a:Addr)(w:World):(ReflectliteValue.parts (.agg #[.pointer (some ⟨9,25,none⟩),.pointer (some a),.int .u64 130])).run prog w=.ok (some (25,a,130)) w:=by kernel_rfl
theorem Tryz.X5(w:World):(Rtype.directlyAssignable 25 25).run prog w=.ok true w:=by kernel_rfl
theorem Tryz.ZA(a b:Addr)(c:Int)(d:Value)(W:World)(g:W.cell? b=some (.int .i64 c))(e:W.cell? a=some d)(f:W.frozen? a=false):(ReflectliteValue.set #[.agg #[.pointer (some ⟨9,25,none⟩),.pointer (some a),.int .u64 386],.agg #[.pointer (some ⟨9,25,none⟩),.pointer (some b),.int .u64 130]]).run prog W
   = .ok (.tuple #[]) (W.setCell a (.int .i64 c)):=by
 change (bind (ReflectliteValue.parts (.agg #[.pointer (some ⟨9,25,none⟩),.pointer (some a),.int .u64 386])) (fun p=>bind (ReflectliteValue.parts (.agg #[.pointer (some ⟨9,25,none⟩),.pointer (some b),.int .u64 130])) (fun q=>_)):Sem Value).run prog W=_;simp only[Sem.run_bind,Tryz.WJ,Tryz.aah,Result.andThen];simp[ReflectliteValue.flagAddr,loadVar,isAgg,underlying,Tryz.underlying25,g,Result.andThen,Tryz.X5,storeVar,Value.cells,storeCells,Addr.add];rw[run_store prog W a _ _ (by rfl)];simp[e,f]
theorem abp(c:Int)(t:Addr)(a:Value)(w:World)(h:w.cell? ⟨0,0,none⟩=some iA)(d:w.cell? t=some a)(g:w.frozen? t=false):Calls prog 34 #[eno c,.iface 90 (.pointer (some t))] w fun v i=>v=.returned (.bool true)/\i=((((w.alloc (.cells #[.pointer (some t)] 90)).alloc (.cells #[.pointer (some ⟨9,90,none⟩),.pointer (some ⟨w.heap.size,0,none⟩),.int .u64 150] 143)).alloc (.cells #[.pointer (some ⟨9,90,none⟩),.pointer (some ⟨w.heap.size,0,none⟩),.int .u64 150] 143)).alloc (.cells #[.int .i64 c] 25)).setCell t (.int .i64 c):=by
 have k:=@run_callFunc_extern prog 79 _ (fun f=>ReflectliteValue.unpack (f.getD 0 (.tuple #[]))) Tryz.func79 (by kernel_rfl) (by kernel_rfl) (by kernel_rfl) (by kernel_rfl);have l:=@run_callFunc_extern prog 80 _ (ReflectliteValue.methodAny (ReflectliteValue.valueError "reflectlite.Value.Type" 0) (fun t _ _ _=>ReflectliteType.toType t)) Tryz.func80 (by kernel_rfl) (by kernel_rfl) (by kernel_rfl) (by kernel_rfl);have p:=@run_callFunc_extern prog 81 _ (ReflectliteValue.method (ReflectliteValue.valueError "reflectlite.Value.IsNil" 0) ReflectliteValue.isNil) Tryz.func81 (by kernel_rfl) (by kernel_rfl) (by kernel_rfl) (by kernel_rfl);have q:=@run_callFunc_extern prog 389 _ (ReflectliteType.abiMethod fun t=>do pure (.int .u8 (<-Rtype.kind t))) Tryz.func389 (by kernel_rfl) (by kernel_rfl) (by kernel_rfl) (by kernel_rfl);have o:=@run_callFunc_extern prog 402 _ (ReflectliteType.method ReflectliteType.elem) Tryz.func402 (by kernel_rfl) (by kernel_rfl) (by kernel_rfl) (by kernel_rfl);have r:=@run_callFunc_extern prog 403 _ (ReflectliteType.relation "Implements" ReflectliteType.implements_) Tryz.func403 (by kernel_rfl) (by kernel_rfl) (by kernel_rfl) (by kernel_rfl);have m:=@run_callFunc_extern prog 134 _ ReflectliteType.typeOf Tryz.func134 (by kernel_rfl) (by kernel_rfl) (by kernel_rfl) (by kernel_rfl);have u:=@run_callFunc_extern prog 400 _ (ReflectliteType.relation "AssignableTo" ReflectliteType.assignableTo) Tryz.func400 (by kernel_rfl) (by kernel_rfl) (by kernel_rfl) (by kernel_rfl);have s:=@run_callFunc_extern prog 135 _ (ReflectliteValue.method (ReflectliteValue.valueError "reflectlite.Value.Elem" 0) ReflectliteValue.elem) Tryz.func135 (by kernel_rfl) (by kernel_rfl) (by kernel_rfl) (by kernel_rfl);have n:=@run_callFunc_extern prog 136 _ ReflectliteValue.set Tryz.func136 (by kernel_rfl) (by kernel_rfl) (by kernel_rfl) (by kernel_rfl);have y:=Tryz.D8;have E:=Tryz.ja;have M:=Tryz.qR;have x:=Tryz.zn;have J:=Tryz.zm;have I:=Tryz.Q6;have B:=Tryz.tC;have D:=Tryz.tF;have C:=Tryz.jV;have F:=Tryz.Rk;have G:=Tryz.Rl;have L:=Tryz.Rt;have H:=Tryz.qP;have A:=Tryz.Jz ⟨w.heap.size,0,none⟩ t ((w.alloc (.cells #[.pointer (some t)] 90)).alloc (.cells #[.pointer (some ⟨9,90,none⟩),.pointer (some ⟨w.heap.size,0,none⟩),.int .u64 150] 143)) (by simp);have e:0<w.heap.size:=World.block_lt_of_cell? w _ h;have j:((w.alloc (.cells #[.pointer (some t)] 90)).alloc (.cells #[.pointer (some ⟨9,90,none⟩),.pointer (some ⟨w.heap.size,0,none⟩),.int .u64 150] 143)).cell? ⟨0,0,none⟩=some (.iface 208 (.agg #[.pointer (some ⟨9,28,none⟩)])):=by
  rw[cell?_alloc_lt _ _ ⟨0,0,none⟩ (by rw[World.size_alloc];exact Nat.lt_succ_of_lt e),cell?_alloc_lt _ _ ⟨0,0,none⟩ e];exact h
 have b:t.block<w.heap.size:=World.block_lt_of_cell? w _ d;have K:=Tryz.JB ⟨w.heap.size,0,none⟩ t (((w.alloc (.cells #[.pointer (some t)] 90)).alloc (.cells #[.pointer (some ⟨9,90,none⟩),.pointer (some ⟨w.heap.size,0,none⟩),.int .u64 150] 143)).alloc (.cells #[.pointer (some ⟨9,90,none⟩),.pointer (some ⟨w.heap.size,0,none⟩),.int .u64 150] 143)) (by rw[cell?_alloc_lt _ _ ⟨w.heap.size,0,none⟩ (by simp;omega)];simp);have z:=Tryz.ZA t ⟨w.heap.size+1+1+1,0,none⟩ c a ((((w.alloc (.cells #[.pointer (some t)] 90)).alloc (.cells #[.pointer (some ⟨9,90,none⟩),.pointer (some ⟨w.heap.size,0,none⟩),.int .u64 150] 143)).alloc (.cells #[.pointer (some ⟨9,90,none⟩),.pointer (some ⟨w.heap.size,0,none⟩),.int .u64 150] 143)).alloc (.cells #[.int .i64 c] 25))
  (by rw[World.cell?_alloc_at _ _ _ _ (by simp)];rfl)
  (by rw[cell?_alloc_lt _ _ t (by simp;omega),cell?_alloc_lt _ _ t (by simp;omega),cell?_alloc_lt _ _ t (by simp;omega),cell?_alloc_lt _ _ t b];exact d)
  (by rw[frozen?_alloc_old _ _ t (by simp;omega),frozen?_alloc_old _ _ t (by simp;omega),frozen?_alloc_old _ _ t (by simp;omega),frozen?_alloc_old _ _ t (Nat.ne_of_lt b)];exact g)
 go_enter Tryz.func34,Tryz.ntmps34
 go_wp2;refine wp_loop_rounds 1 ?_;rw[rounds_succ];go_wp2;go_ret;exact⟨rfl,rfl⟩
theorem F9(w:World):Calls prog 14 #[.nilIface] w fun e a=>e=.returned (.int .i64 0)/\a=w:=by
 go_enter func14,ntmps14
 go_wp2;go_ret;exact⟨rfl,rfl⟩
theorem zw(c:Int)(w:World)(g:w.cell? ⟨0,0,none⟩=some iA):Calls prog 14 #[eno c] w fun e f=>e=.returned (.int .i64 c)/\Below w.heap.size w f:=by
 have a:0<w.heap.size:=World.block_lt_of_cell? w _ g;have b:(w.alloc (.cells #[.int .i64 0] 25)).cell? ⟨0,0,none⟩=some iA:=by
  rw[cell?_alloc_lt _ _ ⟨0,0,none⟩ a];exact g
 have h:(w.alloc (.cells #[.int .i64 0] 25)).cell? ⟨w.heap.size,0,none⟩=some (.int .i64 0):=by simp
 have d:(w.alloc (.cells #[.int .i64 0] 25)).frozen? ⟨w.heap.size,0,none⟩=false:=by simp
 go_enter func14,ntmps14
 go_wp2_with fail
 refine(abp c _ (.int .i64 0) _ b h d).mono ?_;rintro e f ⟨rfl,rfl⟩;go_wp2_with fail
 go_ret;refine⟨rfl,?_⟩
 repeat first|exact Below.refl _ _|refine Below.alloc ?_ (by simp<;>omega) _
end Go.Proofs.YtippochapiolpaaGreatDoor

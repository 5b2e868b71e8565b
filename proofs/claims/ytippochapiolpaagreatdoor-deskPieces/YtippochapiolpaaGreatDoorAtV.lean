/- Ours. -/
import Derived.Test.YtippochapiolpaaGreatDoorTell
import Derived.Test.YtippochapiolpaaGreatDoorSKeys
import Derived.BigQuiet
set_option maxHeartbeats 4000000
namespace Go.Proofs.YtippochapiolpaaGreatDoor
open Go.Proofs.Tryz(func134 func135 func136 func14 func34 func389 func400 func402 func403 func79 func80 func81 ntmps14 ntmps34 prog)
open Go.World(block_lt_of_cell? cell?_alloc_lt frozen?_alloc_old size_alloc)
open Go.RowKit Go.Extern.Stop Go.Stop Go.Extern
abbrev FN(ad:Option Addr)(n cap:Nat)(c:Int):Value:=.iface 48 (.agg #[.slice ad n cap,eF c])
theorem Tryz.VW(v:Value)(w:World):(ReflectliteType.typeOf #[.iface 48 v]).run prog w=.ok (.iface 208 (.agg #[.pointer (some ⟨9,48,none⟩)])) w:=by kernel_rfl
theorem Tryz.IJ(w:World):(ReflectliteType.relation "AssignableTo" ReflectliteType.assignableTo #[.agg #[.pointer (some ⟨9,48,none⟩)],.iface 208 (.agg #[.pointer (some ⟨9,25,none⟩)])]).run prog w=.ok (.bool false) w:=by kernel_rfl
theorem Tryz.ac6(v:Value)(a:TypeId)(w:World):(Instr.typeAssert (.iface 48 v) a 213 true).run prog w=.ok (.tuple #[.nilIface,.bool false]) w:=
 run_typeAssert_lacksB Tryz.underlying213 (by kernel_rfl) (by kernel_rfl) v a w
theorem Tryz.Kw(v:Value)(a:TypeId)(w:World):(Instr.typeAssert (.iface 48 v) a 216 true).run prog w=.ok (.tuple #[.iface 48 v,.bool true]) w:=
 run_typeAssert_hasB Tryz.underlying216 (by kernel_rfl) v a w
theorem Tryz.BB(h:Value)(w:World):(Go.method 512 48 h "Unwrap").run prog w=.ok (395,h) w:=by kernel_rfl
theorem Ht(a:Option Addr)(n cap:Nat)(c:Int)(w:World):Calls prog 395 #[.agg #[.slice a n cap,eF c]] w fun e b=>e=.returned (eF c)/\b=w.alloc (.cells #[.slice a n cap,eF c] 48):=by
 go_enter Tryz.func395,Tryz.ntmps395
 go_wp2;go_ret;exact⟨rfl,rfl⟩
theorem Yn(h:Option Addr)(n cap:Nat)(c:Int)(t:Addr)(a:Value)(w:World)(k:w.cell? ⟨0,0,none⟩=some iA)(d:w.cell? t=some a)(i:w.frozen? t=false):Calls prog 34 #[FN h n cap c,.iface 90 (.pointer (some t))] w fun A j=>A=.returned (.bool true)/\j=(((((w.alloc (.cells #[.pointer (some t)] 90)).alloc (.cells #[.pointer (some ⟨9,90,none⟩),.pointer (some ⟨w.heap.size,0,none⟩),.int .u64 150] 143)).alloc (.cells #[.pointer (some ⟨9,90,none⟩),.pointer (some ⟨w.heap.size,0,none⟩),.int .u64 150] 143)).alloc (.cells #[.slice h n cap,eF c] 48)).alloc (.cells #[.int .i64 c] 25)).setCell t (.int .i64 c):=by
 have o:=@run_callFunc_extern prog 79 _ (fun g=>ReflectliteValue.unpack (g.getD 0 (.tuple #[]))) func79 (by kernel_rfl) (by kernel_rfl) (by kernel_rfl) (by kernel_rfl);have p:=@run_callFunc_extern prog 80 _ (ReflectliteValue.methodAny (ReflectliteValue.valueError "reflectlite.Value.Type" 0) (fun t _ _ _=>ReflectliteType.toType t)) func80 (by kernel_rfl) (by kernel_rfl) (by kernel_rfl) (by kernel_rfl);have u:=@run_callFunc_extern prog 81 _ (ReflectliteValue.method (ReflectliteValue.valueError "reflectlite.Value.IsNil" 0) ReflectliteValue.isNil) func81 (by kernel_rfl) (by kernel_rfl) (by kernel_rfl) (by kernel_rfl);have v:=@run_callFunc_extern prog 389 _ (ReflectliteType.abiMethod fun t=>do pure (.int .u8 (<-Rtype.kind t))) func389 (by kernel_rfl) (by kernel_rfl) (by kernel_rfl) (by kernel_rfl);have s:=@run_callFunc_extern prog 402 _ (ReflectliteType.method ReflectliteType.elem) func402 (by kernel_rfl) (by kernel_rfl) (by kernel_rfl) (by kernel_rfl);have x:=@run_callFunc_extern prog 403 _ (ReflectliteType.relation "Implements" ReflectliteType.implements_) func403 (by kernel_rfl) (by kernel_rfl) (by kernel_rfl) (by kernel_rfl);have q:=@run_callFunc_extern prog 134 _ ReflectliteType.typeOf func134 (by kernel_rfl) (by kernel_rfl) (by kernel_rfl) (by kernel_rfl);have z:=@run_callFunc_extern prog 400 _ (ReflectliteType.relation "AssignableTo" ReflectliteType.assignableTo) func400 (by kernel_rfl) (by kernel_rfl) (by kernel_rfl) (by kernel_rfl);have y:=@run_callFunc_extern prog 135 _ (ReflectliteValue.method (ReflectliteValue.valueError "reflectlite.Value.Elem" 0) ReflectliteValue.elem) func135 (by kernel_rfl) (by kernel_rfl) (by kernel_rfl) (by kernel_rfl);have r:=@run_callFunc_extern prog 136 _ ReflectliteValue.set func136 (by kernel_rfl) (by kernel_rfl) (by kernel_rfl) (by kernel_rfl);have C:=Tryz.D8;have D:=Tryz.VW;have K:=Tryz.ja;have T:=Tryz.qR;have U:=Tryz.IJ;have l:=Tryz.ac6;have O:=Tryz.Kw;have G:=Tryz.BB;have B:=Tryz.zn;have Q:=Tryz.zm;have P:=Tryz.Q6;have H:=Tryz.tC;have J:=Tryz.tF;have I:=Tryz.jV;have L:=Tryz.Rk;have M:=Tryz.Rl;have S:=Tryz.Rt;have N:=Tryz.qP;have F:=Tryz.Jz ⟨w.heap.size,0,none⟩ t ((w.alloc (.cells #[.pointer (some t)] 90)).alloc (.cells #[.pointer (some ⟨9,90,none⟩),.pointer (some ⟨w.heap.size,0,none⟩),.int .u64 150] 143)) (by simp);have f:0<w.heap.size:=block_lt_of_cell? w _ k;have m:((w.alloc (.cells #[.pointer (some t)] 90)).alloc (.cells #[.pointer (some ⟨9,90,none⟩),.pointer (some ⟨w.heap.size,0,none⟩),.int .u64 150] 143)).cell? ⟨0,0,none⟩=some (.iface 208 (.agg #[.pointer (some ⟨9,28,none⟩)])):=by
  rw[cell?_alloc_lt _ _ ⟨0,0,none⟩ (by rw[size_alloc];exact Nat.lt_succ_of_lt f),cell?_alloc_lt _ _ ⟨0,0,none⟩ f];exact k
 have b:t.block<w.heap.size:=block_lt_of_cell? w _ d;have R:=Tryz.JB ⟨w.heap.size,0,none⟩ t ((((w.alloc (.cells #[.pointer (some t)] 90)).alloc (.cells #[.pointer (some ⟨9,90,none⟩),.pointer (some ⟨w.heap.size,0,none⟩),.int .u64 150] 143)).alloc (.cells #[.pointer (some ⟨9,90,none⟩),.pointer (some ⟨w.heap.size,0,none⟩),.int .u64 150] 143)).alloc (.cells #[.slice h n cap,eF c] 48)) (by rw[cell?_alloc_lt _ _ ⟨w.heap.size,0,none⟩ (by simp;omega),cell?_alloc_lt _ _ ⟨w.heap.size,0,none⟩ (by simp;omega)];simp);have E:=Tryz.ZA t ⟨w.heap.size+1+1+1+1,0,none⟩ c a (((((w.alloc (.cells #[.pointer (some t)] 90)).alloc (.cells #[.pointer (some ⟨9,90,none⟩),.pointer (some ⟨w.heap.size,0,none⟩),.int .u64 150] 143)).alloc (.cells #[.pointer (some ⟨9,90,none⟩),.pointer (some ⟨w.heap.size,0,none⟩),.int .u64 150] 143)).alloc (.cells #[.slice h n cap,eF c] 48)).alloc (.cells #[.int .i64 c] 25))
  (by rw[World.cell?_alloc_at _ _ _ _ (by simp)];rfl)
  (by rw[cell?_alloc_lt _ _ t (by simp;omega),cell?_alloc_lt _ _ t (by simp;omega),cell?_alloc_lt _ _ t (by simp;omega),cell?_alloc_lt _ _ t (by simp;omega),cell?_alloc_lt _ _ t b];exact d)
  (by rw[frozen?_alloc_old _ _ t (by simp;omega),frozen?_alloc_old _ _ t (by simp;omega),frozen?_alloc_old _ _ t (by simp;omega),frozen?_alloc_old _ _ t (by simp;omega),frozen?_alloc_old _ _ t (Nat.ne_of_lt b)];exact i)
 go_enter func34,ntmps34
 go_wp2;refine wp_loop_rounds 2 ?_;rw[rounds_succ];go_wp2_with (first|(go_at_call 395;refine(Ht h n cap c _).mono ?_;rintro e j ⟨rfl,rfl⟩) | go_in)
 rw[rounds_succ];go_wp2;go_ret;exact⟨rfl,rfl⟩
theorem NW(h:Option Addr)(n cap:Nat)(c:Int)(w:World)(g:w.cell? ⟨0,0,none⟩=some iA):Calls prog 14 #[FN h n cap c] w fun e f=>e=.returned (.int .i64 c)/\Below w.heap.size w f:=by
 have a:0<w.heap.size:=block_lt_of_cell? w _ g;have b:(w.alloc (.cells #[.int .i64 0] 25)).cell? ⟨0,0,none⟩=some iA:=by
  rw[cell?_alloc_lt _ _ ⟨0,0,none⟩ a];exact g
 have i:(w.alloc (.cells #[.int .i64 0] 25)).cell? ⟨w.heap.size,0,none⟩=some (.int .i64 0):=by simp
 have d:(w.alloc (.cells #[.int .i64 0] 25)).frozen? ⟨w.heap.size,0,none⟩=false:=by simp
 go_enter func14,ntmps14
 go_wp2_with fail
 refine(Yn h n cap c _ (.int .i64 0) _ b i d).mono ?_;rintro e f ⟨rfl,rfl⟩;go_wp2_with fail
 go_ret;refine⟨rfl,?_⟩
 repeat first|exact Below.refl _ _|refine Below.alloc ?_ (by simp<;>omega) _
abbrev atv(x:Nat):Value:=.iface 352 (.pointer (some ⟨x,0,none⟩))
def Nt(w:World)(x:Nat)(c p:Int):Prop:=w.cell? ⟨x,0,none⟩=some (.int .i64 c)/\w.cell? ⟨x,1,none⟩=some (.int .i64 p)
theorem Tryz.VX(v:Value)(w:World):(ReflectliteType.typeOf #[.iface 352 v]).run prog w=.ok (.iface 208 (.agg #[.pointer (some ⟨9,352,none⟩)])) w:=by kernel_rfl
theorem Tryz.IK(w:World):(ReflectliteType.relation "AssignableTo" ReflectliteType.assignableTo #[.agg #[.pointer (some ⟨9,352,none⟩)],.iface 208 (.agg #[.pointer (some ⟨9,25,none⟩)])]).run prog w=.ok (.bool false) w:=by kernel_rfl
theorem Tryz.afe(v:Value)(a:TypeId)(w:World):(Instr.typeAssert (.iface 352 v) a 213 true).run prog w=.ok (.tuple #[.nilIface,.bool false]) w:=
 run_typeAssert_lacksB Tryz.underlying213 (by kernel_rfl) (by kernel_rfl) v a w
theorem Tryz.PD(v:Value)(a:TypeId)(w:World):(Instr.typeAssert (.iface 352 v) a 216 true).run prog w=.ok (.tuple #[.iface 352 v,.bool true]) w:=
 run_typeAssert_hasB Tryz.underlying216 (by kernel_rfl) v a w
theorem Tryz.E5(h:Value)(w:World):(Go.method 512 352 h "Unwrap").run prog w=.ok (415,h) w:=by kernel_rfl
theorem NM(x:Nat)(c p:Int)(w:World)(h:Nt w x c p):Calls prog 415 #[.pointer (some ⟨x,0,none⟩)] w fun e a=>e=.returned (eno c)/\a=w:=by
 have b:=h.1;go_enter Tryz.func415,Tryz.ntmps415
 go_wp2;go_ret;exact⟨rfl,rfl⟩
theorem adx(x:Nat)(c p:Int)(t:Addr)(a:Value)(w:World)(j:Nt w x c p)(m:w.cell? ⟨0,0,none⟩=some iA)(f:w.cell? t=some a)(k:w.frozen? t=false):Calls prog 34 #[atv x,.iface 90 (.pointer (some t))] w fun D l=>D=.returned (.bool true)/\l=((((w.alloc (.cells #[.pointer (some t)] 90)).alloc (.cells #[.pointer (some ⟨9,90,none⟩),.pointer (some ⟨w.heap.size,0,none⟩),.int .u64 150] 143)).alloc (.cells #[.pointer (some ⟨9,90,none⟩),.pointer (some ⟨w.heap.size,0,none⟩),.int .u64 150] 143)).alloc (.cells #[.int .i64 c] 25)).setCell t (.int .i64 c):=by
 have q:=@run_callFunc_extern prog 79 _ (fun h=>ReflectliteValue.unpack (h.getD 0 (.tuple #[]))) func79 (by kernel_rfl) (by kernel_rfl) (by kernel_rfl) (by kernel_rfl);have r:=@run_callFunc_extern prog 80 _ (ReflectliteValue.methodAny (ReflectliteValue.valueError "reflectlite.Value.Type" 0) (fun t _ _ _=>ReflectliteType.toType t)) func80 (by kernel_rfl) (by kernel_rfl) (by kernel_rfl) (by kernel_rfl);have y:=@run_callFunc_extern prog 81 _ (ReflectliteValue.method (ReflectliteValue.valueError "reflectlite.Value.IsNil" 0) ReflectliteValue.isNil) func81 (by kernel_rfl) (by kernel_rfl) (by kernel_rfl) (by kernel_rfl);have z:=@run_callFunc_extern prog 389 _ (ReflectliteType.abiMethod fun t=>do pure (.int .u8 (<-Rtype.kind t))) func389 (by kernel_rfl) (by kernel_rfl) (by kernel_rfl) (by kernel_rfl);have v:=@run_callFunc_extern prog 402 _ (ReflectliteType.method ReflectliteType.elem) func402 (by kernel_rfl) (by kernel_rfl) (by kernel_rfl) (by kernel_rfl);have A:=@run_callFunc_extern prog 403 _ (ReflectliteType.relation "Implements" ReflectliteType.implements_) func403 (by kernel_rfl) (by kernel_rfl) (by kernel_rfl) (by kernel_rfl);have s:=@run_callFunc_extern prog 134 _ ReflectliteType.typeOf func134 (by kernel_rfl) (by kernel_rfl) (by kernel_rfl) (by kernel_rfl);have C:=@run_callFunc_extern prog 400 _ (ReflectliteType.relation "AssignableTo" ReflectliteType.assignableTo) func400 (by kernel_rfl) (by kernel_rfl) (by kernel_rfl) (by kernel_rfl);have B:=@run_callFunc_extern prog 135 _ (ReflectliteValue.method (ReflectliteValue.valueError "reflectlite.Value.Elem" 0) ReflectliteValue.elem) func135 (by kernel_rfl) (by kernel_rfl) (by kernel_rfl) (by kernel_rfl);have u:=@run_callFunc_extern prog 136 _ ReflectliteValue.set func136 (by kernel_rfl) (by kernel_rfl) (by kernel_rfl) (by kernel_rfl);have F:=Tryz.D8;have G:=Tryz.VX;have N:=Tryz.ja;have W:=Tryz.qR;have X:=Tryz.IK;have n:=Tryz.afe;have R:=Tryz.PD;have J:=Tryz.E5;have E:=Tryz.zn;have T:=Tryz.zm;have S:=Tryz.Q6;have K:=Tryz.tC;have M:=Tryz.tF;have L:=Tryz.jV;have O:=Tryz.Rk;have P:=Tryz.Rl;have V:=Tryz.Rt;have Q:=Tryz.qP;have I:=Tryz.Jz ⟨w.heap.size,0,none⟩ t ((w.alloc (.cells #[.pointer (some t)] 90)).alloc (.cells #[.pointer (some ⟨9,90,none⟩),.pointer (some ⟨w.heap.size,0,none⟩),.int .u64 150] 143)) (by simp);have g:0<w.heap.size:=block_lt_of_cell? w _ m;have o:((w.alloc (.cells #[.pointer (some t)] 90)).alloc (.cells #[.pointer (some ⟨9,90,none⟩),.pointer (some ⟨w.heap.size,0,none⟩),.int .u64 150] 143)).cell? ⟨0,0,none⟩=some (.iface 208 (.agg #[.pointer (some ⟨9,28,none⟩)])):=by
  rw[cell?_alloc_lt _ _ ⟨0,0,none⟩ (by rw[size_alloc];exact Nat.lt_succ_of_lt g),cell?_alloc_lt _ _ ⟨0,0,none⟩ g];exact m
 have d:t.block<w.heap.size:=block_lt_of_cell? w _ f;have b:x<w.heap.size:=block_lt_of_cell? w _ j.1;have i:Nt (((w.alloc (.cells #[.pointer (some t)] 90)).alloc (.cells #[.pointer (some ⟨9,90,none⟩),.pointer (some ⟨w.heap.size,0,none⟩),.int .u64 150] 143)).alloc (.cells #[.pointer (some ⟨9,90,none⟩),.pointer (some ⟨w.heap.size,0,none⟩),.int .u64 150] 143)) x c p:=by
  constructor
  ·rw[cell?_alloc_lt _ _ ⟨x,0,none⟩ (by simp;omega),cell?_alloc_lt _ _ ⟨x,0,none⟩ (by simp;omega),cell?_alloc_lt _ _ ⟨x,0,none⟩ b];exact j.1
  ·rw[cell?_alloc_lt _ _ ⟨x,1,none⟩ (by simp;omega),cell?_alloc_lt _ _ ⟨x,1,none⟩ (by simp;omega),cell?_alloc_lt _ _ ⟨x,1,none⟩ b];exact j.2
 have U:=Tryz.JB ⟨w.heap.size,0,none⟩ t (((w.alloc (.cells #[.pointer (some t)] 90)).alloc (.cells #[.pointer (some ⟨9,90,none⟩),.pointer (some ⟨w.heap.size,0,none⟩),.int .u64 150] 143)).alloc (.cells #[.pointer (some ⟨9,90,none⟩),.pointer (some ⟨w.heap.size,0,none⟩),.int .u64 150] 143)) (by rw[cell?_alloc_lt _ _ ⟨w.heap.size,0,none⟩ (by simp;omega)];simp);have H:=Tryz.ZA t ⟨w.heap.size+1+1+1,0,none⟩ c a ((((w.alloc (.cells #[.pointer (some t)] 90)).alloc (.cells #[.pointer (some ⟨9,90,none⟩),.pointer (some ⟨w.heap.size,0,none⟩),.int .u64 150] 143)).alloc (.cells #[.pointer (some ⟨9,90,none⟩),.pointer (some ⟨w.heap.size,0,none⟩),.int .u64 150] 143)).alloc (.cells #[.int .i64 c] 25))
  (by rw[World.cell?_alloc_at _ _ _ _ (by simp)];rfl)
  (by rw[cell?_alloc_lt _ _ t (by simp;omega),cell?_alloc_lt _ _ t (by simp;omega),cell?_alloc_lt _ _ t (by simp;omega),cell?_alloc_lt _ _ t d];exact f)
  (by rw[frozen?_alloc_old _ _ t (by simp;omega),frozen?_alloc_old _ _ t (by simp;omega),frozen?_alloc_old _ _ t (by simp;omega),frozen?_alloc_old _ _ t (Nat.ne_of_lt d)];exact k)
 go_enter func34,ntmps34
 go_wp2;refine wp_loop_rounds 2 ?_;rw[rounds_succ];go_wp2_with (first|(go_at_call 415;refine(NM x c p _ i).mono ?_;rintro e l ⟨rfl,rfl⟩) | go_in)
 rw[rounds_succ];go_wp2;go_ret;exact⟨rfl,rfl⟩
theorem V7(x:Nat)(c p:Int)(w:World)(d:Nt w x c p)(j:w.cell? ⟨0,0,none⟩=some iA):Calls prog 14 #[atv x] w fun e i=>e=.returned (.int .i64 c)/\Below w.heap.size w i:=by
 have f:0<w.heap.size:=block_lt_of_cell? w _ j;have a:x<w.heap.size:=block_lt_of_cell? w _ d.1;have g:(w.alloc (.cells #[.int .i64 0] 25)).cell? ⟨0,0,none⟩=some iA:=by
  rw[cell?_alloc_lt _ _ ⟨0,0,none⟩ f];exact j
 have b:Nt (w.alloc (.cells #[.int .i64 0] 25)) x c p:=by
  constructor
  ·rw[cell?_alloc_lt _ _ ⟨x,0,none⟩ a];exact d.1
  ·rw[cell?_alloc_lt _ _ ⟨x,1,none⟩ a];exact d.2
 have k:(w.alloc (.cells #[.int .i64 0] 25)).cell? ⟨w.heap.size,0,none⟩=some (.int .i64 0):=by simp
 have h:(w.alloc (.cells #[.int .i64 0] 25)).frozen? ⟨w.heap.size,0,none⟩=false:=by simp
 go_enter func14,ntmps14
 go_wp2_with fail
 refine(adx x c p _ (.int .i64 0) _ b g k h).mono ?_;rintro e i ⟨rfl,rfl⟩;go_wp2_with fail
 go_ret;refine⟨rfl,?_⟩
 repeat first|exact Below.refl _ _|refine Below.alloc ?_ (by simp<;>omega) _
end Go.Proofs.YtippochapiolpaaGreatDoor

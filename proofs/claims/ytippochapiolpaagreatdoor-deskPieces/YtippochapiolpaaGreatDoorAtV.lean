/- An error for which some went: what errors.As and api.Tell answer of it. -/
import Derived.Test.YtippochapiolpaaGreatDoorTell
import Derived.Test.YtippochapiolpaaGreatDoorSKeys
import Derived.BigQuiet
import Derived.Deep.QuietTactic
set_option maxHeartbeats 4000000
namespace Go.Proofs.YtippochapiolpaaGreatDoor
open Go.RowKit Go.Extern.Stop Go.Stop Go.Extern
abbrev FN (ad:Option Addr) (n cap:Nat) (c:Int):Value:=.iface 48 (.agg #[.slice ad n cap,eQ c])
theorem Tryz.V6 (v:Value) (w:World):(ReflectliteType.typeOf #[.iface 48 v]).run Tryz.prog w=.ok (.iface 208 (.agg #[.pointer (some ⟨9,48,none⟩)])) w:=by kernel_rfl
theorem Tryz.IJ (w:World):(ReflectliteType.relation "AssignableTo" ReflectliteType.assignableTo #[.agg #[.pointer (some ⟨9,48,none⟩)],.iface 208 (.agg #[.pointer (some ⟨9,25,none⟩)])]).run Tryz.prog w=.ok (.bool false) w:=by kernel_rfl
theorem Tryz.adi (v:Value) (xT:TypeId) (w:World):(Instr.typeAssert (.iface 48 v) xT 213 true).run Tryz.prog w=.ok (.tuple #[.nilIface,.bool false]) w:=
 run_typeAssert_lacksB Tryz.underlying213 (by kernel_rfl) (by kernel_rfl) v xT w
theorem Tryz.Kw (v:Value) (xT:TypeId) (w:World):(Instr.typeAssert (.iface 48 v) xT 216 true).run Tryz.prog w=.ok (.tuple #[.iface 48 v,.bool true]) w:=
 run_typeAssert_hasB Tryz.underlying216 (by kernel_rfl) v xT w
theorem Tryz.BB (h:Value) (w:World):(Go.method 512 48 h "Unwrap").run Tryz.prog w=.ok (395,h) w:=by kernel_rfl
theorem Ht (ad:Option Addr) (n cap:Nat) (c:Int) (w:World) :
 Calls Tryz.prog 395 #[.agg #[.slice ad n cap,eQ c]] w fun e w'=>e=.returned (eQ c)∧w'=w.alloc (.cells #[.slice ad n cap,eQ c] 48):=by
 go_enter Tryz.func395,Tryz.ntmps395
 go_wp2
 go_ret
 exact ⟨rfl,rfl⟩
theorem Yx (ad:Option Addr) (n cap:Nat) (c:Int) (t:Addr) (old:Value) (w:World) (hg:w.cell? ⟨0,0,none⟩=some iB) (ht0:w.cell? t=some old) (hf0:w.frozen? t=false) :
 Calls Tryz.prog 34 #[FN ad n cap c,.iface 90 (.pointer (some t))] w fun ev w'=>ev=.returned (.bool true)∧w'=(((((w.alloc (.cells #[.pointer (some t)] 90)).alloc (.cells #[.pointer (some ⟨9,90,none⟩),.pointer (some ⟨w.heap.size,0,none⟩),.int .u64 150] 143)).alloc (.cells #[.pointer (some ⟨9,90,none⟩),.pointer (some ⟨w.heap.size,0,none⟩),.int .u64 150] 143)).alloc (.cells #[.slice ad n cap,eQ c] 48)).alloc (.cells #[.int .i64 c] 25)).setCell t (.int .i64 c):=by
 have hVO:=@run_callFunc_extern Tryz.prog 79 _ (fun args=>ReflectliteValue.unpack (args.getD 0 (.tuple #[]))) Tryz.func79 (by kernel_rfl) (by kernel_rfl) (by kernel_rfl) (by kernel_rfl)
 have hTY:=@run_callFunc_extern Tryz.prog 80 _ (ReflectliteValue.methodAny (ReflectliteValue.valueError "reflectlite.Value.Type" 0) (fun t _ _ _=>ReflectliteType.toType t)) Tryz.func80 (by kernel_rfl) (by kernel_rfl) (by kernel_rfl) (by kernel_rfl)
 have hNI:=@run_callFunc_extern Tryz.prog 81 _ (ReflectliteValue.method (ReflectliteValue.valueError "reflectlite.Value.IsNil" 0) ReflectliteValue.isNil) Tryz.func81 (by kernel_rfl) (by kernel_rfl) (by kernel_rfl) (by kernel_rfl)
 have hKI:=@run_callFunc_extern Tryz.prog 389 _ (ReflectliteType.abiMethod fun t=>do pure (.int .u8 (←Rtype.kind t))) Tryz.func389 (by kernel_rfl) (by kernel_rfl) (by kernel_rfl) (by kernel_rfl)
 have hRE:=@run_callFunc_extern Tryz.prog 402 _ (ReflectliteType.method ReflectliteType.elem) Tryz.func402 (by kernel_rfl) (by kernel_rfl) (by kernel_rfl) (by kernel_rfl)
 have hIM:=@run_callFunc_extern Tryz.prog 403 _ (ReflectliteType.relation "Implements" ReflectliteType.implements_) Tryz.func403 (by kernel_rfl) (by kernel_rfl) (by kernel_rfl) (by kernel_rfl)
 have hTO:=@run_callFunc_extern Tryz.prog 134 _ ReflectliteType.typeOf Tryz.func134 (by kernel_rfl) (by kernel_rfl) (by kernel_rfl) (by kernel_rfl)
 have hAT:=@run_callFunc_extern Tryz.prog 400 _ (ReflectliteType.relation "AssignableTo" ReflectliteType.assignableTo) Tryz.func400 (by kernel_rfl) (by kernel_rfl) (by kernel_rfl) (by kernel_rfl)
 have hEL:=@run_callFunc_extern Tryz.prog 135 _ (ReflectliteValue.method (ReflectliteValue.valueError "reflectlite.Value.Elem" 0) ReflectliteValue.elem) Tryz.func135 (by kernel_rfl) (by kernel_rfl) (by kernel_rfl) (by kernel_rfl)
 have hST:=@run_callFunc_extern Tryz.prog 136 _ ReflectliteValue.set Tryz.func136 (by kernel_rfl) (by kernel_rfl) (by kernel_rfl) (by kernel_rfl)
 have tO:=Tryz.D8
 have tA:=Tryz.V6
 have mA:=Tryz.jb
 have aE:=Tryz.qR
 have aA:=Tryz.IJ
 have nAs:=Tryz.adi
 have hU:=Tryz.Kw
 have mU:=Tryz.BB
 have vE:=Tryz.zn
 have f6:=Tryz.zm
 have f7:=Tryz.Q7
 have mK:=Tryz.tC
 have mE:=Tryz.tF
 have mI:=Tryz.jV
 have kT:=Tryz.Rl
 have kE:=Tryz.Rm
 have eT:=Tryz.Ru
 have iE:=Tryz.qP
 have n8:=Tryz.Jz ⟨w.heap.size,0,none⟩ t ((w.alloc (.cells #[.pointer (some t)] 90)).alloc (.cells #[.pointer (some ⟨9,90,none⟩),.pointer (some ⟨w.heap.size,0,none⟩),.int .u64 150] 143)) (by simp)
 have hlt:0<w.heap.size:=World.block_lt_of_cell? w _ hg
 have hg2:((w.alloc (.cells #[.pointer (some t)] 90)).alloc (.cells #[.pointer (some ⟨9,90,none⟩),.pointer (some ⟨w.heap.size,0,none⟩),.int .u64 150] 143)).cell? ⟨0,0,none⟩=some (.iface 208 (.agg #[.pointer (some ⟨9,28,none⟩)])):=by
  rw [World.cell?_alloc_lt _ _ ⟨0,0,none⟩ (by rw [World.size_alloc];exact Nat.lt_succ_of_lt hlt),World.cell?_alloc_lt _ _ ⟨0,0,none⟩ hlt];exact hg
 have htl:t.block<w.heap.size:=World.block_lt_of_cell? w _ ht0
 have el:=Tryz.JB ⟨w.heap.size,0,none⟩ t ((((w.alloc (.cells #[.pointer (some t)] 90)).alloc (.cells #[.pointer (some ⟨9,90,none⟩),.pointer (some ⟨w.heap.size,0,none⟩),.int .u64 150] 143)).alloc (.cells #[.pointer (some ⟨9,90,none⟩),.pointer (some ⟨w.heap.size,0,none⟩),.int .u64 150] 143)).alloc (.cells #[.slice ad n cap,eQ c] 48)) (by rw [World.cell?_alloc_lt _ _ ⟨w.heap.size,0,none⟩ (by simp;omega),World.cell?_alloc_lt _ _ ⟨w.heap.size,0,none⟩ (by simp;omega)];simp)
 have st:=Tryz.ZK t ⟨w.heap.size+1+1+1+1,0,none⟩ c old (((((w.alloc (.cells #[.pointer (some t)] 90)).alloc (.cells #[.pointer (some ⟨9,90,none⟩),.pointer (some ⟨w.heap.size,0,none⟩),.int .u64 150] 143)).alloc (.cells #[.pointer (some ⟨9,90,none⟩),.pointer (some ⟨w.heap.size,0,none⟩),.int .u64 150] 143)).alloc (.cells #[.slice ad n cap,eQ c] 48)).alloc (.cells #[.int .i64 c] 25))
  (by rw [World.cell?_alloc_at _ _ _ _ (by simp)];rfl)
  (by rw [World.cell?_alloc_lt _ _ t (by simp;omega),World.cell?_alloc_lt _ _ t (by simp;omega),World.cell?_alloc_lt _ _ t (by simp;omega),World.cell?_alloc_lt _ _ t (by simp;omega),World.cell?_alloc_lt _ _ t htl];exact ht0)
  (by rw [World.frozen?_alloc_old _ _ t (by simp;omega),World.frozen?_alloc_old _ _ t (by simp;omega),World.frozen?_alloc_old _ _ t (by simp;omega),World.frozen?_alloc_old _ _ t (by simp;omega),World.frozen?_alloc_old _ _ t (Nat.ne_of_lt htl)];exact hf0)
 go_enter Tryz.func34,Tryz.ntmps34
 go_wp2
 refine wp_loop_rounds 2 ?_
 rw [rounds_succ]
 go_wp2_with (first|(go_at_call 395;refine (Ht ad n cap c _).mono ?_;rintro e w' ⟨rfl,rfl⟩) | go_in)
 rw [rounds_succ]
 go_wp2
 go_ret
 exact ⟨rfl,rfl⟩
theorem NY (ad:Option Addr) (n cap:Nat) (c:Int) (w:World) (hg:w.cell? ⟨0,0,none⟩=some iB):Calls Tryz.prog 14 #[FN ad n cap c] w fun e w'=>e=.returned (.int .i64 c)∧Below w.heap.size w w':=by
 have hlt:0<w.heap.size:=World.block_lt_of_cell? w _ hg
 have hgA:(w.alloc (.cells #[.int .i64 0] 25)).cell? ⟨0,0,none⟩=some iB:=by
  rw [World.cell?_alloc_lt _ _ ⟨0,0,none⟩ hlt];exact hg
 have Zx:(w.alloc (.cells #[.int .i64 0] 25)).cell? ⟨w.heap.size,0,none⟩=some (.int .i64 0):=by simp
 have hfA:(w.alloc (.cells #[.int .i64 0] 25)).frozen? ⟨w.heap.size,0,none⟩=false:=by simp
 go_enter Tryz.func14,Tryz.ntmps14
 go_wp2_with fail
 refine (Yx ad n cap c _ (.int .i64 0) _ hgA Zx hfA).mono ?_
 rintro e w' ⟨rfl,rfl⟩
 go_wp2_with fail
 go_ret
 refine ⟨rfl,?_⟩
 repeat first|exact Below.refl _ _|refine Below.alloc ?_ (by simp<;>omega) _
abbrev atv (x:Nat):Value:=.iface 352 (.pointer (some ⟨x,0,none⟩))
def Nu (w:World) (x:Nat) (c p:Int):Prop:=w.cell? ⟨x,0,none⟩=some (.int .i64 c)∧w.cell? ⟨x,1,none⟩=some (.int .i64 p)
theorem Tryz.V7 (v:Value) (w:World):(ReflectliteType.typeOf #[.iface 352 v]).run Tryz.prog w=.ok (.iface 208 (.agg #[.pointer (some ⟨9,352,none⟩)])) w:=by kernel_rfl
theorem Tryz.IK (w:World):(ReflectliteType.relation "AssignableTo" ReflectliteType.assignableTo #[.agg #[.pointer (some ⟨9,352,none⟩)],.iface 208 (.agg #[.pointer (some ⟨9,25,none⟩)])]).run Tryz.prog w=.ok (.bool false) w:=by kernel_rfl
theorem Tryz.afo (v:Value) (xT:TypeId) (w:World):(Instr.typeAssert (.iface 352 v) xT 213 true).run Tryz.prog w=.ok (.tuple #[.nilIface,.bool false]) w:=
 run_typeAssert_lacksB Tryz.underlying213 (by kernel_rfl) (by kernel_rfl) v xT w
theorem Tryz.PE (v:Value) (xT:TypeId) (w:World):(Instr.typeAssert (.iface 352 v) xT 216 true).run Tryz.prog w=.ok (.tuple #[.iface 352 v,.bool true]) w:=
 run_typeAssert_hasB Tryz.underlying216 (by kernel_rfl) v xT w
theorem Tryz.E5 (h:Value) (w:World):(Go.method 512 352 h "Unwrap").run Tryz.prog w=.ok (415,h) w:=by kernel_rfl
theorem NN (x:Nat) (c p:Int) (w:World) (h:Nu w x c p) :
 Calls Tryz.prog 415 #[.pointer (some ⟨x,0,none⟩)] w fun e w'=>e=.returned (eno c)∧w'=w:=by
 have h0:=h.1
 go_enter Tryz.func415,Tryz.ntmps415
 go_wp2
 go_ret
 exact ⟨rfl,rfl⟩
theorem adH (x:Nat) (c p:Int) (t:Addr) (old:Value) (w:World) (hx:Nu w x c p) (hg:w.cell? ⟨0,0,none⟩=some iB) (ht0:w.cell? t=some old) (hf0:w.frozen? t=false) :
 Calls Tryz.prog 34 #[atv x,.iface 90 (.pointer (some t))] w fun ev w'=>ev=.returned (.bool true)∧w'=((((w.alloc (.cells #[.pointer (some t)] 90)).alloc (.cells #[.pointer (some ⟨9,90,none⟩),.pointer (some ⟨w.heap.size,0,none⟩),.int .u64 150] 143)).alloc (.cells #[.pointer (some ⟨9,90,none⟩),.pointer (some ⟨w.heap.size,0,none⟩),.int .u64 150] 143)).alloc (.cells #[.int .i64 c] 25)).setCell t (.int .i64 c):=by
 have hVO:=@run_callFunc_extern Tryz.prog 79 _ (fun args=>ReflectliteValue.unpack (args.getD 0 (.tuple #[]))) Tryz.func79 (by kernel_rfl) (by kernel_rfl) (by kernel_rfl) (by kernel_rfl)
 have hTY:=@run_callFunc_extern Tryz.prog 80 _ (ReflectliteValue.methodAny (ReflectliteValue.valueError "reflectlite.Value.Type" 0) (fun t _ _ _=>ReflectliteType.toType t)) Tryz.func80 (by kernel_rfl) (by kernel_rfl) (by kernel_rfl) (by kernel_rfl)
 have hNI:=@run_callFunc_extern Tryz.prog 81 _ (ReflectliteValue.method (ReflectliteValue.valueError "reflectlite.Value.IsNil" 0) ReflectliteValue.isNil) Tryz.func81 (by kernel_rfl) (by kernel_rfl) (by kernel_rfl) (by kernel_rfl)
 have hKI:=@run_callFunc_extern Tryz.prog 389 _ (ReflectliteType.abiMethod fun t=>do pure (.int .u8 (←Rtype.kind t))) Tryz.func389 (by kernel_rfl) (by kernel_rfl) (by kernel_rfl) (by kernel_rfl)
 have hRE:=@run_callFunc_extern Tryz.prog 402 _ (ReflectliteType.method ReflectliteType.elem) Tryz.func402 (by kernel_rfl) (by kernel_rfl) (by kernel_rfl) (by kernel_rfl)
 have hIM:=@run_callFunc_extern Tryz.prog 403 _ (ReflectliteType.relation "Implements" ReflectliteType.implements_) Tryz.func403 (by kernel_rfl) (by kernel_rfl) (by kernel_rfl) (by kernel_rfl)
 have hTO:=@run_callFunc_extern Tryz.prog 134 _ ReflectliteType.typeOf Tryz.func134 (by kernel_rfl) (by kernel_rfl) (by kernel_rfl) (by kernel_rfl)
 have hAT:=@run_callFunc_extern Tryz.prog 400 _ (ReflectliteType.relation "AssignableTo" ReflectliteType.assignableTo) Tryz.func400 (by kernel_rfl) (by kernel_rfl) (by kernel_rfl) (by kernel_rfl)
 have hEL:=@run_callFunc_extern Tryz.prog 135 _ (ReflectliteValue.method (ReflectliteValue.valueError "reflectlite.Value.Elem" 0) ReflectliteValue.elem) Tryz.func135 (by kernel_rfl) (by kernel_rfl) (by kernel_rfl) (by kernel_rfl)
 have hST:=@run_callFunc_extern Tryz.prog 136 _ ReflectliteValue.set Tryz.func136 (by kernel_rfl) (by kernel_rfl) (by kernel_rfl) (by kernel_rfl)
 have tO:=Tryz.D8
 have tA:=Tryz.V7
 have mA:=Tryz.jb
 have aE:=Tryz.qR
 have aA:=Tryz.IK
 have nAs:=Tryz.afo
 have hU:=Tryz.PE
 have mU:=Tryz.E5
 have vE:=Tryz.zn
 have f6:=Tryz.zm
 have f7:=Tryz.Q7
 have mK:=Tryz.tC
 have mE:=Tryz.tF
 have mI:=Tryz.jV
 have kT:=Tryz.Rl
 have kE:=Tryz.Rm
 have eT:=Tryz.Ru
 have iE:=Tryz.qP
 have n8:=Tryz.Jz ⟨w.heap.size,0,none⟩ t ((w.alloc (.cells #[.pointer (some t)] 90)).alloc (.cells #[.pointer (some ⟨9,90,none⟩),.pointer (some ⟨w.heap.size,0,none⟩),.int .u64 150] 143)) (by simp)
 have hlt:0<w.heap.size:=World.block_lt_of_cell? w _ hg
 have hg2:((w.alloc (.cells #[.pointer (some t)] 90)).alloc (.cells #[.pointer (some ⟨9,90,none⟩),.pointer (some ⟨w.heap.size,0,none⟩),.int .u64 150] 143)).cell? ⟨0,0,none⟩=some (.iface 208 (.agg #[.pointer (some ⟨9,28,none⟩)])):=by
  rw [World.cell?_alloc_lt _ _ ⟨0,0,none⟩ (by rw [World.size_alloc];exact Nat.lt_succ_of_lt hlt),World.cell?_alloc_lt _ _ ⟨0,0,none⟩ hlt];exact hg
 have htl:t.block<w.heap.size:=World.block_lt_of_cell? w _ ht0
 have hxl:x<w.heap.size:=World.block_lt_of_cell? w _ hx.1
 have hxx:Nu (((w.alloc (.cells #[.pointer (some t)] 90)).alloc (.cells #[.pointer (some ⟨9,90,none⟩),.pointer (some ⟨w.heap.size,0,none⟩),.int .u64 150] 143)).alloc (.cells #[.pointer (some ⟨9,90,none⟩),.pointer (some ⟨w.heap.size,0,none⟩),.int .u64 150] 143)) x c p:=by
  constructor
  ·rw [World.cell?_alloc_lt _ _ ⟨x,0,none⟩ (by simp;omega),World.cell?_alloc_lt _ _ ⟨x,0,none⟩ (by simp;omega),World.cell?_alloc_lt _ _ ⟨x,0,none⟩ hxl];exact hx.1
  ·rw [World.cell?_alloc_lt _ _ ⟨x,1,none⟩ (by simp;omega),World.cell?_alloc_lt _ _ ⟨x,1,none⟩ (by simp;omega),World.cell?_alloc_lt _ _ ⟨x,1,none⟩ hxl];exact hx.2
 have el:=Tryz.JB ⟨w.heap.size,0,none⟩ t (((w.alloc (.cells #[.pointer (some t)] 90)).alloc (.cells #[.pointer (some ⟨9,90,none⟩),.pointer (some ⟨w.heap.size,0,none⟩),.int .u64 150] 143)).alloc (.cells #[.pointer (some ⟨9,90,none⟩),.pointer (some ⟨w.heap.size,0,none⟩),.int .u64 150] 143)) (by rw [World.cell?_alloc_lt _ _ ⟨w.heap.size,0,none⟩ (by simp;omega)];simp)
 have st:=Tryz.ZK t ⟨w.heap.size+1+1+1,0,none⟩ c old ((((w.alloc (.cells #[.pointer (some t)] 90)).alloc (.cells #[.pointer (some ⟨9,90,none⟩),.pointer (some ⟨w.heap.size,0,none⟩),.int .u64 150] 143)).alloc (.cells #[.pointer (some ⟨9,90,none⟩),.pointer (some ⟨w.heap.size,0,none⟩),.int .u64 150] 143)).alloc (.cells #[.int .i64 c] 25))
  (by rw [World.cell?_alloc_at _ _ _ _ (by simp)];rfl)
  (by rw [World.cell?_alloc_lt _ _ t (by simp;omega),World.cell?_alloc_lt _ _ t (by simp;omega),World.cell?_alloc_lt _ _ t (by simp;omega),World.cell?_alloc_lt _ _ t htl];exact ht0)
  (by rw [World.frozen?_alloc_old _ _ t (by simp;omega),World.frozen?_alloc_old _ _ t (by simp;omega),World.frozen?_alloc_old _ _ t (by simp;omega),World.frozen?_alloc_old _ _ t (Nat.ne_of_lt htl)];exact hf0)
 go_enter Tryz.func34,Tryz.ntmps34
 go_wp2
 refine wp_loop_rounds 2 ?_
 rw [rounds_succ]
 go_wp2_with (first|(go_at_call 415;refine (NN x c p _ hxx).mono ?_;rintro e w' ⟨rfl,rfl⟩) | go_in)
 rw [rounds_succ]
 go_wp2
 go_ret
 exact ⟨rfl,rfl⟩
theorem Wi (x:Nat) (c p:Int) (w:World) (hx:Nu w x c p) (hg:w.cell? ⟨0,0,none⟩=some iB):Calls Tryz.prog 14 #[atv x] w fun e w'=>e=.returned (.int .i64 c)∧Below w.heap.size w w':=by
 have hlt:0<w.heap.size:=World.block_lt_of_cell? w _ hg
 have hxl:x<w.heap.size:=World.block_lt_of_cell? w _ hx.1
 have hgA:(w.alloc (.cells #[.int .i64 0] 25)).cell? ⟨0,0,none⟩=some iB:=by
  rw [World.cell?_alloc_lt _ _ ⟨0,0,none⟩ hlt];exact hg
 have hxA:Nu (w.alloc (.cells #[.int .i64 0] 25)) x c p:=by
  constructor
  ·rw [World.cell?_alloc_lt _ _ ⟨x,0,none⟩ hxl];exact hx.1
  ·rw [World.cell?_alloc_lt _ _ ⟨x,1,none⟩ hxl];exact hx.2
 have Zx:(w.alloc (.cells #[.int .i64 0] 25)).cell? ⟨w.heap.size,0,none⟩=some (.int .i64 0):=by simp
 have hfA:(w.alloc (.cells #[.int .i64 0] 25)).frozen? ⟨w.heap.size,0,none⟩=false:=by simp
 go_enter Tryz.func14,Tryz.ntmps14
 go_wp2_with fail
 refine (adH x c p _ (.int .i64 0) _ hxA hgA Zx hfA).mono ?_
 rintro e w' ⟨rfl,rfl⟩
 go_wp2_with fail
 go_ret
 refine ⟨rfl,?_⟩
 repeat first|exact Below.refl _ _|refine Below.alloc ?_ (by simp<;>omega) _
end Go.Proofs.YtippochapiolpaaGreatDoor

/- What errors.As, api.Tell, plain.Place and the statements' own 'is' answer of an error with a place, by their Go texts. -/
import Derived.Test.YtcfhanoekniaaaaGreatDoorTell
import Derived.BigQuiet
import Derived.Deep.QuietTactic
set_option maxHeartbeats 4000000
namespace Go.Proofs.YtcfhanoekniaaaaGreatDoor
open Go.RowKit Go.Extern.Stop Go.Stop Go.Extern
abbrev Wz (x:Nat):Value:=.iface 362 (.pointer (some ⟨x,0,none⟩))
def Jw (w:World) (x:Nat) (c p:Int):Prop:=w.cell? ⟨x,0,none⟩=some (.int .i64 c)∧w.cell? ⟨x,1,none⟩=some (.int .i64 p)
theorem Tryz.QW (v:Value) (w:World):(ReflectliteType.typeOf #[.iface 362 v]).run Tryz.prog w=.ok (.iface 350 (.agg #[.pointer (some ⟨7,362,none⟩)])) w:=by kernel_rfl
theorem Tryz.EU (w:World):(ReflectliteType.relation "AssignableTo" ReflectliteType.assignableTo #[.agg #[.pointer (some ⟨7,362,none⟩)],.iface 350 (.agg #[.pointer (some ⟨7,36,none⟩)])]).run Tryz.prog w=.ok (.bool false) w:=by kernel_rfl
theorem Tryz.ZO (v:Value) (xT:TypeId) (w:World):(Instr.typeAssert (.iface 362 v) xT 355 true).run Tryz.prog w=.ok (.tuple #[.nilIface,.bool false]) w:=
 run_typeAssert_lacksB Tryz.underlying355 (by kernel_rfl) (by kernel_rfl) v xT w
theorem Tryz.K7 (v:Value) (xT:TypeId) (w:World):(Instr.typeAssert (.iface 362 v) xT 358 true).run Tryz.prog w=.ok (.tuple #[.iface 362 v,.bool true]) w:=
 run_typeAssert_hasB Tryz.underlying358 (by kernel_rfl) v xT w
theorem Tryz.Ct (h:Value) (w:World):(Go.method 605 362 h "Unwrap").run Tryz.prog w=.ok (442,h) w:=by kernel_rfl
theorem JQ (x:Nat) (c p:Int) (w:World) (h:Jw w x c p) :
 Calls Tryz.prog 442 #[.pointer (some ⟨x,0,none⟩)] w fun e w'=>e=.returned (Zq c)∧w'=w:=by
 have h0:=h.1
 go_enter Tryz.func442,Tryz.ntmps442
 go_wp2
 go_ret
 exact ⟨rfl,rfl⟩
theorem Ya (x:Nat) (c p:Int) (t:Addr) (old:Value) (w:World) (hx:Jw w x c p) (hg:w.cell? ⟨0,0,none⟩=some fJ) (ht0:w.cell? t=some old) (hf0:w.frozen? t=false) :
 Calls Tryz.prog 62 #[Wz x,.iface 121 (.pointer (some t))] w fun ev w'=>ev=.returned (.bool true)∧w'=((((w.alloc (.cells #[.pointer (some t)] 121)).alloc (.cells #[.pointer (some ⟨7,121,none⟩),.pointer (some ⟨w.heap.size,0,none⟩),.int .u64 150] 247)).alloc (.cells #[.pointer (some ⟨7,121,none⟩),.pointer (some ⟨w.heap.size,0,none⟩),.int .u64 150] 247)).alloc (.cells #[.int .i64 c] 36)).setCell t (.int .i64 c):=by
 have hVO:=@run_callFunc_extern Tryz.prog 152 _ (fun args=>ReflectliteValue.unpack (args.getD 0 (.tuple #[]))) Tryz.func152 (by kernel_rfl) (by kernel_rfl) (by kernel_rfl) (by kernel_rfl)
 have hTY:=@run_callFunc_extern Tryz.prog 153 _ (ReflectliteValue.methodAny (ReflectliteValue.valueError "reflectlite.Value.Type" 0) (fun t _ _ _=>ReflectliteType.toType t)) Tryz.func153 (by kernel_rfl) (by kernel_rfl) (by kernel_rfl) (by kernel_rfl)
 have hNI:=@run_callFunc_extern Tryz.prog 154 _ (ReflectliteValue.method (ReflectliteValue.valueError "reflectlite.Value.IsNil" 0) ReflectliteValue.isNil) Tryz.func154 (by kernel_rfl) (by kernel_rfl) (by kernel_rfl) (by kernel_rfl)
 have hKI:=@run_callFunc_extern Tryz.prog 422 _ (ReflectliteType.abiMethod fun t=>do pure (.int .u8 (←Rtype.kind t))) Tryz.func422 (by kernel_rfl) (by kernel_rfl) (by kernel_rfl) (by kernel_rfl)
 have hRE:=@run_callFunc_extern Tryz.prog 433 _ (ReflectliteType.method ReflectliteType.elem) Tryz.func433 (by kernel_rfl) (by kernel_rfl) (by kernel_rfl) (by kernel_rfl)
 have hIM:=@run_callFunc_extern Tryz.prog 434 _ (ReflectliteType.relation "Implements" ReflectliteType.implements_) Tryz.func434 (by kernel_rfl) (by kernel_rfl) (by kernel_rfl) (by kernel_rfl)
 have hTO:=@run_callFunc_extern Tryz.prog 243 _ ReflectliteType.typeOf Tryz.func243 (by kernel_rfl) (by kernel_rfl) (by kernel_rfl) (by kernel_rfl)
 have hAT:=@run_callFunc_extern Tryz.prog 431 _ (ReflectliteType.relation "AssignableTo" ReflectliteType.assignableTo) Tryz.func431 (by kernel_rfl) (by kernel_rfl) (by kernel_rfl) (by kernel_rfl)
 have hEL:=@run_callFunc_extern Tryz.prog 244 _ (ReflectliteValue.method (ReflectliteValue.valueError "reflectlite.Value.Elem" 0) ReflectliteValue.elem) Tryz.func244 (by kernel_rfl) (by kernel_rfl) (by kernel_rfl) (by kernel_rfl)
 have hST:=@run_callFunc_extern Tryz.prog 245 _ ReflectliteValue.set Tryz.func245 (by kernel_rfl) (by kernel_rfl) (by kernel_rfl) (by kernel_rfl)
 have tO:=Tryz.Ih
 have tA:=Tryz.QW
 have mA:=Tryz.kR
 have aE:=Tryz.vk
 have aA:=Tryz.EU
 have nAs:=Tryz.ZO
 have hU:=Tryz.K7
 have mU:=Tryz.Ct
 have vE:=Tryz.De
 have f6:=Tryz.Dc
 have f7:=Tryz.TB
 have mK:=Tryz.xR
 have mE:=Tryz.xS
 have mI:=Tryz.ng
 have kT:=Tryz.TL
 have kE:=Tryz.TM
 have eT:=Tryz.Ub
 have iE:=Tryz.uX
 have n8:=Tryz.Nv ⟨w.heap.size,0,none⟩ t ((w.alloc (.cells #[.pointer (some t)] 121)).alloc (.cells #[.pointer (some ⟨7,121,none⟩),.pointer (some ⟨w.heap.size,0,none⟩),.int .u64 150] 247)) (by simp)
 have hlt:0<w.heap.size:=World.block_lt_of_cell? w _ hg
 have hg2:((w.alloc (.cells #[.pointer (some t)] 121)).alloc (.cells #[.pointer (some ⟨7,121,none⟩),.pointer (some ⟨w.heap.size,0,none⟩),.int .u64 150] 247)).cell? ⟨0,0,none⟩=some (.iface 350 (.agg #[.pointer (some ⟨7,27,none⟩)])):=by
  rw [World.cell?_alloc_lt _ _ ⟨0,0,none⟩ (by rw [World.size_alloc];exact Nat.lt_succ_of_lt hlt),World.cell?_alloc_lt _ _ ⟨0,0,none⟩ hlt];exact hg
 have htl:t.block<w.heap.size:=World.block_lt_of_cell? w _ ht0
 have hxl:x<w.heap.size:=World.block_lt_of_cell? w _ hx.1
 have hxx:Jw (((w.alloc (.cells #[.pointer (some t)] 121)).alloc (.cells #[.pointer (some ⟨7,121,none⟩),.pointer (some ⟨w.heap.size,0,none⟩),.int .u64 150] 247)).alloc (.cells #[.pointer (some ⟨7,121,none⟩),.pointer (some ⟨w.heap.size,0,none⟩),.int .u64 150] 247)) x c p:=by
  constructor
  ·rw [World.cell?_alloc_lt _ _ ⟨x,0,none⟩ (by simp;omega),World.cell?_alloc_lt _ _ ⟨x,0,none⟩ (by simp;omega),World.cell?_alloc_lt _ _ ⟨x,0,none⟩ hxl];exact hx.1
  ·rw [World.cell?_alloc_lt _ _ ⟨x,1,none⟩ (by simp;omega),World.cell?_alloc_lt _ _ ⟨x,1,none⟩ (by simp;omega),World.cell?_alloc_lt _ _ ⟨x,1,none⟩ hxl];exact hx.2
 have el:=Tryz.NA ⟨w.heap.size,0,none⟩ t (((w.alloc (.cells #[.pointer (some t)] 121)).alloc (.cells #[.pointer (some ⟨7,121,none⟩),.pointer (some ⟨w.heap.size,0,none⟩),.int .u64 150] 247)).alloc (.cells #[.pointer (some ⟨7,121,none⟩),.pointer (some ⟨w.heap.size,0,none⟩),.int .u64 150] 247)) (by rw [World.cell?_alloc_lt _ _ ⟨w.heap.size,0,none⟩ (by simp;omega)];simp)
 have st:=Tryz.Xe t ⟨w.heap.size+1+1+1,0,none⟩ c old ((((w.alloc (.cells #[.pointer (some t)] 121)).alloc (.cells #[.pointer (some ⟨7,121,none⟩),.pointer (some ⟨w.heap.size,0,none⟩),.int .u64 150] 247)).alloc (.cells #[.pointer (some ⟨7,121,none⟩),.pointer (some ⟨w.heap.size,0,none⟩),.int .u64 150] 247)).alloc (.cells #[.int .i64 c] 36))
  (by rw [World.cell?_alloc_at _ _ _ _ (by simp)];rfl)
  (by rw [World.cell?_alloc_lt _ _ t (by simp;omega),World.cell?_alloc_lt _ _ t (by simp;omega),World.cell?_alloc_lt _ _ t (by simp;omega),World.cell?_alloc_lt _ _ t htl];exact ht0)
  (by rw [World.frozen?_alloc_old _ _ t (by simp;omega),World.frozen?_alloc_old _ _ t (by simp;omega),World.frozen?_alloc_old _ _ t (by simp;omega),World.frozen?_alloc_old _ _ t (Nat.ne_of_lt htl)];exact hf0)
 go_enter Tryz.func62,Tryz.ntmps62
 go_wp2
 refine wp_loop_rounds 2 ?_
 rw [rounds_succ]
 go_wp2_with (first|(go_at_call 442;refine (JQ x c p _ hxx).mono ?_;rintro e w' ⟨rfl,rfl⟩) | go_in)
 rw [rounds_succ]
 go_wp2
 go_ret
 exact ⟨rfl,rfl⟩
theorem QY (x:Nat) (c p:Int) (w:World) (hx:Jw w x c p) (hg:w.cell? ⟨0,0,none⟩=some fJ):Calls Tryz.prog 17 #[Wz x] w fun e w'=>e=.returned (.int .i64 c)∧Below w.heap.size w w':=by
 have hlt:0<w.heap.size:=World.block_lt_of_cell? w _ hg
 have hxl:x<w.heap.size:=World.block_lt_of_cell? w _ hx.1
 have hgA:(w.alloc (.cells #[.int .i64 0] 36)).cell? ⟨0,0,none⟩=some fJ:=by
  rw [World.cell?_alloc_lt _ _ ⟨0,0,none⟩ hlt];exact hg
 have hxA:Jw (w.alloc (.cells #[.int .i64 0] 36)) x c p:=by
  constructor
  ·rw [World.cell?_alloc_lt _ _ ⟨x,0,none⟩ hxl];exact hx.1
  ·rw [World.cell?_alloc_lt _ _ ⟨x,1,none⟩ hxl];exact hx.2
 have Y1:(w.alloc (.cells #[.int .i64 0] 36)).cell? ⟨w.heap.size,0,none⟩=some (.int .i64 0):=by simp
 have hfA:(w.alloc (.cells #[.int .i64 0] 36)).frozen? ⟨w.heap.size,0,none⟩=false:=by simp
 go_enter Tryz.func17,Tryz.ntmps17
 go_wp2_with fail
 refine (Ya x c p _ (.int .i64 0) _ hxA hgA Y1 hfA).mono ?_
 rintro e w' ⟨rfl,rfl⟩
 go_wp2_with fail
 go_ret
 refine ⟨rfl,?_⟩
 repeat first|exact Below.refl _ _|refine Below.alloc ?_ (by simp<;>omega) _
end Go.Proofs.YtcfhanoekniaaaaGreatDoor

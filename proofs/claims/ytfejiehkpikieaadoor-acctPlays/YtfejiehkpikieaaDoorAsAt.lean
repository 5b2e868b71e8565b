/- What errors.As, api.Tell, plain.Place and the statements' own 'is' answer of an error with a place, by their Go texts. -/
import Derived.Test.YtfejiehkpikieaaDoorBare
import Derived.BigQuiet
import Derived.Deep.QuietTactic
namespace Go.Proofs.YtfejiehkpikieaaDoor
open Go.RowKit Go.Extern.Stop Go.Stop Go.Extern

/-- An error with a place, which lies at block x. -/
abbrev atv (x : Nat) : Value := .iface 137 (.pointer (some ⟨x, 0, none⟩))
/-- What lies there. -/
def AtIs (w : World) (x : Nat) (c p : Int) : Prop := w.cell? ⟨x, 0, none⟩ = some (.int .i64 c) ∧ w.cell? ⟨x, 1, none⟩ = some (.int .i64 p)

theorem Tryd.typeOfA (v : Value) (w : World) : (ReflectliteType.typeOf #[.iface 137 v]).run Tryd.prog w = .ok (.iface 179 (.agg #[.pointer (some ⟨3, 137, none⟩)])) w := by kernel_rfl
theorem Tryd.assignableA (w : World) : (ReflectliteType.relation "AssignableTo" ReflectliteType.assignableTo #[.agg #[.pointer (some ⟨3, 137, none⟩)], .iface 179 (.agg #[.pointer (some ⟨3, 29, none⟩)])]).run Tryd.prog w = .ok (.bool false) w := by kernel_rfl
theorem Tryd.noAs (v : Value) (xT : TypeId) (w : World) : (Instr.typeAssert (.iface 137 v) xT 184 true).run Tryd.prog w = .ok (.tuple #[.nilIface, .bool false]) w :=
  run_typeAssert_lacksB Tryd.underlying184 (by kernel_rfl) (by kernel_rfl) v xT w
theorem Tryd.hasUnwrap (v : Value) (xT : TypeId) (w : World) : (Instr.typeAssert (.iface 137 v) xT 164 true).run Tryd.prog w = .ok (.tuple #[.iface 137 v, .bool true]) w :=
  run_typeAssert_hasB Tryd.underlying164 (by kernel_rfl) v xT w
theorem Tryd.isAt (v : Value) (w : World) : (Instr.typeAssert (.iface 137 v) 25 137 true).run Tryd.prog w = .ok (.tuple #[v, .bool true]) w := by kernel_rfl
theorem Tryd.methodUnwrap (h : Value) (w : World) : (Go.method 337 137 h "Unwrap").run Tryd.prog w = .ok (156, h) w := by kernel_rfl

set_option maxHeartbeats 400000 in
theorem unwrap_ok (x : Nat) (c p : Int) (w : World) (h : AtIs w x c p) :
    Calls Tryd.prog 156 #[.pointer (some ⟨x, 0, none⟩)] w fun e w' => e = .returned (eno c) ∧ w' = w := by
  have h0 := h.1
  go_enter Tryd.func156, Tryd.ntmps156
  go_wp2
  go_ret
  exact ⟨rfl, rfl⟩

set_option maxHeartbeats 4000000 in
theorem as_at (x : Nat) (c p : Int) (t : Addr) (old : Value) (w : World) (hx : AtIs w x c p) (hg : w.cell? ⟨1, 0, none⟩ = some errT) (ht0 : w.cell? t = some old) (hf0 : w.frozen? t = false) :
    Calls Tryd.prog 67 #[atv x, .iface 122 (.pointer (some t))] w fun ev w' => ev = .returned (.bool true) ∧ w' = ((((w.alloc (.cells #[.pointer (some t)] 122)).alloc (.cells #[.pointer (some ⟨3, 122, none⟩), .pointer (some ⟨w.heap.size, 0, none⟩), .int .u64 150] 148)).alloc (.cells #[.pointer (some ⟨3, 122, none⟩), .pointer (some ⟨w.heap.size, 0, none⟩), .int .u64 150] 148)).alloc (.cells #[.int .i64 c] 29)).setCell t (.int .i64 c) := by
  have hVO := @run_callFunc_extern Tryd.prog 86 _ (fun args => ReflectliteValue.unpack (args.getD 0 (.tuple #[]))) Tryd.func86 (by kernel_rfl) (by kernel_rfl) (by kernel_rfl) (by kernel_rfl)
  have hTY := @run_callFunc_extern Tryd.prog 87 _ (ReflectliteValue.methodAny (ReflectliteValue.valueError "reflectlite.Value.Type" 0) (fun t _ _ _ => ReflectliteType.toType t)) Tryd.func87 (by kernel_rfl) (by kernel_rfl) (by kernel_rfl) (by kernel_rfl)
  have hNI := @run_callFunc_extern Tryd.prog 88 _ (ReflectliteValue.method (ReflectliteValue.valueError "reflectlite.Value.IsNil" 0) ReflectliteValue.isNil) Tryd.func88 (by kernel_rfl) (by kernel_rfl) (by kernel_rfl) (by kernel_rfl)
  have hKI := @run_callFunc_extern Tryd.prog 151 _ (ReflectliteType.abiMethod fun t => do pure (.int .u8 (← Rtype.kind t))) Tryd.func151 (by kernel_rfl) (by kernel_rfl) (by kernel_rfl) (by kernel_rfl)
  have hRE := @run_callFunc_extern Tryd.prog 163 _ (ReflectliteType.method ReflectliteType.elem) Tryd.func163 (by kernel_rfl) (by kernel_rfl) (by kernel_rfl) (by kernel_rfl)
  have hIM := @run_callFunc_extern Tryd.prog 164 _ (ReflectliteType.relation "Implements" ReflectliteType.implements_) Tryd.func164 (by kernel_rfl) (by kernel_rfl) (by kernel_rfl) (by kernel_rfl)
  have hTO := @run_callFunc_extern Tryd.prog 110 _ ReflectliteType.typeOf Tryd.func110 (by kernel_rfl) (by kernel_rfl) (by kernel_rfl) (by kernel_rfl)
  have hAT := @run_callFunc_extern Tryd.prog 161 _ (ReflectliteType.relation "AssignableTo" ReflectliteType.assignableTo) Tryd.func161 (by kernel_rfl) (by kernel_rfl) (by kernel_rfl) (by kernel_rfl)
  have hEL := @run_callFunc_extern Tryd.prog 111 _ (ReflectliteValue.method (ReflectliteValue.valueError "reflectlite.Value.Elem" 0) ReflectliteValue.elem) Tryd.func111 (by kernel_rfl) (by kernel_rfl) (by kernel_rfl) (by kernel_rfl)
  have hST := @run_callFunc_extern Tryd.prog 112 _ ReflectliteValue.set Tryd.func112 (by kernel_rfl) (by kernel_rfl) (by kernel_rfl) (by kernel_rfl)
  have tO := Tryd.typeOfE
  have tA := Tryd.typeOfA
  have mA := Tryd.methodAssignableTo
  have aE := Tryd.assignableE
  have aA := Tryd.assignableA
  have nAs := Tryd.noAs
  have hU := Tryd.hasUnwrap
  have mU := Tryd.methodUnwrap
  have vE := Tryd.valueOfE
  have f6 := Tryd.valueOfT
  have f7 := Tryd.typeT
  have mK := Tryd.methodKind
  have mE := Tryd.methodElem
  have mI := Tryd.methodImplements
  have kT := Tryd.kindT
  have kE := Tryd.kindE
  have eT := Tryd.elemT
  have iE := Tryd.implementsE
  have n8 := Tryd.isNilT ⟨w.heap.size, 0, none⟩ t ((w.alloc (.cells #[.pointer (some t)] 122)).alloc (.cells #[.pointer (some ⟨3, 122, none⟩), .pointer (some ⟨w.heap.size, 0, none⟩), .int .u64 150] 148)) (by simp)
  have hlt : 1 < w.heap.size := World.block_lt_of_cell? w _ hg
  have hg2 : ((w.alloc (.cells #[.pointer (some t)] 122)).alloc (.cells #[.pointer (some ⟨3, 122, none⟩), .pointer (some ⟨w.heap.size, 0, none⟩), .int .u64 150] 148)).cell? ⟨1, 0, none⟩ = some (.iface 179 (.agg #[.pointer (some ⟨3, 25, none⟩)])) := by
    rw [World.cell?_alloc_lt _ _ ⟨1, 0, none⟩ (by rw [World.size_alloc]; exact Nat.lt_succ_of_lt hlt), World.cell?_alloc_lt _ _ ⟨1, 0, none⟩ hlt]; exact hg
  have htl : t.block < w.heap.size := World.block_lt_of_cell? w _ ht0
  have hxl : x < w.heap.size := World.block_lt_of_cell? w _ hx.1
  have hxx : AtIs (((w.alloc (.cells #[.pointer (some t)] 122)).alloc (.cells #[.pointer (some ⟨3, 122, none⟩), .pointer (some ⟨w.heap.size, 0, none⟩), .int .u64 150] 148)).alloc (.cells #[.pointer (some ⟨3, 122, none⟩), .pointer (some ⟨w.heap.size, 0, none⟩), .int .u64 150] 148)) x c p := by
    constructor
    · rw [World.cell?_alloc_lt _ _ ⟨x, 0, none⟩ (by simp; omega), World.cell?_alloc_lt _ _ ⟨x, 0, none⟩ (by simp; omega), World.cell?_alloc_lt _ _ ⟨x, 0, none⟩ hxl]; exact hx.1
    · rw [World.cell?_alloc_lt _ _ ⟨x, 1, none⟩ (by simp; omega), World.cell?_alloc_lt _ _ ⟨x, 1, none⟩ (by simp; omega), World.cell?_alloc_lt _ _ ⟨x, 1, none⟩ hxl]; exact hx.2
  have el := Tryd.elemVT ⟨w.heap.size, 0, none⟩ t (((w.alloc (.cells #[.pointer (some t)] 122)).alloc (.cells #[.pointer (some ⟨3, 122, none⟩), .pointer (some ⟨w.heap.size, 0, none⟩), .int .u64 150] 148)).alloc (.cells #[.pointer (some ⟨3, 122, none⟩), .pointer (some ⟨w.heap.size, 0, none⟩), .int .u64 150] 148)) (by rw [World.cell?_alloc_lt _ _ ⟨w.heap.size, 0, none⟩ (by simp; omega)]; simp)
  have st := Tryd.setE t ⟨w.heap.size + 1 + 1 + 1, 0, none⟩ c old ((((w.alloc (.cells #[.pointer (some t)] 122)).alloc (.cells #[.pointer (some ⟨3, 122, none⟩), .pointer (some ⟨w.heap.size, 0, none⟩), .int .u64 150] 148)).alloc (.cells #[.pointer (some ⟨3, 122, none⟩), .pointer (some ⟨w.heap.size, 0, none⟩), .int .u64 150] 148)).alloc (.cells #[.int .i64 c] 29))
    (by rw [World.cell?_alloc_at _ _ _ _ (by simp)]; rfl)
    (by rw [World.cell?_alloc_lt _ _ t (by simp; omega), World.cell?_alloc_lt _ _ t (by simp; omega), World.cell?_alloc_lt _ _ t (by simp; omega), World.cell?_alloc_lt _ _ t htl]; exact ht0)
    (by rw [World.frozen?_alloc_old _ _ t (by simp; omega), World.frozen?_alloc_old _ _ t (by simp; omega), World.frozen?_alloc_old _ _ t (by simp; omega), World.frozen?_alloc_old _ _ t (Nat.ne_of_lt htl)]; exact hf0)
  go_enter Tryd.func67, Tryd.ntmps67
  go_wp2
  refine wp_loop_rounds 2 ?_
  rw [rounds_succ]
  go_wp2_with (first | (go_at_call 156; refine (unwrap_ok x c p _ hxx).mono ?_; rintro e w' ⟨rfl, rfl⟩) | go_in)
  rw [rounds_succ]
  go_wp2
  go_ret
  exact ⟨rfl, rfl⟩

set_option maxHeartbeats 1000000 in
theorem tell_at (x : Nat) (c p : Int) (w : World) (hx : AtIs w x c p) (hg : w.cell? ⟨1, 0, none⟩ = some errT) : Calls Tryd.prog 32 #[atv x] w fun e w' => e = .returned (.int .i64 c) ∧ Below w.heap.size w w' := by
  have hlt : 1 < w.heap.size := World.block_lt_of_cell? w _ hg
  have hxl : x < w.heap.size := World.block_lt_of_cell? w _ hx.1
  have hgA : (w.alloc (.cells #[.int .i64 0] 29)).cell? ⟨1, 0, none⟩ = some errT := by
    rw [World.cell?_alloc_lt _ _ ⟨1, 0, none⟩ hlt]; exact hg
  have hxA : AtIs (w.alloc (.cells #[.int .i64 0] 29)) x c p := by
    constructor
    · rw [World.cell?_alloc_lt _ _ ⟨x, 0, none⟩ hxl]; exact hx.1
    · rw [World.cell?_alloc_lt _ _ ⟨x, 1, none⟩ hxl]; exact hx.2
  have htA : (w.alloc (.cells #[.int .i64 0] 29)).cell? ⟨w.heap.size, 0, none⟩ = some (.int .i64 0) := by simp
  have hfA : (w.alloc (.cells #[.int .i64 0] 29)).frozen? ⟨w.heap.size, 0, none⟩ = false := by simp
  go_enter Tryd.func32, Tryd.ntmps32
  go_wp2_with fail
  refine (as_at x c p _ (.int .i64 0) _ hxA hgA htA hfA).mono ?_
  rintro e w' ⟨rfl, rfl⟩
  go_wp2_with fail
  go_ret
  refine ⟨rfl, ?_⟩
  repeat first | exact Below.refl _ _ | refine Below.alloc ?_ (by simp <;> omega) _

set_option maxHeartbeats 1000000 in
theorem place_at (x : Nat) (c p : Int) (w : World) (hx : AtIs w x c p) (hg : w.cell? ⟨1, 0, none⟩ = some errT) : Calls Tryd.prog 77 #[atv x] w fun e w' => e = .returned (.tuple #[.int .i64 c, .int .i64 p]) ∧ Below w.heap.size w w' := by
  have hA := Tryd.isAt
  go_enter Tryd.func77, Tryd.ntmps77
  go_wp2_with fail
  refine (tell_at x c p _ hx hg).mono ?_
  rintro e w' ⟨rfl, l1⟩
  have c1 : w'.cell? ⟨x, 1, none⟩ = some (.int .i64 p) := by rw [l1.cell (p := ⟨x, 1, none⟩) (World.block_lt_of_cell? w _ hx.2)]; exact hx.2
  clear hg hx
  go_wp2
  refine wp_loop_rounds 1 ?_
  rw [rounds_succ]
  go_wp2
  go_quiet (fail)
  go_wp2
  go_ret2
  exact ⟨rfl, ⟨l1.os, l1.tape, l1.output, l1.size, l1.block⟩⟩

set_option maxHeartbeats 1000000 in
theorem is_at (x : Nat) (c p : Int) (w : World) (hx : AtIs w x c p) (hg : w.cell? ⟨1, 0, none⟩ = some errT) : Calls Tryd.prog 50 #[atv x, .agg #[.int .i64 c, .int .i64 p]] w fun e w' => e = .returned (.bool true) ∧ Below w.heap.size w w' := by
  have hxl : x < w.heap.size := World.block_lt_of_cell? w _ hx.1
  have hgA : (w.alloc (.cells #[.int .i64 c, .int .i64 p] 97)).cell? ⟨1, 0, none⟩ = some errT := by
    rw [World.cell?_alloc_lt _ _ ⟨1, 0, none⟩ (World.block_lt_of_cell? w _ hg)]; exact hg
  have hxA : AtIs (w.alloc (.cells #[.int .i64 c, .int .i64 p] 97)) x c p := by
    constructor
    · rw [World.cell?_alloc_lt _ _ ⟨x, 0, none⟩ hxl]; exact hx.1
    · rw [World.cell?_alloc_lt _ _ ⟨x, 1, none⟩ hxl]; exact hx.2
  have l0 : Below w.heap.size w (w.alloc (.cells #[.int .i64 c, .int .i64 p] 97)) := (Below.refl _ _).alloc (Nat.le_refl _) _
  go_enter Tryd.func50, Tryd.ntmps50
  go_wp2_with fail
  refine (place_at x c p _ hxA hgA).mono ?_
  rintro e w1 ⟨rfl, l1⟩
  have c0 : w1.cell? ⟨w.heap.size, 0, none⟩ = some (.int .i64 c) := by rw [l1.cell (p := ⟨w.heap.size, 0, none⟩) (by simp)]; simp
  have c1 : w1.cell? ⟨w.heap.size, 1, none⟩ = some (.int .i64 p) := by rw [l1.cell (p := ⟨w.heap.size, 1, none⟩) (by simp)]; simp
  have l2 := l0.trans (l1.mono (by simp))
  clear l0 l1 hg hgA hx hxA
  go_wp2
  go_ret
  exact ⟨rfl, l2⟩
end Go.Proofs.YtfejiehkpikieaaDoor

/- What api.Tell, plain.Place and the statements' own 'bare' answer of no error and of an Errno, by their Go texts. -/
import Derived.Test.YtidinhbokkelnabDoorTell
namespace Go.Proofs.YtidinhbokkelnabDoor
open Go.RowKit Go.Extern.Stop Go.Stop Go.Extern

set_option maxHeartbeats 1000000 in
theorem place_nil (w : World) : Calls Tryd.prog 144 #[.nilIface] w fun e w' => e = .returned (.tuple #[.int .i64 0, .int .i64 (-1)]) ∧ w' = w := by
  go_enter Tryd.func144, Tryd.ntmps144
  go_wp2_with fail
  refine (tell_nil _).mono ?_
  rintro e w' ⟨rfl, rfl⟩
  go_wp2
  refine wp_loop_rounds 1 ?_
  rw [rounds_succ]
  go_wp2
  go_ret2
  exact ⟨rfl, rfl⟩

theorem Tryd.noAt (v : Value) (w : World) : (Instr.typeAssert (.iface 39 v) 28 262 true).run Tryd.prog w = .ok (.tuple #[.pointer none, .bool false]) w := by kernel_rfl
theorem Tryd.noUnwrap (v : Value) (xT : TypeId) (w : World) : (Instr.typeAssert (.iface 39 v) xT 257 true).run Tryd.prog w = .ok (.tuple #[.nilIface, .bool false]) w :=
  run_typeAssert_lacksB Tryd.underlying257 (by kernel_rfl) (by kernel_rfl) v xT w

set_option maxHeartbeats 1000000 in
theorem place_eno (c : Int) (w : World) (hg : w.cell? ⟨0, 0, none⟩ = some errT) : Calls Tryd.prog 144 #[eno c] w fun e w' => e = .returned (.tuple #[.int .i64 c, .int .i64 (-1)]) ∧ Below w.heap.size w w' := by
  have nA := Tryd.noAt
  have nU := Tryd.noUnwrap
  go_enter Tryd.func144, Tryd.ntmps144
  go_wp2_with fail
  refine (tell_eno c _ hg).mono ?_
  rintro e w' ⟨rfl, l1⟩
  clear hg
  go_wp2
  refine wp_loop_rounds 1 ?_
  rw [rounds_succ]
  go_wp2
  go_ret2
  exact ⟨rfl, l1⟩

set_option maxHeartbeats 1000000 in
theorem fault_any (c : Int) (w : World) : Calls Tryd.prog 86 #[.int .i64 c] w fun e w' => e = .returned (.agg #[.int .i64 c, .int .i64 (-1)]) ∧ Below w.heap.size w w' := by
  go_enter Tryd.func86, Tryd.ntmps86
  go_wp2
  exact bodyPost_ret (v := .agg #[.int .i64 c, .int .i64 (-1)]) (by simp [results, Tryd.results86, go_sem]) rfl ⟨rfl, (Below.refl _ _).alloc (Nat.le_refl _) _⟩

set_option maxHeartbeats 1000000 in
theorem is_nil (w : World) : Calls Tryd.prog 85 #[.nilIface, .agg #[.int .i64 0, .int .i64 (-1)]] w fun e w' => e = .returned (.bool true) ∧ Below w.heap.size w w' := by
  go_enter Tryd.func85, Tryd.ntmps85
  go_wp2_with fail
  refine (place_nil _).mono ?_
  rintro e w' ⟨rfl, rfl⟩
  go_wp2
  go_ret
  exact ⟨rfl, (Below.refl _ _).alloc (Nat.le_refl _) _⟩

set_option maxHeartbeats 1000000 in
theorem is_eno (c : Int) (w : World) (hg : w.cell? ⟨0, 0, none⟩ = some errT) : Calls Tryd.prog 85 #[eno c, .agg #[.int .i64 c, .int .i64 (-1)]] w fun e w' => e = .returned (.bool true) ∧ Below w.heap.size w w' := by
  have hgA : (w.alloc (.cells #[.int .i64 c, .int .i64 (-1)] 146)).cell? ⟨0, 0, none⟩ = some errT := by
    rw [World.cell?_alloc_lt _ _ ⟨0, 0, none⟩ (World.block_lt_of_cell? w _ hg)]; exact hg
  have l0 : Below w.heap.size w (w.alloc (.cells #[.int .i64 c, .int .i64 (-1)] 146)) := (Below.refl _ _).alloc (Nat.le_refl _) _
  go_enter Tryd.func85, Tryd.ntmps85
  go_wp2_with fail
  refine (place_eno c _ hgA).mono ?_
  rintro e w1 ⟨rfl, l1⟩
  have c0 : w1.cell? ⟨w.heap.size, 0, none⟩ = some (.int .i64 c) := by rw [l1.cell (p := ⟨w.heap.size, 0, none⟩) (by simp)]; simp
  have c1 : w1.cell? ⟨w.heap.size, 1, none⟩ = some (.int .i64 (-1)) := by rw [l1.cell (p := ⟨w.heap.size, 1, none⟩) (by simp)]; simp
  have l2 := l0.trans (l1.mono (by simp))
  clear l0 l1 hg hgA
  go_wp2
  go_ret
  exact ⟨rfl, l2⟩

set_option maxHeartbeats 1000000 in
theorem bare_nil (w : World) : Calls Tryd.prog 20 #[.nilIface, .int .i64 0] w fun e w' => e = .returned (.bool true) ∧ Below w.heap.size w w' := by
  go_enter Tryd.func20, Tryd.ntmps20
  go_wp2_with fail
  refine (fault_any 0 _).mono ?_
  rintro e w1 ⟨rfl, l1⟩
  go_wp2_with fail
  refine (is_nil _).mono ?_
  rintro e w2 ⟨rfl, l2⟩
  go_wp2_with fail
  go_ret
  exact ⟨rfl, l1.trans (l2.mono l1.size)⟩

set_option maxHeartbeats 1000000 in
theorem bare_eno (c : Int) (w : World) (hg : w.cell? ⟨0, 0, none⟩ = some errT) : Calls Tryd.prog 20 #[eno c, .int .i64 c] w fun e w' => e = .returned (.bool true) ∧ Below w.heap.size w w' := by
  go_enter Tryd.func20, Tryd.ntmps20
  go_wp2_with fail
  refine (fault_any c _).mono ?_
  rintro e w1 ⟨rfl, l1⟩
  have hg1 : w1.cell? ⟨0, 0, none⟩ = some errT := by rw [l1.cell (p := ⟨0, 0, none⟩) (World.block_lt_of_cell? w _ hg)]; exact hg
  go_wp2_with fail
  refine (is_eno c _ hg1).mono ?_
  rintro e w2 ⟨rfl, l2⟩
  go_wp2_with fail
  go_ret
  exact ⟨rfl, l1.trans (l2.mono l1.size)⟩
end Go.Proofs.YtidinhbokkelnabDoor

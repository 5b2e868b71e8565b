/- Package tree: a name put at a place, and taken away, by their Go text. -/
import Derived.Test.YtpibokijbidgdabDoorUTake
import Derived.Test.YtpibokijbidgdabDoorShelfV
import Derived.Deep.RegionHeld3
namespace Go.Proofs.YtpibokijbidgdabDoor
open Go.RowKit Go.Maps

set_option maxHeartbeats 1000000 in
theorem cloneS_ok (z : List UInt8) (hz : z.length < 100000) (W : World) : Calls Tryd.prog 116 #[tx z] W fun e w' => e = .returned (tx z) ∧ Below W.heap.size W w' := by
  have hs : (⟨z.toArray⟩ : ByteArray).size = z.length := by simp [ByteArray.size]
  have hC : Calls Tryd.prog 144 #[tx z] W fun e w' => e = .returned (tx z) ∧ Below W.heap.size W w' := Any.stringslite_Clone Tryd.cloneSL ⟨z.toArray⟩ W (by rw [hs]; omega)
  go_enter Tryd.func116, Tryd.ntmps116
  go_wp2_with (go_at_call 144; refine hC.mono ?_; rintro e w1 ⟨rfl, b1⟩)
  go_ret
  exact ⟨rfl, b1⟩

section
variable {w w' : World}

set_option maxRecDepth 100000 in
set_option maxHeartbeats 2000000 in
theorem unset_ok {g n : Nat} {M : List UInt8 → Option Value} (hS : SMap w g n M) (nm : List UInt8) (hnm : nm.length ≤ 1000) (hM : (M nm).isSome = true) :
    Calls Tryd.prog 80 #[plc (some g) nm] w fun e w' => (∃ v, e = .returned v) ∧ SMap w' g (n - 1) (fun i => if i = nm then none else M i) ∧ w.grownBy w' (some g) := by
  have hx : nm.length ≤ maxLen := by unfold maxLen; omega
  have hA : SMap (w.alloc (.cells #[.map (some g), tx nm] 144)) g n M := hS.keep (Below.heap_alloc _ _ _ hS.lt)
  have gA : ∀ w1, (w.alloc (.cells #[.map (some g), tx nm] 144)).grownBy w1 (some g) → w.grownBy w1 (some g) := fun w1 g1 =>
    ⟨g1.os, g1.tape, g1.output, by have := g1.size; simp at this; omega, fun i hi hne => (g1.block i (by simp; omega) hne).trans (Below.heap_alloc _ _ _ hi)⟩
  go_enter Tryd.func80, Tryd.ntmps80
  go_wp2_with (refine wpList_sdel rfl _ _ 81 rfl 3 Tryd.underlying81 g _ _ rfl hA nm rfl hx ?_; intro w1 sm g1; rw [if_pos hM] at sm)
  go_end0
  exact ⟨⟨_, rfl⟩, sm, gA _ g1⟩

set_option maxRecDepth 100000 in
set_option maxHeartbeats 4000000 in
theorem set_ok {g n : Nat} {M : List UInt8 → Option Value} (hS : SMap w g n M) (hn : n < maxLen) (nm : List UInt8) (hnm : nm.length ≤ 1000) (hM : M nm = none) (k : Int) :
    Calls Tryd.prog 81 #[plc (some g) nm, .int .i64 k] w fun e w' => (∃ v, e = .returned v) ∧ SMap w' g (n + 1) (fun i => if i = nm then some (.int .i64 k) else M i) ∧ w.grownBy w' (some g) := by
  have hx : nm.length ≤ maxLen := by unfold maxLen; omega
  have hgl := hS.lt
  have hC := cloneS_ok nm (by omega)
  have hput : ∀ W w1, Below W.heap.size W w1 → Below w.heap.size w W → ∃ w2, (Instr.mapUpdate 81 (.map (some g)) (tx nm) (.int .i64 k)).run Tryd.prog w1 = .ok () w2 ∧ SMap w2 g (n + 1) (fun i => if i = nm then some (.int .i64 k) else M i) ∧ w.grownBy w2 (some g) := fun W w1 b1 bW => by
    have b9 : Below w.heap.size w w1 := bW.trans (b1.mono bW.size)
    have hq : SMap w1 g n M := hS.keep (b9.block g hgl)
    obtain ⟨w2, r1, r2, r3⟩ := hq.put Tryd.underlying81 hn nm hx (.int .i64 k)
    rw [hM] at r2
    exact ⟨w2, r1, r2, ⟨r3.os.trans b9.os, r3.tape.trans b9.tape, r3.output.trans b9.output, Nat.le_trans b9.size r3.size, fun i hi hne => (r3.block i (Nat.lt_of_lt_of_le hi b9.size) hne).trans (b9.block i hi)⟩⟩
  have hbox : ∀ {W w1 : World}, Below W.heap.size W w1 → W.heap[w.heap.size]? = some (.cells #[.map (some g), tx nm] 144) → w1.heap[w.heap.size]? = some (.cells #[.map (some g), tx nm] 144) := fun {W w1} b1 h => (b1.block _ (Array.getElem?_eq_some_iff.1 h).1).trans h
  have hA : (w.alloc (.cells #[.map (some g), tx nm] 144)).heap[w.heap.size]? = some (.cells #[.map (some g), tx nm] 144) := World.alloc_heap_new _ _
  have bA : Below w.heap.size w (w.alloc (.cells #[.map (some g), tx nm] 144)) := (Below.refl _ _).alloc (Nat.le_refl _) _
  go_enter Tryd.func81, Tryd.ntmps81
  go_wp2_with fail
  generalize w.alloc (.cells #[.map (some g), tx nm] 144) = WA at *
  obtain ⟨c0, c1, _, _⟩ := plc_cells hA
  clear hS hM
  go_region_with (go_at_call 116; refine (hC _).mono ?_; rintro e w1 ⟨rfl, b1⟩; obtain ⟨w2, hrun, sm, g2⟩ := hput _ w1 b1 (by first | exact bA | exact below_drew bA _ | exact below_drew1 bA); obtain ⟨d0, d1, _, _⟩ := plc_cells (hbox b1 (by exact hA)))
  all_goals
    go_wp2_with fail
    go_end0
    exact ⟨⟨_, rfl⟩, sm, g2⟩
end
end Go.Proofs.YtpibokijbidgdabDoor

/- The script that comes in, opened: one of processes an item. -/
import Derived.Test.YtidinhbokkelnacDoorLaidJ
import Derived.Test.YtidinhbokkelnacDoorJParents
namespace Go.Proofs.YtidinhbokkelnacDoor
open Go.ChangeShapes Go.WideShapes Go.ChangeAt Go.RowKit

set_option maxRecDepth 100000 in
/-- The script's array, opened. -/
theorem open_lscript {H : Type} {enc : TypeId × Value → H} {W : World} {fuel : Nat} {a : Option Addr} {len cap : Nat} {x : DataW H × List MemPlace}
    (h : DataW.trod enc Tryd.prog W 0 (fun _ => true) true fuel 22 [.slice a len cap] = some x) : ∃ q, LScript W a len q := by
  rcases Go.Deep.open_slice Tryd.underlying22 h with ⟨hcs, _⟩ | ⟨ad, l, c, m, k, D, Pl, hcs, _, hl, _, hm, _, hx⟩
  · simp at hcs
    exact ⟨fun _ => ⟨0, 0, 0⟩, .inl hcs.2.1⟩
  · simp at hcs
    obtain ⟨rfl, rfl, rfl⟩ := hcs
    by_cases h0 : len = 0
    · exact ⟨fun _ => ⟨0, 0, 0⟩, .inl h0⟩
    have hmc : m = cap := by simpa using hm
    have each : ∀ i, i < m → ∃ q : LItem, W.cell? ((ad.add (i * 3)).add 0) = some (.int .i64 q.what) ∧ W.cell? ((ad.add (i * 3)).add 1) = some (.int .i64 q.pid) ∧ W.cell? ((ad.add (i * 3)).add 2) = some (.int .i64 q.n) ∧ (Lit.int .i64 q.pid).wf = true := by
      intro i hi
      obtain ⟨cs', c1, c2⟩ := hx i hi
      rw [show Tryd.prog.cellsOf 32 = 3 by kernel_rfl] at c1
      obtain ⟨_, hlen, hcell⟩ := World.cells?_some c1
      obtain ⟨xs, n', _, _, _, hxl, hf⟩ := DataW.trod_struct Tryd.underlying32 c2
      match cs', hlen with
      | [v0, v1, v2], _ =>
        have g0 := hf 0 _ rfl
        have g1 := hf 1 _ rfl
        have g2 := hf 2 _ rfl
        have l3 : xs.length = 3 := hxl
        match xs, l3 with
        | [y0, y1, y2], _ =>
          obtain ⟨n0, e0, _, _⟩ := DataW.trod_int Tryd.underlying3 g0
          obtain ⟨n1, e1, _, hw1⟩ := DataW.trod_int Tryd.underlying3 g1
          obtain ⟨n2, e2, _, _⟩ := DataW.trod_int Tryd.underlying3 g2
          have z : Tryd.prog.cellsOf 3 = 1 := by kernel_rfl
          simp [z] at e0 e1 e2
          subst e0 e1 e2
          exact ⟨⟨n0, n1, n2⟩, hcell 0 (by omega), hcell 1 (by omega), hcell 2 (by omega), hw1⟩
    have first := each 0 (by omega)
    obtain ⟨q0, f0, _⟩ := first
    obtain ⟨blk, off, spot⟩ := ad
    have hspot : spot = none := by simpa [Addr.add] using World.cell?_spot f0
    subst hspot
    have hb : blk < W.heap.size := by simpa [Addr.add] using World.block_lt_of_cell? W _ f0
    have all : ∃ q : Nat → LItem, ∀ i, i < m → W.cell? (((⟨blk, off, none⟩ : Addr).add (i * 3)).add 0) = some (.int .i64 (q i).what) ∧ W.cell? (((⟨blk, off, none⟩ : Addr).add (i * 3)).add 1) = some (.int .i64 (q i).pid) ∧ W.cell? (((⟨blk, off, none⟩ : Addr).add (i * 3)).add 2) = some (.int .i64 (q i).n) ∧ (Lit.int .i64 (q i).pid).wf = true := by
      refine ⟨fun i => if hi : i < m then Classical.choose (each i hi) else ⟨0, 0, 0⟩, fun i hi => ?_⟩
      simp only [hi, dif_pos]
      exact Classical.choose_spec (each i hi)
    obtain ⟨q, hq⟩ := all
    refine ⟨q, .inr ⟨blk, off, rfl, hb, fun i hi => ?_⟩⟩
    have := hq i (by omega)
    simp only [Addr.add_lit, Nat.add_zero] at this
    exact this
end Go.Proofs.YtidinhbokkelnacDoor

/- The list that comes in, opened: items with a text. -/
import Derived.Test.YtcllfedpdcjbcabDoorDoor
import Derived.Test.YtcllfedpdcjbcabDoorTOrder2
namespace Go.Proofs.YtcllfedpdcjbcabDoor
open Go.ChangeShapes Go.WideShapes Go.ChangeAt Go.RowKit

set_option maxRecDepth 100000 in
/-- The script's array, opened. -/
theorem open_oscript {H : Type} {enc : TypeId × Value → H} {W : World} {fuel : Nat} {a : Option Addr} {len cap : Nat} {x : DataW H × List MemPlace}
    (h : DataW.trod enc Tryd.prog W 0 (fun _ => true) true fuel 67 [.slice a len cap] = some x) : ∃ q, OScript W a len q := by
  rcases Go.Deep.open_slice Tryd.underlying67 h with ⟨hcs, _⟩ | ⟨ad, l, c, m, k, D, Pl, hcs, _, hl, _, hm, _, hx⟩
  · simp at hcs
    exact ⟨fun _ => ⟨[], 0⟩, .inl hcs.2.1⟩
  · simp at hcs
    obtain ⟨rfl, rfl, rfl⟩ := hcs
    by_cases h0 : len = 0
    · exact ⟨fun _ => ⟨[], 0⟩, .inl h0⟩
    have hmc : m = cap := by simpa using hm
    have each : ∀ i, i < m → ∃ q : OItem, W.cell? ((ad.add (i * 2)).add 0) = some (txt q.s) ∧ W.cell? ((ad.add (i * 2)).add 1) = some (.int .i64 q.n) := by
      intro i hi
      obtain ⟨cs', c1, c2⟩ := hx i hi
      rw [show Tryd.prog.cellsOf 69 = 2 by kernel_rfl] at c1
      obtain ⟨_, hlen, hcell⟩ := World.cells?_some c1
      obtain ⟨xs, n', _, _, _, hxl, hf⟩ := DataW.trod_struct Tryd.underlying69 c2
      match cs', hlen with
      | [v0, v1], _ =>
        have g0 := hf 0 _ rfl
        have g1 := hf 1 _ rfl
        have l2 : xs.length = 2 := hxl
        match xs, l2 with
        | [y0, y1], _ =>
          obtain ⟨s0, e0, _, _⟩ := DataW.trod_string Tryd.underlying9 g0
          obtain ⟨n1, e1, _, _⟩ := DataW.trod_int Tryd.underlying3 g1
          have z : Tryd.prog.cellsOf 3 = 1 := by kernel_rfl
          have z' : Tryd.prog.cellsOf 9 = 1 := by kernel_rfl
          simp [z'] at e0
          simp [z] at e1
          subst e0 e1
          exact ⟨⟨s0.data.toList, n1⟩, by have := hcell 0 (by omega); simpa [txt] using this, hcell 1 (by omega)⟩
    have first := each 0 (by omega)
    obtain ⟨q0, f0, _⟩ := first
    obtain ⟨blk, off, spot⟩ := ad
    have hspot : spot = none := by simpa [Addr.add] using World.cell?_spot f0
    subst hspot
    have hb : blk < W.heap.size := by simpa [Addr.add] using World.block_lt_of_cell? W _ f0
    have all : ∃ q : Nat → OItem, ∀ i, i < m → W.cell? (((⟨blk, off, none⟩ : Addr).add (i * 2)).add 0) = some (txt (q i).s) ∧ W.cell? (((⟨blk, off, none⟩ : Addr).add (i * 2)).add 1) = some (.int .i64 (q i).n) := by
      refine ⟨fun i => if hi : i < m then Classical.choose (each i hi) else ⟨[], 0⟩, fun i hi => ?_⟩
      simp only [hi, dif_pos]
      exact Classical.choose_spec (each i hi)
    obtain ⟨q, hq⟩ := all
    refine ⟨q, .inr ⟨blk, off, rfl, hb, fun i hi => ?_⟩⟩
    have := hq i (by omega)
    simp only [Addr.add_lit, Nat.add_zero] at this
    exact this
end Go.Proofs.YtcllfedpdcjbcabDoor

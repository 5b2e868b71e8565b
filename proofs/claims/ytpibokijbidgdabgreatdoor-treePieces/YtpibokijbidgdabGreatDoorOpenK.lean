/- Texts that come in, opened. -/
import Derived.Test.YtpibokijbidgdabGreatDoorKPieces2
import Derived.Test.YtpibokijbidgdabGreatDoorOpenB
namespace Go.Proofs.YtpibokijbidgdabGreatDoor
open Go.ChangeShapes Go.WideShapes Go.ChangeAt Go.RowKit

set_option maxRecDepth 100000 in
/-- An array of texts, opened. -/
theorem open_texts {H : Type} {enc : TypeId × Value → H} {W : World} {fuel : Nat} {a : Option Addr} {len cap : Nat} {x : DataW H × List MemPlace}
    (h : DataW.trod enc Tryz.prog W 0 (fun _ => true) true fuel 45 [.slice a len cap] = some x) : ∃ q, Strs W a len q := by
  rcases Go.Deep.open_slice Tryz.underlying45 h with ⟨hcs, _⟩ | ⟨ad, l, c, m, k, D, Pl, hcs, _, hl, _, hm, _, hx⟩
  · simp at hcs
    exact ⟨fun _ => [], .inl hcs.2.1⟩
  · simp at hcs
    obtain ⟨rfl, rfl, rfl⟩ := hcs
    by_cases h0 : len = 0
    · exact ⟨fun _ => [], .inl h0⟩
    have hmc : m = cap := by simpa using hm
    have each : ∀ i, i < m → ∃ q : List UInt8, W.cell? ((ad.add i).add 0) = some (tx q) := by
      intro i hi
      obtain ⟨cs', c1, c2⟩ := hx i hi
      rw [show Tryz.prog.cellsOf 9 = 1 by kernel_rfl, Nat.mul_one] at c1
      obtain ⟨_, hlen, hcell⟩ := World.cells?_some c1
      match cs', hlen with
      | [v0], _ =>
        obtain ⟨s0, e0, _, _⟩ := DataW.trod_string Tryz.underlying9 c2
        simp at e0
        subst e0
        exact ⟨s0.data.toList, by have := hcell 0 (by omega); simpa [tx] using this⟩
    have first := each 0 (by omega)
    obtain ⟨q0, f0⟩ := first
    obtain ⟨blk, off, spot⟩ := ad
    have hspot : spot = none := by simpa [Addr.add] using World.cell?_spot f0
    subst hspot
    have hb : blk < W.heap.size := by simpa [Addr.add] using World.block_lt_of_cell? W _ f0
    have all : ∃ q : Nat → List UInt8, ∀ i, i < m → W.cell? (((⟨blk, off, none⟩ : Addr).add i).add 0) = some (tx (q i)) := by
      refine ⟨fun i => if hi : i < m then Classical.choose (each i hi) else [], fun i hi => ?_⟩
      simp only [hi, dif_pos]
      exact Classical.choose_spec (each i hi)
    obtain ⟨q, hq⟩ := all
    refine ⟨q, .inr ⟨blk, off, rfl, hb, fun i hi => ?_⟩⟩
    have := hq i (by omega)
    simp only [Addr.add_lit, Nat.add_zero] at this
    exact this
end Go.Proofs.YtpibokijbidgdabGreatDoor

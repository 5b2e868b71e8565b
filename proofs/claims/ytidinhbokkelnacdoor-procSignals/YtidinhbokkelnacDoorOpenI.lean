/- Lists of numbers that come in, opened. -/
import Derived.Test.YtidinhbokkelnacDoorLaidJ
import Derived.Test.YtidinhbokkelnacDoorJSignals
namespace Go.Proofs.YtidinhbokkelnacDoor
open Go.ChangeShapes Go.WideShapes Go.ChangeAt Go.RowKit

set_option maxRecDepth 100000 in
/-- The numbers' array, opened. -/
theorem open_ints {H : Type} {enc : TypeId × Value → H} {W : World} {fuel : Nat} {a : Option Addr} {len cap : Nat} {x : DataW H × List MemPlace}
    (h : DataW.trod enc Tryd.prog W 0 (fun _ => true) true fuel 26 [.slice a len cap] = some x) : ∃ q, Ints W a len q := by
  rcases Go.Deep.open_slice1 Tryd.underlying26 (by kernel_rfl) h with ⟨hcs, _⟩ | ⟨ad, l, c, m, k, V, D, Pl, hcs, _, hl, _, hm, _, hx⟩
  · simp at hcs
    exact ⟨fun _ => 0, .inl hcs.2.1⟩
  · simp at hcs
    obtain ⟨rfl, rfl, rfl⟩ := hcs
    by_cases h0 : len = 0
    · exact ⟨fun _ => 0, .inl h0⟩
    have hmc : m = cap := by simpa using hm
    have each : ∀ i, i < m → ∃ q : Int, W.cell? (ad.add i) = some (.int .i64 q) := by
      intro i hi
      obtain ⟨c1, c2⟩ := hx i hi
      obtain ⟨n0, e0, _, _⟩ := DataW.trod_int Tryd.underlying3 c2
      simp at e0
      rw [e0] at c1
      exact ⟨n0, c1⟩
    have first := each 0 (by omega)
    obtain ⟨q0, f0⟩ := first
    obtain ⟨blk, off, spot⟩ := ad
    have hspot : spot = none := by simpa [Addr.add] using World.cell?_spot f0
    subst hspot
    have hb : blk < W.heap.size := by simpa [Addr.add] using World.block_lt_of_cell? W _ f0
    have all : ∃ q : Nat → Int, ∀ i, i < m → W.cell? ((⟨blk, off, none⟩ : Addr).add i) = some (.int .i64 (q i)) := by
      refine ⟨fun i => if hi : i < m then Classical.choose (each i hi) else 0, fun i hi => ?_⟩
      simp only [hi, dif_pos]
      exact Classical.choose_spec (each i hi)
    obtain ⟨q, hq⟩ := all
    refine ⟨q, .inr ⟨blk, off, rfl, hb, fun i hi => ?_⟩⟩
    have := hq i (by omega)
    simp only [Addr.add_lit] at this
    exact this
end Go.Proofs.YtidinhbokkelnacDoor

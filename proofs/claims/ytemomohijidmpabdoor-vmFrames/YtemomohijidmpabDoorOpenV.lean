/- Arrays that come in, opened: uses, numbers; what the listed variable gives a walk. -/
import Derived.Test.YtemomohijidmpabDoorVFrames
import Derived.Test.YtemomohijidmpabDoorCards
import Derived.Test.YtemomohijidmpabDoorTie
import Derived.ChangeAt
import Derived.ChangeShapes
import Derived.WideShapes
import Derived.OpenShut
import Derived.ChangeOld
import Derived.Deep.Slices
import Derived.ChangeSame
import Derived.ChangeVars
import Derived.JoinedOf
import Derived.RowKit
import Derived.RowKitTokens
import Derived.LaidLaws
import Derived.LaidHandle
import Derived.Stop.Joined
import Derived.SevenTiedAt
namespace Go.Proofs.YtemomohijidmpabDoor
open Go.ChangeShapes Go.WideShapes Go.ChangeAt Go.RowKit

theorem ownNone : ownKnob Tryd.prog.godebug = none := by kernel_rfl
theorem laidOut : laidOutB Tryd.prog = true := by kernel_rfl
theorem et : Tryd.prog.globalNamed "errors.errorType" = some 0 := by kernel_rfl
theorem oneRow : ((List.range 152).filter fun t => Tryd.prog.rowNamed t [101, 114, 114, 111, 114]) = [28] := by kernel_rfl
theorem typesSize : Tryd.prog.types.size = 152 := by kernel_rfl

/-- What the listed variable gives a walk: its one cell. -/
theorem handle_of {W : World} (h : handlesMet Tryd.prog [("errors.errorType", Rows.laid_errors_errorType)] W) : W.cell? ⟨0, 0, none⟩ = some errT := by
  obtain ⟨name, u, ty, e1, e2, e3, e4, e5⟩ := h _ (List.mem_singleton.2 rfl)
  have en : name = [101, 114, 114, 111, 114] := (Option.some.inj e1).symm
  subst en
  have hu : u = 104 := Option.some.inj (Eq.trans (Eq.symm e2) (by kernel_rfl))
  subst hu
  have hm : ty ∈ (List.range 152).filter fun t => Tryd.prog.rowNamed t [101, 114, 114, 111, 114] := List.mem_filter.2 ⟨List.mem_range.2 (by rw [← typesSize]; exact e3), e4⟩
  rw [oneRow] at hm
  obtain rfl := List.mem_singleton.1 hm
  have hh : typeHandle Tryd.prog 28 = .pointer (some ⟨1, 28, none⟩) := by kernel_rfl
  rw [hh] at e5
  simpa using World.var?_cell et e5 0

set_option maxRecDepth 100000 in
/-- An array of uses, opened. -/
theorem open_uses {H : Type} {enc : TypeId × Value → H} {W : World} {fuel : Nat} {a : Option Addr} {len cap : Nat} {x : DataW H × List MemPlace}
    (h : DataW.trod enc Tryd.prog W 0 (fun _ => true) true fuel 22 [.slice a len cap] = some x) : ∃ q, Uses W a len q := by
  rcases Go.Deep.open_slice Tryd.underlying22 h with ⟨hcs, _⟩ | ⟨ad, l, c, m, k, D, Pl, hcs, _, hl, _, hm, _, hx⟩
  · simp at hcs
    exact ⟨fun _ => ⟨0, 0, 0, 0, 0⟩, .inl hcs.2.1⟩
  · simp at hcs
    obtain ⟨rfl, rfl, rfl⟩ := hcs
    by_cases h0 : len = 0
    · exact ⟨fun _ => ⟨0, 0, 0, 0, 0⟩, .inl h0⟩
    have hmc : m = cap := by simpa using hm
    have each : ∀ i, i < m → ∃ q : Us, W.cell? ((ad.add (i * 5)).add 0) = some (.int .i64 q.what) ∧ W.cell? ((ad.add (i * 5)).add 1) = some (.int .i64 q.at_) ∧ W.cell? ((ad.add (i * 5)).add 2) = some (.int .i64 q.n) ∧ W.cell? ((ad.add (i * 5)).add 3) = some (.int .i64 q.prot) ∧ W.cell? ((ad.add (i * 5)).add 4) = some (.int .i64 q.v) ∧ q.ok := by
      intro i hi
      obtain ⟨cs', c1, c2⟩ := hx i hi
      rw [show Tryd.prog.cellsOf 38 = 5 by kernel_rfl] at c1
      obtain ⟨_, hlen, hcell⟩ := World.cells?_some c1
      obtain ⟨xs, n', _, _, _, hxl, hf⟩ := DataW.trod_struct Tryd.underlying38 c2
      match cs', hlen with
      | [v0, v1, v2, v3, v4], _ =>
        have g0 := hf 0 _ rfl
        have g1 := hf 1 _ rfl
        have g2 := hf 2 _ rfl
        have g3 := hf 3 _ rfl
        have g4 := hf 4 _ rfl
        have l5 : xs.length = 5 := hxl
        match xs, l5 with
        | [y0, y1, y2, y3, y4], _ =>
          obtain ⟨n0, e0, _, _⟩ := DataW.trod_int Tryd.underlying3 g0
          obtain ⟨n1, e1, _, hw1⟩ := DataW.trod_int Tryd.underlying3 g1
          obtain ⟨n2, e2, _, hw2⟩ := DataW.trod_int Tryd.underlying3 g2
          obtain ⟨n3, e3, _, _⟩ := DataW.trod_int Tryd.underlying3 g3
          obtain ⟨n4, e4, _, _⟩ := DataW.trod_int Tryd.underlying2 g4
          have z : Tryd.prog.cellsOf 3 = 1 := by kernel_rfl
          have z' : Tryd.prog.cellsOf 2 = 1 := by kernel_rfl
          simp [z] at e0 e1 e2 e3
          simp [z'] at e4
          subst e0 e1 e2 e3 e4
          exact ⟨⟨n0, n1, n2, n3, n4⟩, hcell 0 (by omega), hcell 1 (by omega), hcell 2 (by omega), hcell 3 (by omega), hcell 4 (by omega), hw1, hw2⟩
    have first := each 0 (by omega)
    obtain ⟨q0, f0, _⟩ := first
    obtain ⟨blk, off, spot⟩ := ad
    have hspot : spot = none := by simpa [Addr.add] using World.cell?_spot f0
    subst hspot
    have hb : blk < W.heap.size := by simpa [Addr.add] using World.block_lt_of_cell? W _ f0
    have all : ∃ q : Nat → Us, ∀ i, i < m → W.cell? (((⟨blk, off, none⟩ : Addr).add (i * 5)).add 0) = some (.int .i64 (q i).what) ∧ W.cell? (((⟨blk, off, none⟩ : Addr).add (i * 5)).add 1) = some (.int .i64 (q i).at_) ∧ W.cell? (((⟨blk, off, none⟩ : Addr).add (i * 5)).add 2) = some (.int .i64 (q i).n) ∧ W.cell? (((⟨blk, off, none⟩ : Addr).add (i * 5)).add 3) = some (.int .i64 (q i).prot) ∧ W.cell? (((⟨blk, off, none⟩ : Addr).add (i * 5)).add 4) = some (.int .i64 (q i).v) ∧ (q i).ok := by
      refine ⟨fun i => if hi : i < m then Classical.choose (each i hi) else ⟨0, 0, 0, 0, 0⟩, fun i hi => ?_⟩
      simp only [hi, dif_pos]
      exact Classical.choose_spec (each i hi)
    obtain ⟨q, hq⟩ := all
    refine ⟨q, .inr ⟨blk, off, rfl, hb, fun i hi => ?_⟩⟩
    have := hq i (by omega)
    simp only [Addr.add_lit, Nat.add_zero] at this
    exact this

set_option maxRecDepth 100000 in
/-- The numbers' array, opened. -/
theorem open_ints {H : Type} {enc : TypeId × Value → H} {W : World} {fuel : Nat} {a : Option Addr} {len cap : Nat} {x : DataW H × List MemPlace}
    (h : DataW.trod enc Tryd.prog W 0 (fun _ => true) true fuel 23 [.slice a len cap] = some x) : ∃ q, Ints W a len q := by
  rcases Go.Deep.open_slice1 Tryd.underlying23 (by kernel_rfl) h with ⟨hcs, _⟩ | ⟨ad, l, c, m, k, V, D, Pl, hcs, _, hl, _, hm, _, hx⟩
  · simp at hcs
    exact ⟨fun _ => 0, .inl hcs.2.1⟩
  · simp at hcs
    obtain ⟨rfl, rfl, rfl⟩ := hcs
    by_cases h0 : len = 0
    · exact ⟨fun _ => 0, .inl h0⟩
    have hmc : m = cap := by simpa using hm
    have each : ∀ i, i < m → ∃ q : Int, W.cell? (ad.add i) = some (.int .i64 q) := by
      intro i hi
      obtain ⟨c1, c2⟩ := hx i hi
      obtain ⟨n0, e0, _, _⟩ := DataW.trod_int Tryd.underlying3 c2
      simp at e0
      rw [e0] at c1
      exact ⟨n0, c1⟩
    have first := each 0 (by omega)
    obtain ⟨q0, f0⟩ := first
    obtain ⟨blk, off, spot⟩ := ad
    have hspot : spot = none := by simpa [Addr.add] using World.cell?_spot f0
    subst hspot
    have hb : blk < W.heap.size := by simpa [Addr.add] using World.block_lt_of_cell? W _ f0
    have all : ∃ q : Nat → Int, ∀ i, i < m → W.cell? ((⟨blk, off, none⟩ : Addr).add i) = some (.int .i64 (q i)) := by
      refine ⟨fun i => if hi : i < m then Classical.choose (each i hi) else 0, fun i hi => ?_⟩
      simp only [hi, dif_pos]
      exact Classical.choose_spec (each i hi)
    obtain ⟨q, hq⟩ := all
    refine ⟨q, .inr ⟨blk, off, rfl, hb, fun i hi => ?_⟩⟩
    have := hq i (by omega)
    simp only [Addr.add_lit] at this
    exact this
end Go.Proofs.YtemomohijidmpabDoor

/- Arrays that come in, opened: asks, lists of asks, numbers; what the listed variable gives a walk. -/
import Derived.Test.YtfejiehkpikieaaDoorAWhole
import Derived.Test.YtfejiehkpikieaaDoorCards
import Derived.Test.YtfejiehkpikieaaDoorTie
import Derived.ChangeAt
import Derived.ChangeShapes
import Derived.WideShapes
import Derived.OpenShut
import Derived.ChangeOld
import Derived.Deep.Slices
import Derived.ChangeSame
import Derived.ChangeVars
import Derived.JoinedOf
import Derived.RowKit
import Derived.RowKitTokens
import Derived.LaidLaws
import Derived.LaidHandle
import Derived.Stop.Joined
import Derived.SevenTiedAt
namespace Go.Proofs.YtfejiehkpikieaaDoor
open Go.ChangeShapes Go.WideShapes Go.ChangeAt Go.RowKit

theorem ownNone : ownKnob Tryd.prog.godebug = none := by kernel_rfl
theorem laidOut : laidOutB Tryd.prog = true := by kernel_rfl
theorem et : Tryd.prog.globalNamed "errors.errorType" = some 1 := by kernel_rfl
theorem oneRow : ((List.range 237).filter fun t => Tryd.prog.rowNamed t [101, 114, 114, 111, 114]) = [25] := by kernel_rfl
theorem typesSize : Tryd.prog.types.size = 237 := by kernel_rfl

/-- What the listed variable gives a walk: its one cell. -/
theorem handle_of {W : World} (h : handlesMet Tryd.prog [("errors.errorType", Rows.laid_errors_errorType)] W) : W.cell? ⟨1, 0, none⟩ = some errT := by
  obtain ⟨name, u, ty, e1, e2, e3, e4, e5⟩ := h _ (List.mem_singleton.2 rfl)
  have en : name = [101, 114, 114, 111, 114] := (Option.some.inj e1).symm
  subst en
  have hu : u = 179 := Option.some.inj (Eq.trans (Eq.symm e2) (by kernel_rfl))
  subst hu
  have hm : ty ∈ (List.range 237).filter fun t => Tryd.prog.rowNamed t [101, 114, 114, 111, 114] := List.mem_filter.2 ⟨List.mem_range.2 (by rw [← typesSize]; exact e3), e4⟩
  rw [oneRow] at hm
  obtain rfl := List.mem_singleton.1 hm
  have hh : typeHandle Tryd.prog 25 = .pointer (some ⟨3, 25, none⟩) := by kernel_rfl
  rw [hh] at e5
  simpa using World.var?_cell et e5 0

set_option maxRecDepth 100000 in
/-- An array of asks, opened. -/
theorem open_asks {H : Type} {enc : TypeId × Value → H} {W : World} {fuel : Nat} {a : Option Addr} {len cap : Nat} {x : DataW H × List MemPlace}
    (h : DataW.trod enc Tryd.prog W 0 (fun _ => true) true fuel 90 [.slice a len cap] = some x) : len ≤ cap ∧ (len = 0 ∨ a ≠ none) ∧ ∃ q, Asks W a len q := by
  rcases Go.Deep.open_slice Tryd.underlying90 h with ⟨hcs, _⟩ | ⟨ad, l, c, m, k, D, Pl, hcs, _, hl, _, hm, _, hx⟩
  · simp at hcs
    exact ⟨by omega, .inl hcs.2.1, fun _ => ⟨0, 0⟩, .inl hcs.2.1⟩
  · simp at hcs
    obtain ⟨rfl, rfl, rfl⟩ := hcs
    refine ⟨hl, .inr (by simp), ?_⟩
    by_cases h0 : len = 0
    · exact ⟨fun _ => ⟨0, 0⟩, .inl h0⟩
    have hmc : m = cap := by simpa using hm
    have each : ∀ i, i < m → ∃ q : Want, W.cell? ((ad.add (i * 2)).add 0) = some (.int .i64 q.kind) ∧ W.cell? ((ad.add (i * 2)).add 1) = some (.int .i64 q.n) := by
      intro i hi
      obtain ⟨cs', c1, c2⟩ := hx i hi
      rw [show Tryd.prog.cellsOf 92 = 2 by kernel_rfl] at c1
      obtain ⟨_, hlen, hcell⟩ := World.cells?_some c1
      obtain ⟨xs, n', _, _, _, hxl, hf⟩ := DataW.trod_struct Tryd.underlying92 c2
      match cs', hlen with
      | [v0, v1], _ =>
        have g0 := hf 0 _ rfl
        have g1 := hf 1 _ rfl
        have l2 : xs.length = 2 := hxl
        match xs, l2 with
        | [y0, y1], _ =>
          obtain ⟨n0, e0, _, _⟩ := DataW.trod_int Tryd.underlying3 g0
          obtain ⟨n1, e1, _, _⟩ := DataW.trod_int Tryd.underlying3 g1
          have z : Tryd.prog.cellsOf 3 = 1 := by kernel_rfl
          simp [z] at e0 e1
          subst e0 e1
          exact ⟨⟨n0, n1⟩, hcell 0 (by omega), hcell 1 (by omega)⟩
    have first := each 0 (by omega)
    obtain ⟨q0, f0, _⟩ := first
    obtain ⟨blk, off, spot⟩ := ad
    have hspot : spot = none := by simpa [Addr.add] using World.cell?_spot f0
    subst hspot
    have hb : blk < W.heap.size := by simpa [Addr.add] using World.block_lt_of_cell? W _ f0
    have all : ∃ q : Nat → Want, ∀ i, i < m → W.cell? (((⟨blk, off, none⟩ : Addr).add (i * 2)).add 0) = some (.int .i64 (q i).kind) ∧ W.cell? (((⟨blk, off, none⟩ : Addr).add (i * 2)).add 1) = some (.int .i64 (q i).n) := by
      refine ⟨fun i => if hi : i < m then Classical.choose (each i hi) else ⟨0, 0⟩, fun i hi => ?_⟩
      simp only [hi, dif_pos]
      exact Classical.choose_spec (each i hi)
    obtain ⟨q, hq⟩ := all
    refine ⟨q, .inr ⟨blk, off, rfl, hb, fun i hi => ?_⟩⟩
    have := hq i (by omega)
    simp only [Addr.add_lit, Nat.add_zero] at this
    exact this

set_option maxRecDepth 100000 in
/-- An array of lists of asks, opened. -/
theorem open_lists {H : Type} {enc : TypeId × Value → H} {W : World} {fuel : Nat} {a : Option Addr} {len cap : Nat} {x : DataW H × List MemPlace}
    (h : DataW.trod enc Tryd.prog W 0 (fun _ => true) true fuel 101 [.slice a len cap] = some x) : ∃ r, Lists W a len r := by
  rcases Go.Deep.open_slice1 Tryd.underlying101 (by kernel_rfl) h with ⟨hcs, _⟩ | ⟨ad, l, c, m, k, V, D, Pl, hcs, _, hl, _, hm, _, hx⟩
  · simp at hcs
    exact ⟨fun _ => ⟨none, 0, 0, fun _ => ⟨0, 0⟩⟩, .inl hcs.2.1⟩
  · simp at hcs
    obtain ⟨rfl, rfl, rfl⟩ := hcs
    by_cases h0 : len = 0
    · exact ⟨fun _ => ⟨none, 0, 0, fun _ => ⟨0, 0⟩⟩, .inl h0⟩
    have hmc : m = cap := by simpa using hm
    have each : ∀ i, i < m → ∃ r : Inner, W.cell? (ad.add i) = some (.slice r.ad r.len r.cap) ∧ r.len ≤ r.cap ∧ Asks W r.ad r.len r.q := by
      intro i hi
      obtain ⟨c1, c2⟩ := hx i hi
      have hv : ∃ a' l' c', V i = .slice a' l' c' := by
        rcases Go.Deep.open_slice Tryd.underlying90 c2 with ⟨hcs, _⟩ | ⟨ad', l', c', _, _, _, _, hcs, _⟩
        · exact ⟨none, 0, 0, by simpa using hcs⟩
        · exact ⟨some ad', l', c', by simpa using hcs⟩
      obtain ⟨a', l', c', hv⟩ := hv
      rw [hv] at c1 c2
      obtain ⟨h1, _, q, h2⟩ := open_asks c2
      exact ⟨⟨a', l', c', q⟩, c1, h1, h2⟩
    have first := each 0 (by omega)
    obtain ⟨q0, f0, _⟩ := first
    obtain ⟨blk, off, spot⟩ := ad
    have hspot : spot = none := by simpa [Addr.add] using World.cell?_spot f0
    subst hspot
    have hb : blk < W.heap.size := by simpa [Addr.add] using World.block_lt_of_cell? W _ f0
    have all : ∃ r : Nat → Inner, ∀ i, i < m → W.cell? ((⟨blk, off, none⟩ : Addr).add i) = some (.slice (r i).ad (r i).len (r i).cap) ∧ (r i).len ≤ (r i).cap ∧ Asks W (r i).ad (r i).len (r i).q := by
      refine ⟨fun i => if hi : i < m then Classical.choose (each i hi) else ⟨none, 0, 0, fun _ => ⟨0, 0⟩⟩, fun i hi => ?_⟩
      simp only [hi, dif_pos]
      exact Classical.choose_spec (each i hi)
    obtain ⟨r, hr⟩ := all
    refine ⟨r, .inr ⟨blk, off, rfl, hb, fun i hi => ?_⟩⟩
    have := hr i (by omega)
    simp only [Addr.add_lit] at this
    exact this

set_option maxRecDepth 100000 in
/-- The numbers' array, opened. -/
theorem open_ints {H : Type} {enc : TypeId × Value → H} {W : World} {fuel : Nat} {a : Option Addr} {len cap : Nat} {x : DataW H × List MemPlace}
    (h : DataW.trod enc Tryd.prog W 0 (fun _ => true) true fuel 56 [.slice a len cap] = some x) : ∃ q, Ints W a len q := by
  rcases Go.Deep.open_slice1 Tryd.underlying56 (by kernel_rfl) h with ⟨hcs, _⟩ | ⟨ad, l, c, m, k, V, D, Pl, hcs, _, hl, _, hm, _, hx⟩
  · simp at hcs
    exact ⟨fun _ => 0, .inl hcs.2.1⟩
  · simp at hcs
    obtain ⟨rfl, rfl, rfl⟩ := hcs
    by_cases h0 : len = 0
    · exact ⟨fun _ => 0, .inl h0⟩
    have hmc : m = cap := by simpa using hm
    have each : ∀ i, i < m → ∃ q : Int, W.cell? (ad.add i) = some (.int .i64 q) := by
      intro i hi
      obtain ⟨c1, c2⟩ := hx i hi
      obtain ⟨n0, e0, _, _⟩ := DataW.trod_int Tryd.underlying3 c2
      simp at e0
      rw [e0] at c1
      exact ⟨n0, c1⟩
    have first := each 0 (by omega)
    obtain ⟨q0, f0⟩ := first
    obtain ⟨blk, off, spot⟩ := ad
    have hspot : spot = none := by simpa [Addr.add] using World.cell?_spot f0
    subst hspot
    have hb : blk < W.heap.size := by simpa [Addr.add] using World.block_lt_of_cell? W _ f0
    have all : ∃ q : Nat → Int, ∀ i, i < m → W.cell? ((⟨blk, off, none⟩ : Addr).add i) = some (.int .i64 (q i)) := by
      refine ⟨fun i => if hi : i < m then Classical.choose (each i hi) else 0, fun i hi => ?_⟩
      simp only [hi, dif_pos]
      exact Classical.choose_spec (each i hi)
    obtain ⟨q, hq⟩ := all
    refine ⟨q, .inr ⟨blk, off, rfl, hb, fun i hi => ?_⟩⟩
    have := hq i (by omega)
    simp only [Addr.add_lit] at this
    exact this
end Go.Proofs.YtfejiehkpikieaaDoor

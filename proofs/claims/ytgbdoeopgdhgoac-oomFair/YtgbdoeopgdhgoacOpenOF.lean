/- A list of candidates that comes in, opened. -/
import Derived.Test.YtgbdoeopgdhgoacOVic3
import Derived.Test.YtgbdoeopgdhgoacOFair
import Derived.Test.YtgbdoeopgdhgoacRows
import Derived.ChangeAt
import Derived.ChangeShapes
import Derived.WideShapes
import Derived.OpenShut
import Derived.ChangeOld
import Derived.Deep.Slices
import Derived.ChangeSame
import Derived.ChangeVars
import Derived.JoinedOf
import Derived.RowKit
namespace Go.Proofs.Ytgbdoeopgdhgoac
open Go.ChangeShapes Go.WideShapes Go.ChangeAt Go.RowKit

theorem ownNone : ownKnob Try.prog.godebug = none := by kernel_rfl
theorem laidOut : laidOutB Try.prog = true := by kernel_rfl

set_option maxRecDepth 100000 in
/-- The list's array, opened. -/
theorem open_cands {H : Type} {enc : TypeId × Value → H} {W : World} {fuel : Nat} {a : Option Addr} {len cap : Nat} {x : DataW H × List MemPlace}
    (h : DataW.trod enc Try.prog W 0 (fun _ => true) true fuel 23 [.slice a len cap] = some x) : ∃ L : List Cd, L.length = len ∧ L.length ≤ cap ∧ Cds W a L ∧ ∀ c ∈ L, (Lit.int .i64 c.pid).wf = true := by
  rcases Go.Deep.open_slice Try.underlying23 h with ⟨hcs, _⟩ | ⟨ad, l, c, m, k, D, Pl, hcs, _, hl, _, hm, _, hx⟩
  · simp at hcs
    exact ⟨[], by simp [hcs.2.1], Nat.zero_le _, .inl rfl, fun c hc => by simp at hc⟩
  · simp at hcs
    obtain ⟨rfl, rfl, rfl⟩ := hcs
    by_cases h0 : len = 0
    · exact ⟨[], by simp [h0], Nat.zero_le _, .inl rfl, fun c hc => by simp at hc⟩
    have hmc : m = cap := by simpa using hm
    have each : ∀ i, i < m → ∃ q : Cd, W.cell? ((ad.add (i * 3)).add 0) = some (.int .i64 q.pid) ∧ W.cell? ((ad.add (i * 3)).add 1) = some (.int .i64 q.res) ∧ W.cell? ((ad.add (i * 3)).add 2) = some (.int .i64 q.adj) ∧ (Lit.int .i64 q.pid).wf = true := by
      intro i hi
      obtain ⟨cs', c1, c2⟩ := hx i hi
      rw [show Try.prog.cellsOf 25 = 3 by kernel_rfl] at c1
      obtain ⟨_, hlen, hcell⟩ := World.cells?_some c1
      obtain ⟨xs, n', _, _, _, hxl, hf⟩ := DataW.trod_struct Try.underlying25 c2
      match cs', hlen with
      | [v0, v1, v2], _ =>
        have g0 := hf 0 _ rfl
        have g1 := hf 1 _ rfl
        have g2 := hf 2 _ rfl
        have l3 : xs.length = 3 := hxl
        match xs, l3 with
        | [y0, y1, y2], _ =>
          obtain ⟨n0, e0, _, hw0⟩ := DataW.trod_int Try.underlying3 g0
          obtain ⟨n1, e1, _, _⟩ := DataW.trod_int Try.underlying3 g1
          obtain ⟨n2, e2, _, _⟩ := DataW.trod_int Try.underlying3 g2
          have z : Try.prog.cellsOf 3 = 1 := by kernel_rfl
          simp [z] at e0 e1 e2
          subst e0 e1 e2
          exact ⟨⟨n0, n1, n2⟩, hcell 0 (by omega), hcell 1 (by omega), hcell 2 (by omega), hw0⟩
    have first := each 0 (by omega)
    obtain ⟨q0, f0, _⟩ := first
    obtain ⟨blk, off, spot⟩ := ad
    have hspot : spot = none := by simpa [Addr.add] using World.cell?_spot f0
    subst hspot
    have hb : blk < W.heap.size := by simpa [Addr.add] using World.block_lt_of_cell? W _ f0
    have all : ∃ q : Nat → Cd, ∀ i, i < m → W.cell? (((⟨blk, off, none⟩ : Addr).add (i * 3)).add 0) = some (.int .i64 (q i).pid) ∧ W.cell? (((⟨blk, off, none⟩ : Addr).add (i * 3)).add 1) = some (.int .i64 (q i).res) ∧ W.cell? (((⟨blk, off, none⟩ : Addr).add (i * 3)).add 2) = some (.int .i64 (q i).adj) ∧ (Lit.int .i64 (q i).pid).wf = true := by
      refine ⟨fun i => if hi : i < m then Classical.choose (each i hi) else ⟨0, 0, 0⟩, fun i hi => ?_⟩
      simp only [hi, dif_pos]
      exact Classical.choose_spec (each i hi)
    obtain ⟨q, hq⟩ := all
    refine ⟨(List.range len).map q, by simp, by simp; omega, .inr ⟨blk, off, rfl, hb, fun i hi => ?_⟩, fun c hc => ?_⟩
    · have hi' : i < len := by simpa using hi
      have := hq i (by omega)
      simp only [Addr.add_lit, Nat.add_zero] at this
      simp only [List.getElem_map, List.getElem_range]
      exact ⟨this.1, this.2.1, this.2.2.1⟩
    · obtain ⟨i, hi, rfl⟩ := List.mem_map.1 hc
      rw [List.mem_range] at hi
      exact (hq i (by omega)).2.2.2
end Go.Proofs.Ytgbdoeopgdhgoac

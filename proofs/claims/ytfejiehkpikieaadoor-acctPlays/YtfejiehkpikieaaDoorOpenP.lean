/- Arrays that come in, opened, and what the two listed variables give a walk. -/
import Derived.Test.YtfejiehkpikieaaDoorAPlays
import Derived.Test.YtfejiehkpikieaaDoorCards
import Derived.Test.YtfejiehkpikieaaDoorTie
import Derived.ChangeAt
import Derived.ChangeShapes
import Derived.WideShapes
import Derived.OpenShut
import Derived.ChangeOld
import Derived.Deep.Slices
import Derived.ChangeSame
import Derived.ChangeVars
import Derived.JoinedOf
import Derived.RowKit
import Derived.RowKitTokens
import Derived.LaidLaws
import Derived.LaidHandle
import Derived.Stop.Joined
import Derived.SevenTiedAt
namespace Go.Proofs.YtfejiehkpikieaaDoor
open Go.ChangeShapes Go.WideShapes Go.ChangeAt Go.RowKit

theorem ownNone : ownKnob Tryd.prog.godebug = none := by kernel_rfl
theorem laidOut : laidOutB Tryd.prog = true := by kernel_rfl
theorem et : Tryd.prog.globalNamed "errors.errorType" = some 1 := by kernel_rfl
theorem oneRow : ((List.range 237).filter fun t => Tryd.prog.rowNamed t [101, 114, 114, 111, 114]) = [25] := by kernel_rfl
theorem typesSize : Tryd.prog.types.size = 237 := by kernel_rfl

/-- What the listed variable gives a walk: its one cell. -/
theorem handle_of {W : World} (h : handlesMet Tryd.prog [("errors.errorType", Rows.laid_errors_errorType)] W) : W.cell? ⟨1, 0, none⟩ = some errT := by
  obtain ⟨name, u, ty, e1, e2, e3, e4, e5⟩ := h _ (List.mem_singleton.2 rfl)
  have en : name = [101, 114, 114, 111, 114] := (Option.some.inj e1).symm
  subst en
  have hu : u = 179 := Option.some.inj (Eq.trans (Eq.symm e2) (by kernel_rfl))
  subst hu
  have hm : ty ∈ (List.range 237).filter fun t => Tryd.prog.rowNamed t [101, 114, 114, 111, 114] := List.mem_filter.2 ⟨List.mem_range.2 (by rw [← typesSize]; exact e3), e4⟩
  rw [oneRow] at hm
  obtain rfl := List.mem_singleton.1 hm
  have hh : typeHandle Tryd.prog 25 = .pointer (some ⟨3, 25, none⟩) := by kernel_rfl
  rw [hh] at e5
  simpa using World.var?_cell et e5 0

set_option maxRecDepth 100000 in
/-- An array of asks, opened. -/
theorem open_rasks {H : Type} {enc : TypeId × Value → H} {W : World} {fuel : Nat} {a : Option Addr} {len cap : Nat} {x : DataW H × List MemPlace}
    (h : DataW.trod enc Tryd.prog W 0 (fun _ => true) true fuel 84 [.slice a len cap] = some x) : len ≤ cap ∧ (len = 0 ∨ a ≠ none) ∧ ∃ q, Asks W a len q := by
  rcases Go.Deep.open_slice Tryd.underlying84 h with ⟨hcs, _⟩ | ⟨ad, l, c, m, k, D, Pl, hcs, _, hl, _, hm, _, hx⟩
  · simp at hcs
    exact ⟨by omega, .inl hcs.2.1, fun _ => ⟨0, 0⟩, .inl hcs.2.1⟩
  · simp at hcs
    obtain ⟨rfl, rfl, rfl⟩ := hcs
    refine ⟨hl, .inr (by simp), ?_⟩
    by_cases h0 : len = 0
    · exact ⟨fun _ => ⟨0, 0⟩, .inl h0⟩
    have hmc : m = cap := by simpa using hm
    have each : ∀ i, i < m → ∃ q : Want, W.cell? ((ad.add (i * 2)).add 0) = some (.int .i64 q.kind) ∧ W.cell? ((ad.add (i * 2)).add 1) = some (.int .i64 q.n) := by
      intro i hi
      obtain ⟨cs', c1, c2⟩ := hx i hi
      rw [show Tryd.prog.cellsOf 93 = 2 by kernel_rfl] at c1
      obtain ⟨_, hlen, hcell⟩ := World.cells?_some c1
      obtain ⟨xs, n', _, _, _, hxl, hf⟩ := DataW.trod_struct Tryd.underlying93 c2
      match cs', hlen with
      | [v0, v1], _ =>
        have g0 := hf 0 _ rfl
        have g1 := hf 1 _ rfl
        have l2 : xs.length = 2 := hxl
        match xs, l2 with
        | [y0, y1], _ =>
          obtain ⟨n0, e0, _, _⟩ := DataW.trod_int Tryd.underlying3 g0
          obtain ⟨n1, e1, _, _⟩ := DataW.trod_int Tryd.underlying3 g1
          have z : Tryd.prog.cellsOf 3 = 1 := by kernel_rfl
          simp [z] at e0 e1
          subst e0 e1
          exact ⟨⟨n0, n1⟩, hcell 0 (by omega), hcell 1 (by omega)⟩
    have first := each 0 (by omega)
    obtain ⟨q0, f0, _⟩ := first
    obtain ⟨blk, off, spot⟩ := ad
    have hspot : spot = none := by simpa [Addr.add] using World.cell?_spot f0
    subst hspot
    have hb : blk < W.heap.size := by simpa [Addr.add] using World.block_lt_of_cell? W _ f0
    have all : ∃ q : Nat → Want, ∀ i, i < m → W.cell? (((⟨blk, off, none⟩ : Addr).add (i * 2)).add 0) = some (.int .i64 (q i).kind) ∧ W.cell? (((⟨blk, off, none⟩ : Addr).add (i * 2)).add 1) = some (.int .i64 (q i).n) := by
      refine ⟨fun i => if hi : i < m then Classical.choose (each i hi) else ⟨0, 0⟩, fun i hi => ?_⟩
      simp only [hi, dif_pos]
      exact Classical.choose_spec (each i hi)
    obtain ⟨q, hq⟩ := all
    refine ⟨q, .inr ⟨blk, off, rfl, hb, fun i hi => ?_⟩⟩
    have := hq i (by omega)
    simp only [Addr.add_lit, Nat.add_zero] at this
    exact this

set_option maxRecDepth 100000 in
/-- The script's array, opened. -/
theorem open_script {H : Type} {enc : TypeId × Value → H} {W : World} {fuel : Nat} {a : Option Addr} {len cap : Nat} {x : DataW H × List MemPlace}
    (h : DataW.trod enc Tryd.prog W 0 (fun _ => true) true fuel 22 [.slice a len cap] = some x) : ∃ q, Script W a len q := by
  rcases Go.Deep.open_slice Tryd.underlying22 h with ⟨hcs, _⟩ | ⟨ad, l, c, m, k, D, Pl, hcs, _, hl, _, hm, _, hx⟩
  · simp at hcs
    exact ⟨fun _ => ⟨0, 0, 0, 0⟩, .inl hcs.2.1⟩
  · simp at hcs
    obtain ⟨rfl, rfl, rfl⟩ := hcs
    by_cases h0 : len = 0
    · exact ⟨fun _ => ⟨0, 0, 0, 0⟩, .inl h0⟩
    have hmc : m = cap := by simpa using hm
    have each : ∀ i, i < m → ∃ q : Item, W.cell? ((ad.add (i * 4)).add 0) = some (.int .i64 q.what) ∧ W.cell? ((ad.add (i * 4)).add 1) = some (.int .i64 q.a) ∧ W.cell? ((ad.add (i * 4)).add 2) = some (.int .i64 q.b) ∧ W.cell? ((ad.add (i * 4)).add 3) = some (.int .i64 q.v) := by
      intro i hi
      obtain ⟨cs', c1, c2⟩ := hx i hi
      rw [show Tryd.prog.cellsOf 33 = 4 by kernel_rfl] at c1
      obtain ⟨_, hlen, hcell⟩ := World.cells?_some c1
      obtain ⟨xs, n', _, _, _, hxl, hf⟩ := DataW.trod_struct Tryd.underlying33 c2
      match cs', hlen with
      | [v0, v1, v2, v3], _ =>
        have g0 := hf 0 _ rfl
        have g1 := hf 1 _ rfl
        have g2 := hf 2 _ rfl
        have g3 := hf 3 _ rfl
        have l4 : xs.length = 4 := hxl
        match xs, l4 with
        | [y0, y1, y2, y3], _ =>
          obtain ⟨n0, e0, _, _⟩ := DataW.trod_int Tryd.underlying3 g0
          obtain ⟨n1, e1, _, _⟩ := DataW.trod_int Tryd.underlying3 g1
          obtain ⟨n2, e2, _, _⟩ := DataW.trod_int Tryd.underlying3 g2
          obtain ⟨n3, e3, _, _⟩ := DataW.trod_int Tryd.underlying2 g3
          have z : Tryd.prog.cellsOf 3 = 1 := by kernel_rfl
          have z' : Tryd.prog.cellsOf 2 = 1 := by kernel_rfl
          simp [z] at e0 e1 e2
          simp [z'] at e3
          subst e0 e1 e2 e3
          exact ⟨⟨n0, n1, n2, n3⟩, hcell 0 (by omega), hcell 1 (by omega), hcell 2 (by omega), hcell 3 (by omega)⟩
    have first := each 0 (by omega)
    obtain ⟨q0, f0, _⟩ := first
    obtain ⟨blk, off, spot⟩ := ad
    have hspot : spot = none := by simpa [Addr.add] using World.cell?_spot f0
    subst hspot
    have hb : blk < W.heap.size := by simpa [Addr.add] using World.block_lt_of_cell? W _ f0
    have all : ∃ q : Nat → Item, ∀ i, i < m → W.cell? (((⟨blk, off, none⟩ : Addr).add (i * 4)).add 0) = some (.int .i64 (q i).what) ∧ W.cell? (((⟨blk, off, none⟩ : Addr).add (i * 4)).add 1) = some (.int .i64 (q i).a) ∧ W.cell? (((⟨blk, off, none⟩ : Addr).add (i * 4)).add 2) = some (.int .i64 (q i).b) ∧ W.cell? (((⟨blk, off, none⟩ : Addr).add (i * 4)).add 3) = some (.int .i64 (q i).v) := by
      refine ⟨fun i => if hi : i < m then Classical.choose (each i hi) else ⟨0, 0, 0, 0⟩, fun i hi => ?_⟩
      simp only [hi, dif_pos]
      exact Classical.choose_spec (each i hi)
    obtain ⟨q, hq⟩ := all
    refine ⟨q, .inr ⟨blk, off, rfl, hb, fun i hi => ?_⟩⟩
    have := hq i (by omega)
    simp only [Addr.add_lit, Nat.add_zero] at this
    exact this


/-- The name of the document's word for 'all is well'. -/
def fineName : String := (Rows.acctPlaysRow.laid.map (·.1)).getD 1 ""
theorem ft : Tryd.prog.globalNamed fineName = some 0 := by kernel_rfl
theorem both_parts {W : World} (h : laidMetH Tryd.prog Rows.acctPlaysRow.laid W) : laidMet Tryd.prog [(fineName, Rows.laid_almshouse_almshouseref_Fine)] W ∧ handlesMet Tryd.prog [("errors.errorType", Rows.laid_errors_errorType)] W := h

theorem well_of {W : World} (h : laidMetH Tryd.prog Rows.acctPlaysRow.laid W) : Well W := by
  obtain ⟨ps, ⟨g, t, cs, fuel, p, q, hg, ht, hv, htr, _, _⟩, _, _⟩ := (both_parts h).1
  obtain rfl : 97 = t := Option.some.inj (Eq.trans (Eq.symm (show (Tryd.prog.globals[0]?).map (·.type) = some 97 by kernel_rfl)) (by rw [← Option.some.inj (ft.symm.trans hg)] at ht; exact ht))
  obtain ⟨y0, y1, n', hx, hlen, g0, g1⟩ := trod_struct2 Tryd.underlying97 htr
  obtain ⟨n0, e0, d0, _⟩ := DataW.trod_int (k := .i64) (by kernel_rfl) g0
  obtain ⟨n1, e1, d1, _⟩ := DataW.trod_int (k := .i64) (by kernel_rfl) g1
  have z : Tryd.prog.cellsOf 3 = 1 := by kernel_rfl
  have z' : Tryd.prog.cellsOf 29 = 1 := by kernel_rfl
  have hd := congrArg Prod.fst hx
  rw [d0, d1] at hd
  have hd' : (Rows.laid_almshouse_almshouseref_Fine : DataW Unit) = .agg [.lit (.int .i64 n0), .lit (.int .i64 n1)] := by simpa using hd
  have h0 : n0 = 0 ∧ n1 = -1 := by
    simp only [Rows.laid_almshouse_almshouseref_Fine, DataW.agg.injEq, List.cons.injEq, DataW.lit.injEq, Lit.int.injEq, true_and, and_true] at hd'
    exact ⟨hd'.1.symm, hd'.2.symm⟩
  obtain ⟨rfl, rfl⟩ := h0
  have c0 : cs.toList[0]? = some (.int .i64 0) := by
    have : ((cs.toList.drop 0).take 1)[0]? = some (.int .i64 0) := by rw [z'] at e0; rw [e0]; rfl
    rwa [List.getElem?_take_of_lt (by omega), List.drop_zero] at this
  have c1 : cs.toList[1]? = some (.int .i64 (-1)) := by
    have : ((cs.toList.drop 1).take 1)[0]? = some (.int .i64 (-1)) := by rw [z] at e1; rw [e1]; rfl
    rwa [List.getElem?_take_of_lt (by omega), List.getElem?_drop] at this
  refine ⟨?_, ?_⟩
  · rw [World.var?_cell ft hv 0]; simpa using c0
  · rw [World.var?_cell ft hv 1]; simpa using c1

/-- The settled world, the two variables laid. -/
theorem laid3_met (os : Os) (args : Array Value) : laidMetH Tryd.prog Rows.acctPlaysRow.laid (({ World.holding Tryd.prog os ⟨#[], #[], []⟩ with heap := ((World.holding Tryd.prog os ⟨#[], #[], []⟩).heap.modify 1 fun | .cells _ t frozen => .cells #[errT] t frozen | o => o).modify 0 fun | .cells _ t frozen => .cells #[.int .i64 0, .int .i64 (-1)] t frozen | o => o } : World).forCall (fun _ _ => 0) ⟨#[], args, []⟩).memory :=
  laidMetH_of_parts (laidMet_of_run' 8 (by kernel_rfl) (by kernel_rfl)) (by kernel_rfl)
end Go.Proofs.YtfejiehkpikieaaDoor

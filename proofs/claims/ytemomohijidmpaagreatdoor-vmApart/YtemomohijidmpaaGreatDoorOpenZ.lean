/- Arrays of uses that come in, opened; what the four listed variables give a walk, and a world that has them. -/
import Derived.Test.YtemomohijidmpaaGreatDoorVApart
import Derived.Lib.LaidTab
import Derived.Test.YtemomohijidmpaaGreatDoorCards
import Derived.Test.YtemomohijidmpaaGreatDoorTie
import Derived.ChangeAt
import Derived.ChangeShapes
import Derived.WideShapes
import Derived.OpenShut
import Derived.ChangeOld
import Derived.Deep.Slices
import Derived.ChangeSame
import Derived.ChangeVars
import Derived.JoinedOf
import Derived.RowKit
import Derived.RowKitTokens
import Derived.LaidLaws
import Derived.LaidHandle
import Derived.Stop.Joined
import Derived.SevenTiedAt
namespace Go.Proofs.YtemomohijidmpaaGreatDoor
open Go.ChangeShapes Go.WideShapes Go.ChangeAt Go.RowKit

theorem ownNone : ownKnob Tryz.prog.godebug = none := by kernel_rfl
theorem laidOut : laidOutB Tryz.prog = true := by kernel_rfl
theorem et : Tryz.prog.globalNamed "errors.errorType" = some 0 := by kernel_rfl
theorem oneRow : ((List.range 171).filter fun t => Tryz.prog.rowNamed t [101, 114, 114, 111, 114]) = [26] := by kernel_rfl
theorem typesSize : Tryz.prog.types.size = 171 := by kernel_rfl

/-- The four listed variables: three tables, and a handle. -/
theorem four_parts {W : World} (h : laidMetH Tryz.prog Rows.vmApartRow.laid W) : laidMet Tryz.prog (Rows.vmApartRow.laid.take 3) W ∧ handlesMet Tryz.prog [("errors.errorType", Rows.laid_errors_errorType)] W := h

theorem handle_of_four {W : World} (h : laidMetH Tryz.prog Rows.vmApartRow.laid W) : W.cell? ⟨0, 0, none⟩ = some errT := by
  obtain ⟨name, u, ty, e1, e2, e3, e4, e5⟩ := (four_parts h).2 _ (List.mem_singleton.2 rfl)
  have en : name = [101, 114, 114, 111, 114] := (Option.some.inj e1).symm
  subst en
  have hu : u = 127 := Option.some.inj (Eq.trans (Eq.symm e2) (by kernel_rfl))
  subst hu
  have hm : ty ∈ (List.range 171).filter fun t => Tryz.prog.rowNamed t [101, 114, 114, 111, 114] := List.mem_filter.2 ⟨List.mem_range.2 (by rw [← typesSize]; exact e3), e4⟩
  rw [oneRow] at hm
  obtain rfl := List.mem_singleton.1 hm
  have hh : typeHandle Tryz.prog 26 = .pointer (some ⟨4, 26, none⟩) := by kernel_rfl
  rw [hh] at e5
  simpa using World.var?_cell et e5 0

theorem pow_head : Rows.vmApartRow.laid.take 3 = (powName, Lib.tabData .u64 Lib.pow10Tab) :: (Rows.vmApartRow.laid.take 3).drop 1 := by kernel_rfl
theorem pow_of_four {W : World} (h : laidMetH Tryz.prog Rows.vmApartRow.laid W) : Pow W := by
  have h1 := (four_parts h).1
  rw [pow_head] at h1
  exact Lib.tabIs_of_head powGlobal (t := 122) (e := 101) (n := 20) (by kernel_rfl) Tryz.underlying122 Tryz.underlying101 (by kernel_rfl) (by kernel_rfl) h1

/-- A table's cells. -/
def litCells (d : DataW Unit) : Array Value := match d with
  | .agg l => (l.map fun x => match x with
    | .lit (.int k n) => Value.int k n
    | _ => .nilIface).toArray
  | _ => #[]

/-- The settled world, the four variables laid. -/
theorem laid4_met (os : Os) (args : Array Value) : laidMetH Tryz.prog Rows.vmApartRow.laid (({ World.holding Tryz.prog os ⟨#[], #[], []⟩ with heap := ((((World.holding Tryz.prog os ⟨#[], #[], []⟩).heap.modify 0 fun | .cells _ t frozen => .cells #[errT] t frozen | o => o).modify 1 fun | .cells _ t frozen => .cells (litCells Rows.laid_internal_strconv_uint64pow10) t frozen | o => o).modify 2 fun | .cells _ t frozen => .cells (litCells Rows.laid_math_bits_deBruijn32tab) t frozen | o => o).modify 3 fun | .cells _ t frozen => .cells (litCells Rows.laid_math_bits_deBruijn64tab) t frozen | o => o } : World).forCall (fun _ _ => 0) ⟨#[], args, []⟩).memory :=
  laidMetH_of_parts (laidMet_of_run' 8 (by kernel_rfl) (by kernel_rfl)) (by kernel_rfl)

theorem wf_min {n : Int} (h : (Lit.int .i64 n).wf = true) : -9223372036854775808 ≤ n := by
  have b : IntKind.min .i64 = -9223372036854775808 := rfl
  simp only [Lit.wf, b, Bool.and_eq_true, decide_eq_true_eq] at h; omega

set_option maxRecDepth 100000 in
/-- An array of uses, opened. -/
theorem open_uses {H : Type} {enc : TypeId × Value → H} {W : World} {fuel : Nat} {a : Option Addr} {len cap : Nat} {x : DataW H × List MemPlace}
    (h : DataW.trod enc Tryz.prog W 0 (fun _ => true) true fuel 22 [.slice a len cap] = some x) : ∃ q, Uses W a len q := by
  rcases Go.Deep.open_slice Tryz.underlying22 h with ⟨hcs, _⟩ | ⟨ad, l, c, m, k, D, Pl, hcs, _, hl, _, hm, _, hx⟩
  · simp at hcs
    exact ⟨fun _ => ⟨0, 0, 0, 0, 0⟩, .inl hcs.2.1⟩
  · simp at hcs
    obtain ⟨rfl, rfl, rfl⟩ := hcs
    by_cases h0 : len = 0
    · exact ⟨fun _ => ⟨0, 0, 0, 0, 0⟩, .inl h0⟩
    have hmc : m = cap := by simpa using hm
    have each : ∀ i, i < m → ∃ q : Us, W.cell? ((ad.add (i * 5)).add 0) = some (.int .i64 q.what) ∧ W.cell? ((ad.add (i * 5)).add 1) = some (.int .i64 q.at_) ∧ W.cell? ((ad.add (i * 5)).add 2) = some (.int .i64 q.n) ∧ W.cell? ((ad.add (i * 5)).add 3) = some (.int .i64 q.prot) ∧ W.cell? ((ad.add (i * 5)).add 4) = some (.int .i64 q.v) ∧ q.ok ∧ -9223372036854775808 ≤ q.v ∧ q.v ≤ 9223372036854775807 := by
      intro i hi
      obtain ⟨cs', c1, c2⟩ := hx i hi
      rw [show Tryz.prog.cellsOf 35 = 5 by kernel_rfl] at c1
      obtain ⟨_, hlen, hcell⟩ := World.cells?_some c1
      obtain ⟨xs, n', _, _, _, hxl, hf⟩ := DataW.trod_struct Tryz.underlying35 c2
      match cs', hlen with
      | [v0, v1, v2, v3, v4], _ =>
        have g0 := hf 0 _ rfl
        have g1 := hf 1 _ rfl
        have g2 := hf 2 _ rfl
        have g3 := hf 3 _ rfl
        have g4 := hf 4 _ rfl
        have l5 : xs.length = 5 := hxl
        match xs, l5 with
        | [y0, y1, y2, y3, y4], _ =>
          obtain ⟨n0, e0, _, _⟩ := DataW.trod_int Tryz.underlying3 g0
          obtain ⟨n1, e1, _, hw1⟩ := DataW.trod_int Tryz.underlying3 g1
          obtain ⟨n2, e2, _, hw2⟩ := DataW.trod_int Tryz.underlying3 g2
          obtain ⟨n3, e3, _, _⟩ := DataW.trod_int Tryz.underlying3 g3
          obtain ⟨n4, e4, _, hw4⟩ := DataW.trod_int Tryz.underlying2 g4
          have z : Tryz.prog.cellsOf 3 = 1 := by kernel_rfl
          have z' : Tryz.prog.cellsOf 2 = 1 := by kernel_rfl
          simp [z] at e0 e1 e2 e3
          simp [z'] at e4
          subst e0 e1 e2 e3 e4
          exact ⟨⟨n0, n1, n2, n3, n4⟩, hcell 0 (by omega), hcell 1 (by omega), hcell 2 (by omega), hcell 3 (by omega), hcell 4 (by omega), ⟨hw1, hw2⟩, wf_min hw4, wf_max hw4⟩
    have first := each 0 (by omega)
    obtain ⟨q0, f0, _⟩ := first
    obtain ⟨blk, off, spot⟩ := ad
    have hspot : spot = none := by simpa [Addr.add] using World.cell?_spot f0
    subst hspot
    have hb : blk < W.heap.size := by simpa [Addr.add] using World.block_lt_of_cell? W _ f0
    have all : ∃ q : Nat → Us, ∀ i, i < m → W.cell? (((⟨blk, off, none⟩ : Addr).add (i * 5)).add 0) = some (.int .i64 (q i).what) ∧ W.cell? (((⟨blk, off, none⟩ : Addr).add (i * 5)).add 1) = some (.int .i64 (q i).at_) ∧ W.cell? (((⟨blk, off, none⟩ : Addr).add (i * 5)).add 2) = some (.int .i64 (q i).n) ∧ W.cell? (((⟨blk, off, none⟩ : Addr).add (i * 5)).add 3) = some (.int .i64 (q i).prot) ∧ W.cell? (((⟨blk, off, none⟩ : Addr).add (i * 5)).add 4) = some (.int .i64 (q i).v) ∧ (q i).ok ∧ -9223372036854775808 ≤ (q i).v ∧ (q i).v ≤ 9223372036854775807 := by
      refine ⟨fun i => if hi : i < m then Classical.choose (each i hi) else ⟨0, 0, 0, 0, 0⟩, fun i hi => ?_⟩
      simp only [hi, dif_pos]
      exact Classical.choose_spec (each i hi)
    obtain ⟨q, hq⟩ := all
    refine ⟨q, .inr ⟨blk, off, rfl, hb, fun i hi => ?_⟩⟩
    have := hq i (by omega)
    simp only [Addr.add_lit, Nat.add_zero] at this
    exact this

end Go.Proofs.YtemomohijidmpaaGreatDoor

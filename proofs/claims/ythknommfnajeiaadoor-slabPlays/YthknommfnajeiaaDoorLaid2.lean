/- What the two listed variables give a walk, and a world that has them. -/
import Derived.Test.YthknommfnajeiaaDoorCards
import Derived.Test.YthknommfnajeiaaDoorTie
import Derived.Test.YthknommfnajeiaaDoorRising
import Derived.Test.YthknommfnajeiaaDoorBare
import Derived.ChangeAt
import Derived.ChangeShapes
import Derived.WideShapes
import Derived.OpenShut
import Derived.ChangeOld
import Derived.Deep.Slices
import Derived.ChangeSame
import Derived.ChangeVars
import Derived.JoinedOf
import Derived.RowKit
import Derived.RowKitTokens
import Derived.LaidLaws
import Derived.LaidHandle
import Derived.Stop.Joined
import Derived.SevenTiedAt
namespace Go.Proofs.YthknommfnajeiaaDoor
open Go.ChangeShapes Go.WideShapes Go.ChangeAt Go.RowKit

theorem ownNone : ownKnob Tryd.prog.godebug = none := by kernel_rfl
theorem laidOut : laidOutB Tryd.prog = true := by kernel_rfl
theorem et : Tryd.prog.globalNamed "errors.errorType" = some 0 := by kernel_rfl
/-- The name of the table. -/
def tabName : String := (Rows.slabCountsRow.laid.map (·.1)).headD ""
theorem bt : Tryd.prog.globalNamed tabName = some 1 := by kernel_rfl
theorem oneRow : ((List.range 219).filter fun t => Tryd.prog.rowNamed t [101, 114, 114, 111, 114]) = [25] := by kernel_rfl
theorem typesSize : Tryd.prog.types.size = 219 := by kernel_rfl

/-- The two listed variables. -/
def two : List (String × DataW Unit) := Rows.slabCountsRow.laid
theorem two_parts {W : World} (h : laidMetH Tryd.prog two W) : laidMet Tryd.prog [(tabName, Rows.laid_math_bits_deBruijn32tab)] W ∧ handlesMet Tryd.prog [("errors.errorType", Rows.laid_errors_errorType)] W := h

theorem handle_of_two {W : World} (h : laidMetH Tryd.prog two W) : W.cell? ⟨0, 0, none⟩ = some errT := by
  obtain ⟨name, u, ty, e1, e2, e3, e4, e5⟩ := (two_parts h).2 _ (List.mem_singleton.2 rfl)
  have en : name = [101, 114, 114, 111, 114] := (Option.some.inj e1).symm
  subst en
  have hu : u = 161 := Option.some.inj (Eq.trans (Eq.symm e2) (by kernel_rfl))
  subst hu
  have hm : ty ∈ (List.range 219).filter fun t => Tryd.prog.rowNamed t [101, 114, 114, 111, 114] := List.mem_filter.2 ⟨List.mem_range.2 (by rw [← typesSize]; exact e3), e4⟩
  rw [oneRow] at hm
  obtain rfl := List.mem_singleton.1 hm
  have hh : typeHandle Tryd.prog 25 = .pointer (some ⟨2, 25, none⟩) := by kernel_rfl
  rw [hh] at e5
  simpa using World.var?_cell et e5 0

theorem lits_tab : (Rows.laid_math_bits_deBruijn32tab : DataW Unit) = .agg (Lib.deBruijn32tab.map fun (n : Nat) => .lit (.int .u8 (n : Int))) := by kernel_rfl

theorem tab_of_two {W : World} (h : laidMetH Tryd.prog two W) : Tab W := by
  obtain ⟨ps, ⟨g, t, cs, fuel, p, q, hg, ht, hv, htr, _, _⟩, _, _⟩ := (two_parts h).1
  obtain rfl : 138 = t := Option.some.inj (Eq.trans (Eq.symm (show (Tryd.prog.globals[1]?).map (·.type) = some 138 by kernel_rfl)) (by rw [← Option.some.inj (bt.symm.trans hg)] at ht; exact ht))
  rw [lits_tab] at htr
  obtain ⟨xs, m, _, hx, hlen, hxl, hf⟩ := DataW.trod_array Tryd.underlying138 htr
  have hxs : Lib.deBruijn32tab.map (fun (n : Nat) => (.lit (.int .u8 (n : Int)) : DataW Unit)) = xs.map (·.1) := by
    have := congrArg Prod.fst hx
    simpa using this
  intro j hj
  have hj' : j < 32 := hj
  have hfj := hf j hj'
  have hjx : j < xs.length := by omega
  rw [List.getElem?_eq_getElem hjx, show Tryd.prog.cellsOf 5 = 1 by kernel_rfl, Nat.mul_one] at hfj
  obtain ⟨n0, e0, e1, _⟩ := DataW.trod_int Tryd.underlying5 hfj
  have hn : (n0 : Int) = ((Lib.deBruijn32tab.getD j 0 : Nat) : Int) := by
    have h1 : (Lib.deBruijn32tab.map (fun (n : Nat) => (.lit (.int .u8 (n : Int)) : DataW Unit)))[j]? = (xs.map (·.1))[j]? := by rw [hxs]
    rw [List.getElem?_map, List.getElem?_map, List.getElem?_eq_getElem hjx, List.getElem?_eq_getElem hj, e1] at h1
    simp only [Option.map_some, Option.some.injEq, DataW.lit.injEq, Lit.int.injEq, true_and] at h1
    rw [← h1, List.getD_eq_getElem?_getD, List.getElem?_eq_getElem hj]; rfl
  rw [World.var?_cell bt hv j, ← hn]
  have h2 : (cs.toList.drop j)[0]? = some (.int .u8 n0) := by
    have : ((cs.toList.drop j).take 1)[0]? = some (.int .u8 n0) := by rw [e0]; rfl
    rwa [List.getElem?_take_of_lt (by omega)] at this
  rw [List.getElem?_drop, Nat.add_zero, Array.getElem?_toList] at h2
  exact h2

/-- The settled world, the two variables laid. -/
theorem laid2_met (os : Os) (args : Array Value) : laidMetH Tryd.prog two (({ World.holding Tryd.prog os ⟨#[], #[], []⟩ with heap := ((World.holding Tryd.prog os ⟨#[], #[], []⟩).heap.modify 0 fun | .cells _ t frozen => .cells #[errT] t frozen | o => o).modify 1 fun | .cells _ t frozen => .cells (Lib.deBruijn32tab.map fun (n : Nat) => Value.int .u8 (n : Int)).toArray t frozen | o => o } : World).forCall (fun _ _ => 0) ⟨#[], args, []⟩).memory :=
  laidMetH_of_parts (laidMet_of_run' 8 (by kernel_rfl) (by kernel_rfl)) (by kernel_rfl)
end Go.Proofs.YthknommfnajeiaaDoor

/- What the listed table of the library gives a walk. -/
import Derived.Test.YtidinhbokkelnacDoorJBits
import Derived.Test.YtidinhbokkelnacDoorDoor
namespace Go.Proofs.YtidinhbokkelnacDoor
open Go.ChangeShapes Go.WideShapes Go.ChangeAt Go.RowKit

theorem lits_tab64 : (Rows.laid_math_bits_deBruijn64tab : DataW Unit) = .agg (Lib.deBruijn64tab.map fun (n : Nat) => .lit (.int .u8 (n : Int))) := by kernel_rfl
/-- A table's cells. -/
def litCells (d : DataW Unit) : Array Value := match d with
  | .agg l => (l.map fun x => match x with
    | .lit (.int k n) => Value.int k n
    | _ => .nilIface).toArray
  | _ => #[]
theorem tab64_of {W : World} {x : String × DataW Unit} {name : String} (bt : Tryd.prog.globalNamed name = some 2) (h : laidMet Tryd.prog [x, (name, Rows.laid_math_bits_deBruijn64tab)] W) : Tab64 W := by
  obtain ⟨ps, ⟨_, _, _, _, _, q1, _, _, _, _, ⟨g, t, cs, fuel, p, q, hg, ht, hv, htr, _, _⟩, _⟩, _, _⟩ := h
  obtain rfl : 115 = t := Option.some.inj (Eq.trans (Eq.symm (show (Tryd.prog.globals[2]?).map (·.type) = some 115 by kernel_rfl)) (by rw [← Option.some.inj (bt.symm.trans hg)] at ht; exact ht))
  rw [lits_tab64] at htr
  obtain ⟨xs, m, _, hx, hlen, hxl, hf⟩ := DataW.trod_array Tryd.underlying115 htr
  have hxs : Lib.deBruijn64tab.map (fun (n : Nat) => (.lit (.int .u8 (n : Int)) : DataW Unit)) = xs.map (·.1) := by
    have := congrArg Prod.fst hx
    simpa using this
  intro j hj
  have hj' : j < 64 := hj
  have hfj := hf j hj'
  have hjx : j < xs.length := by omega
  rw [List.getElem?_eq_getElem hjx, show Tryd.prog.cellsOf 5 = 1 by kernel_rfl, Nat.mul_one] at hfj
  obtain ⟨n0, e0, e1, _⟩ := DataW.trod_int Tryd.underlying5 hfj
  have hn : (n0 : Int) = ((Lib.deBruijn64tab.getD j 0 : Nat) : Int) := by
    have h1 : (Lib.deBruijn64tab.map (fun (n : Nat) => (.lit (.int .u8 (n : Int)) : DataW Unit)))[j]? = (xs.map (·.1))[j]? := by rw [hxs]
    rw [List.getElem?_map, List.getElem?_map, List.getElem?_eq_getElem hjx, List.getElem?_eq_getElem hj, e1] at h1
    simp only [Option.map_some, Option.some.injEq, DataW.lit.injEq, Lit.int.injEq, true_and] at h1
    rw [← h1, List.getD_eq_getElem?_getD, List.getElem?_eq_getElem hj]; rfl
  rw [World.var?_cell bt hv j, ← hn]
  have h2 : (cs.toList.drop j)[0]? = some (.int .u8 n0) := by
    have : ((cs.toList.drop j).take 1)[0]? = some (.int .u8 n0) := by rw [e0]; rfl
    rwa [List.getElem?_take_of_lt (by omega)] at this
  rw [List.getElem?_drop, Nat.add_zero, Array.getElem?_toList] at h2
  exact h2
end Go.Proofs.YtidinhbokkelnacDoor

/- Small facts that the walks of BuddyTrue lean on. -/
import Derived.Test.YthknommfnajeiaaDoorParts
import Derived.Test.YthknommfnajeiaaDoorPut
namespace Go.Proofs.YthknommfnajeiaaDoor
open Go.RowKit Go.Shelf Go.Lib Go.Sort

theorem len_size (l : List (Nat × Nat)) : l.length ≤ size l := by
  induction l with
  | nil => exact Nat.le_refl _
  | cons a l ih =>
    have := Nat.two_pow_pos a.2
    simp only [size, List.map_cons, List.sum_cons, List.length_cons] at *; omega

/-- V, and j frames from z on. -/
def upto (V : Nat → Bool) (z j : Nat) : Nat → Bool := fun f => V f || decide (z ≤ f ∧ f < z + j)
theorem upto_zero (V : Nat → Bool) (z : Nat) : upto V z 0 = V := by
  funext f; rw [upto, decide_eq_false (by omega), Bool.or_false]
theorem upto_new {V : Nat → Bool} {z j : Nat} (h : V (z + j) = false) : upto V z j (z + j) = false := by
  rw [upto, h, decide_eq_false (by omega)]; rfl
theorem upto_next (V : Nat → Bool) (z j : Nat) : (fun f => if f = z + j then true else upto V z j f) = upto V z (j + 1) := by
  funext f
  by_cases e : f = z + j
  · have hd : decide (z ≤ f ∧ f < z + (j + 1)) = true := decide_eq_true (by omega)
    rw [if_pos e, upto, hd, Bool.or_true]
  · have hd : decide (z ≤ f ∧ f < z + j) = decide (z ≤ f ∧ f < z + (j + 1)) := decide_eq_decide.2 (by omega)
    rw [if_neg e, upto, upto, hd]

theorem hbl {w : World} {g o : Nat} {v : Value} (h : w.cell? ⟨g, o, none⟩ = some v) : g < w.heap.size := by
  by_cases e : g < w.heap.size
  · exact e
  · have hn : w.heap[g]? = none := Array.getElem?_eq_none (by omega)
    simp [World.cell?, hn] at h

theorem seven {k : Nat} (h : k ≤ 6) : k = 0 ∨ k = 1 ∨ k = 2 ∨ k = 3 ∨ k = 4 ∨ k = 5 ∨ k = 6 := by omega
theorem pow_small {k : Nat} (h : k ≤ 6) : wrap64 ((2 : Int) ^ k) = ((2 ^ k : Nat) : Int) := by
  rcases seven h with rfl | rfl | rfl | rfl | rfl | rfl | rfl <;> kernel_rfl
theorem wrap_small {p : Nat} (hp : p ≤ 200) : wrap64 (p : Int) = (p : Int) := by unfold wrap64; omega

end Go.Proofs.YthknommfnajeiaaDoor

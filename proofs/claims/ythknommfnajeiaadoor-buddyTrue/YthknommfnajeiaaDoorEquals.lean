/- slices.Equal of blocks, by the library's contract. -/
import Derived.Test.YthknommfnajeiaaDoorTaken
import Derived.Test.YthknommfnajeiaaDoorHas
import Derived.Test.YthknommfnajeiaaDoorShelf4
namespace Go.Proofs.YthknommfnajeiaaDoor
open Go.RowKit Go.Shelf Go.Lib Go.Sort

theorem neq_blk : NeqAt Tryd.prog 62 (fun x : Int × Int => .agg (be x).toArray) (fun x y => x.1 == y.1 && x.2 == y.2) := by
  refine ⟨fun x y w => ?_, GuardAt.agg _ (by kernel_rfl)⟩
  have u3 := Tryd.underlying3
  have a3 := Tryd.isAgg3
  have z3 := Tryd.sizeOf3
  have hS : Tryd.prog.underlying 62 = some (.struct (Tryd.prog.fieldsOf 62)) := by kernel_rfl
  have hp : Tryd.prog.stoodInHeld 62 = false := by kernel_rfl
  simp only [be]
  rw [run_neq_struct, show (10000 : Nat) = 9999 + 1 from rfl, run_equalIn_agg w 9999 62 _ _ hS hp]
  simp only [Program.fieldsOf, Tryd.underlying62]
  go_simp
  by_cases h1 : x.fst = y.fst <;> by_cases h2 : x.snd = y.snd <;> simp [h1, h2]

theorem allEq_self : ∀ L : List (Int × Int), Lib.allEq (fun x y : Int × Int => x.1 == y.1 && x.2 == y.2) L L = true
  | [] => rfl
  | x :: l => by simp [Lib.allEq, allEq_self l]

theorem rd_cells {w : World} {g : Nat} {L : List (Int × Int)} (h : Rd w g L) : ∀ j, j < L.length → ∀ i v, (be L[j]!)[i]? = some v → w.cell? ⟨g, 0 + j * 2 + i, none⟩ = some v := by
  intro j hj i v hv
  rw [show L[j]! = L[j] from getElem!_pos L j hj] at hv
  match i, hv with
  | 0, hv => cases hv; rw [Nat.zero_add, Nat.add_zero]; exact (h j hj).1
  | 1, hv => cases hv; rw [Nat.zero_add]; exact (h j hj).2
  | i + 2, hv => simp [be] at hv

theorem equal_ok {w : World} {g cap g' cap' : Nat} {L : List (Int × Int)} (h : Rd w g L) (h' : Rd w g' L) (hl : L.length ≤ 1000) :
    Calls Tryd.prog 31 #[.slice (some ⟨g, 0, none⟩) L.length cap, .slice (some ⟨g', 0, none⟩) L.length cap'] w fun e w' => e = .returned (.bool true) ∧ Below w.heap.size w w' := by
  refine (AnyQ.slices_Equal Tryd.equalL 2 Tryd.isAgg62 Tryd.sizeOf62 be (fun _ => rfl) _ neq_blk g 0 L.length cap g' 0 L.length cap' L L w (Nat.le_refl _) (Nat.le_refl _) (by omega) (by omega) (rd_cells h) (rd_cells h')).mono ?_
  rintro e w' ⟨rfl, q, rfl⟩
  exact ⟨by rw [List.take_length, allEq_self], ⟨rfl, rfl, rfl, Nat.le_refl _, fun _ _ => rfl⟩⟩
end Go.Proofs.YthknommfnajeiaaDoor

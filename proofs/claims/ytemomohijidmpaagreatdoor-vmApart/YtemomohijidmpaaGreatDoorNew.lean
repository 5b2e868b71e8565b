/- What New of package frames does to a world, by its Go text. -/
import Derived.Test.YtemomohijidmpaaGreatDoorCopy
namespace Go.Proofs.YtemomohijidmpaaGreatDoor
open Go.RowKit

/-- The cells of n new frames. -/
def blank (n : Nat) : Array Value := madeCells (eight fun _ => 0).toArray (n * 8)

theorem blank_at (n f k : Nat) (hf : f < n) (hk : k < 8) : (blank n)[f * 8 + k]? = some (.int .i64 0) := by
  have hlt : f * 8 + k < n * 8 := by omega
  have hm : (f * 8 + k) % 8 = k := by omega
  have hs : (eight fun _ => 0).toArray.size = 8 := rfl
  unfold blank madeCells
  rw [Array.getElem?_map, Array.getElem?_range, if_pos hlt, Option.map_some, hs, hm]
  match k, hk with
  | 0, _ | 1, _ | 2, _ | 3, _ | 4, _ | 5, _ | 6, _ | 7, _ => rfl

theorem mem_new (w : World) (n : Nat) : Mem ((w.alloc (.cells (blank n) 94)).alloc (.cells #[.slice (some ⟨w.heap.size, 0, none⟩) n n] 82)) (w.heap.size + 1) w.heap.size n (fun _ _ => 0) := by
  have e1 : ((w.alloc (.cells (blank n) 94)).alloc (.cells #[.slice (some ⟨w.heap.size, 0, none⟩) n n] 82)).heap[w.heap.size + 1]? = some (.cells #[.slice (some ⟨w.heap.size, 0, none⟩) n n] 82) := by
    show ((w.heap.push (.cells (blank n) 94)).push _)[w.heap.size + 1]? = _
    rw [Array.getElem?_push, if_pos (by simp)]
  have e2 : ((w.alloc (.cells (blank n) 94)).alloc (.cells #[.slice (some ⟨w.heap.size, 0, none⟩) n n] 82)).heap[w.heap.size]? = some (.cells (blank n) 94) := by
    show ((w.heap.push (.cells (blank n) 94)).push _)[w.heap.size]? = _
    rw [Array.getElem?_push, if_neg (by simp), Array.getElem?_push, if_pos rfl]
  refine ⟨?_, by omega, fun f k hf hk => ?_, fun f k hf hk => ?_⟩
  · rw [cell_of_row _ _ 0 _ _ _ e1]; rfl
  · rw [cell_of_row _ _ _ _ _ _ e2, blank_at n f k hf hk]
  · simp [World.frozen?, e2]

set_option maxHeartbeats 400000 in
theorem new_ok (w : World) (n : Int) (h1 : 1 ≤ n) (h2 : n ≤ 256) :
    Calls Tryz.prog 18 #[.int .i64 n] w fun e w' => ∃ b, e = .returned (.tuple #[mp b, .nilIface]) ∧ ∃ s, Mem w' b s n.toNat (fun _ _ => 0) ∧ w.heap.size ≤ s ∧ w.heap.size ≤ b ∧ Below w.heap.size w w' := by
  obtain ⟨i, hi, hz, hs, hb⟩ := info_parts (P := Tryz.prog) (e := 94) (z := .agg (eight fun _ => 0).toArray) (size := 8) (bytes := 64) (by kernel_rfl)
  have hmk : ∀ wx : World, (Instr.makeSlice 80 (.int .i64 n) (.int .i64 n)).run Tryz.prog wx = .ok (.slice (some ⟨wx.heap.size, 0, none⟩) n.toNat n.toNat) (wx.alloc (.cells (blank n.toNat) 94)) := by
    intro wx
    have := run_make (P := Tryz.prog) wx 80 94 i _ Tryz.underlying80 hi hz .i64 .i64 n n (by omega) (by omega) (by rw [hb]; omega) (by omega)
    rw [hs] at this
    exact this
  clear hi hz hs hb
  have h3 : ¬ n < 1 := by omega
  go_enter Tryz.func18, Tryz.ntmps18
  go_wp2
  go_ret2
  exact ⟨_, rfl, _, mem_new w n.toNat, Nat.le_refl _, Nat.le_succ _, ((Below.refl _ w).alloc (Nat.le_refl _) _).alloc (by simp) _⟩

set_option maxHeartbeats 400000 in
theorem new_no (w : World) (n : Int) (h : ¬ (1 ≤ n ∧ n ≤ 256)) :
    Calls Tryz.prog 18 #[.int .i64 n] w fun e w' => e = .returned (.tuple #[.pointer none, refused]) ∧ w' = w := by
  by_cases h1 : n < 1 <;> by_cases h2 : 256 < n
  all_goals first
    | (exfalso; omega)
    | (clear h
       go_enter Tryz.func18, Tryz.ntmps18
       go_wp2
       go_ret2
       exact ⟨rfl, rfl⟩)
end Go.Proofs.YtemomohijidmpaaGreatDoor

/- What Copy of package frames does to a world, by its Go text. -/
import Derived.Test.YtcfhanoekniaaaaGreatDoorWalks
import Derived.RegionTactic
import Derived.ChangeAlike
namespace Go.Proofs.YtcfhanoekniaaaaGreatDoor
open Go.RowKit

theorem setCells_eight (w : World) (s o : Nat) (R : Nat → Int) : w.setCells s o (eight R) =
    (((((((w.setCell ⟨s, o, none⟩ (.int .i64 (R 0))).setCell ⟨s, o + 1, none⟩ (.int .i64 (R 1))).setCell ⟨s, o + 2, none⟩ (.int .i64 (R 2))).setCell ⟨s, o + 3, none⟩ (.int .i64 (R 3))).setCell ⟨s, o + 4, none⟩ (.int .i64 (R 4))).setCell ⟨s, o + 5, none⟩ (.int .i64 (R 5))).setCell ⟨s, o + 6, none⟩ (.int .i64 (R 6))).setCell ⟨s, o + 7, none⟩ (.int .i64 (R 7)) := rfl

theorem grown_drew {w w' : World} {r : Option Nat} (h : w.grownBy w' r) : w.grownBy w'.drew r := ⟨h.os, h.tape, h.output, h.size, h.block⟩

theorem Mem.drew {w : World} {b s n : Nat} {D : Nat → Nat → Int} (m : Mem w b s n D) : Mem w.drew b s n D := m.keep rfl rfl

set_option maxHeartbeats 1000000 in
theorem copy_ok {w : World} {b s n : Nat} {D : Nat → Nat → Int} (m : Mem w b s n D) (f g : Int) (hf : 0 ≤ f) (hf' : f < n) (hg : 0 ≤ g) (hg' : g < n) :
    Calls Tryz.prog 286 #[mp b, .int .i64 f, .int .i64 g] w fun e w' => e = .returned .nilIface ∧ Mem w' b s n (row D f.toNat (D g.toNat)) ∧ Below s w w' ∧ w.grownBy w' (some s) := by
  have hh := m.head
  have c0 : w.cell? ⟨s, g.toNat * 8, none⟩ = some (.int .i64 (D g.toNat 0)) := m.word g.toNat 0 (by omega) (by omega)
  have c1 := m.word g.toNat 1 (by omega) (by omega)
  have c2 := m.word g.toNat 2 (by omega) (by omega)
  have c3 := m.word g.toNat 3 (by omega) (by omega)
  have c4 := m.word g.toNat 4 (by omega) (by omega)
  have c5 := m.word g.toNat 5 (by omega) (by omega)
  have c6 := m.word g.toNat 6 (by omega) (by omega)
  have c7 := m.word g.toNat 7 (by omega) (by omega)
  have d0 : w.cell? ⟨s, f.toNat * 8, none⟩ = some (.int .i64 (D f.toNat 0)) := m.word f.toNat 0 (by omega) (by omega)
  have d1 := m.word f.toNat 1 (by omega) (by omega)
  have d2 := m.word f.toNat 2 (by omega) (by omega)
  have d3 := m.word f.toNat 3 (by omega) (by omega)
  have d4 := m.word f.toNat 4 (by omega) (by omega)
  have d5 := m.word f.toNat 5 (by omega) (by omega)
  have d6 := m.word f.toNat 6 (by omega) (by omega)
  have d7 := m.word f.toNat 7 (by omega) (by omega)
  have l0 : w.frozen? ⟨s, f.toNat * 8, none⟩ = false := m.live f.toNat 0 (by omega) (by omega)
  have l1 := m.live f.toNat 1 (by omega) (by omega)
  have l2 := m.live f.toNat 2 (by omega) (by omega)
  have l3 := m.live f.toNat 3 (by omega) (by omega)
  have l4 := m.live f.toNat 4 (by omega) (by omega)
  have l5 := m.live f.toNat 5 (by omega) (by omega)
  have l6 := m.live f.toNat 6 (by omega) (by omega)
  have l7 := m.live f.toNat 7 (by omega) (by omega)
  go_enter Tryz.func286, Tryz.ntmps286
  go_wp2
  go_region
  go_wp2
  go_ret
  have fin := Mem.put m f.toNat (by omega) (D g.toNat)
  have bel := Below.setCells s (Nat.le_refl s) (eight (D g.toNat)) (f.toNat * 8) w (Below.refl s w)
  have gro := grown_sets s (eight (D g.toNat)) (f.toNat * 8) w
  rw [setCells_eight] at fin bel gro
  exact ⟨rfl, fin.drew, bel.drew, grown_drew gro⟩
end Go.Proofs.YtcfhanoekniaaaaGreatDoor

namespace Go.Proofs.YtcfhanoekniaaaaGreatDoor
open Go.RowKit

/-- The cells of n new frames. -/
def blank (n : Nat) : Array Value := madeCells (eight fun _ => 0).toArray (n * 8)

theorem blank_at (n f k : Nat) (hf : f < n) (hk : k < 8) : (blank n)[f * 8 + k]? = some (.int .i64 0) := by
  have hlt : f * 8 + k < n * 8 := by omega
  have hm : (f * 8 + k) % 8 = k := by omega
  have hs : (eight fun _ => 0).toArray.size = 8 := rfl
  unfold blank madeCells
  rw [Array.getElem?_map, Array.getElem?_range, if_pos hlt, Option.map_some, hs, hm]
  match k, hk with
  | 0, _ | 1, _ | 2, _ | 3, _ | 4, _ | 5, _ | 6, _ | 7, _ => rfl

theorem mem_new (w : World) (n : Nat) : Mem ((w.alloc (.cells (blank n) 389)).alloc (.cells #[.slice (some ⟨w.heap.size, 0, none⟩) n n] 331)) (w.heap.size + 1) w.heap.size n (fun _ _ => 0) := by
  have e1 : ((w.alloc (.cells (blank n) 389)).alloc (.cells #[.slice (some ⟨w.heap.size, 0, none⟩) n n] 331)).heap[w.heap.size + 1]? = some (.cells #[.slice (some ⟨w.heap.size, 0, none⟩) n n] 331) := by
    show ((w.heap.push (.cells (blank n) 389)).push _)[w.heap.size + 1]? = _
    rw [Array.getElem?_push, if_pos (by simp)]
  have e2 : ((w.alloc (.cells (blank n) 389)).alloc (.cells #[.slice (some ⟨w.heap.size, 0, none⟩) n n] 331)).heap[w.heap.size]? = some (.cells (blank n) 389) := by
    show ((w.heap.push (.cells (blank n) 389)).push _)[w.heap.size]? = _
    rw [Array.getElem?_push, if_neg (by simp), Array.getElem?_push, if_pos rfl]
  refine ⟨?_, by omega, fun f k hf hk => ?_, fun f k hf hk => ?_⟩
  · rw [cell_of_row _ _ 0 _ _ _ e1]; rfl
  · rw [cell_of_row _ _ _ _ _ _ e2, blank_at n f k hf hk]
  · simp [World.frozen?, e2]

set_option maxHeartbeats 400000 in
theorem newF_ok (w : World) (n : Int) (h1 : 1 ≤ n) (h2 : n ≤ 256) :
    Calls Tryz.prog 130 #[.int .i64 n] w fun e w' => ∃ b, e = .returned (.tuple #[mp b, .nilIface]) ∧ ∃ s, Mem w' b s n.toNat (fun _ _ => 0) ∧ w.heap.size ≤ s ∧ w.heap.size ≤ b ∧ Below w.heap.size w w' := by
  obtain ⟨i, hi, hz, hs, hb⟩ := info_parts (P := Tryz.prog) (e := 389) (z := .agg (eight fun _ => 0).toArray) (size := 8) (bytes := 64) (by kernel_rfl)
  have hmk : ∀ wx : World, (Instr.makeSlice 329 (.int .i64 n) (.int .i64 n)).run Tryz.prog wx = .ok (.slice (some ⟨wx.heap.size, 0, none⟩) n.toNat n.toNat) (wx.alloc (.cells (blank n.toNat) 389)) := by
    intro wx
    have := run_make (P := Tryz.prog) wx 329 389 i _ Tryz.underlying329 hi hz .i64 .i64 n n (by omega) (by omega) (by rw [hb]; omega) (by omega)
    rw [hs] at this
    exact this
  clear hi hz hs hb
  have h3 : ¬ n < 1 := by omega
  go_enter Tryz.func130, Tryz.ntmps130
  go_wp2
  go_ret2
  exact ⟨_, rfl, _, mem_new w n.toNat, Nat.le_refl _, Nat.le_succ _, ((Below.refl _ w).alloc (Nat.le_refl _) _).alloc (by simp) _⟩

end Go.Proofs.YtcfhanoekniaaaaGreatDoor

/- The document's own table of numbers: the least one that is free; whether a number is one. -/
import Derived.Test.YtjkneekfijibiabGreatDoorDFds2
import Derived.Deep.RegionHeld3
namespace Go.Proofs.YtjkneekfijibiabGreatDoor
open Go.RowKit Go.Maps

section
variable {w w' : World} {b : Nat} {N : Ns}
set_option maxHeartbeats 2000000 in
theorem FdT.least_ok (h : FdT w b N) : Calls Tryz.prog 128 #[wp b] w fun e w' => e = .returned (.int .i64 (leastN N)) ∧ Below w.heap.size w w' := by
  have HL : Aside (N.length = 8) := h.2
  go_enter Tryz.func128, Tryz.ntmps128
  go_wp2_with fail
  go_loopg [3, 4, 7] 8 (fun g _ _ s7 wx => ∃ i : Nat, Aside (i + g = 8) ∧ s7 = .int .i64 (i : Int) ∧ Aside (∀ j (hj : j < N.length), j < i → N[j].1 ≠ 0) ∧ Below w.heap.size w wx)
  case atStart => exact ⟨0, rfl, rfl, (fun j _ hj => by omega), Below.refl _ _⟩
  case round =>
    obtain ⟨i, HI, rfl, HN, hb⟩ := hrel
    have hi9 : i ≤ 8 := by have := HI.out; omega
    have hi9' : (i : Int) ≤ 8 := by omega
    by_cases hlt : (i : Int) < 8
    · have hiL : i < N.length := by have := HL.out; omega
      obtain ⟨c0, c1⟩ := (h.below hb).at (i := i) (by omega)
      have HX0 : Aside (N[i].1 = 0 → leastN N = i) := fun e => least_at hiL (fun j hj => HN.out j (by omega) hj) e
      have HX1 : Aside (N[i].1 ≠ 0 → ∀ j (hj : j < N.length), j < i + 1 → N[j].1 ≠ 0) := fun e j hj hji => by
        by_cases e2 : j = i
        · subst e2; exact e
        · exact HN.out j hj (by omega)
      have hlt9 := (h.below hb).lt
      have ca0 : ∀ o, (wr.alloc o).cell? ⟨b, i * 2, none⟩ = wr.cell? ⟨b, i * 2, none⟩ := fun o => World.cell?_alloc_lt _ _ ⟨b, i * 2, none⟩ hlt9
      have ca1 : ∀ o, (wr.alloc o).cell? ⟨b, i * 2 + 1, none⟩ = wr.cell? ⟨b, i * 2 + 1, none⟩ := fun o => World.cell?_alloc_lt _ _ ⟨b, i * 2 + 1, none⟩ hlt9
      rw [c0] at ca0
      rw [c1] at ca1
      generalize N[i].1 = X at *
      generalize N[i].2 = Y at *
      clear h hiL hlt9
      go_upto_region 3 with fail
      go_region
      all_goals
        by_cases hX : X = 0
        · have E9 : Aside (leastN N = i) := HX0.out hX
          subst hX
          go_wp2_with fail
          go_ret
          exact ⟨by rw [E9.out]; rfl, below_dr (hb.alloc hb.size _)⟩
        · have hX' : (X == 0) = false := by simpa using hX
          clear hX
          go_wp2_with fail
          go_roundg (7 - i)
          case measure => have := HI.out; omega
          case rel => exact ⟨i + 1, (show i + 1 + (7 - i) = 8 by omega), by rfl, HX1.out (by simpa using hX'), below_dr (hb.alloc hb.size _)⟩
    · have e9 : leastN N = -1 := least_none (fun x hx => by
        obtain ⟨j, hj, rfl⟩ := List.getElem_of_mem hx
        exact HN.out j hj (by have := HL.out; omega))
      have E9 : Aside (leastN N = -1) := e9
      clear e9
      go_wp2_with fail
      go_ret
      exact ⟨by rw [E9.out]; rfl, hb⟩
theorem in_ok (w : World) (n lo hi : Int) : Calls Tryz.prog 95 #[.int .i64 n, .int .i64 lo, .int .i64 hi] w fun e w' => e = .returned (.bool (decide (lo ≤ n) && decide (n ≤ hi))) ∧ w' = w := by
  go_enter Tryz.func95, Tryz.ntmps95
  by_cases h : lo ≤ n
  · by_cases h2 : n ≤ hi
    · go_wp2_with fail
      go_ret
      exact ⟨by simp [h, h2], rfl⟩
    · go_wp2_with fail
      go_ret
      exact ⟨by simp [h2], rfl⟩
  · go_wp2_with fail
    go_ret
    exact ⟨by simp; omega, rfl⟩
theorem FdT.has_ok (h : FdT w b N) (n : Int) : Calls Tryz.prog 35 #[wp b, .int .i64 n] w fun e w' => e = .returned (.bool (hasN N n)) ∧ w' = w := by
  have hI := in_ok w n 0 7
  by_cases hn : 0 ≤ n ∧ n ≤ 7
  · obtain ⟨i, rfl⟩ : ∃ i : Nat, n = i := ⟨n.toNat, by omega⟩
    obtain ⟨c0, c1⟩ := h.at (i := i) (by omega)
    have hiL : i < N.length := by rw [h.2]; omega
    have hh : hasN N i = decide (0 < N[i].1) := by
      unfold hasN
      have e1 : decide ((0 : Int) ≤ (i : Int)) = true := by simp
      have e2 : decide ((i : Int) ≤ 7) = true := by simp; omega
      rw [e1, e2, List.getD_eq_getElem?_getD, show (i : Int).toNat = i by omega, List.getElem?_eq_getElem hiL]
      simp
    rw [hh]
    have hb : (decide ((0 : Int) ≤ (i : Int)) && decide ((i : Int) ≤ 7)) = true := by simp; omega
    rw [hb] at hI
    have hi8 : (i : Int) < 8 := by omega
    generalize N[i].1 = X at *
    clear h hh hb c1 hn
    go_enter Tryz.func35, Tryz.ntmps35
    go_wp2_with (go_at_call 95; refine hI.mono ?_; rintro e w1 ⟨rfl, rfl⟩)
    go_ret
    exact ⟨rfl, rfl⟩
  · have hb : (decide (0 ≤ n) && decide (n ≤ 7)) = false := by
      simp only [Bool.and_eq_false_iff, decide_eq_false_iff_not]; omega
    have hh : hasN N n = false := by unfold hasN; rw [hb]; rfl
    rw [hh]
    rw [hb] at hI
    clear hb hh hn
    go_enter Tryz.func35, Tryz.ntmps35
    go_wp2_with (go_at_call 95; refine hI.mono ?_; rintro e w1 ⟨rfl, rfl⟩)
    go_ret
    exact ⟨rfl, rfl⟩
end
end Go.Proofs.YtjkneekfijibiabGreatDoor

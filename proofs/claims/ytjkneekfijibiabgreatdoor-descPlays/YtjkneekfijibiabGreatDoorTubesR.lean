/- The document's own table of numbers, plainly and in memory. -/
import Derived.Test.YtjkneekfijibiabGreatDoorWHold
import Derived.Test.YtjkneekfijibiabGreatDoorDAbs
import Derived.Deep.LoopGhost
import Derived.Outline
import Derived.Deep.RegionHeld3
namespace Go.Proofs.YtjkneekfijibiabGreatDoor
open Go.RowKit Go.Maps

/-- A table at block b. -/
def FdT (w : World) (b : Nat) (N : Ns) : Prop := w.heap[b]? = some (.cells (nv N).toArray 75) ∧ N.length = 8
section
variable {w w' : World} {b : Nat} {N : Ns}
theorem FdT.keep (h : FdT w b N) (hk : w'.heap[b]? = w.heap[b]?) : FdT w' b N := ⟨hk.trans h.1, h.2⟩
theorem FdT.lt (h : FdT w b N) : b < w.heap.size := (Array.getElem?_eq_some_iff.1 h.1).1
theorem FdT.below (h : FdT w b N) (hb : Below w.heap.size w w') : FdT w' b N := h.keep (hb.block b h.lt)
theorem FdT.at (h : FdT w b N) {i : Nat} (hi : i < 8) : w.cell? ⟨b, i * 2, none⟩ = some (.int .i64 (N[i]'(by rw [h.2]; exact hi)).1) ∧ w.cell? ⟨b, i * 2 + 1, none⟩ = some (.bool (N[i]'(by rw [h.2]; exact hi)).2) := by
  obtain ⟨e1, e2⟩ := nv_at N i (by rw [h.2]; exact hi)
  rw [cell_of_row _ _ _ _ _ _ h.1, cell_of_row _ _ _ _ _ _ h.1]
  rw [Nat.mul_comm]
  exact ⟨by simpa using e1, by simpa using e2⟩
end
end Go.Proofs.YtjkneekfijibiabGreatDoor

namespace Go.Proofs.YtjkneekfijibiabGreatDoor
open Go.RowKit Go.Maps

section
variable {w w' : World} {b : Nat} {N : Ns}
set_option maxHeartbeats 2000000 in
theorem FdT.used_ok (h : FdT w b N) : Calls Tryz.prog 33 #[wp b] w fun e w' => e = .returned (.int .i64 (usedN N : Int)) ∧ Below w.heap.size w w' := by
  have HL : Aside (N.length = 8) := h.2
  go_enter Tryz.func33, Tryz.ntmps33
  go_wp2_with fail
  go_loopg [3, 5, 8] 8 (fun g s3 _ s8 wx => ∃ i : Nat, Aside (i + g = 8) ∧ s3 = .int .i64 (usedN (N.take i) : Int) ∧ s8 = .int .i64 (i : Int) ∧ Below w.heap.size w wx)
  case atStart => exact ⟨0, rfl, rfl, rfl, Below.refl _ _⟩
  case round =>
    obtain ⟨i, HI, rfl, rfl, hb⟩ := hrel
    have hi9 : i ≤ 8 := by have := HI.out; omega
    have hi9' : (i : Int) ≤ 8 := by omega
    by_cases hlt : (i : Int) < 8
    · obtain ⟨c0, c1⟩ := (h.below hb).at (i := i) (by omega)
      have hu := used_take (N := N) (i := i) (by have := HL.out; omega)
      have hul := used_le (N.take i)
      rw [List.length_take] at hul
      obtain ⟨U, hU⟩ : ∃ U, usedN (N.take i) = U := ⟨_, rfl⟩
      obtain ⟨U2, hU2⟩ : ∃ U2, usedN (N.take (i + 1)) = U2 := ⟨_, rfl⟩
      rw [hU, hU2] at hu
      rw [hU] at hul
      have hU9 : (U : Int) ≤ 8 := by omega
      have HU2 : Aside (usedN (N.take (i + 1)) = U2) := hU2
      rw [hU]
      generalize (N[i]'(by have := HL.out; omega)).1 = X at *
      generalize (N[i]'(by have := HL.out; omega)).2 = Y at *
      clear hU hU2 h
      by_cases hX : 0 < X
      · rw [if_pos hX] at hu
        have HU : Aside (U2 = U + 1) := hu
        clear hu hul
        go_wp2_with fail
        go_roundg (7 - i)
        case measure => have := HI.out; omega
        case rel => exact ⟨i + 1, (show i + 1 + (7 - i) = 8 by omega), by rw [HU2.out, HU.out]; rfl, by rfl, (hb.alloc hb.size _)⟩
      · rw [if_neg hX] at hu
        have HU : Aside (U2 = U) := hu
        clear hu hul
        go_wp2_with fail
        go_roundg (7 - i)
        case measure => have := HI.out; omega
        case rel => exact ⟨i + 1, (show i + 1 + (7 - i) = 8 by omega), by rw [HU2.out, HU.out], by rfl, (hb.alloc hb.size _)⟩
    · have e8 : N.take i = N := List.take_of_length_le (by have := HL.out; omega)
      rw [e8]
      go_wp2_with fail
      go_ret
      exact ⟨rfl, hb⟩
end
end Go.Proofs.YtjkneekfijibiabGreatDoor

namespace Go.Proofs.YtjkneekfijibiabGreatDoor
open Go.RowKit Go.Maps

section
variable {w w' : World} {b : Nat} {N : Ns}
set_option maxHeartbeats 2000000 in
theorem FdT.least_ok (h : FdT w b N) : Calls Tryz.prog 128 #[wp b] w fun e w' => e = .returned (.int .i64 (leastN N)) ∧ Below w.heap.size w w' := by
  have HL : Aside (N.length = 8) := h.2
  go_enter Tryz.func128, Tryz.ntmps128
  go_wp2_with fail
  go_loopg [3, 4, 7] 8 (fun g _ _ s7 wx => ∃ i : Nat, Aside (i + g = 8) ∧ s7 = .int .i64 (i : Int) ∧ Aside (∀ j (hj : j < N.length), j < i → N[j].1 ≠ 0) ∧ Below w.heap.size w wx)
  case atStart => exact ⟨0, rfl, rfl, (fun j _ hj => by omega), Below.refl _ _⟩
  case round =>
    obtain ⟨i, HI, rfl, HN, hb⟩ := hrel
    have hi9 : i ≤ 8 := by have := HI.out; omega
    have hi9' : (i : Int) ≤ 8 := by omega
    by_cases hlt : (i : Int) < 8
    · have hiL : i < N.length := by have := HL.out; omega
      obtain ⟨c0, c1⟩ := (h.below hb).at (i := i) (by omega)
      have HX0 : Aside (N[i].1 = 0 → leastN N = i) := fun e => least_at hiL (fun j hj => HN.out j (by omega) hj) e
      have HX1 : Aside (N[i].1 ≠ 0 → ∀ j (hj : j < N.length), j < i + 1 → N[j].1 ≠ 0) := fun e j hj hji => by
        by_cases e2 : j = i
        · subst e2; exact e
        · exact HN.out j hj (by omega)
      have hlt9 := (h.below hb).lt
      have ca0 : ∀ o, (wr.alloc o).cell? ⟨b, i * 2, none⟩ = wr.cell? ⟨b, i * 2, none⟩ := fun o => World.cell?_alloc_lt _ _ ⟨b, i * 2, none⟩ hlt9
      have ca1 : ∀ o, (wr.alloc o).cell? ⟨b, i * 2 + 1, none⟩ = wr.cell? ⟨b, i * 2 + 1, none⟩ := fun o => World.cell?_alloc_lt _ _ ⟨b, i * 2 + 1, none⟩ hlt9
      rw [c0] at ca0
      rw [c1] at ca1
      generalize N[i].1 = X at *
      generalize N[i].2 = Y at *
      clear h hiL hlt9
      go_upto_region 3 with fail
      go_region
      all_goals
        by_cases hX : X = 0
        · have E9 : Aside (leastN N = i) := HX0.out hX
          subst hX
          go_wp2_with fail
          go_ret
          exact ⟨by rw [E9.out]; rfl, below_dr (hb.alloc hb.size _)⟩
        · have hX' : (X == 0) = false := by simpa using hX
          clear hX
          go_wp2_with fail
          go_roundg (7 - i)
          case measure => have := HI.out; omega
          case rel => exact ⟨i + 1, (show i + 1 + (7 - i) = 8 by omega), by rfl, HX1.out (by simpa using hX'), below_dr (hb.alloc hb.size _)⟩
    · have e9 : leastN N = -1 := least_none (fun x hx => by
        obtain ⟨j, hj, rfl⟩ := List.getElem_of_mem hx
        exact HN.out j hj (by have := HL.out; omega))
      have E9 : Aside (leastN N = -1) := e9
      clear e9
      go_wp2_with fail
      go_ret
      exact ⟨by rw [E9.out]; rfl, hb⟩
theorem in_ok (w : World) (n lo hi : Int) : Calls Tryz.prog 95 #[.int .i64 n, .int .i64 lo, .int .i64 hi] w fun e w' => e = .returned (.bool (decide (lo ≤ n) && decide (n ≤ hi))) ∧ w' = w := by
  go_enter Tryz.func95, Tryz.ntmps95
  by_cases h : lo ≤ n
  · by_cases h2 : n ≤ hi
    · go_wp2_with fail
      go_ret
      exact ⟨by simp [h, h2], rfl⟩
    · go_wp2_with fail
      go_ret
      exact ⟨by simp [h2], rfl⟩
  · go_wp2_with fail
    go_ret
    exact ⟨by simp; omega, rfl⟩
theorem FdT.has_ok (h : FdT w b N) (n : Int) : Calls Tryz.prog 35 #[wp b, .int .i64 n] w fun e w' => e = .returned (.bool (hasN N n)) ∧ w' = w := by
  have hI := in_ok w n 0 7
  by_cases hn : 0 ≤ n ∧ n ≤ 7
  · obtain ⟨i, rfl⟩ : ∃ i : Nat, n = i := ⟨n.toNat, by omega⟩
    obtain ⟨c0, c1⟩ := h.at (i := i) (by omega)
    have hiL : i < N.length := by rw [h.2]; omega
    have hh : hasN N i = decide (0 < N[i].1) := by
      unfold hasN
      have e1 : decide ((0 : Int) ≤ (i : Int)) = true := by simp
      have e2 : decide ((i : Int) ≤ 7) = true := by simp; omega
      rw [e1, e2, List.getD_eq_getElem?_getD, show (i : Int).toNat = i by omega, List.getElem?_eq_getElem hiL]
      simp
    rw [hh]
    have hb : (decide ((0 : Int) ≤ (i : Int)) && decide ((i : Int) ≤ 7)) = true := by simp; omega
    rw [hb] at hI
    have hi8 : (i : Int) < 8 := by omega
    generalize N[i].1 = X at *
    clear h hh hb c1 hn
    go_enter Tryz.func35, Tryz.ntmps35
    go_wp2_with (go_at_call 95; refine hI.mono ?_; rintro e w1 ⟨rfl, rfl⟩)
    go_ret
    exact ⟨rfl, rfl⟩
  · have hb : (decide (0 ≤ n) && decide (n ≤ 7)) = false := by
      simp only [Bool.and_eq_false_iff, decide_eq_false_iff_not]; omega
    have hh : hasN N n = false := by unfold hasN; rw [hb]; rfl
    rw [hh]
    rw [hb] at hI
    clear hb hh hn
    go_enter Tryz.func35, Tryz.ntmps35
    go_wp2_with (go_at_call 95; refine hI.mono ?_; rintro e w1 ⟨rfl, rfl⟩)
    go_ret
    exact ⟨rfl, rfl⟩
end
end Go.Proofs.YtjkneekfijibiabGreatDoor

namespace Go.Proofs.YtjkneekfijibiabGreatDoor
open Go.RowKit

theorem text_h (s : List UInt8) (n : Nat) (hn : n ≤ s.length) (w : World) : (Instr.slice 9 (txt s) none (some (.int .i64 (n : Int))) none).run Tryz.prog w = .ok (txt (s.take n)) w := by
  have hs : (⟨s.toArray⟩ : ByteArray).size = s.length := by simp [ByteArray.size]
  have e : (⟨s.toArray⟩ : ByteArray).extract 0 n = ⟨(s.take n).toArray⟩ := by apply ByteArray.ext; simp
  simp [Instr.slice, run_underlying Tryz.underlying9, Instr.sliceBounds, run_sliceBound, hs, hn, e]
theorem text_l (s : List UInt8) (n : Nat) (hn : n ≤ s.length) (w : World) : (Instr.slice 9 (txt s) (some (.int .i64 (n : Int))) none none).run Tryz.prog w = .ok (txt (s.drop n)) w := by
  have hs : (⟨s.toArray⟩ : ByteArray).size = s.length := by simp [ByteArray.size]
  have e : (⟨s.toArray⟩ : ByteArray).extract n s.length = ⟨(s.drop n).toArray⟩ := by
    apply ByteArray.ext
    simp only [ByteArray.data_extract]
    rw [List.extract_toArray]
    simp [List.extract, List.take_of_length_le]
  simp [Instr.slice, run_underlying Tryz.underlying9, Instr.sliceBounds, run_sliceBound, hs, hn, e]

section
variable {w : World} {b : Nat} {F I : Int} {B : List UInt8}

set_option maxHeartbeats 1000000 in
theorem Rt.open_ok (h : Rt w b F I B) (e : Int) (hF : 0 ≤ F) (hF' : F < 1000) (hI : 0 ≤ I) (hI' : I < 1000) :
    Calls Tryz.prog 132 #[tp b, .int .i64 e, .int .i64 1] w fun x w' => x = .returned (.int .i64 (opE e)) ∧ Rt w' b (opF F e) (opI I e) B ∧ w.grownBy w' (some b) := by
  have c1 := h.frm
  have c2 := h.int
  have l1 := h.live 1 (by omega)
  have l2 := h.live 2 (by omega)
  by_cases h2 : e = 2
  · subst h2
    have hg : ¬ F + 1 < 0 := by omega
    go_enter Tryz.func132, Tryz.ntmps132
    go_wp2
    go_ret
    exact ⟨rfl, h.putF (F + 1), tgrown_set _ _ _ _⟩
  · by_cases h3 : e = 3
    · subst h3
      have hg : ¬ I + 1 < 0 := by omega
      go_enter Tryz.func132, Tryz.ntmps132
      go_wp2
      go_ret
      exact ⟨rfl, h.putI (I + 1), tgrown_set _ _ _ _⟩
    · have e1 : opE e = 1 := by unfold opE; rw [if_neg (by omega)]
      have e2 : opF F e = F := by unfold opF; rw [if_neg h2]
      have e3 : opI I e = I := by unfold opI; rw [if_neg h3]
      have q2 : (e == 2) = false := by simp [h2]
      have q3 : (e == 3) = false := by simp [h3]
      rw [e1, e2, e3]
      go_enter Tryz.func132, Tryz.ntmps132
      go_wp2
      go_ret
      exact ⟨rfl, h, World.grownBy.refl _ _⟩

set_option maxHeartbeats 1000000 in
theorem Rt.close_ok (h : Rt w b F I B) (e : Int) (hF : 0 ≤ F) (hF' : F < 1000) (hI : 0 ≤ I) (hI' : I < 1000) :
    Calls Tryz.prog 132 #[tp b, .int .i64 e, .int .i64 (-1)] w fun x w' => x = .returned (.int .i64 (clE F I e)) ∧ Rt w' b (clF F e) (clI I e) B ∧ w.grownBy w' (some b) := by
  have c1 := h.frm
  have c2 := h.int
  have l1 := h.live 1 (by omega)
  have l2 := h.live 2 (by omega)
  by_cases h2 : e = 2
  · subst h2
    by_cases hz : F = 0
    · subst hz
      go_enter Tryz.func132, Tryz.ntmps132
      go_wp2
      go_ret
      exact ⟨rfl, h, World.grownBy.refl _ _⟩
    · have e1 : clE F I 2 = 0 := by unfold clE; rw [if_pos rfl, if_neg hz]
      have e2 : clF F 2 = F - 1 := by unfold clF; rw [if_pos ⟨rfl, hz⟩]
      have e3 : clI I 2 = I := by unfold clI; rw [if_neg (by omega)]
      have hg : ¬ F + -1 < 0 := by omega
      rw [e1, e2, e3]
      go_enter Tryz.func132, Tryz.ntmps132
      go_wp2
      go_ret
      exact ⟨rfl, h.putF (F - 1), tgrown_set _ _ _ _⟩
  · by_cases h3 : e = 3
    · subst h3
      by_cases hz : I = 0
      · subst hz
        go_enter Tryz.func132, Tryz.ntmps132
        go_wp2
        go_ret
        exact ⟨rfl, h, World.grownBy.refl _ _⟩
      · have e1 : clE F I 3 = 0 := by unfold clE; rw [if_neg (by omega), if_pos rfl, if_neg hz]
        have e2 : clF F 3 = F := by unfold clF; rw [if_neg (by omega)]
        have e3 : clI I 3 = I - 1 := by unfold clI; rw [if_pos ⟨rfl, hz⟩]
        have hg : ¬ I + -1 < 0 := by omega
        rw [e1, e2, e3]
        go_enter Tryz.func132, Tryz.ntmps132
        go_wp2
        go_ret
        exact ⟨rfl, h.putI (I - 1), tgrown_set _ _ _ _⟩
    · have e1 : clE F I e = 1 := by unfold clE; rw [if_neg h2, if_neg h3]
      have e2 : clF F e = F := by unfold clF; rw [if_neg (by omega)]
      have e3 : clI I e = I := by unfold clI; rw [if_neg (by omega)]
      have q2 : (e == 2) = false := by simp [h2]
      have q3 : (e == 3) = false := by simp [h3]
      rw [e1, e2, e3]
      go_enter Tryz.func132, Tryz.ntmps132
      go_wp2
      go_ret
      exact ⟨rfl, h, World.grownBy.refl _ _⟩
end
end Go.Proofs.YtjkneekfijibiabGreatDoor

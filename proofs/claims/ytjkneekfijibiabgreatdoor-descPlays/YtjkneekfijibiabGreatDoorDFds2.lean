/- The document's own table of numbers, plainly and in memory. -/
import Derived.Test.YtjkneekfijibiabGreatDoorWNew
import Derived.Test.YtjkneekfijibiabGreatDoorQTab
import Derived.Deep.LoopGhost
import Derived.Outline
namespace Go.Proofs.YtjkneekfijibiabGreatDoor
open Go.RowKit Go.Maps

/-- A table at block b. -/
def FdT (w : World) (b : Nat) (N : Ns) : Prop := w.heap[b]? = some (.cells (nv N).toArray 75) ∧ N.length = 8
section
variable {w w' : World} {b : Nat} {N : Ns}
theorem FdT.keep (h : FdT w b N) (hk : w'.heap[b]? = w.heap[b]?) : FdT w' b N := ⟨hk.trans h.1, h.2⟩
theorem FdT.lt (h : FdT w b N) : b < w.heap.size := (Array.getElem?_eq_some_iff.1 h.1).1
theorem FdT.below (h : FdT w b N) (hb : Below w.heap.size w w') : FdT w' b N := h.keep (hb.block b h.lt)
theorem FdT.at (h : FdT w b N) {i : Nat} (hi : i < 8) : w.cell? ⟨b, i * 2, none⟩ = some (.int .i64 (N[i]'(by rw [h.2]; exact hi)).1) ∧ w.cell? ⟨b, i * 2 + 1, none⟩ = some (.bool (N[i]'(by rw [h.2]; exact hi)).2) := by
  obtain ⟨e1, e2⟩ := nv_at N i (by rw [h.2]; exact hi)
  rw [cell_of_row _ _ _ _ _ _ h.1, cell_of_row _ _ _ _ _ _ h.1]
  rw [Nat.mul_comm]
  exact ⟨by simpa using e1, by simpa using e2⟩
end
end Go.Proofs.YtjkneekfijibiabGreatDoor

namespace Go.Proofs.YtjkneekfijibiabGreatDoor
open Go.RowKit Go.Maps

section
variable {w w' : World} {b : Nat} {N : Ns}
set_option maxHeartbeats 2000000 in
theorem FdT.used_ok (h : FdT w b N) : Calls Tryz.prog 33 #[wp b] w fun e w' => e = .returned (.int .i64 (usedN N : Int)) ∧ Below w.heap.size w w' := by
  have HL : Aside (N.length = 8) := h.2
  go_enter Tryz.func33, Tryz.ntmps33
  go_wp2_with fail
  go_loopg [3, 5, 8] 8 (fun g s3 _ s8 wx => ∃ i : Nat, Aside (i + g = 8) ∧ s3 = .int .i64 (usedN (N.take i) : Int) ∧ s8 = .int .i64 (i : Int) ∧ Below w.heap.size w wx)
  case atStart => exact ⟨0, rfl, rfl, rfl, Below.refl _ _⟩
  case round =>
    obtain ⟨i, HI, rfl, rfl, hb⟩ := hrel
    have hi9 : i ≤ 8 := by have := HI.out; omega
    have hi9' : (i : Int) ≤ 8 := by omega
    by_cases hlt : (i : Int) < 8
    · obtain ⟨c0, c1⟩ := (h.below hb).at (i := i) (by omega)
      have hu := used_take (N := N) (i := i) (by have := HL.out; omega)
      have hul := used_le (N.take i)
      rw [List.length_take] at hul
      obtain ⟨U, hU⟩ : ∃ U, usedN (N.take i) = U := ⟨_, rfl⟩
      obtain ⟨U2, hU2⟩ : ∃ U2, usedN (N.take (i + 1)) = U2 := ⟨_, rfl⟩
      rw [hU, hU2] at hu
      rw [hU] at hul
      have hU9 : (U : Int) ≤ 8 := by omega
      have HU2 : Aside (usedN (N.take (i + 1)) = U2) := hU2
      rw [hU]
      generalize (N[i]'(by have := HL.out; omega)).1 = X at *
      generalize (N[i]'(by have := HL.out; omega)).2 = Y at *
      clear hU hU2 h
      by_cases hX : 0 < X
      · rw [if_pos hX] at hu
        have HU : Aside (U2 = U + 1) := hu
        clear hu hul
        go_wp2_with fail
        go_roundg (7 - i)
        case measure => have := HI.out; omega
        case rel => exact ⟨i + 1, (show i + 1 + (7 - i) = 8 by omega), by rw [HU2.out, HU.out]; rfl, by rfl, (hb.alloc hb.size _)⟩
      · rw [if_neg hX] at hu
        have HU : Aside (U2 = U) := hu
        clear hu hul
        go_wp2_with fail
        go_roundg (7 - i)
        case measure => have := HI.out; omega
        case rel => exact ⟨i + 1, (show i + 1 + (7 - i) = 8 by omega), by rw [HU2.out, HU.out], by rfl, (hb.alloc hb.size _)⟩
    · have e8 : N.take i = N := List.take_of_length_le (by have := HL.out; omega)
      rw [e8]
      go_wp2_with fail
      go_ret
      exact ⟨rfl, hb⟩
end
end Go.Proofs.YtjkneekfijibiabGreatDoor

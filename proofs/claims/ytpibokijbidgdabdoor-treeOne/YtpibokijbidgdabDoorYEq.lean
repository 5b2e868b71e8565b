/- slices.Equal and slices.Contains at texts, by their Go texts. -/
import Derived.Test.YtpibokijbidgdabDoorKRow3
import Derived.Deep.LoopGhost
import Derived.BigQuiet
namespace Go.Proofs.YtpibokijbidgdabDoor
open Go.RowKit Go.Maps

theorem TxR.shape {wr : World} {B : Nat} {v : Value} {L : List Nm} (h : TxR wr B v L) : ∃ ad c, v = .slice ad L.length c := by
  unfold TxR at h
  obtain ⟨_, hh⟩ := h
  rcases hh with ⟨rfl, e⟩ | ⟨g, cap, cur, rfl, _⟩
  · exact ⟨none, 0, by rw [e]⟩
  · exact ⟨_, cap, rfl⟩
theorem TxR.below {wr w' : World} {B : Nat} {v : Value} {L : List Nm} (h : TxR wr B v L) (hb : Below wr.heap.size wr w') : TxR w' B v L := h.keep (fun i hi => hb.block i (h.lt hi))

set_option maxHeartbeats 2000000 in
theorem same_texts {w : World} {B1 B2 : Nat} {v1 v2 : Value} {L : List Nm} (h1 : TxR w B1 v1 L) (h2 : TxR w B2 v2 L) (hl : L.length ≤ 100000) :
    Calls Tryd.prog 34 #[v1, v2] w fun e w' => e = .returned (.bool true) ∧ Below w.heap.size w w' := by
  obtain ⟨a1, c1, e1⟩ := h1.shape
  obtain ⟨a2, c2, e2⟩ := h2.shape
  obtain ⟨N, hN⟩ : ∃ N, L.length = N := ⟨_, rfl⟩
  rw [hN] at e1 e2
  subst e1
  subst e2
  have HC : Aside (∀ (V : World), Below w.heap.size w V → ∀ (j : Nat), j < N → ∃ g1 g2 x, a1 = some ⟨g1, 0, none⟩ ∧ a2 = some ⟨g2, 0, none⟩ ∧ V.cell? ⟨g1, j, none⟩ = some (tx x) ∧ V.cell? ⟨g2, j, none⟩ = some (tx x)) := fun V hV j hj => by
    have hne : L ≠ [] := fun e => by rw [e] at hN; simp at hN; omega
    obtain ⟨g1, d1, e1, _, f1⟩ := (h1.below hV).at.resolve_left hne
    obtain ⟨g2, d2, e2, _, f2⟩ := (h2.below hV).at.resolve_left hne
    cases e1
    cases e2
    exact ⟨g1, g2, L[j]'(by omega), rfl, rfl, f1 j (by omega), f2 j (by omega)⟩
  rw [hN] at hl
  clear h1 h2 hN
  go_enter Tryd.func34, Tryd.ntmps34
  go_wp2_with fail
  go_loopg [5, 13] N (fun g _ s13 wx => ∃ j : Nat, Aside (j + g = N) ∧ s13 = .int .i64 (j : Int) ∧ Below w.heap.size w wx)
  case atStart => exact ⟨0, (show 0 + N = N by omega), rfl, Below.refl _ _⟩
  case round =>
    obtain ⟨j, HJ, rfl, hb⟩ := hrel
    by_cases hlt : (j : Int) < (N : Int)
    · obtain ⟨g1, g2, x, rfl, rfl, c1', c2'⟩ := HC.out wr hb j (by omega)
      go_upto_region 6 with fail
      go_region
      all_goals
        go_wp2_with fail
        go_roundg (gk - 1)
        case measure => have := HJ.out; omega
        case rel => exact ⟨j + 1, (show j + 1 + (gk - 1) = N by have := HJ.out; omega), by go_num, hb.trans ⟨rfl, rfl, rfl, Nat.le_refl _, fun _ _ => rfl⟩⟩
    · go_wp2_with fail
      go_ret
      exact ⟨rfl, hb⟩

set_option maxHeartbeats 2000000 in
theorem index_lacks {w : World} {B : Nat} {v : Value} {L : List Nm} (h : TxR w B v L) (hl : L.length ≤ 100000) {y : Nm} (hy : ∀ x ∈ L, y ≠ x) :
    Calls Tryd.prog 71 #[v, tx y] w fun e w' => e = .returned (.int .i64 (-1)) ∧ w' = w := by
  obtain ⟨a1, c1, e1⟩ := h.shape
  obtain ⟨N, hN⟩ : ∃ N, L.length = N := ⟨_, rfl⟩
  rw [hN] at e1
  subst e1
  have HC : Aside (∀ (j : Nat), j < N → ∃ g1 x, a1 = some ⟨g1, 0, none⟩ ∧ w.cell? ⟨g1, j, none⟩ = some (tx x) ∧ y ≠ x) := fun j hj => by
    have hne : L ≠ [] := fun e => by rw [e] at hN; simp at hN; omega
    obtain ⟨g1, d1, e1, _, f1⟩ := h.at.resolve_left hne
    cases e1
    exact ⟨g1, L[j]'(by omega), rfl, f1 j (by omega), hy _ (List.getElem_mem _)⟩
  rw [hN] at hl
  clear h hN hy
  go_enter Tryd.func71, Tryd.ntmps71
  go_wp2_with fail
  go_loopg [5, 8] N (fun g _ s8 wx => ∃ j : Nat, Aside (j + g = N) ∧ s8 = .int .i64 (j : Int) ∧ wx = w)
  case atStart => exact ⟨0, (show 0 + N = N by omega), rfl, rfl⟩
  case round =>
    obtain ⟨j, HJ, rfl, hw⟩ := hrel
    subst wr
    by_cases hlt : (j : Int) < (N : Int)
    · obtain ⟨g1, x, rfl, c1', hne0⟩ := HC.out j (by omega)
      have hne : (y == x) = false := by simpa using hne0
      go_wp2_with fail
      go_roundg (gk - 1)
      case measure => have := HJ.out; omega
      case rel => exact ⟨j + 1, (show j + 1 + (gk - 1) = N by have := HJ.out; omega), by go_num, rfl⟩
    · go_wp2_with fail
      go_ret
      exact ⟨rfl, rfl⟩
theorem lacks_text {w : World} {B : Nat} {v : Value} {L : List Nm} (h : TxR w B v L) (hl : L.length ≤ 100000) {y : Nm} (hy : ∀ x ∈ L, y ≠ x) :
    Calls Tryd.prog 35 #[v, tx y] w fun e w' => e = .returned (.bool false) ∧ w' = w := by
  have hI := index_lacks h hl hy
  go_enter Tryd.func35, Tryd.ntmps35
  go_wp2_with (go_at_call 71; refine hI.mono ?_; rintro e w1 ⟨rfl, rfl⟩)
  go_ret
  exact ⟨rfl, rfl⟩
end Go.Proofs.YtpibokijbidgdabDoor

/- sameBlocks of the statement's own, by its Go text. -/
import Derived.Test.YthknommfnajeiaaDoorRefAlloc2
namespace Go.Proofs.YthknommfnajeiaaDoor
open Go.RowKit Go.Shelf Go.Lib Go.Sort

set_option maxRecDepth 100000 in
set_option maxHeartbeats 2000000 in
theorem same_ok {w : World} {N M : Nat} {v u : Value} {L : List (Int × Int)} (h1 : BL w N v L) (h2 : BL w M u L) (hl : L.length ≤ 256) :
    Calls Tryd.prog 18 #[v, u] w fun e w' => e = .returned (.bool true) ∧ Below w.heap.size w w' := by
  obtain ⟨a, ca, rfl, hca⟩ := h1.slice
  obtain ⟨b, cb, rfl, hcb⟩ := h2.slice
  go_enter Tryd.func18, Tryd.ntmps18
  go_wp2_with fail
  go_loopg [5] L.length (fun mm s5 wr => ∃ j : Nat, j + mm = L.length ∧ s5 = .int .i64 j ∧ Below w.heap.size w wr)
  case atStart => exact ⟨0, by omega, rfl, Below.refl _ _⟩
  case round =>
    obtain ⟨j, hj, rfl, hw⟩ := hrel
    by_cases hlt : (j : Int) < L.length
    · have hlt' : j < L.length := by omega
      obtain ⟨g, c, hv, _, hgl, hc, k0, k1⟩ := h1.read hlt'
      obtain ⟨g', c', hv', _, hgl', hc', k0', k1'⟩ := h2.read hlt'
      cases hv
      cases hv'
      rw [← hw.cell (p := ⟨g, j * 2, none⟩) hgl] at k0
      rw [← hw.cell (p := ⟨g, j * 2 + 1, none⟩) hgl] at k1
      rw [← hw.cell (p := ⟨g', j * 2, none⟩) hgl'] at k0'
      rw [← hw.cell (p := ⟨g', j * 2 + 1, none⟩) hgl'] at k1'
      generalize L[j] = x at *
      obtain ⟨x1, x2⟩ := x
      simp only at k0 k1 k0' k1'
      go_wp2_with fail
      go_quiet (fail)
      go_wp2_with fail
      go_roundg (L.length - (j + 1))
      case measure => omega
      case rel => exact ⟨j + 1, by omega, by go_num, below_drewN' hw _⟩
    · go_wp2_with fail
      go_ret
      exact ⟨rfl, hw⟩
end Go.Proofs.YthknommfnajeiaaDoor

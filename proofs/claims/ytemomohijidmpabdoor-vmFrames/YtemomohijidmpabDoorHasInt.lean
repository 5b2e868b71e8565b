/- slices.Contains at numbers, by its Go text: it answers, and changes nothing. -/
import Derived.Test.YtemomohijidmpabDoorInts
import Derived.Test.YtemomohijidmpabDoorRows
import Derived.Deep.LoopGhost
namespace Go.Proofs.YtemomohijidmpabDoor
open Go.RowKit

set_option maxHeartbeats 1000000 in
theorem index_any {w : World} {ad : Option Addr} {len cap : Nat} {q : Nat → Int} (h : Ints w ad len q) (hl : len ≤ 1000) (x : Int) : Calls Tryd.prog 24 #[.slice ad len cap, .int .i64 x] w fun e w' => ∃ r : Int, e = .returned (.int .i64 r) ∧ w' = w := by
  go_enter Tryd.func24, Tryd.ntmps24
  go_wp2_with fail
  go_loopg [8] len (fun mm s8 wr => ∃ i : Nat, i + mm = len ∧ s8 = .int .i64 (i : Int) ∧ wr = w)
  case atStart => exact ⟨0, by omega, rfl, rfl⟩
  case round =>
    obtain ⟨i, hi, rfl, hw⟩ := hrel
    subst wr
    by_cases hlt : (i : Int) < (len : Int)
    · rcases h with h0 | ⟨blk, off, rfl, hb, hq⟩
      · exfalso; omega
      have c0 := hq i (by omega)
      by_cases he : x = q i
      · go_wp2_with fail
        go_ret
        exact ⟨_, rfl, rfl⟩
      · go_wp2_with fail
        go_roundg (len - (i + 1))
        case measure => omega
        case rel => exact ⟨i + 1, by omega, by go_num, rfl⟩
    · go_wp2_with fail
      go_ret
      first | exact ⟨_, rfl, rfl⟩ | exact ⟨⟨_, rfl⟩, rfl⟩

set_option maxHeartbeats 1000000 in
theorem contains_any {w : World} {ad : Option Addr} {len cap : Nat} {q : Nat → Int} (h : Ints w ad len q) (hl : len ≤ 1000) (x : Int) : Calls Tryd.prog 11 #[.slice ad len cap, .int .i64 x] w fun e w' => ∃ b : Bool, e = .returned (.bool b) ∧ w' = w := by
  have hI := index_any (cap := cap) h hl x
  go_enter Tryd.func11, Tryd.ntmps11
  go_wp2_with (go_at_call 24; refine hI.mono ?_; rintro e w1 ⟨r, rfl, h1⟩; subst w1)
  go_ret
  exact ⟨_, rfl, rfl⟩
end Go.Proofs.YtemomohijidmpabDoor

/- Package vm: Len, by its Go text. -/
import Derived.Test.YtemomohijidmpaaGreatDoorVSpace
namespace Go.Proofs.YtemomohijidmpaaGreatDoor
open Go.RowKit Go.Shelf Go.Lib Go.Sort Go.Maps

section
variable {w w' : World} {c b gc : Nat} {P : PM}
set_option maxHeartbeats 1000000 in
theorem Sp.len (h : Sp w c b gc P) : Calls Tryz.prog 11 #[vp c] w fun e w' => e = .returned (.int .i64 (lenP P : Nat)) ∧ w' = w := by
  have c1 := h.c1
  have hm := h.map
  clear h
  go_enter Tryz.func11, Tryz.ntmps11
  go_wp2_with (at_len; refine wpList_klen rfl _ 55 rfl 60 Tryz.underlying55 gc _ _ rfl hm ?_)
  go_ret
  exact ⟨rfl, rfl⟩
end
end Go.Proofs.YtemomohijidmpaaGreatDoor

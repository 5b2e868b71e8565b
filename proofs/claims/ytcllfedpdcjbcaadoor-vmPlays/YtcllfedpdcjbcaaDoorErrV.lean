/- bare of an Errno, or none. -/
import Derived.Test.YtcllfedpdcjbcaaDoorGive
import Derived.Test.YtcllfedpdcjbcaaDoorBare
namespace Go.Proofs.YtcllfedpdcjbcaaDoor
open Go.RowKit

theorem bare_any (c : Int) (w : World) (hg : w.cell? ⟨1, 0, none⟩ = some errT) : Calls Tryd.prog 13 #[errV c, .int .i64 c] w fun e w' => e = .returned (.bool true) ∧ Below w.heap.size w w' := by
  by_cases h : c = 0
  · subst h; exact bare_nil w
  · rw [errV, if_neg h]; exact bare_eno c w hg
end Go.Proofs.YtcllfedpdcjbcaaDoor

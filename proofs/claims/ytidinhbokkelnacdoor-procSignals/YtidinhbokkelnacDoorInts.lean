/- Numbers in an array. -/
import Derived.WalkKit
namespace Go.Proofs.YtidinhbokkelnacDoor
open Go.RowKit

/-- Numbers lie in an array. -/
def Ints (w : World) (ad : Option Addr) (len : Nat) (q : Nat → Int) : Prop :=
  len = 0 ∨ ∃ blk off, ad = some ⟨blk, off, none⟩ ∧ blk < w.heap.size ∧ ∀ i, i < len → w.cell? ⟨blk, off + i, none⟩ = some (.int .i64 (q i))
end Go.Proofs.YtidinhbokkelnacDoor

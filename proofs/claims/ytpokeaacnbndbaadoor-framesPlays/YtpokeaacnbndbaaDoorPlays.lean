/- FramesPlays: whatever is written, emptied and copied, each word is the document's: the walk of its Go text. -/
import Derived.Test.YtpokeaacnbndbaaDoorNew
import Derived.Test.YtpokeaacnbndbaaDoorBare
import Derived.Test.YtpokeaacnbndbaaDoorMaps
import Derived.BigQuiet
import Derived.Deep.QuietTactic
import Derived.Deep.LoopGhost
import Derived.Deep.DeepCutAuto
import Derived.Deep.Light
namespace Go.Proofs.YtpokeaacnbndbaaDoor
open Go.RowKit Go.Maps

/-- One item of the script: which, and its numbers. -/
structure Item where
  what : Int
  a : Int
  b : Int
  v : Int

/-- The items lie in the argument's array. -/
def Script (w : World) (ad : Option Addr) (len : Nat) (q : Nat → Item) : Prop :=
  len = 0 ∨ ∃ blk off, ad = some ⟨blk, off, none⟩ ∧ blk < w.heap.size ∧ ∀ i, i < len →
    w.cell? ⟨blk, off + i * 4, none⟩ = some (.int .i64 (q i).what) ∧ w.cell? ⟨blk, off + i * 4 + 1, none⟩ = some (.int .i64 (q i).a) ∧
    w.cell? ⟨blk, off + i * 4 + 2, none⟩ = some (.int .i64 (q i).b) ∧ w.cell? ⟨blk, off + i * 4 + 3, none⟩ = some (.int .i64 (q i).v)

set_option maxRecDepth 100000 in
set_option maxHeartbeats 1000000 in
theorem plays_bad (n : Int) (ad : Option Addr) (len cap : Nat) (w : World) (hn : ¬ (1 ≤ n ∧ n ≤ 256)) (hg : w.cell? ⟨0, 0, none⟩ = some errT) :
    Calls Tryd.prog 3 #[.int .i64 n, .slice ad len cap] w fun e w' => e = .returned (.bool true) ∧ Below w.heap.size w w' := by
  by_cases h1 : n < 1
  all_goals
    go_enter Tryd.func3, Tryd.ntmps3
    go_wp2_with fail
    refine (new_no _ n hn).mono ?_
    rintro e w' ⟨rfl, rfl⟩
    go_wp2_with fail
    refine (bare_eno 2 _ hg).mono ?_
    rintro e w' ⟨rfl, l1⟩
    go_wp2_with fail
    go_ret
    exact ⟨rfl, l1⟩

set_option maxRecDepth 100000 in
set_option maxHeartbeats 1000000 in
theorem plays_long (n : Int) (ad : Option Addr) (len cap : Nat) (w : World) (h1 : 1 ≤ n) (h2 : n ≤ 256) (hl : 60 < len) :
    Calls Tryd.prog 3 #[.int .i64 n, .slice ad len cap] w fun e w' => e = .returned (.bool true) ∧ Below w.heap.size w w' := by
  have h1' : ¬ n < 1 := by omega
  have h3 : (60 : Int) < (len : Int) := by omega
  go_enter Tryd.func3, Tryd.ntmps3
  go_wp2_with fail
  refine (new_ok _ n h1 h2).mono ?_
  rintro e w1 ⟨b, rfl, s, m1, hs, hb, l1⟩
  have e1 : (((n.toNat : Nat) : Int) != n) = false := by simp; omega
  go_wp2_with fail
  refine (len_any m1.head).mono ?_
  rintro e w' ⟨rfl, rfl⟩
  go_wp2_with fail
  go_ret
  exact ⟨rfl, l1⟩
end Go.Proofs.YtpokeaacnbndbaaDoor

/- A ledger in memory; what has, Limit, Used and Most of package acct do to a world, each by its Go text. -/
import Derived.Test.YtfejiehkpikieaaDoorBook
import Derived.Test.YtfejiehkpikieaaDoorEntries
import Derived.WalkKit
import Derived.WalkLawsBesides
import Derived.Outline
import Derived.BigQuiet
import Derived.Deep.QuietTactic
namespace Go.Proofs.YtfejiehkpikieaaDoor
open Go.RowKit

abbrev lp (b : Nat) : Value := .pointer (some ⟨b, 0, none⟩)

/-- A ledger lies at block b: three numbers that there are, three that there may be. (The document's own is laid alike.) -/
structure Led (w : World) (b : Nat) (U M : Nat → Int) : Prop where
  has : ∀ k, k < 3 → w.cell? ⟨b, k, none⟩ = some (.int .i64 (U k))
  may : ∀ k, k < 3 → w.cell? ⟨b, 3 + k, none⟩ = some (.int .i64 (M k))
  live : ∀ k, k < 6 → w.frozen? ⟨b, k, none⟩ = false

theorem Led.keep {w w' : World} {b : Nat} {U M : Nat → Int} (h : Led w b U M) (hb : w'.heap[b]? = w.heap[b]?) : Led w' b U M :=
  ⟨fun k hk => by rw [World.cell?_of_block (w := w) (a := ⟨b, k, none⟩) hb]; exact h.has k hk,
   fun k hk => by rw [World.cell?_of_block (w := w) (a := ⟨b, 3 + k, none⟩) hb]; exact h.may k hk,
   fun k hk => by rw [World.frozen?_of_block (w := w) (a := ⟨b, k, none⟩) hb]; exact h.live k hk⟩

theorem Led.lt {w : World} {b : Nat} {U M : Nat → Int} (h : Led w b U M) : b < w.heap.size := World.block_lt_of_cell? w _ (h.has 0 (by omega))

theorem Led.has_put {w : World} {b : Nat} {U M : Nat → Int} (h : Led w b U M) (k : Nat) (hk : k < 3) (v : Int) :
    Led (w.setCell ⟨b, k, none⟩ (.int .i64 v)) b (put U k v) M := by
  refine ⟨fun i hi => ?_, fun i hi => ?_, fun i hi => by rw [World.frozen?_setCell]; exact h.live i hi⟩
  · by_cases e : i = k
    · subst e; rw [World.cell?_setCell_same _ _ _ (h.has i hi), put_same]
    · rw [World.cell?_setCell_other _ _ _ _ (by intro e'; simp only [Addr.mk.injEq, true_and, and_true] at e'; omega), h.has i hi, put_other _ _ _ _ e]
  · rw [World.cell?_setCell_other _ _ _ _ (by intro e'; simp only [Addr.mk.injEq, true_and, and_true] at e'; omega)]; exact h.may i hi

theorem Led.may_put {w : World} {b : Nat} {U M : Nat → Int} (h : Led w b U M) (k : Nat) (hk : k < 3) (v : Int) :
    Led (w.setCell ⟨b, 3 + k, none⟩ (.int .i64 v)) b U (put M k v) := by
  refine ⟨fun i hi => ?_, fun i hi => ?_, fun i hi => by rw [World.frozen?_setCell]; exact h.live i hi⟩
  · rw [World.cell?_setCell_other _ _ _ _ (by intro e'; simp only [Addr.mk.injEq, true_and, and_true] at e'; omega)]; exact h.has i hi
  · by_cases e : i = k
    · subst e; rw [World.cell?_setCell_same _ _ _ (h.may i hi), put_same]
    · rw [World.cell?_setCell_other _ _ _ _ (by intro e'; simp only [Addr.mk.injEq, true_and, and_true] at e'; omega), h.may i hi, put_other _ _ _ _ e]

/-- One block turned, the rest as it was, and perhaps more behind. -/
theorem lgrown_set (w : World) (b o : Nat) (v : Value) : w.grownBy (w.setCell ⟨b, o, none⟩ v) (some b) :=
  ⟨rfl, rfl, rfl, by simp [World.setCell], fun k _ h => Below.heap_setCell _ _ _ _ (fun e => h (by rw [e]))⟩

set_option maxHeartbeats 400000 in
theorem has_any (w : World) (b : Nat) (k : Int) :
    Calls Tryd.prog 76 #[lp b, .int .i64 k] w fun e w' => e = .returned (.bool (decide (0 ≤ k ∧ k < 3))) ∧ w' = w := by
  by_cases h1 : 0 ≤ k
  · by_cases h2 : k < 3
    · rw [decide_eq_true (show 0 ≤ k ∧ k < 3 from ⟨h1, h2⟩)]
      go_enter Tryd.func76, Tryd.ntmps76
      go_wp2
      go_ret
      exact ⟨rfl, rfl⟩
    · rw [decide_eq_false (show ¬ (0 ≤ k ∧ k < 3) by omega)]
      go_enter Tryd.func76, Tryd.ntmps76
      go_wp2
      go_ret
      exact ⟨rfl, rfl⟩
  · rw [decide_eq_false (show ¬ (0 ≤ k ∧ k < 3) by omega)]
    go_enter Tryd.func76, Tryd.ntmps76
    go_wp2
    go_ret
    exact ⟨rfl, rfl⟩

theorem has_yes (w : World) (b : Nat) (k : Int) (h : 0 ≤ k ∧ k < 3) : Calls Tryd.prog 76 #[lp b, .int .i64 k] w fun e w' => e = .returned (.bool true) ∧ w' = w := by
  have := has_any w b k; rw [decide_eq_true h] at this; exact this
theorem has_not (w : World) (b : Nat) (k : Int) (h : ¬ (0 ≤ k ∧ k < 3)) : Calls Tryd.prog 76 #[lp b, .int .i64 k] w fun e w' => e = .returned (.bool false) ∧ w' = w := by
  have := has_any w b k; rw [decide_eq_false h] at this; exact this

set_option maxHeartbeats 400000 in
theorem limit_arg (w : World) (b : Nat) (k n : Int) (h : ¬ (0 ≤ k ∧ k < 3)) :
    Calls Tryd.prog 48 #[lp b, .int .i64 k, .int .i64 n] w fun e w' => e = .returned (eno 1) ∧ w' = w := by
  go_enter Tryd.func48, Tryd.ntmps48
  go_wp2_with (go_at_call 76; refine (has_not _ b k h).mono ?_; rintro e w' ⟨rfl, rfl⟩)
  go_ret
  exact ⟨rfl, rfl⟩

set_option maxHeartbeats 400000 in
theorem limit_range (w : World) (b : Nat) (k n : Int) (h : 0 ≤ k ∧ k < 3) (hn : ¬ (0 ≤ n ∧ n ≤ 1000000)) :
    Calls Tryd.prog 48 #[lp b, .int .i64 k, .int .i64 n] w fun e w' => e = .returned (eno 2) ∧ w' = w := by
  by_cases h1 : n < 0
  · go_enter Tryd.func48, Tryd.ntmps48
    go_wp2_with (go_at_call 76; refine (has_yes _ b k h).mono ?_; rintro e w' ⟨rfl, rfl⟩)
    go_ret
    exact ⟨rfl, rfl⟩
  · have h2 : 1000000 < n := by omega
    go_enter Tryd.func48, Tryd.ntmps48
    go_wp2_with (go_at_call 76; refine (has_yes _ b k h).mono ?_; rintro e w' ⟨rfl, rfl⟩)
    go_ret
    exact ⟨rfl, rfl⟩

set_option maxHeartbeats 400000 in
theorem limit_ok {w : World} {b : Nat} {U M : Nat → Int} (l : Led w b U M) (k n : Int) (h1 : 0 ≤ k) (h2 : k < 3) (h3 : 0 ≤ n) (h4 : n ≤ 1000000) :
    Calls Tryd.prog 48 #[lp b, .int .i64 k, .int .i64 n] w fun e w' => e = .returned .nilIface ∧ Led w' b U (put M k.toNat n) ∧ w.grownBy w' (some b) := by
  have c := l.may k.toNat (by omega)
  have f := l.live (3 + k.toNat) (by omega)
  go_enter Tryd.func48, Tryd.ntmps48
  go_wp2_with (go_at_call 76; refine (has_yes _ b k ⟨h1, h2⟩).mono ?_; rintro e w' ⟨rfl, rfl⟩)
  go_ret
  exact ⟨rfl, l.may_put _ (by omega) n, lgrown_set _ _ _ _⟩

set_option maxHeartbeats 400000 in
theorem used_ok {w : World} {b : Nat} {U M : Nat → Int} (l : Led w b U M) (k : Int) (h1 : 0 ≤ k) (h2 : k < 3) :
    Calls Tryd.prog 53 #[lp b, .int .i64 k] w fun e w' => e = .returned (.int .i64 (U k.toNat)) ∧ w' = w := by
  have c := l.has k.toNat (by omega)
  go_enter Tryd.func53, Tryd.ntmps53
  go_wp2_with (go_at_call 76; refine (has_yes _ b k ⟨h1, h2⟩).mono ?_; rintro e w' ⟨rfl, rfl⟩)
  go_ret
  exact ⟨rfl, rfl⟩

set_option maxHeartbeats 400000 in
theorem most_ok {w : World} {b : Nat} {U M : Nat → Int} (l : Led w b U M) (k : Int) (h1 : 0 ≤ k) (h2 : k < 3) :
    Calls Tryd.prog 54 #[lp b, .int .i64 k] w fun e w' => e = .returned (.int .i64 (M k.toNat)) ∧ w' = w := by
  have c := l.may k.toNat (by omega)
  go_enter Tryd.func54, Tryd.ntmps54
  go_wp2_with (go_at_call 76; refine (has_yes _ b k ⟨h1, h2⟩).mono ?_; rintro e w' ⟨rfl, rfl⟩)
  go_ret
  exact ⟨rfl, rfl⟩

set_option maxHeartbeats 400000 in
theorem used_no (w : World) (b : Nat) (k : Int) (h : ¬ (0 ≤ k ∧ k < 3)) :
    Calls Tryd.prog 53 #[lp b, .int .i64 k] w fun e w' => e = .returned (.int .i64 0) ∧ w' = w := by
  go_enter Tryd.func53, Tryd.ntmps53
  go_wp2_with (go_at_call 76; refine (has_not _ b k h).mono ?_; rintro e w' ⟨rfl, rfl⟩)
  go_ret
  exact ⟨rfl, rfl⟩

set_option maxHeartbeats 400000 in
theorem most_no (w : World) (b : Nat) (k : Int) (h : ¬ (0 ≤ k ∧ k < 3)) :
    Calls Tryd.prog 54 #[lp b, .int .i64 k] w fun e w' => e = .returned (.int .i64 0) ∧ w' = w := by
  go_enter Tryd.func54, Tryd.ntmps54
  go_wp2_with (go_at_call 76; refine (has_not _ b k h).mono ?_; rintro e w' ⟨rfl, rfl⟩)
  go_ret
  exact ⟨rfl, rfl⟩
end Go.Proofs.YtfejiehkpikieaaDoor

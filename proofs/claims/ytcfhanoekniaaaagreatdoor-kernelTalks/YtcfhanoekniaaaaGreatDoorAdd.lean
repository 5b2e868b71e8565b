/- What add of package acct does to a world, by its Go text. -/
import Derived.Test.YtcfhanoekniaaaaGreatDoorAcct
import Derived.RegionTactic
namespace Go.Proofs.YtcfhanoekniaaaaGreatDoor
open Go.RowKit

abbrev ask (k n : Int) : Value := .agg #[.int .i64 k, .int .i64 n]

theorem lhide {p : Prop} (h : p) : Hid p := h
theorem Ldg.more {w : World} {b : Nat} {U M : Nat → Int} (l : Ldg w b U M) (o : Obj) : Ldg (w.alloc o) b U M := l.keep (Below.heap_alloc _ _ _ l.lt)

theorem lgrown_alloc (w : World) (o : Obj) (r : Option Nat) : w.grownBy (w.alloc o) r := ⟨rfl, rfl, rfl, by simp, fun _ hi _ => Below.heap_alloc _ _ _ hi⟩
theorem lgrown_like {w w1 w2 : World} {r : Option Nat} (h : w.grownBy w1 r) (h1 : w2.heap = w1.heap) (h2 : w2.os = w1.os) (h3 : w2.tape = w1.tape) (h4 : w2.output = w1.output) : w.grownBy w2 r :=
  ⟨h2.trans h.os, h3.trans h.tape, h4.trans h.output, by rw [h1]; exact h.size, fun i hi hn => by rw [h1]; exact h.block i hi hn⟩
theorem lgrown_then {w w1 w2 : World} {r : Option Nat} (h : w.grownBy w1 r) (k : w1.grownBy w2 r) : w.grownBy w2 r :=
  ⟨k.os.trans h.os, k.tape.trans h.tape, k.output.trans h.output, Nat.le_trans h.size k.size, fun i hi hn => (k.block i (Nat.lt_of_lt_of_le hi h.size) hn).trans (h.block i hi hn)⟩
theorem below_drewN {B : Nat} {w w' : World} (n : Nat) (h : Below B w w') : Below B w (w'.drewN n) := ⟨h.os, h.tape, h.output, h.size, h.block⟩
theorem Ldg.drewN {w : World} {b : Nat} {U M : Nat → Int} (n : Nat) (l : Ldg w b U M) : Ldg (w.drewN n) b U M := l.keep rfl

set_option maxHeartbeats 1000000 in
theorem add_arg (w : World) (b : Nat) (k n : Int) (h : ¬ (0 ≤ k ∧ k < 3)) :
    Calls Tryz.prog 294 #[lp b, ask k n] w fun e w' => e = .returned (.int .i64 1) ∧ Below w.heap.size w w' := by
  go_enter Tryz.func294, Tryz.ntmps294
  go_wp2_with (go_at_call 148; refine (has_not _ b k h).mono ?_; rintro e w' ⟨rfl, rfl⟩)
  go_ret
  exact ⟨rfl, (Below.refl _ _).alloc (Nat.le_refl _) _⟩

set_option maxHeartbeats 1000000 in
theorem add_range (w : World) (b : Nat) (k n : Int) (h : 0 ≤ k ∧ k < 3) (hn : ¬ (-1000000 ≤ n ∧ n ≤ 1000000)) :
    Calls Tryz.prog 294 #[lp b, ask k n] w fun e w' => e = .returned (.int .i64 2) ∧ Below w.heap.size w w' := by
  by_cases h1 : n < -1000000
  · go_enter Tryz.func294, Tryz.ntmps294
    go_wp2_with (go_at_call 148; refine (has_yes _ b k h).mono ?_; rintro e w' ⟨rfl, rfl⟩)
    go_ret
    exact ⟨rfl, (Below.refl _ _).alloc (Nat.le_refl _) _⟩
  · have h2 : 1000000 < n := by omega
    go_enter Tryz.func294, Tryz.ntmps294
    go_wp2_with (go_at_call 148; refine (has_yes _ b k h).mono ?_; rintro e w' ⟨rfl, rfl⟩)
    go_ret
    exact ⟨rfl, (Below.refl _ _).alloc (Nat.le_refl _) _⟩

set_option maxHeartbeats 1000000 in
theorem add_limit {w : World} {b : Nat} {U M : Nat → Int} (l : Ldg w b U M) (hU : Fit U) (hM : Fit M) (k n : Int) (h1 : 0 ≤ k) (h2 : k < 3) (h3 : -1000000 ≤ n) (h4 : n ≤ 1000000) (h5 : 0 < n) (h6 : M k.toNat < U k.toNat + n) :
    Calls Tryz.prog 294 #[lp b, ask k n] w fun e w' => e = .returned (.int .i64 4) ∧ Below w.heap.size w w' := by
  have l1 := l.more (.cells #[.int .i64 k, .int .i64 n] 340)
  have c := l1.has k.toNat (by omega)
  have m := l1.may k.toNat (by omega)
  have u1 := (hU k.toNat).1
  have u2 := (hU k.toNat).2
  have v1 := (hM k.toNat).1
  have v2 := (hM k.toNat).2
  generalize U k.toNat = u at *
  generalize M k.toNat = v at *
  clear l l1 hU hM
  go_enter Tryz.func294, Tryz.ntmps294
  go_wp2_with (go_at_call 148; refine (has_yes _ b k ⟨h1, h2⟩).mono ?_; rintro e w' ⟨rfl, rfl⟩)
  go_quiet (fail)
  go_wp2_with fail
  go_quiet (fail)
  go_wp2_with fail
  go_ret
  exact ⟨rfl, by repeat first | exact (Below.refl _ _).alloc (Nat.le_refl _) _ | refine below_drewN _ ?_⟩

set_option maxHeartbeats 1000000 in
theorem add_state {w : World} {b : Nat} {U M : Nat → Int} (l : Ldg w b U M) (hU : Fit U) (k n : Int) (h1 : 0 ≤ k) (h2 : k < 3) (h3 : -1000000 ≤ n) (h4 : n ≤ 1000000) (h5 : n ≤ 0) (h6 : U k.toNat + n < 0) :
    Calls Tryz.prog 294 #[lp b, ask k n] w fun e w' => e = .returned (.int .i64 6) ∧ Below w.heap.size w w' := by
  have l1 := l.more (.cells #[.int .i64 k, .int .i64 n] 340)
  have c := l1.has k.toNat (by omega)
  have u1 := (hU k.toNat).1
  have u2 := (hU k.toNat).2
  have hd : decide (0 < n) = false := by simpa using h5
  generalize U k.toNat = u at *
  clear l l1 hU
  go_enter Tryz.func294, Tryz.ntmps294
  go_wp2_with (go_at_call 148; refine (has_yes _ b k ⟨h1, h2⟩).mono ?_; rintro e w' ⟨rfl, rfl⟩)
  go_quiet (fail)
  go_wp2_with fail
  go_quiet (fail)
  go_wp2_with fail
  go_ret
  exact ⟨rfl, by repeat first | exact (Below.refl _ _).alloc (Nat.le_refl _) _ | refine below_drewN _ ?_⟩

set_option maxHeartbeats 2000000 in
theorem add_ok {w : World} {b : Nat} {U M : Nat → Int} (l : Ldg w b U M) (hU : Fit U) (hM : Fit M) (k n : Int) (h : why U M k n = 0) :
    Calls Tryz.prog 294 #[lp b, ask k n] w fun e w' => e = .returned (.int .i64 0) ∧ Ldg w' b (after U k n) M ∧ w.grownBy w' (some b) := by
  obtain ⟨⟨h1, h2⟩, ⟨h3, h4⟩, h5, h6⟩ := why_ok h
  clear h
  have l1 := l.more (.cells #[.int .i64 k, .int .i64 n] 340)
  have fin : ∀ x, Ldg (((w.alloc (.cells #[.int .i64 k, .int .i64 n] 340)).drewN x).setCell ⟨b, k.toNat, none⟩ (.int .i64 (U k.toNat + n))) b (after U k n) M := fun x => (l1.drewN x).has_put k.toNat (by omega) _
  have c := l1.has k.toNat (by omega)
  have m := l1.may k.toNat (by omega)
  have f := l1.live k.toNat (by omega)
  have u1 := (hU k.toNat).1
  have u2 := (hU k.toNat).2
  have v1 := (hM k.toNat).1
  have v2 := (hM k.toNat).2
  have F := lhide fin
  have G := lhide (lgrown_then (lgrown_alloc w (.cells #[.int .i64 k, .int .i64 n] 340) (some b)) (lgrown_set _ b k.toNat (.int .i64 (U k.toNat + n))))
  generalize U k.toNat = u at *
  generalize M k.toNat = v at *
  clear l l1 hU hM fin
  by_cases h7 : 0 < n
  · have h8 := h5 h7
    have h9 : ¬ v < u + n := by omega
    clear h5
    go_enter Tryz.func294, Tryz.ntmps294
    go_wp2_with (go_at_call 148; refine (has_yes _ b k ⟨h1, h2⟩).mono ?_; rintro e w' ⟨rfl, rfl⟩)
    go_quiet (fail)
    go_wp2_with fail
    go_quiet (fail)
    go_wp2_with fail
    go_region
    go_wp2_with fail
    go_ret
    exact ⟨rfl, Ldg.keep (F.out 0) rfl, lgrown_like G.out rfl rfl rfl rfl⟩
  · have hd : decide (0 < n) = false := by simpa using h7
    clear h5
    go_enter Tryz.func294, Tryz.ntmps294
    go_wp2_with (go_at_call 148; refine (has_yes _ b k ⟨h1, h2⟩).mono ?_; rintro e w' ⟨rfl, rfl⟩)
    go_quiet (fail)
    go_wp2_with fail
    go_quiet (fail)
    go_wp2_with fail
    go_region
    go_wp2_with fail
    go_ret
    exact ⟨rfl, Ldg.keep (F.out 0) rfl, lgrown_like G.out rfl rfl rfl rfl⟩
end Go.Proofs.YtcfhanoekniaaaaGreatDoor

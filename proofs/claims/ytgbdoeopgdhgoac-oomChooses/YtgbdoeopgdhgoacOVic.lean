/- Package oom's Victim, by its Go text: what one weighs. -/
import Derived.Test.YtgbdoeopgdhgoacOChoose
import Derived.Deep.RegionHeld3
namespace Go.Proofs.Ytgbdoeopgdhgoac
open Go.RowKit

set_option maxHeartbeats 1000000 in
theorem within_ok (w : World) (x lo hi : Int) (h : lo < hi) : Calls Try.prog 18 #[.int .i64 x, .int .i64 lo, .int .i64 hi] w fun e w' => e = .returned (.int .i64 (clp lo hi x)) ∧ w' = w := by
  rcases clp_ways lo hi x with ⟨h1, h2⟩ | ⟨h1, h1', h2⟩ | ⟨h1, h1', h2⟩
  · rw [h2]
    clear h2
    have h3 : ¬ hi < lo := by omega
    go_enter Try.func18, Try.ntmps18
    go_wp2_with fail
    go_ret
    exact ⟨rfl, rfl⟩
  · rw [h2]
    clear h2
    go_enter Try.func18, Try.ntmps18
    go_wp2_with fail
    go_ret
    exact ⟨rfl, rfl⟩
  · rw [h2]
    clear h2
    go_enter Try.func18, Try.ntmps18
    go_wp2_with fail
    go_ret
    exact ⟨rfl, rfl⟩
set_option maxHeartbeats 1000000 in
theorem weight_ok (w : World) (X R D : Int) : Calls Try.prog 16 #[.agg #[.int .i64 X, .int .i64 R, .int .i64 D]] w fun e w' => e = .returned (.int .i64 (wgt ⟨X, R, D⟩)) ∧ Below w.heap.size w w' := by
  have hin := wgt_in ⟨X, R, D⟩
  have hwg : wgt ⟨X, R, D⟩ = clp 0 1000 R * (100 + clp (-100) 100 D) := rfl
  have hr := clp_in 0 1000 R (by omega)
  have ha := clp_in (-100) 100 D (by omega)
  have hw1 : wrap64 (100 + clp (-100) 100 D) = 100 + clp (-100) 100 D := by unfold wrap64; omega
  have hw2 : wrap64 (clp 0 1000 R * (100 + clp (-100) 100 D)) = wgt ⟨X, R, D⟩ := by rw [← hwg]; unfold wrap64; omega
  have hA := (Below.refl _ w).alloc (Nat.le_refl _) (.cells #[.int .i64 X, .int .i64 R, .int .i64 D] 25)
  generalize wgt ⟨X, R, D⟩ = W at *
  clear hwg hin hr ha
  go_enter Try.func16, Try.ntmps16
  go_upto_region 1 with fail
  go_quiet (first | (go_at_call 18; exact Calls.quiet_of_same (within_ok _ _ _ _ (by decide))))
  go_wp2_with fail
  go_ret
  exact ⟨by simp [hw1, hw2], ⟨hA.os, hA.tape, hA.output, hA.size, hA.block⟩⟩
def sgn (x y : Int) : Int := if x < y then -1 else if y < x then 1 else 0
set_option maxHeartbeats 1000000 in
theorem nan_ok (w : World) (x : Int) : Calls Try.prog 17 #[.int .i64 x] w fun e w' => e = .returned (.bool false) ∧ w' = w := by
  go_enter Try.func17, Try.ntmps17
  go_wp2_with fail
  go_ret
  exact ⟨by simp, rfl⟩
set_option maxHeartbeats 1000000 in
theorem cmpI_ok (w : World) (x y : Int) : Calls Try.prog 15 #[.int .i64 x, .int .i64 y] w fun e w' => e = .returned (.int .i64 (sgn x y)) ∧ w' = w := by
  have e : (x < y ∧ sgn x y = -1) ∨ (¬ x < y ∧ y < x ∧ sgn x y = 1) ∨ (¬ x < y ∧ ¬ y < x ∧ sgn x y = 0) := by unfold sgn; split <;> (try split) <;> simp [*]
  rcases e with ⟨h1, h2⟩ | ⟨h1, h1', h2⟩ | ⟨h1, h1', h2⟩ <;>
  · rw [h2]
    clear h2
    go_enter Try.func15, Try.ntmps15
    go_wp2_with (go_at_call 17; refine (nan_ok _ _).mono ?_; rintro e w1 ⟨rfl, hw9⟩; subst w1)
    go_ret
    exact ⟨rfl, rfl⟩
def orr (x y : Int) : Int := if x = 0 then y else x
set_option maxRecDepth 100000 in
set_option maxHeartbeats 1000000 in
theorem or2_ok (w : World) (b : Nat) (x y : Int) (h0 : w.cell? ⟨b, 0, none⟩ = some (.int .i64 x)) (h1 : w.cell? ⟨b, 1, none⟩ = some (.int .i64 y)) : Calls Try.prog 14 #[.slice (some ⟨b, 0, none⟩) 2 2] w fun e w' => e = .returned (.int .i64 (orr x y)) ∧ w' = w := by
  go_enter Try.func14, Try.ntmps14
  go_wp2_with fail
  go_loopg [5, 8] 2 (fun mm _ s8 wr => ∃ i : Nat, i + mm = 2 ∧ s8 = .int .i64 (i : Int) ∧ (i = 0 ∨ x = 0) ∧ (i < 2 ∨ y = 0) ∧ wr = w)
  case atStart => exact ⟨0, rfl, rfl, .inl rfl, .inl (by omega), rfl⟩
  case round =>
    obtain ⟨i, hi, rfl, hx, hy, hwr⟩ := hrel
    subst wr
    have hi3 : i = 0 ∨ i = 1 ∨ i = 2 := by omega
    rcases hi3 with rfl | rfl | rfl
    · by_cases e : x = 0
      · subst e
        go_wp2_with fail
        go_roundg (gk - 1)
        case measure => omega
        case rel => exact ⟨1, by omega, rfl, by simp, by simp, rfl⟩
      · have e' : (x != 0) = true := by simpa using e
        have E3 : Aside (orr x y = x) := by unfold orr; rw [if_neg e]; exact rfl
        go_wp2_with fail
        go_ret
        exact ⟨by rw [E3.out]; rfl, rfl⟩
    · have e : x = 0 := by rcases hx with z | z <;> omega
      subst e
      by_cases e : y = 0
      · subst e
        go_wp2_with fail
        go_roundg (gk - 1)
        case measure => omega
        case rel => exact ⟨2, by omega, rfl, by simp, by simp, rfl⟩
      · have e' : (y != 0) = true := by simpa using e
        go_wp2_with fail
        go_ret
        exact ⟨rfl, rfl⟩
    · have e : x = 0 := by rcases hx with z | z <;> omega
      have e2 : y = 0 := by rcases hy with z | z <;> omega
      subst e e2
      go_wp2_with fail
      go_ret
      exact ⟨rfl, rfl⟩
end Go.Proofs.Ytgbdoeopgdhgoac

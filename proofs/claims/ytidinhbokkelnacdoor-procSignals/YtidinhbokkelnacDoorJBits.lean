/- Signals as bits of a number, and package proc's functions of them. -/
import Derived.Test.YtidinhbokkelnacDoorJPl
import Derived.Sort.LoopGhostIn
import Derived.Deep.Light
import Derived.Test.YtidinhbokkelnacDoorShelfP
import Derived.Laws.Bits64b
import Derived.Laws.BitsAllLaws
import Derived.Lib.TrailingZeros
namespace Go.Proofs.YtidinhbokkelnacDoor
open Go.RowKit Go.Maps Go.Sort Go.Shelf Go.Lib

def mk (f : Int → Bool) : Nat → Nat
  | 0 => 0
  | k + 1 => mk f k ||| (if f (k : Int) = true then 2 ^ k else 0)
theorem mk_bit (f : Int → Bool) : ∀ k i, (mk f k).testBit i = (decide (i < k) && f i)
  | 0, i => by simp [mk]
  | k + 1, i => by
    rw [mk, Nat.testBit_or, mk_bit f k i]
    by_cases hf : f (k : Int) = true
    · rw [if_pos hf, Nat.testBit_two_pow]
      by_cases e : k = i
      · subst e; simp [hf]
      · have : (decide (i < k + 1)) = decide (i < k) := by congr 1; apply propext; omega
        simp [e, this]
    · rw [if_neg hf, Nat.zero_testBit, Bool.or_false]
      by_cases e : i = k
      · subst e; simp [hf]
      · have : (decide (i < k + 1)) = decide (i < k) := by congr 1; apply propext; omega
        rw [this]
theorem mk_lt (f : Int → Bool) : ∀ k, mk f k < 2 ^ k
  | 0 => by simp [mk]
  | k + 1 => by
    rw [mk]
    refine Nat.or_lt_two_pow ?_ ?_
    · exact Nat.lt_of_lt_of_le (mk_lt f k) (Nat.pow_le_pow_right (by omega) (by omega))
    · split
      · exact Nat.pow_lt_pow_right (by omega) (by omega)
      · exact Nat.pow_pos (by omega)
/-- Signals, as bits. -/
def msk (f : Int → Bool) : Nat := mk f 9
theorem msk_lt (f : Int → Bool) : msk f < 512 := mk_lt f 9
theorem msk_bit (f : Int → Bool) (i : Nat) : (msk f).testBit i = (decide (i < 9) && f i) := mk_bit f 9 i
theorem msk_no : msk noSig = 0 := rfl
def oneS (s : Int) : Int → Bool := fun i => decide (i = s)
def lessS (f g : Int → Bool) : Int → Bool := fun i => f i && !g i
theorem msk_one {s : Nat} (h : s ≤ 8) : msk (oneS s) = 2 ^ s := by
  apply Nat.eq_of_testBit_eq
  intro i
  rw [msk_bit, Nat.testBit_two_pow]
  unfold oneS
  by_cases e : s = i
  · subst e; simp; omega
  · have : ¬ ((i : Int) = (s : Int)) := by omega
    simp [e, this]
theorem msk_or (f : Int → Bool) (s : Int) : msk f ||| msk (oneS s) = msk (putS f s true) := by
  apply Nat.eq_of_testBit_eq
  intro i
  rw [Nat.testBit_or, msk_bit, msk_bit, msk_bit]
  unfold oneS putS
  by_cases e : (i : Int) = s <;> by_cases h9 : i < 9 <;> simp [e, h9]
theorem msk_less (f g : Int → Bool) : msk f &&& (18446744073709551615 - msk g) = msk (lessS f g) := by
  apply Nat.eq_of_testBit_eq
  intro i
  have h1 := msk_lt g
  have h2 : 18446744073709551615 - msk g = 2 ^ 64 - (msk g + 1) := by omega
  rw [Nat.testBit_and, h2, Nat.testBit_two_pow_sub_succ (by omega), msk_bit, msk_bit, msk_bit]
  unfold lessS
  by_cases e : i < 9
  · have : i < 64 := by omega
    simp [e, this]
  · simp [e]
theorem msk_zero {f : Int → Bool} (h : msk f = 0) : sigs.find? f = none := by
  refine sigs_none (fun y h1 h2 => ?_)
  have := msk_bit f y.toNat
  rw [h, Nat.zero_testBit, show ((y.toNat : Nat) : Int) = y by omega] at this
  have h9 : y.toNat < 9 := by omega
  simpa [h9] using this.symm
theorem msk_least {f : Int → Bool} (hf : ∀ s, f s = true → 1 ≤ s ∧ s ≤ 8) (h : msk f ≠ 0) : sigs.find? f = some ((ctz 64 (msk f) : Nat) : Int) := by
  obtain ⟨m, hm, _⟩ := ctzFrom_spec 64 (msk f) (by omega) (by have := msk_lt f; omega)
  have e : ctzFrom 64 (msk f) = ctz 64 (msk f) := by
    unfold ctz; first | rfl | (rw [if_neg h])
  rw [e] at hm
  generalize ctz 64 (msk f) = k at *
  have hk : (msk f).testBit k = true := by
    rw [hm, Nat.testBit_two_pow_mul]
    simp
  have hl : ∀ j, j < k → (msk f).testBit j = false := fun j hj => by
    rw [hm, Nat.testBit_two_pow_mul]
    simp; omega
  rw [msk_bit] at hk
  simp only [Bool.and_eq_true, decide_eq_true_eq] at hk
  have := hf k hk.2
  refine sigs_find (x := (k : Int)) (by omega) (fun y h1 h2 => ?_) hk.2
  have h3 := hl y.toNat (by omega)
  rw [msk_bit, show ((y.toNat : Nat) : Int) = y by omega] at h3
  have h9 : y.toNat < 9 := by omega
  simpa [h9] using h3
/-- The table of math/bits, as it was laid. -/
def Tab64 (w : World) : Prop := TabAt 2 Lib.deBruijn64tab w
theorem Tab64.lt {w : World} (h : Tab64 w) : 2 < w.heap.size := World.block_lt_of_cell? w _ (h 0 (by decide))
theorem Tab64.keep {w w' : World} (h : Tab64 w) (hb : w'.heap[2]? = w.heap[2]?) : Tab64 w' := fun j hj => by
  rw [World.cell?_of_block (w := w) (a := ⟨2, j, none⟩) hb]; exact h j hj
abbrev mv (f : Int → Bool) : Value := .int .u64 ((msk f : Nat) : Int)
set_option maxHeartbeats 1000000 in
theorem only_ok (w : World) (s : Int) (hs : 1 ≤ s ∧ s ≤ 8) : Calls Tryd.prog 35 #[.int .i64 s] w fun e w' => e = .returned (mv (oneS s)) ∧ w' = w := by
  have h : msk (oneS s) = 2 ^ s.toNat := by
    have := msk_one (s := s.toNat) (by omega)
    rw [show ((s.toNat : Nat) : Int) = s by omega] at this
    exact this
  unfold mv
  rw [h]
  obtain h | h | h | h | h | h | h | h : s = 1 ∨ s = 2 ∨ s = 3 ∨ s = 4 ∨ s = 5 ∨ s = 6 ∨ s = 7 ∨ s = 8 := by omega
  all_goals
    subst h
    go_enter Tryd.func35, Tryd.ntmps35
    go_wp2_with fail
    go_ret
    exact ⟨by first | rfl | simp, rfl⟩
set_option maxHeartbeats 1000000 in
theorem with_ok (w : World) (f : Int → Bool) (s : Int) (hs : 1 ≤ s ∧ s ≤ 8) : Calls Tryd.prog 33 #[mv f, .int .i64 s] w fun e w' => e = .returned (mv (putS f s true)) ∧ w' = w := by
  have hO := only_ok w s hs
  have h1 := msk_lt f
  have h2 := msk_lt (oneS s)
  have hb := bits_or_u64_nat (msk f) (msk (oneS s)) (by omega) (by omega)
  rw [msk_or] at hb
  clear h1 h2
  unfold mv at *
  generalize msk (putS f s true) = r at *
  generalize msk (oneS s) = o at *
  generalize msk f = m at *
  go_enter Tryd.func33, Tryd.ntmps33
  go_wp2_with (go_at_call 35; refine hO.mono ?_; rintro e w1 ⟨rfl, hw⟩; subst w1)
  go_ret
  exact ⟨by first | rfl | rw [hb], rfl⟩
set_option maxHeartbeats 1000000 in
theorem without_ok (w : World) (f g : Int → Bool) : Calls Tryd.prog 34 #[mv f, mv g] w fun e w' => e = .returned (mv (lessS f g)) ∧ w' = w := by
  have h1 := msk_lt f
  have h2 := msk_lt g
  have hb := u64_andNot_nat (msk f) (msk g) (by omega) (by omega)
  rw [msk_less] at hb
  clear h1 h2
  unfold mv at *
  generalize msk (lessS f g) = r at *
  generalize msk g = o at *
  generalize msk f = m at *
  go_enter Tryd.func34, Tryd.ntmps34
  go_wp2_with fail
  go_ret
  exact ⟨by first | rfl | rw [hb], rfl⟩
set_option maxHeartbeats 1000000 in
theorem least_sig (w : World) (f : Int → Bool) (hf : ∀ s, f s = true → 1 ≤ s ∧ s ≤ 8) (hT : Tab64 w) : Calls Tryd.prog 36 #[mv f] w fun e w' => e = .returned (.int .i64 ((sigs.find? f).getD 0)) ∧ w' = w := by
  have hlt := msk_lt f
  by_cases h0 : msk f = 0
  · rw [msk_zero h0]
    unfold mv
    rw [h0]
    go_enter Tryd.func36, Tryd.ntmps36
    go_wp2_with fail
    go_ret
    exact ⟨rfl, rfl⟩
  · rw [msk_least hf h0]
    have hC := Any7.bits_TrailingZeros Tryd.tzL (msk f) (by omega) w (fun _ => hT)
    change Calls Tryd.prog 46 _ _ _ at hC
    unfold mv
    generalize ctz 64 (msk f) = r at *
    generalize msk f = m at *
    have hm : ((m : Int) == 0) = false := by simpa using h0
    have hm2 : ¬ (m : Int) = 0 := by omega
    clear hT
    go_enter Tryd.func36, Tryd.ntmps36
    go_wp2_with (go_at_call 46; refine hC.mono ?_; rintro e w1 ⟨rfl, hw⟩; subst w1)
    go_ret
    exact ⟨rfl, rfl⟩
end Go.Proofs.YtidinhbokkelnacDoor

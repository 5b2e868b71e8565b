/- A frame's places, as bits of a number, plainly. -/
import Derived.Test.YthknommfnajeiaaDoorSums
import Derived.Shelf.Spec.TrailingZeros
import Derived.Lib.BitFns
namespace Go.Proofs.YthknommfnajeiaaDoor
open Go.RowKit Go.Lib

theorem cnt_same {U V : Nat → Bool} : ∀ (m a : Nat), (∀ i, a ≤ i → i < a + m → U i = V i) → cnt U a m = cnt V a m
  | 0, _, _ => rfl
  | m + 1, a, h => by rw [cnt, cnt, h a (by omega) (by omega), cnt_same m (a + 1) (fun i h1 h2 => h i (by omega) (by omega))]

/-- How many places have a thing. -/
def ones (m : Nat) : Nat := cnt (fun j => m.testBit j) 0 16
/-- The first place that has none. -/
def low (m : Nat) : Nat := ctz 32 (4294967295 - m)

theorem flip_bit {m j : Nat} (hm : m < 65536) (hj : j < 32) : (4294967295 - m).testBit j = !m.testBit j := by
  have h := Nat.testBit_two_pow_sub_succ (x := m) (n := 32) (Nat.lt_of_lt_of_le hm (by decide)) j
  rw [show 2 ^ 32 - (m + 1) = 4294967295 - m by omega] at h
  rw [h, decide_eq_true hj, Bool.true_and]

theorem low_spec {m : Nat} (hm : m < 65536) : low m ≤ 16 ∧ m.testBit (low m) = false ∧ ∀ j, j < low m → m.testBit j = true := by
  have hx0 : 0 < 4294967295 - m := by omega
  obtain ⟨a, ha, hk⟩ := ctzFrom_spec 32 (4294967295 - m) hx0 (by omega)
  have hl : low m = ctzFrom 32 (4294967295 - m) := by rw [low, ctz, if_neg (by omega)]
  rw [← hl] at ha hk
  have h1 : (4294967295 - m).testBit (low m) = true := by
    rw [ha, Nat.mul_comm, Nat.testBit_mul_two_pow]; simp [Nat.testBit_zero]
  have h2 : ∀ j, j < low m → (4294967295 - m).testBit j = false := fun j hj => by
    rw [ha, Nat.mul_comm, Nat.testBit_mul_two_pow, decide_eq_false (by omega)]; rfl
  have h3 : ∀ j, j < low m → m.testBit j = true := fun j hj => by
    have := h2 j hj; rw [flip_bit hm (by omega)] at this; simpa using this
  refine ⟨?_, ?_, h3⟩
  · apply Nat.le_of_not_lt; intro h
    have := h3 16 h
    rw [Nat.testBit_lt_two_pow (Nat.lt_of_lt_of_le hm (by decide))] at this; cases this
  · rw [flip_bit hm hk] at h1; simpa using h1

theorem ones_eq {m : Nat} (hm : m < 65536) : ones m = onesCount (m / 256) + onesCount (m % 256) := by
  have h8 : ∀ n : Fin 256, onesCount n.val = cnt (fun j => n.val.testBit j) 0 8 := by decide +kernel
  have e1 := h8 ⟨m / 256, by omega⟩
  have e2 := h8 ⟨m % 256, by omega⟩
  simp only at e1 e2
  have a1 : ∀ k f, f + k ≤ 8 → cnt (fun j => m.testBit j) (8 + f) k = cnt (fun j => (m / 256).testBit j) f k := by
    intro k; induction k with
    | zero => intro f _; rfl
    | succ k ih =>
      intro f hf
      have := ih (f + 1) (by omega)
      rw [cnt, cnt, ← this, show 8 + f + 1 = 8 + (f + 1) by omega]
      have e : m.testBit (8 + f) = (m / 256).testBit f := by
        rw [show (256 : Nat) = 2 ^ 8 from rfl, Nat.testBit_div_two_pow, Nat.add_comm]
      rw [e]
  have a2 : cnt (fun j => m.testBit j) 0 8 = cnt (fun j => (m % 256).testBit j) 0 8 := cnt_same _ _ (fun i _ hi => by
    rw [show (256 : Nat) = 2 ^ 8 from rfl, Nat.testBit_mod_two_pow, decide_eq_true (by omega), Bool.true_and])
  have a3 := a1 8 0 (by omega)
  have a4 : ones m = cnt (fun j => m.testBit j) 0 8 + cnt (fun j => m.testBit j) (0 + 8) 8 := cnt_add _ 8 8 0
  rw [a4, Nat.zero_add 8, a2, e1, e2, ← a3, Nat.add_comm]

theorem ones_le (m : Nat) : ones m ≤ 16 := cnt_le _ _ _
theorem ones_zero : ones 0 = 0 := by decide +kernel

theorem lt_of_bits {m per : Nat} (h : ∀ j, per ≤ j → m.testBit j = false) : m < 2 ^ per := Nat.lt_pow_two_of_testBit m (fun j hj => h j hj)

/-- Below 2 ^ per only the first places count. -/
theorem ones_per {m per : Nat} (hp : per ≤ 16) (hm : m < 2 ^ per) : ones m = cnt (fun j => m.testBit j) 0 per := by
  rw [ones, show 16 = per + (16 - per) by omega, cnt_add]
  have : cnt (fun j => m.testBit j) (0 + per) (16 - per) = 0 := by
    have : ∀ k f, per ≤ f → cnt (fun j => m.testBit j) f k = 0 := by
      intro k; induction k with
      | zero => intro _ _; rfl
      | succ k ih => intro f hf; rw [cnt, ih (f + 1) (by omega), Nat.testBit_lt_two_pow (Nat.lt_of_lt_of_le hm (Nat.pow_le_pow_right (by omega) hf))]; rfl
    exact this _ _ (by omega)
  omega

theorem ones_pos {m : Nat} (hm : m < 65536) : ones m = 0 ↔ m = 0 := by
  constructor
  · intro h
    apply Nat.eq_of_testBit_eq; intro j
    rw [Nat.zero_testBit]
    by_cases hj : j < 16
    · have : ∀ k f, cnt (fun j => m.testBit j) f k = 0 → ∀ i, i < k → m.testBit (f + i) = false := by
        intro k; induction k with
        | zero => intro f _ i hi; omega
        | succ k ih =>
          intro f h i hi
          rw [cnt] at h
          have h0 : m.testBit f = false := by cases e : m.testBit f with | false => rfl | true => rw [e] at h; simp at h
          by_cases e : i = 0
          · rw [e]; exact h0
          · have := ih (f + 1) (by omega) (i - 1) (by omega); rwa [show f + 1 + (i - 1) = f + i by omega] at this
      have := this 16 0 h j hj; rwa [Nat.zero_add] at this
    · exact Nat.testBit_lt_two_pow (Nat.lt_of_lt_of_le hm (Nat.pow_le_pow_right (by omega : 0 < 2) (by omega : 16 ≤ j)))
  · rintro rfl; exact ones_zero

/-- Where not all places have one, the first free one is among them. -/
theorem low_lt {m per : Nat} (hp : per ≤ 16) (hm : m < 2 ^ per) (h : ones m < per) : low m < per := by
  have h16 : m < 65536 := Nat.lt_of_lt_of_le hm (Nat.pow_le_pow_right (by omega : 0 < 2) hp)
  obtain ⟨_, _, h3⟩ := low_spec h16
  apply Nat.lt_of_not_le; intro hl
  rw [ones_per hp hm, cnt_all _ _ _ (fun i hi => h3 (0 + i) (by omega))] at h
  omega

theorem put_lt {m k per : Nat} (hm : m < 2 ^ per) (hk : k < per) : m ||| 2 ^ k < 2 ^ per := Nat.or_lt_two_pow hm (Nat.pow_lt_pow_right (by omega) hk)
theorem put_bit (m k j : Nat) : (m ||| 2 ^ k).testBit j = (m.testBit j || decide (k = j)) := by rw [Nat.testBit_or, Nat.testBit_two_pow]
theorem ones_put {m k : Nat} (hk : k < 16) (h : m.testBit k = false) : ones (m ||| 2 ^ k) = ones m + 1 := by
  have : ∀ n f, f ≤ k → k < f + n → cnt (fun j => (m ||| 2 ^ k).testBit j) f n = cnt (fun j => m.testBit j) f n + 1 := by
    intro n; induction n with
    | zero => intro f h1 h2; omega
    | succ n ih =>
      intro f h1 h2
      rw [cnt, cnt]
      by_cases e : f = k
      · subst e
        have e2 : cnt (fun j => (m ||| 2 ^ f).testBit j) (f + 1) n = cnt (fun j => m.testBit j) (f + 1) n := cnt_same _ _ (fun i hi _ => by rw [put_bit, decide_eq_false (by omega), Bool.or_false])
        rw [e2, put_bit, h]; simp; omega
      · rw [ih (f + 1) (by omega) (by omega), put_bit, decide_eq_false (by omega), Bool.or_false]; omega
  exact this 16 0 (by omega) (by omega)
/-- A thing goes. -/
def drop (m k : Nat) : Nat := m ^^^ 2 ^ k
theorem drop_bit {m k : Nat} (h : m.testBit k = true) (j : Nat) : (drop m k).testBit j = (m.testBit j && !decide (k = j)) := by
  rw [drop, Nat.testBit_xor, Nat.testBit_two_pow]
  by_cases e : k = j
  · subst e; simp [h]
  · simp [e]
theorem drop_put {m k : Nat} (h : m.testBit k = true) : drop m k ||| 2 ^ k = m := by
  apply Nat.eq_of_testBit_eq; intro j
  rw [put_bit, drop_bit h]
  by_cases e : k = j
  · subst e; simp [h]
  · simp [e]
theorem drop_lt {m k per : Nat} (hm : m < 2 ^ per) (hk : k < per) : drop m k < 2 ^ per := Nat.xor_lt_two_pow hm (Nat.pow_lt_pow_right (by omega) hk)
theorem ones_drop {m k : Nat} (hk : k < 16) (h : m.testBit k = true) : ones (drop m k) + 1 = ones m := by
  have h0 : (drop m k).testBit k = false := by rw [drop_bit h]; simp
  rw [← ones_put hk h0, drop_put h]
end Go.Proofs.YthknommfnajeiaaDoor

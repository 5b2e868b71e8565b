/- What BuddyTrue reckons with, plainly. -/
import Derived.Test.YthknommfnajeiaaDoorParts
namespace Go.Proofs.YthknommfnajeiaaDoor
open Go.RowKit

/-- The free blocks have just the free frames. -/
theorem cov_free {U : Nat → Bool} {n : Nat} (hb : ∀ f, U f = true → f < n) : cov ((blocks U n).map toInt) = U := by
  funext f
  apply Bool.eq_iff_iff.2
  rw [cov_iff]
  constructor
  · rintro ⟨x, hx, hin⟩
    obtain ⟨j, q, rfl, hm⟩ := (mem_blocks_int hb x).1 hx
    exact hm.2.1 f (inb_toInt.1 hin)
  · intro hU
    obtain ⟨j, m, _, hm, hx⟩ := in_mxb U 6 0 f rfl (by omega) (fun g hg => by rw [Nat.pow_zero, Nat.div_one] at hg; rw [hg]; exact hU)
    exact ⟨_, (mem_blocks_int hb _).2 ⟨j, m, rfl, hx⟩, inb_toInt.2 (by rw [hm, Nat.sub_zero])⟩

theorem cnt_full (U : Nat → Bool) : ∀ (m f : Nat), cnt U f m = m → ∀ i, i < m → U (f + i) = true
  | 0, _, _, i, hi => by omega
  | m + 1, f, h, i, hi => by
    rw [cnt] at h
    have hl := cnt_le U m (f + 1)
    have h0 : U f = true := by
      cases e : U f with
      | true => rfl
      | false => rw [e] at h; simp at h; omega
    rw [h0] at h
    by_cases e : i = 0
    · rw [e]; exact h0
    · have := cnt_full U m (f + 1) (by simp at h; omega) (i - 1) (by omega)
      rwa [show f + 1 + (i - 1) = f + i by omega] at this

/-- All frames of a block are free just if there are as many as it has. -/
theorem cnt_blk {U : Nat → Bool} {o q : Nat} : cnt U (q * 2 ^ o) (2 ^ o) = 2 ^ o ↔ blk U o q := by
  constructor
  · intro h f hf
    have hi := (in_iff f o q).1 hf
    have := cnt_full U _ _ h (f - q * 2 ^ o) (by omega)
    rwa [show q * 2 ^ o + (f - q * 2 ^ o) = f by omega] at this
  · intro h
    exact cnt_all _ _ _ (fun i hi => h _ ((in_iff _ o q).2 (by omega)))

theorem cnt_zero {U : Nat → Bool} : ∀ (m f : Nat), (∀ i, i < m → U (f + i) = false) → cnt U f m = 0
  | 0, _, _ => rfl
  | m + 1, f, h => by
    rw [cnt, cnt_zero m (f + 1) (fun i hi => by rw [show f + 1 + i = f + (i + 1) by omega]; exact h (i + 1) (by omega)), show U f = false from h 0 (by omega)]; rfl

/-- A block that is taken takes as many frames as it has. -/
theorem cnt_cut {U : Nat → Bool} {n o q : Nat} (hb : ∀ f, U f = true → f < n) (h : blk U o q) : cnt (cut U o q) 0 n + 2 ^ o = cnt U 0 n := by
  have hp := Nat.two_pow_pos o
  have hlast := hb _ (h _ (last_in o q))
  obtain ⟨r, hr⟩ : ∃ r, n = q * 2 ^ o + (2 ^ o + r) := ⟨n - q * 2 ^ o - 2 ^ o, by omega⟩
  have a1 : cnt (cut U o q) 0 (q * 2 ^ o) = cnt U 0 (q * 2 ^ o) := cnt_congr _ _ (fun i _ hi => by
    have : ¬ i / 2 ^ o = q := fun e => by have := (in_iff i o q).1 e; omega
    simp [cut, this])
  have a2 : cnt (cut U o q) (q * 2 ^ o + 2 ^ o) r = cnt U (q * 2 ^ o + 2 ^ o) r := cnt_congr _ _ (fun i hi _ => by
    have : ¬ i / 2 ^ o = q := fun e => by have := (in_iff i o q).1 e; omega
    simp [cut, this])
  have a3 : cnt (cut U o q) (q * 2 ^ o) (2 ^ o) = 0 := cnt_zero _ _ (fun i hi => by
    have : (q * 2 ^ o + i) / 2 ^ o = q := (in_iff _ o q).2 (by omega)
    simp [cut, this])
  have a4 := cnt_blk.2 h
  rw [hr, cnt_add, cnt_add, cnt_add, cnt_add, Nat.zero_add, a1, a2, a3, a4]; omega

/-- A block of an order is free just if a free one serves. -/
theorem serves {U : Nat → Bool} {o : Nat} (ho : o ≤ 6) : (∃ q, blk U o q) ↔ ¬ ∀ j r, mxb U j r → j < o := by
  constructor
  · rintro ⟨q, hq⟩ hno
    obtain ⟨j, m, hj, _, hx⟩ := in_mxb U (6 - o) o q rfl ho hq
    have := hno j m hx; omega
  · intro h
    refine Classical.byContradiction fun hc => h fun j r hx => ?_
    by_cases e : j < o
    · exact e
    · exact absurd ⟨_, (blk_part hx.2.1 (by omega : o ≤ j)).1⟩ hc

/-- The least order that serves, told by a list's part. -/
def Lst (o m : Nat) (l : List (Nat × Nat)) : Prop := (m = 7 ∨ ∃ x ∈ l, o ≤ x.2 ∧ x.2 = m) ∧ (∀ x ∈ l, o ≤ x.2 → m ≤ x.2) ∧ m ≤ 7
theorem lst_nil (o : Nat) : Lst o 7 [] := ⟨.inl rfl, fun _ h => (by cases h), Nat.le_refl _⟩
theorem Lst.skip {o m : Nat} {l : List (Nat × Nat)} {y : Nat × Nat} (h : Lst o m l) (hy : ¬ o ≤ y.2) : Lst o m (l ++ [y]) := by
  refine ⟨?_, fun x hx ho => ?_, h.2.2⟩
  · rcases h.1 with e | ⟨x, hx, h1⟩
    · exact .inl e
    · exact .inr ⟨x, List.mem_append_left _ hx, h1⟩
  · rcases List.mem_append.1 hx with hx | hx
    · exact h.2.1 x hx ho
    · rw [List.mem_singleton] at hx; subst hx; exact absurd ho hy
theorem Lst.add {o m : Nat} {l : List (Nat × Nat)} {y : Nat × Nat} (h : Lst o m l) (hy : o ≤ y.2) : Lst o (min m y.2) (l ++ [y]) := by
  refine ⟨?_, fun x hx ho => ?_, by have := h.2.2; omega⟩
  · by_cases e : m ≤ y.2
    · rw [Nat.min_eq_left e]
      rcases h.1 with e | ⟨x, hx, h1⟩
      · exact .inl e
      · exact .inr ⟨x, List.mem_append_left _ hx, h1⟩
    · rw [Nat.min_eq_right (by omega)]
      exact .inr ⟨y, by simp, hy, rfl⟩
  · rcases List.mem_append.1 hx with hx | hx
    · have := h.2.1 x hx ho; omega
    · rw [List.mem_singleton] at hx; subst hx; omega
theorem Lst.best {U : Nat → Bool} {n o m b k : Nat} (hb : ∀ f, U f = true → f < n) (h : Lst o m (blocks U n)) (hB : Best U o b k) : m = k := by
  obtain ⟨⟨q, hq, hx⟩, ho, hl⟩ := hB
  have hm := h.2.1 (b, k) ((blocks_mem hb b k).2 ⟨q, hq, hx⟩) ho
  have hk := hx.1
  rcases h.1 with e | ⟨⟨b', k'⟩, hx', h1, h2⟩
  · omega
  · obtain ⟨r, _, hy⟩ := (blocks_mem hb b' k').1 hx'
    have := hl k' r hy h1
    simp only at h2 hm; omega
end Go.Proofs.YthknommfnajeiaaDoor

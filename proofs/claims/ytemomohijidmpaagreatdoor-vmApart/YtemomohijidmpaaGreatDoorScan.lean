/- The free frames as blocks, by their bases, plainly: the list that the document tells, and that it is that of all blocks as great as can be. -/
import Derived.Test.YtemomohijidmpaaGreatDoorBlk
namespace Go.Proofs.YtemomohijidmpaaGreatDoor

/-- Whether the block of order k at f is one, and all its frames are free. -/
def okb (U : Nat → Bool) (f k : Nat) : Bool := f % 2 ^ k == 0 && (List.range (2 ^ k)).all fun i => U (f + i)
/-- The greatest order, from k on down. -/
def ordr (U : Nat → Bool) (f : Nat) : Nat → Nat
  | 0 => 0
  | k + 1 => if okb U f (k + 1) then k + 1 else ordr U f k
/-- The list. -/
def scan (U : Nat → Bool) (n : Nat) : Nat → Nat → List (Nat × Nat)
  | 0, _ => []
  | g + 1, f => if f < n then (if U f then (f, ordr U f 6) :: scan U n g (f + 2 ^ ordr U f 6) else scan U n g (f + 1)) else []
/-- How many of m frames from f on are free. -/
def cnt (U : Nat → Bool) : Nat → Nat → Nat
  | _, 0 => 0
  | f, m + 1 => (if U f then 1 else 0) + cnt U (f + 1) m
/-- How many frames blocks have. -/
def size (l : List (Nat × Nat)) : Nat := (l.map fun x => 2 ^ x.2).sum

theorem cnt_add (U : Nat → Bool) : ∀ (a b f : Nat), cnt U f (a + b) = cnt U f a + cnt U (f + a) b
  | 0, b, f => by simp [cnt]
  | a + 1, b, f => by
    rw [show a + 1 + b = (a + b) + 1 by omega, cnt, cnt, cnt_add U a b (f + 1), show f + 1 + a = f + (a + 1) by omega]; omega

theorem cnt_all (U : Nat → Bool) : ∀ (m f : Nat), (∀ i, i < m → U (f + i) = true) → cnt U f m = m
  | 0, _, _ => rfl
  | m + 1, f, h => by
    rw [cnt, cnt_all U m (f + 1) (fun i hi => by rw [show f + 1 + i = f + (i + 1) by omega]; exact h (i + 1) (by omega)), show U f = true from h 0 (by omega)]; simp; omega

theorem okb_iff {U : Nat → Bool} {f k : Nat} : okb U f k = true ↔ ∃ q, f = q * 2 ^ k ∧ blk U k q := by
  have hp := Nat.two_pow_pos k
  simp only [okb, Bool.and_eq_true, beq_iff_eq, List.all_eq_true, List.mem_range]
  constructor
  · rintro ⟨h, ha⟩
    have hf : f = f / 2 ^ k * 2 ^ k := by have := Nat.div_add_mod f (2 ^ k); rw [h, Nat.add_zero, Nat.mul_comm] at this; exact this.symm
    refine ⟨f / 2 ^ k, hf, fun g hg => ?_⟩
    rw [in_iff, ← hf] at hg
    have := ha (g - f) (by omega)
    rwa [Nat.add_sub_cancel' hg.1] at this
  · rintro ⟨q, rfl, hb⟩
    exact ⟨Nat.mul_mod_left _ _, fun i hi => hb _ ((in_iff _ _ _).2 ⟨by omega, by omega⟩)⟩

theorem ordr_le (U : Nat → Bool) (f : Nat) : ∀ k, ordr U f k ≤ k
  | 0 => Nat.le_refl _
  | k + 1 => by rw [ordr]; split; exact Nat.le_refl _; exact Nat.le_succ_of_le (ordr_le U f k)

theorem ordr_ok (U : Nat → Bool) (f : Nat) (h : U f = true) : ∀ k, okb U f (ordr U f k) = true
  | 0 => by simp [ordr, okb, h, Nat.mod_one]
  | k + 1 => by rw [ordr]; split; assumption; exact ordr_ok U f h k

theorem ordr_top (U : Nat → Bool) (f : Nat) : ∀ k j, ordr U f k < j → j ≤ k → okb U f j = false
  | 0, j, h, hj => by rw [ordr] at h; omega
  | k + 1, j, h, hj => by
    rw [ordr] at h
    split at h
    · omega
    · rename_i hn
      by_cases e : j = k + 1
      · subst e; simpa using hn
      · exact ordr_top U f k j h (by omega)

/-- Every free block lies in one that is as great as can be. -/
theorem in_mxb (U : Nat → Bool) : ∀ (d k q : Nat), 6 - k = d → k ≤ 6 → blk U k q → ∃ j m, k ≤ j ∧ m = q / 2 ^ (j - k) ∧ mxb U j m
  | 0, k, q, hd, hk, hb => ⟨k, q, Nat.le_refl _, by simp, hk, hb, fun h => by omega⟩
  | d + 1, k, q, hd, hk, hb => by
    by_cases h : blk U (k + 1) (q / 2)
    · obtain ⟨j, m, hj, hm, hx⟩ := in_mxb U d (k + 1) (q / 2) (by omega) (by omega) h
      refine ⟨j, m, by omega, ?_, hx⟩
      rw [hm, ← Nat.pow_one 2, Nat.div_div_eq_div_mul, ← Nat.pow_add, Nat.pow_one]
      congr 2; omega
    · exact ⟨k, q, Nat.le_refl _, by simp, hk, hb, fun _ => h⟩

/-- No block as great as can be has f in its midst. -/
def clean (U : Nat → Bool) (f : Nat) : Prop := ∀ k q, mxb U k q → f ≤ q * 2 ^ k ∨ q * 2 ^ k + 2 ^ k ≤ f

theorem clean_zero (U : Nat → Bool) : clean U 0 := fun _ _ _ => .inl (Nat.zero_le _)

/-- The block that the scan takes at f is as great as can be. -/
theorem ordr_mxb {U : Nat → Bool} {f : Nat} (hc : clean U f) (h : U f = true) : ∃ q, f = q * 2 ^ ordr U f 6 ∧ mxb U (ordr U f 6) q := by
  obtain ⟨q, hq, hb⟩ := okb_iff.1 (ordr_ok U f h 6)
  have hle := ordr_le U f 6
  refine ⟨q, hq, ?_⟩
  obtain ⟨j, m, hj, hm, hx⟩ := in_mxb U _ _ q rfl hle hb
  have hfq : f / 2 ^ ordr U f 6 = q := (in_iff _ _ _).2 ⟨by omega, by have := Nat.two_pow_pos (ordr U f 6); omega⟩
  have hfm : f / 2 ^ j = m := by rw [div_up hfq hj, hm]
  have hin := (in_iff _ _ _).1 hfm
  have hbase : f = m * 2 ^ j := by rcases hc j m hx with a | a <;> omega
  by_cases e : ordr U f 6 = j
  · rw [e] at hm ⊢; simp at hm; rw [← hm]; exact hx
  · have := ordr_top U f 6 j (by omega) hx.1
    rw [okb_iff.2 ⟨m, hbase, hx.2.1⟩] at this; cases this

theorem scan_ok {U : Nat → Bool} {n : Nat} (hb : ∀ f, U f = true → f < n) : ∀ (g f : Nat), n ≤ f + g → clean U f →
    (∀ b k, (b, k) ∈ scan U n g f ↔ f ≤ b ∧ ∃ q, b = q * 2 ^ k ∧ mxb U k q) ∧ (scan U n g f).Pairwise (fun x y => x.1 < y.1) ∧ size (scan U n g f) = cnt U f (n - f)
  | 0, f, hg, _ => by
    refine ⟨fun b k => ⟨fun h => by simp [scan] at h, ?_⟩, by simp [scan], by simp [scan, size, show n - f = 0 by omega, cnt]⟩
    rintro ⟨hf, q, rfl, hx⟩
    have := hb _ (hx.2.1 _ (first_in k q)); omega
  | g + 1, f, hg, hc => by
    rw [scan]
    by_cases hf : f < n
    · rw [if_pos hf]
      cases hU : U f with
      | true =>
        rw [if_pos rfl]
        obtain ⟨q, hq, hx⟩ := ordr_mxb hc hU
        generalize hk : ordr U f 6 = k at hq hx ⊢
        have hp := Nat.two_pow_pos k
        have hc' : clean U (f + 2 ^ k) := by
          intro j m hy
          rcases hc j m hy with a | a
          · by_cases e : f + 2 ^ k ≤ m * 2 ^ j
            · exact .inl e
            · have h1 : m * 2 ^ j / 2 ^ k = q := (in_iff _ _ _).2 ⟨by omega, by omega⟩
              obtain ⟨e1, e2⟩ := mx_one hy hx (first_in j m) h1
              subst e1 e2
              exact .inr (by omega)
          · exact .inr (by omega)
        have hfit : f + 2 ^ k ≤ n := by
          have := hb _ (hx.2.1 (f + 2 ^ k - 1) ((in_iff _ _ _).2 ⟨by omega, by omega⟩)); omega
        obtain ⟨i1, i2, i3⟩ := scan_ok hb g (f + 2 ^ k) (by omega) hc'
        refine ⟨fun b j => ?_, List.pairwise_cons.2 ⟨fun y hy => ?_, i2⟩, ?_⟩
        · rw [List.mem_cons, i1 b j]
          constructor
          · rintro (h | ⟨h, r, hr, hy⟩)
            · cases h; exact ⟨Nat.le_refl _, q, hq, hx⟩
            · exact ⟨by omega, r, hr, hy⟩
          · rintro ⟨h, r, hr, hy⟩
            by_cases e : b = f
            · have h1 : f / 2 ^ k = q := (in_iff _ _ _).2 ⟨by omega, by omega⟩
              have h2 : f / 2 ^ j = r := (in_iff _ _ _).2 ⟨by omega, by have := Nat.two_pow_pos j; omega⟩
              obtain ⟨e1, e2⟩ := mx_one hx hy h1 h2
              subst e1; exact .inl (by rw [e])
            · refine .inr ⟨?_, r, hr, hy⟩
              rcases hc' j r hy with a | a
              · omega
              · exfalso
                have h1 : b / 2 ^ k = q := (in_iff _ _ _).2 ⟨by omega, by have := Nat.two_pow_pos j; omega⟩
                obtain ⟨e1, e2⟩ := mx_one hy hx (by rw [hr]; exact first_in j r) h1
                subst e1 e2; omega
        · have := ((i1 y.1 y.2).1 hy).1
          show f < y.1
          omega
        · have e : n - f = 2 ^ k + (n - (f + 2 ^ k)) := by omega
          rw [e, cnt_add, cnt_all U (2 ^ k) f (fun i hi => hx.2.1 _ ((in_iff _ _ _).2 ⟨by omega, by omega⟩)), ← i3]
          simp [size]
      | false =>
        rw [if_neg (by simp)]
        have hc' : clean U (f + 1) := by
          intro j m hy
          have hp := Nat.two_pow_pos j
          rcases hc j m hy with a | a
          · by_cases e : m * 2 ^ j = f
            · have := hy.2.1 f (by rw [← e]; exact first_in j m)
              rw [hU] at this; cases this
            · exact .inl (by omega)
          · exact .inr (by omega)
        obtain ⟨i1, i2, i3⟩ := scan_ok hb g (f + 1) (by omega) hc'
        refine ⟨fun b j => ?_, i2, ?_⟩
        · rw [i1 b j]
          constructor
          · rintro ⟨h, r⟩; exact ⟨by omega, r⟩
          · rintro ⟨h, r, hr, hy⟩
            refine ⟨?_, r, hr, hy⟩
            by_cases e : b = f
            · have := hy.2.1 f (by rw [← e, hr]; exact first_in j r)
              rw [hU] at this; cases this
            · omega
        · rw [i3, show n - f = 1 + (n - (f + 1)) by omega, cnt_add]
          simp [cnt, hU]
    · rw [if_neg hf]
      refine ⟨fun b k => ⟨fun h => by simp at h, ?_⟩, List.Pairwise.nil, by simp [size, show n - f = 0 by omega, cnt]⟩
      rintro ⟨hf', q, rfl, hx⟩
      have := hb _ (hx.2.1 _ (first_in k q)); omega

/-- The list that the document tells of free frames below n. -/
def blocks (U : Nat → Bool) (n : Nat) : List (Nat × Nat) := scan U n n 0

theorem blocks_mem {U : Nat → Bool} {n : Nat} (hb : ∀ f, U f = true → f < n) (b k : Nat) : (b, k) ∈ blocks U n ↔ ∃ q, b = q * 2 ^ k ∧ mxb U k q := by
  rw [blocks, (scan_ok hb n 0 (by omega) (clean_zero U)).1 b k]; simp

theorem blocks_sorted {U : Nat → Bool} {n : Nat} (hb : ∀ f, U f = true → f < n) : (blocks U n).Pairwise (fun x y => x.1 < y.1) :=
  (scan_ok hb n 0 (by omega) (clean_zero U)).2.1

theorem blocks_size {U : Nat → Bool} {n : Nat} (hb : ∀ f, U f = true → f < n) : size (blocks U n) = cnt U 0 n := by
  simpa [blocks] using (scan_ok hb n 0 (by omega) (clean_zero U)).2.2

/-- Sorted lists of the same members are one. -/
theorem sorted_ext : ∀ (l m : List (Nat × Nat)), l.Pairwise (fun x y => x.1 < y.1) → m.Pairwise (fun x y => x.1 < y.1) → (∀ x, x ∈ l ↔ x ∈ m) → l = m
  | [], [], _, _, _ => rfl
  | [], b :: m, _, _, h => absurd ((h b).2 List.mem_cons_self) (by simp)
  | a :: l, [], _, _, h => absurd ((h a).1 List.mem_cons_self) (by simp)
  | a :: l, b :: m, hl, hm, h => by
    rw [List.pairwise_cons] at hl hm
    have e : a = b := by
      rcases List.mem_cons.1 ((h a).1 List.mem_cons_self) with e | e
      · exact e
      · rcases List.mem_cons.1 ((h b).2 List.mem_cons_self) with e' | e'
        · exact e'.symm
        · have := hm.1 a e; have := hl.1 b e'; omega
    subst e
    congr 1
    refine sorted_ext l m hl.2 hm.2 fun x => ?_
    constructor
    · intro hx
      rcases List.mem_cons.1 ((h x).1 (List.mem_cons_of_mem _ hx)) with e | e
      · have := hl.1 x hx; rw [e] at this; omega
      · exact e
    · intro hx
      rcases List.mem_cons.1 ((h x).2 (List.mem_cons_of_mem _ hx)) with e | e
      · have := hm.1 x hx; rw [e] at this; omega
      · exact e

end Go.Proofs.YtemomohijidmpaaGreatDoor

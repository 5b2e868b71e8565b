/- Rows of bases against the list of blocks that the document tells: the same blocks, and as many frames; and what is taken beside what is free. -/
import Derived.Test.YtemomohijidmpaaGreatDoorScan
namespace Go.Proofs.YtemomohijidmpaaGreatDoor

/-- All blocks of the first rows, row by row. -/
def cat (F : Nat → List Int) : Nat → List (Int × Int)
  | 0 => []
  | k + 1 => cat F k ++ (F k).map fun b => (b, (k : Int))
/-- How many frames they have. -/
def lf (F : Nat → List Int) : Nat → Nat
  | 0 => 0
  | k + 1 => lf F k + (F k).length * 2 ^ k
def toInt (x : Nat × Nat) : Int × Int := ((x.1 : Int), (x.2 : Int))

theorem cnt_le (U : Nat → Bool) : ∀ (m f : Nat), cnt U f m ≤ m
  | 0, _ => Nat.le_refl _
  | m + 1, f => by have := cnt_le U m (f + 1); rw [cnt]; split <;> omega

theorem lf_mono (F : Nat → List Int) : ∀ (k m : Nat), k ≤ m → lf F k ≤ lf F m
  | k, 0, h => by rw [show k = 0 by omega]; exact Nat.le_refl _
  | k, m + 1, h => by
    by_cases e : k = m + 1
    · rw [e]; exact Nat.le_refl _
    · have := lf_mono F k m (by omega); rw [lf]; omega

theorem lf_row (F : Nat → List Int) {k m : Nat} (h : k < m) : lf F k + (F k).length * 2 ^ k ≤ lf F m := lf_mono F (k + 1) m h
theorem len_le (F : Nat → List Int) {k m : Nat} (h : k < m) : (F k).length ≤ lf F m := by
  have := lf_row F h
  have h2 := Nat.two_pow_pos k
  have := Nat.le_mul_of_pos_right (F k).length h2
  omega

theorem mem_cat (F : Nat → List Int) (x : Int × Int) : ∀ k, x ∈ cat F k ↔ ∃ j, j < k ∧ x.2 = (j : Int) ∧ x.1 ∈ F j
  | 0 => by simp [cat]
  | k + 1 => by
    rw [cat, List.mem_append, mem_cat F x k, List.mem_map]
    constructor
    · rintro (⟨j, h1, h2, h3⟩ | ⟨b, h1, rfl⟩)
      · exact ⟨j, by omega, h2, h3⟩
      · exact ⟨k, by omega, rfl, h1⟩
    · rintro ⟨j, h1, h2, h3⟩
      by_cases e : j = k
      · subst e; exact .inr ⟨x.1, h3, by rw [← h2]⟩
      · exact .inl ⟨j, by omega, h2, h3⟩

theorem cat_nodup {F : Nat → List Int} {U : Nat → Bool} (c : Can F U) : ∀ k, k ≤ 7 → (cat F k).Nodup
  | 0, _ => by simp [cat]
  | k + 1, h => by
    rw [cat, List.nodup_append]
    refine ⟨cat_nodup c k (by omega), ?_, fun a ha b hb e => ?_⟩
    · have := (c k (by omega)).1
      rw [List.Nodup, List.pairwise_map]
      exact this.imp (fun h e => by cases e; omega)
    · subst e
      obtain ⟨j, h1, h2, _⟩ := (mem_cat F a k).1 ha
      obtain ⟨x, _, rfl⟩ := List.mem_map.1 hb
      have : (k : Int) = j := h2
      omega

theorem mem_cat_can {F : Nat → List Int} {U : Nat → Bool} (c : Can F U) (x : Int × Int) : x ∈ cat F 7 ↔ ∃ j q : Nat, x = toInt (q * 2 ^ j, j) ∧ mxb U j q := by
  rw [mem_cat]
  constructor
  · rintro ⟨j, h1, h2, h3⟩
    obtain ⟨q, hq, hx⟩ := ((c j h1).2 _).1 h3
    exact ⟨j, q, Prod.ext hq h2, hx⟩
  · rintro ⟨j, q, rfl, hx⟩
    exact ⟨j, by have := hx.1; omega, rfl, ((c j (by have := hx.1; omega)).2 _).2 ⟨q, rfl, hx⟩⟩

theorem mem_blocks_int {U : Nat → Bool} {n : Nat} (hb : ∀ f, U f = true → f < n) (x : Int × Int) : x ∈ (blocks U n).map toInt ↔ ∃ j q : Nat, x = toInt (q * 2 ^ j, j) ∧ mxb U j q := by
  rw [List.mem_map]
  constructor
  · rintro ⟨⟨b, k⟩, h, rfl⟩
    obtain ⟨q, rfl, hx⟩ := (blocks_mem hb b k).1 h
    exact ⟨k, q, rfl, hx⟩
  · rintro ⟨j, q, rfl, hx⟩
    exact ⟨_, (blocks_mem hb _ _).2 ⟨q, rfl, hx⟩, rfl⟩

/-- Sorted lists of the same members are one. -/
theorem sorted_one : ∀ (l m : List (Int × Int)), l.Pairwise (fun x y => x.1 < y.1) → m.Pairwise (fun x y => x.1 < y.1) → (∀ x, x ∈ l ↔ x ∈ m) → l = m
  | [], [], _, _, _ => rfl
  | [], b :: m, _, _, h => absurd ((h b).2 List.mem_cons_self) (by simp)
  | a :: l, [], _, _, h => absurd ((h a).1 List.mem_cons_self) (by simp)
  | a :: l, b :: m, hl, hm, h => by
    rw [List.pairwise_cons] at hl hm
    have e : a = b := by
      rcases List.mem_cons.1 ((h a).1 List.mem_cons_self) with e | e
      · exact e
      · rcases List.mem_cons.1 ((h b).2 List.mem_cons_self) with e' | e'
        · exact e'.symm
        · have := hm.1 a e; have := hl.1 b e'; omega
    subst e
    congr 1
    refine sorted_one l m hl.2 hm.2 fun x => ?_
    constructor
    · intro hx
      rcases List.mem_cons.1 ((h x).1 (List.mem_cons_of_mem _ hx)) with e | e
      · have := hl.1 x hx; rw [e] at this; omega
      · exact e
    · intro hx
      rcases List.mem_cons.1 ((h x).2 (List.mem_cons_of_mem _ hx)) with e | e
      · have := hm.1 x hx; rw [e] at this; omega
      · exact e

/-- The rows' blocks, sorted by their bases, are the document's list. -/
theorem free_eq {F : Nat → List Int} {U : Nat → Bool} {n : Nat} (c : Can F U) (hb : ∀ f, U f = true → f < n) (d : List (Int × Int)) (hp : d.Perm (cat F 7)) (hs : d.Pairwise (fun x y => x.1 ≤ y.1)) : d = (blocks U n).map toInt := by
  have hm : ∀ x, x ∈ d ↔ ∃ j q : Nat, x = toInt (q * 2 ^ j, j) ∧ mxb U j q := fun x => (hp.mem_iff).trans (mem_cat_can c x)
  have hn : d.Nodup := hp.nodup_iff.2 (cat_nodup c 7 (Nat.le_refl _))
  refine sorted_one _ _ ?_ ?_ (fun x => (hm x).trans (mem_blocks_int hb x).symm)
  · refine (hs.and hn).imp_of_mem ?_
    rintro x y hx hy ⟨h1, h2⟩
    obtain ⟨j, q, rfl, hxm⟩ := (hm x).1 hx
    obtain ⟨k, m, rfl, hym⟩ := (hm y).1 hy
    by_cases e : (toInt (q * 2 ^ j, j)).1 = (toInt (m * 2 ^ k, k)).1
    · exfalso
      have e' : q * 2 ^ j = m * 2 ^ k := Int.ofNat.inj e
      obtain ⟨e1, e2⟩ := mx_one hxm hym (first_in j q) (by rw [e']; exact first_in k m)
      subst e1 e2
      exact h2 rfl
    · omega
  · rw [List.pairwise_map]
    exact (blocks_sorted hb).imp (fun h => by simp only [toInt]; omega)

theorem sum_cat (F : Nat → List Int) : ∀ k, ((cat F k).map fun x => 2 ^ x.2.toNat).sum = lf F k
  | 0 => rfl
  | k + 1 => by
    rw [cat, List.map_append, List.sum_append, sum_cat F k, lf, List.map_map]
    congr 1
    generalize F k = l
    induction l with
    | nil => simp
    | cons a l ih => simp only [List.map_cons, List.sum_cons, ih, Function.comp, List.length_cons, Int.toNat_natCast]; rw [Nat.add_mul]; omega

theorem lf_eq {F : Nat → List Int} {U : Nat → Bool} {n : Nat} (c : Can F U) (hb : ∀ f, U f = true → f < n) : lf F 7 = cnt U 0 n := by
  have hp := List.mergeSort_perm (cat F 7) (fun x y => decide (x.1 ≤ y.1))
  have hs := List.pairwise_mergeSort (le := fun x y : Int × Int => decide (x.1 ≤ y.1)) (fun a b c h1 h2 => by simp at *; omega) (fun a b => by simp; omega) (cat F 7)
  have e := free_eq c hb _ hp (hs.imp (fun h => by simpa using h))
  rw [← sum_cat, ← (hp.map fun x => 2 ^ x.2.toNat).sum_nat, e, ← blocks_size hb, size, List.map_map]
  rfl

theorem lf_le {F : Nat → List Int} {U : Nat → Bool} {n : Nat} (c : Can F U) (hb : ∀ f, U f = true → f < n) : lf F 7 ≤ n := by
  rw [lf_eq c hb]; exact cnt_le U n 0

/-- A frame of a block. -/
def inb (z : Int) (k f : Nat) : Prop := z ≤ f ∧ (f : Int) < z + (2 ^ k : Nat)

theorem inb_iff {q k f : Nat} : inb ((q * 2 ^ k : Nat) : Int) k f ↔ f / 2 ^ k = q := by
  rw [in_iff, inb]; omega

/-- What is taken, beside what is free. -/
structure Inv (n : Nat) (U : Nat → Bool) (T : Int → Option Nat) : Prop where
  bound : ∀ f, U f = true → f < n
  tk : ∀ z k, T z = some k → k ≤ 6 ∧ ∃ q : Nat, z = ((q * 2 ^ k : Nat) : Int) ∧ ∀ f, f / 2 ^ k = q → f < n ∧ U f = false
  dj : ∀ z k z' k' f, T z = some k → T z' = some k' → inb z k f → inb z' k' f → z = z'
  cover : ∀ f, f < n → U f = false → ∃ z k, T z = some k ∧ inb z k f

theorem inv_new (n : Nat) : Inv n (fun f => decide (f < n)) (fun _ => none) :=
  ⟨fun f h => by simpa using h, fun z k h => (by cases h), fun z k z' k' f h => (by cases h), fun f h1 h2 => (by simp at h2; omega)⟩

/-- A part of a free block is taken. -/
theorem Inv.take {n : Nat} {U : Nat → Bool} {T : Int → Option Nat} (h : Inv n U T) {k q : Nat} (hk : k ≤ 6) (hb : blk U k q) :
    Inv n (cut U k q) (fun z => if z = ((q * 2 ^ k : Nat) : Int) then some k else T z) := by
  have hold : ∀ z j f, T z = some j → inb z j f → U f = false := by
    intro z j f hz hf
    obtain ⟨_, r, rfl, hr⟩ := h.tk z j hz
    exact (hr f (inb_iff.1 hf)).2
  have hnew : ∀ f, inb ((q * 2 ^ k : Nat) : Int) k f → U f = true := fun f hf => hb f (inb_iff.1 hf)
  refine ⟨fun f hf => h.bound f (cut_true.1 hf).1, fun z j hz => ?_, fun z j z' j' f hz hz' hf hf' => ?_, fun f hf hu => ?_⟩
  · by_cases e : z = ((q * 2 ^ k : Nat) : Int)
    · rw [if_pos e] at hz; cases hz
      exact ⟨hk, q, e, fun f hf => ⟨h.bound f (hb f hf), by simp [cut, hf]⟩⟩
    · rw [if_neg e] at hz
      obtain ⟨h1, r, hr, h2⟩ := h.tk z j hz
      exact ⟨h1, r, hr, fun f hf => ⟨(h2 f hf).1, by simp [cut, (h2 f hf).2]⟩⟩
  · by_cases e : z = ((q * 2 ^ k : Nat) : Int) <;> by_cases e' : z' = ((q * 2 ^ k : Nat) : Int)
    · rw [e, e']
    · rw [if_pos e] at hz; rw [if_neg e'] at hz'; cases hz; subst e
      have a := hnew f hf; rw [hold z' j' f hz' hf'] at a; cases a
    · rw [if_neg e] at hz; rw [if_pos e'] at hz'; cases hz'; subst e'
      have a := hnew f hf'; rw [hold z j f hz hf] at a; cases a
    · rw [if_neg e] at hz; rw [if_neg e'] at hz'
      exact h.dj z j z' j' f hz hz' hf hf'
  · by_cases hb' : f / 2 ^ k = q
    · exact ⟨_, k, by rw [if_pos rfl], inb_iff.2 hb'⟩
    · have hU : U f = false := by
        cases e : U f with
        | false => rfl
        | true => have := cut_true.2 ⟨e, hb'⟩; rw [hu] at this; cases this
      obtain ⟨z, j, hz, hin⟩ := h.cover f hf hU
      refine ⟨z, j, ?_, hin⟩
      rw [if_neg]; exact hz
      rintro rfl
      have a := hb _ (first_in k q)
      obtain ⟨_, r, hr, h2⟩ := h.tk _ j hz
      have e : q * 2 ^ k = r * 2 ^ j := Int.ofNat.inj hr
      rw [(h2 (q * 2 ^ k) (by rw [e]; exact first_in j r)).2] at a; cases a

/-- What was taken is given back. -/
theorem Inv.give {n : Nat} {U : Nat → Bool} {T : Int → Option Nat} (h : Inv n U T) {k q : Nat} (ht : T ((q * 2 ^ k : Nat) : Int) = some k) :
    Inv n (join U k q) (fun z => if z = ((q * 2 ^ k : Nat) : Int) then none else T z) := by
  obtain ⟨hk, r, hr, h2⟩ := h.tk _ k ht
  have e := at_order hr
  subst e
  refine ⟨fun f hf => ?_, fun z j hz => ?_, fun z j z' j' f hz hz' hf hf' => ?_, fun f hf hu => ?_⟩
  · rcases join_true.1 hf with a | a
    · exact h.bound f a
    · exact (h2 f a).1
  · by_cases e : z = ((q * 2 ^ k : Nat) : Int)
    · rw [if_pos e] at hz; cases hz
    · rw [if_neg e] at hz
      obtain ⟨h1, s, rfl, h3⟩ := h.tk z j hz
      refine ⟨h1, s, rfl, fun f hf => ⟨(h3 f hf).1, ?_⟩⟩
      cases c : join U k q f with
      | false => rfl
      | true =>
        exfalso
        rcases join_true.1 c with a | a
        · rw [(h3 f hf).2] at a; cases a
        · exact e (h.dj _ _ _ _ f hz ht (inb_iff.2 hf) (inb_iff.2 a))
  · have : ∀ y i, (if y = ((q * 2 ^ k : Nat) : Int) then none else T y) = some i → T y = some i := by
      intro y i hy; split at hy; cases hy; exact hy
    exact h.dj z j z' j' f (this _ _ hz) (this _ _ hz') hf hf'
  · have hU : U f = false := by
      cases c : U f with
      | false => rfl
      | true => rw [join_true.2 (.inl c)] at hu; cases hu
    obtain ⟨z, j, hz, hin⟩ := h.cover f hf hU
    refine ⟨z, j, ?_, hin⟩
    rw [if_neg]; exact hz
    rintro rfl
    rw [ht] at hz; cases hz
    rw [join_true.2 (.inr (inb_iff.1 hin))] at hu; cases hu

/-- The block that Alloc takes of: of the least order that serves, of that the least base. -/
def Best (U : Nat → Bool) (o b k : Nat) : Prop := (∃ q, b = q * 2 ^ k ∧ mxb U k q) ∧ o ≤ k ∧ ∀ j r, mxb U j r → o ≤ j → k < j ∨ (k = j ∧ b ≤ r * 2 ^ j)

theorem Best.one {U : Nat → Bool} {o b k b' k' : Nat} (h : Best U o b k) (h' : Best U o b' k') : b = b' ∧ k = k' := by
  obtain ⟨⟨q, hq, hx⟩, ho, hl⟩ := h
  obtain ⟨⟨r, hr, hy⟩, ho', hl'⟩ := h'
  have a := hl k' r hy ho'
  have c := hl' k q hx ho
  have e : k = k' := by omega
  subst e
  omega

theorem best_row {F : Nat → List Int} {U : Nat → Bool} (c : Can F U) {o k : Nat} {z : Int} {l : List Int} (hok : o ≤ k) (hk : k ≤ 6) (h0 : ∀ j, o ≤ j → j < k → F j = []) (hl : F k = z :: l) : ∃ q, z = ((q * 2 ^ k : Nat) : Int) ∧ mxb U k q ∧ Best U o (q * 2 ^ k) k := by
  have hc := c k (by omega)
  obtain ⟨q, hq, hx⟩ := (hc.2 z).1 (by rw [hl]; exact List.mem_cons_self)
  refine ⟨q, hq, hx, ⟨q, rfl, hx⟩, hok, fun j r hy hj => ?_⟩
  have hm := ((c j (by have := hy.1; omega)).2 _).2 ⟨r, rfl, hy⟩
  by_cases h1 : j < k
  · rw [h0 j hj h1] at hm; cases hm
  · by_cases h2 : j = k
    · subst h2
      refine .inr ⟨rfl, ?_⟩
      have hs := hc.1
      rw [hl] at hs hm
      rcases List.mem_cons.1 hm with e | e
      · have := hq.symm.trans e.symm; have := at_order this; subst this; exact Nat.le_refl _
      · have := (List.pairwise_cons.1 hs).1 _ e; omega
    · exact .inl (by omega)

theorem none_row {F : Nat → List Int} {U : Nat → Bool} (c : Can F U) {o : Nat} (h0 : ∀ j, o ≤ j → j < 7 → F j = []) (j r : Nat) (hy : mxb U j r) : j < o := by
  by_cases h : o ≤ j
  · have hm := ((c j (by have := hy.1; omega)).2 _).2 ⟨r, rfl, hy⟩
    rw [h0 j h (by have := hy.1; omega)] at hm; cases hm
  · omega

/-- The first part of a free block. -/
theorem blk_part {U : Nat → Bool} {k q o : Nat} (h : blk U k q) (ho : o ≤ k) : blk U o (q * 2 ^ (k - o)) ∧ q * 2 ^ (k - o) * 2 ^ o = q * 2 ^ k := by
  have e : q * 2 ^ (k - o) * 2 ^ o = q * 2 ^ k := by rw [Nat.mul_assoc, ← Nat.pow_add, Nat.sub_add_cancel ho]
  refine ⟨fun f hf => h f ?_, e⟩
  rw [div_up hf ho, first_in]

end Go.Proofs.YtemomohijidmpaaGreatDoor

/- Rows of bases against the list of blocks that the document tells: the same blocks, and as many frames; and what is taken beside what is free. -/
import Derived.Test.YtcfhanoekniaaaaGreatDoorPool
import Derived.Test.YtcfhanoekniaaaaGreatDoorLeast
import Derived.Test.YtcfhanoekniaaaaGreatDoorShelf1
import Derived.Deep.RegionWith
namespace Go.Proofs.YtcfhanoekniaaaaGreatDoor

/-- All blocks of the first rows, row by row. -/
def cat (F : Nat → List Int) : Nat → List (Int × Int)
  | 0 => []
  | k + 1 => cat F k ++ (F k).map fun b => (b, (k : Int))
/-- How many frames they have. -/
def lf (F : Nat → List Int) : Nat → Nat
  | 0 => 0
  | k + 1 => lf F k + (F k).length * 2 ^ k
def toInt (x : Nat × Nat) : Int × Int := ((x.1 : Int), (x.2 : Int))

theorem cnt_le (U : Nat → Bool) : ∀ (m f : Nat), cnt U f m ≤ m
  | 0, _ => Nat.le_refl _
  | m + 1, f => by have := cnt_le U m (f + 1); rw [cnt]; split <;> omega

theorem lf_mono (F : Nat → List Int) : ∀ (k m : Nat), k ≤ m → lf F k ≤ lf F m
  | k, 0, h => by rw [show k = 0 by omega]; exact Nat.le_refl _
  | k, m + 1, h => by
    by_cases e : k = m + 1
    · rw [e]; exact Nat.le_refl _
    · have := lf_mono F k m (by omega); rw [lf]; omega

theorem lf_row (F : Nat → List Int) {k m : Nat} (h : k < m) : lf F k + (F k).length * 2 ^ k ≤ lf F m := lf_mono F (k + 1) m h
theorem len_le (F : Nat → List Int) {k m : Nat} (h : k < m) : (F k).length ≤ lf F m := by
  have := lf_row F h
  have h2 := Nat.two_pow_pos k
  have := Nat.le_mul_of_pos_right (F k).length h2
  omega

theorem mem_cat (F : Nat → List Int) (x : Int × Int) : ∀ k, x ∈ cat F k ↔ ∃ j, j < k ∧ x.2 = (j : Int) ∧ x.1 ∈ F j
  | 0 => by simp [cat]
  | k + 1 => by
    rw [cat, List.mem_append, mem_cat F x k, List.mem_map]
    constructor
    · rintro (⟨j, h1, h2, h3⟩ | ⟨b, h1, rfl⟩)
      · exact ⟨j, by omega, h2, h3⟩
      · exact ⟨k, by omega, rfl, h1⟩
    · rintro ⟨j, h1, h2, h3⟩
      by_cases e : j = k
      · subst e; exact .inr ⟨x.1, h3, by rw [← h2]⟩
      · exact .inl ⟨j, by omega, h2, h3⟩

theorem cat_nodup {F : Nat → List Int} {U : Nat → Bool} (c : Can F U) : ∀ k, k ≤ 7 → (cat F k).Nodup
  | 0, _ => by simp [cat]
  | k + 1, h => by
    rw [cat, List.nodup_append]
    refine ⟨cat_nodup c k (by omega), ?_, fun a ha b hb e => ?_⟩
    · have := (c k (by omega)).1
      rw [List.Nodup, List.pairwise_map]
      exact this.imp (fun h e => by cases e; omega)
    · subst e
      obtain ⟨j, h1, h2, _⟩ := (mem_cat F a k).1 ha
      obtain ⟨x, _, rfl⟩ := List.mem_map.1 hb
      have : (k : Int) = j := h2
      omega

theorem mem_cat_can {F : Nat → List Int} {U : Nat → Bool} (c : Can F U) (x : Int × Int) : x ∈ cat F 7 ↔ ∃ j q : Nat, x = toInt (q * 2 ^ j, j) ∧ mxb U j q := by
  rw [mem_cat]
  constructor
  · rintro ⟨j, h1, h2, h3⟩
    obtain ⟨q, hq, hx⟩ := ((c j h1).2 _).1 h3
    exact ⟨j, q, Prod.ext hq h2, hx⟩
  · rintro ⟨j, q, rfl, hx⟩
    exact ⟨j, by have := hx.1; omega, rfl, ((c j (by have := hx.1; omega)).2 _).2 ⟨q, rfl, hx⟩⟩

theorem mem_blocks_int {U : Nat → Bool} {n : Nat} (hb : ∀ f, U f = true → f < n) (x : Int × Int) : x ∈ (blocks U n).map toInt ↔ ∃ j q : Nat, x = toInt (q * 2 ^ j, j) ∧ mxb U j q := by
  rw [List.mem_map]
  constructor
  · rintro ⟨⟨b, k⟩, h, rfl⟩
    obtain ⟨q, rfl, hx⟩ := (blocks_mem hb b k).1 h
    exact ⟨k, q, rfl, hx⟩
  · rintro ⟨j, q, rfl, hx⟩
    exact ⟨_, (blocks_mem hb _ _).2 ⟨q, rfl, hx⟩, rfl⟩

/-- Sorted lists of the same members are one. -/
theorem sorted_one : ∀ (l m : List (Int × Int)), l.Pairwise (fun x y => x.1 < y.1) → m.Pairwise (fun x y => x.1 < y.1) → (∀ x, x ∈ l ↔ x ∈ m) → l = m
  | [], [], _, _, _ => rfl
  | [], b :: m, _, _, h => absurd ((h b).2 List.mem_cons_self) (by simp)
  | a :: l, [], _, _, h => absurd ((h a).1 List.mem_cons_self) (by simp)
  | a :: l, b :: m, hl, hm, h => by
    rw [List.pairwise_cons] at hl hm
    have e : a = b := by
      rcases List.mem_cons.1 ((h a).1 List.mem_cons_self) with e | e
      · exact e
      · rcases List.mem_cons.1 ((h b).2 List.mem_cons_self) with e' | e'
        · exact e'.symm
        · have := hm.1 a e; have := hl.1 b e'; omega
    subst e
    congr 1
    refine sorted_one l m hl.2 hm.2 fun x => ?_
    constructor
    · intro hx
      rcases List.mem_cons.1 ((h x).1 (List.mem_cons_of_mem _ hx)) with e | e
      · have := hl.1 x hx; rw [e] at this; omega
      · exact e
    · intro hx
      rcases List.mem_cons.1 ((h x).2 (List.mem_cons_of_mem _ hx)) with e | e
      · have := hm.1 x hx; rw [e] at this; omega
      · exact e

/-- The rows' blocks, sorted by their bases, are the document's list. -/
theorem free_eq {F : Nat → List Int} {U : Nat → Bool} {n : Nat} (c : Can F U) (hb : ∀ f, U f = true → f < n) (d : List (Int × Int)) (hp : d.Perm (cat F 7)) (hs : d.Pairwise (fun x y => x.1 ≤ y.1)) : d = (blocks U n).map toInt := by
  have hm : ∀ x, x ∈ d ↔ ∃ j q : Nat, x = toInt (q * 2 ^ j, j) ∧ mxb U j q := fun x => (hp.mem_iff).trans (mem_cat_can c x)
  have hn : d.Nodup := hp.nodup_iff.2 (cat_nodup c 7 (Nat.le_refl _))
  refine sorted_one _ _ ?_ ?_ (fun x => (hm x).trans (mem_blocks_int hb x).symm)
  · refine (hs.and hn).imp_of_mem ?_
    rintro x y hx hy ⟨h1, h2⟩
    obtain ⟨j, q, rfl, hxm⟩ := (hm x).1 hx
    obtain ⟨k, m, rfl, hym⟩ := (hm y).1 hy
    by_cases e : (toInt (q * 2 ^ j, j)).1 = (toInt (m * 2 ^ k, k)).1
    · exfalso
      have e' : q * 2 ^ j = m * 2 ^ k := Int.ofNat.inj e
      obtain ⟨e1, e2⟩ := mx_one hxm hym (first_in j q) (by rw [e']; exact first_in k m)
      subst e1 e2
      exact h2 rfl
    · omega
  · rw [List.pairwise_map]
    exact (blocks_sorted hb).imp (fun h => by simp only [toInt]; omega)

theorem sum_cat (F : Nat → List Int) : ∀ k, ((cat F k).map fun x => 2 ^ x.2.toNat).sum = lf F k
  | 0 => rfl
  | k + 1 => by
    rw [cat, List.map_append, List.sum_append, sum_cat F k, lf, List.map_map]
    congr 1
    generalize F k = l
    induction l with
    | nil => simp
    | cons a l ih => simp only [List.map_cons, List.sum_cons, ih, Function.comp, List.length_cons, Int.toNat_natCast]; rw [Nat.add_mul]; omega

theorem lf_eq {F : Nat → List Int} {U : Nat → Bool} {n : Nat} (c : Can F U) (hb : ∀ f, U f = true → f < n) : lf F 7 = cnt U 0 n := by
  have hp := List.mergeSort_perm (cat F 7) (fun x y => decide (x.1 ≤ y.1))
  have hs := List.pairwise_mergeSort (le := fun x y : Int × Int => decide (x.1 ≤ y.1)) (fun a b c h1 h2 => by simp at *; omega) (fun a b => by simp; omega) (cat F 7)
  have e := free_eq c hb _ hp (hs.imp (fun h => by simpa using h))
  rw [← sum_cat, ← (hp.map fun x => 2 ^ x.2.toNat).sum_nat, e, ← blocks_size hb, size, List.map_map]
  rfl

theorem lf_le {F : Nat → List Int} {U : Nat → Bool} {n : Nat} (c : Can F U) (hb : ∀ f, U f = true → f < n) : lf F 7 ≤ n := by
  rw [lf_eq c hb]; exact cnt_le U n 0

/-- A frame of a block. -/
def inb (z : Int) (k f : Nat) : Prop := z ≤ f ∧ (f : Int) < z + (2 ^ k : Nat)

theorem inb_iff {q k f : Nat} : inb ((q * 2 ^ k : Nat) : Int) k f ↔ f / 2 ^ k = q := by
  rw [in_iff, inb]; omega

/-- What is taken, beside what is free. -/
structure BInv (n : Nat) (U : Nat → Bool) (T : Int → Option Nat) : Prop where
  bound : ∀ f, U f = true → f < n
  tk : ∀ z k, T z = some k → k ≤ 6 ∧ ∃ q : Nat, z = ((q * 2 ^ k : Nat) : Int) ∧ ∀ f, f / 2 ^ k = q → f < n ∧ U f = false
  dj : ∀ z k z' k' f, T z = some k → T z' = some k' → inb z k f → inb z' k' f → z = z'
  cover : ∀ f, f < n → U f = false → ∃ z k, T z = some k ∧ inb z k f

theorem inv_new (n : Nat) : BInv n (fun f => decide (f < n)) (fun _ => none) :=
  ⟨fun f h => by simpa using h, fun z k h => (by cases h), fun z k z' k' f h => (by cases h), fun f h1 h2 => (by simp at h2; omega)⟩

/-- A part of a free block is taken. -/
theorem BInv.take {n : Nat} {U : Nat → Bool} {T : Int → Option Nat} (h : BInv n U T) {k q : Nat} (hk : k ≤ 6) (hb : blk U k q) :
    BInv n (cut U k q) (fun z => if z = ((q * 2 ^ k : Nat) : Int) then some k else T z) := by
  have hold : ∀ z j f, T z = some j → inb z j f → U f = false := by
    intro z j f hz hf
    obtain ⟨_, r, rfl, hr⟩ := h.tk z j hz
    exact (hr f (inb_iff.1 hf)).2
  have hnew : ∀ f, inb ((q * 2 ^ k : Nat) : Int) k f → U f = true := fun f hf => hb f (inb_iff.1 hf)
  refine ⟨fun f hf => h.bound f (cut_true.1 hf).1, fun z j hz => ?_, fun z j z' j' f hz hz' hf hf' => ?_, fun f hf hu => ?_⟩
  · by_cases e : z = ((q * 2 ^ k : Nat) : Int)
    · rw [if_pos e] at hz; cases hz
      exact ⟨hk, q, e, fun f hf => ⟨h.bound f (hb f hf), by simp [cut, hf]⟩⟩
    · rw [if_neg e] at hz
      obtain ⟨h1, r, hr, h2⟩ := h.tk z j hz
      exact ⟨h1, r, hr, fun f hf => ⟨(h2 f hf).1, by simp [cut, (h2 f hf).2]⟩⟩
  · by_cases e : z = ((q * 2 ^ k : Nat) : Int) <;> by_cases e' : z' = ((q * 2 ^ k : Nat) : Int)
    · rw [e, e']
    · rw [if_pos e] at hz; rw [if_neg e'] at hz'; cases hz; subst e
      have a := hnew f hf; rw [hold z' j' f hz' hf'] at a; cases a
    · rw [if_neg e] at hz; rw [if_pos e'] at hz'; cases hz'; subst e'
      have a := hnew f hf'; rw [hold z j f hz hf] at a; cases a
    · rw [if_neg e] at hz; rw [if_neg e'] at hz'
      exact h.dj z j z' j' f hz hz' hf hf'
  · by_cases hb' : f / 2 ^ k = q
    · exact ⟨_, k, by rw [if_pos rfl], inb_iff.2 hb'⟩
    · have hU : U f = false := by
        cases e : U f with
        | false => rfl
        | true => have := cut_true.2 ⟨e, hb'⟩; rw [hu] at this; cases this
      obtain ⟨z, j, hz, hin⟩ := h.cover f hf hU
      refine ⟨z, j, ?_, hin⟩
      rw [if_neg]; exact hz
      rintro rfl
      have a := hb _ (first_in k q)
      obtain ⟨_, r, hr, h2⟩ := h.tk _ j hz
      have e : q * 2 ^ k = r * 2 ^ j := Int.ofNat.inj hr
      rw [(h2 (q * 2 ^ k) (by rw [e]; exact first_in j r)).2] at a; cases a

/-- What was taken is given back. -/
theorem BInv.give {n : Nat} {U : Nat → Bool} {T : Int → Option Nat} (h : BInv n U T) {k q : Nat} (ht : T ((q * 2 ^ k : Nat) : Int) = some k) :
    BInv n (join U k q) (fun z => if z = ((q * 2 ^ k : Nat) : Int) then none else T z) := by
  obtain ⟨hk, r, hr, h2⟩ := h.tk _ k ht
  have e := at_order hr
  subst e
  refine ⟨fun f hf => ?_, fun z j hz => ?_, fun z j z' j' f hz hz' hf hf' => ?_, fun f hf hu => ?_⟩
  · rcases join_true.1 hf with a | a
    · exact h.bound f a
    · exact (h2 f a).1
  · by_cases e : z = ((q * 2 ^ k : Nat) : Int)
    · rw [if_pos e] at hz; cases hz
    · rw [if_neg e] at hz
      obtain ⟨h1, s, rfl, h3⟩ := h.tk z j hz
      refine ⟨h1, s, rfl, fun f hf => ⟨(h3 f hf).1, ?_⟩⟩
      cases c : join U k q f with
      | false => rfl
      | true =>
        exfalso
        rcases join_true.1 c with a | a
        · rw [(h3 f hf).2] at a; cases a
        · exact e (h.dj _ _ _ _ f hz ht (inb_iff.2 hf) (inb_iff.2 a))
  · have : ∀ y i, (if y = ((q * 2 ^ k : Nat) : Int) then none else T y) = some i → T y = some i := by
      intro y i hy; split at hy; cases hy; exact hy
    exact h.dj z j z' j' f (this _ _ hz) (this _ _ hz') hf hf'
  · have hU : U f = false := by
      cases c : U f with
      | false => rfl
      | true => rw [join_true.2 (.inl c)] at hu; cases hu
    obtain ⟨z, j, hz, hin⟩ := h.cover f hf hU
    refine ⟨z, j, ?_, hin⟩
    rw [if_neg]; exact hz
    rintro rfl
    rw [ht] at hz; cases hz
    rw [join_true.2 (.inr (inb_iff.1 hin))] at hu; cases hu

/-- The block that Alloc takes of: of the least order that serves, of that the least base. -/
def Best (U : Nat → Bool) (o b k : Nat) : Prop := (∃ q, b = q * 2 ^ k ∧ mxb U k q) ∧ o ≤ k ∧ ∀ j r, mxb U j r → o ≤ j → k < j ∨ (k = j ∧ b ≤ r * 2 ^ j)

theorem best_row {F : Nat → List Int} {U : Nat → Bool} (c : Can F U) {o k : Nat} {z : Int} {l : List Int} (hok : o ≤ k) (hk : k ≤ 6) (h0 : ∀ j, o ≤ j → j < k → F j = []) (hl : F k = z :: l) : ∃ q, z = ((q * 2 ^ k : Nat) : Int) ∧ mxb U k q ∧ Best U o (q * 2 ^ k) k := by
  have hc := c k (by omega)
  obtain ⟨q, hq, hx⟩ := (hc.2 z).1 (by rw [hl]; exact List.mem_cons_self)
  refine ⟨q, hq, hx, ⟨q, rfl, hx⟩, hok, fun j r hy hj => ?_⟩
  have hm := ((c j (by have := hy.1; omega)).2 _).2 ⟨r, rfl, hy⟩
  by_cases h1 : j < k
  · rw [h0 j hj h1] at hm; cases hm
  · by_cases h2 : j = k
    · subst h2
      refine .inr ⟨rfl, ?_⟩
      have hs := hc.1
      rw [hl] at hs hm
      rcases List.mem_cons.1 hm with e | e
      · have := hq.symm.trans e.symm; have := at_order this; subst this; exact Nat.le_refl _
      · have := (List.pairwise_cons.1 hs).1 _ e; omega
    · exact .inl (by omega)

/-- The first part of a free block. -/
theorem blk_part {U : Nat → Bool} {k q o : Nat} (h : blk U k q) (ho : o ≤ k) : blk U o (q * 2 ^ (k - o)) ∧ q * 2 ^ (k - o) * 2 ^ o = q * 2 ^ k := by
  have e : q * 2 ^ (k - o) * 2 ^ o = q * 2 ^ k := by rw [Nat.mul_assoc, ← Nat.pow_add, Nat.sub_add_cancel ho]
  refine ⟨fun f hf => h f ?_, e⟩
  rw [div_up hf ho, first_in]

end Go.Proofs.YtcfhanoekniaaaaGreatDoor

namespace Go.Proofs.YtcfhanoekniaaaaGreatDoor
open Go.RowKit

def val (C : Int → Option Nat) (f : Int) : Nat := (C f).getD 0
def putC (C : Int → Option Nat) (f : Int) (m : Nat) : Int → Option Nat := fun x => if x = f then some m else C x
theorem val_put (C : Int → Option Nat) (f : Int) (m : Nat) (x : Int) : val (putC C f m) x = if x = f then m else val C x := by
  unfold val putC; split <;> simp
/-- The frames, rising. -/
def Ks (C : Int → Option Nat) (ks : List Int) : Prop := ks.Pairwise (· < ·) ∧ ∀ x, x ∈ ks ↔ (C x).isSome = true
def sumTo (g : Nat → Nat) : Nat → Nat → Nat
  | _, 0 => 0
  | a, m + 1 => g a + sumTo g (a + 1) m
theorem sumTo_congr {g h : Nat → Nat} : ∀ (m a : Nat), (∀ i, a ≤ i → i < a + m → g i = h i) → sumTo g a m = sumTo h a m
  | 0, _, _ => rfl
  | m + 1, a, e => by rw [sumTo, sumTo, e a (by omega) (by omega), sumTo_congr m (a + 1) (fun i h1 h2 => e i (by omega) (by omega))]
theorem sumTo_set {g h : Nat → Nat} {f d : Nat} (hf : h f = g f + d) (ho : ∀ i, i ≠ f → h i = g i) : ∀ (m a : Nat), a ≤ f → f < a + m → sumTo h a m = sumTo g a m + d
  | 0, a, h1, h2 => by omega
  | m + 1, a, h1, h2 => by
    rw [sumTo, sumTo]
    by_cases e : a = f
    · subst e
      rw [hf, sumTo_congr (g := h) (h := g) m (a + 1) (fun i h1 _ => ho i (by omega))]; omega
    · rw [ho a e, sumTo_set hf ho m (a + 1) (by omega) (by omega)]; omega
theorem sumTo_zero {g : Nat → Nat} : ∀ (m a : Nat), (∀ i, a ≤ i → i < a + m → g i = 0) → sumTo g a m = 0
  | 0, _, _ => rfl
  | m + 1, a, e => by rw [sumTo, e a (by omega) (by omega), sumTo_zero m (a + 1) (fun i h1 h2 => e i (by omega) (by omega))]
theorem sumTo_le {g h : Nat → Nat} : ∀ (m a : Nat), (∀ i, a ≤ i → i < a + m → g i ≤ h i) → sumTo g a m ≤ sumTo h a m
  | 0, _, _ => Nat.le_refl _
  | m + 1, a, e => by
    rw [sumTo, sumTo]
    have := e a (by omega) (by omega)
    have := sumTo_le m (a + 1) (fun i h1 h2 => e i (by omega) (by omega)); omega
theorem sumTo_mul (g : Nat → Nat) (d : Nat) : ∀ (m a : Nat), sumTo (fun i => g i * d) a m = sumTo g a m * d
  | 0, _ => by simp [sumTo]
  | m + 1, a => by rw [sumTo, sumTo, sumTo_mul g d m (a + 1), Nat.add_mul]
theorem sumTo_cnt (U : Nat → Bool) : ∀ (m a : Nat), sumTo (fun i => if U i then 1 else 0) a m = cnt U a m
  | 0, _ => rfl
  | m + 1, a => by rw [sumTo, cnt, sumTo_cnt U m (a + 1)]
theorem sum_keys (h : Int → Nat) : ∀ (m a : Nat) (ks : List Int), ks.Pairwise (· < ·) → (∀ x ∈ ks, (a : Int) ≤ x ∧ x < (a : Int) + m) → (ks.map h).sum = sumTo (fun f => if (f : Int) ∈ ks then h f else 0) a m
  | 0, a, ks, _, hb => by
    cases ks with
    | nil => rfl
    | cons x r => have := hb x (by simp); omega
  | m + 1, a, [], _, _ => by rw [sumTo_zero]; rfl; intros; rfl
  | m + 1, a, x :: r, hp, hb => by
    have hx := hb x (by simp)
    obtain ⟨h1, h2⟩ := List.pairwise_cons.1 hp
    by_cases e : x = (a : Int)
    · have ih := sum_keys h m (a + 1) r h2 (fun y hy => by have := h1 y hy; have := hb y (by simp [hy]); omega)
      rw [List.map_cons, List.sum_cons, ih, sumTo, if_pos (by simp [e]), e]
      congr 1
      refine sumTo_congr m (a + 1) (fun i h3 _ => ?_)
      have : ¬ (i : Int) = (a : Int) := by omega
      simp [this]
    · have ih := sum_keys h m (a + 1) (x :: r) hp (fun y hy => by
        have := hb y hy
        rcases List.mem_cons.1 hy with rfl | hy
        · omega
        · have := h1 y hy; omega)
      have hn : ¬ (a : Int) ∈ x :: r := by
        intro hm
        rcases List.mem_cons.1 hm with e' | hm
        · exact e e'.symm
        · have := h1 _ hm; omega
      rw [ih, sumTo, if_neg hn, Nat.zero_add]
def num (C : Int → Option Nat) (n : Nat) : Nat := sumTo (fun f => if (C f).isSome then 1 else 0) 0 n
/-- Frames are from 0 to below n. -/
def Within (C : Int → Option Nat) (n : Nat) : Prop := ∀ x, (C x).isSome = true → 0 ≤ x ∧ x < (n : Int)
theorem num_keys {C : Int → Option Nat} {ks : List Int} {n : Nat} (hk : Ks C ks) (hw : Within C n) : ks.length = num C n := by
  have h := sum_keys (fun _ => 1) n 0 ks hk.1 (fun x hx => by have := hw x ((hk.2 x).1 hx); simp; omega)
  have e : (ks.map (fun _ => 1)).sum = ks.length := by
    clear h hk; induction ks with
    | nil => rfl
    | cons a l ih => simp [ih]; omega
  rw [← e, h, num]
  refine sumTo_congr _ _ (fun i _ _ => ?_)
  by_cases hc : (C i).isSome = true
  · rw [if_pos ((hk.2 _).2 hc), if_pos hc]
  · rw [if_neg (fun h' => hc ((hk.2 _).1 h')), if_neg hc]
theorem num_put_old {C : Int → Option Nat} {n : Nat} {f : Int} {m : Nat} (h : (C f).isSome = true) : num (putC C f m) n = num C n := by
  refine sumTo_congr _ _ (fun i _ _ => ?_)
  simp only [putC]; split
  · rename_i e; rw [e, h]; rfl
  · rfl
theorem num_put_new {C : Int → Option Nat} {n : Nat} {f : Nat} {m : Nat} (hf : f < n) (h : C f = none) : num (putC C f m) n = num C n + 1 := by
  refine sumTo_set (f := f) ?_ (fun i hi => ?_) n 0 (by omega) (by omega)
  · simp [putC, h]
  · have : ¬ (i : Int) = (f : Int) := by omega
    simp [putC, this]
theorem Within.put {C : Int → Option Nat} {n : Nat} (h : Within C n) {f : Int} {m : Nat} (h0 : 0 ≤ f) (h1 : f < (n : Int)) : Within (putC C f m) n := fun x hx => by
  unfold putC at hx; split at hx
  · rename_i e; subst e; exact ⟨h0, h1⟩
  · exact h x hx
theorem num_le (C : Int → Option Nat) (n : Nat) : num C n ≤ n := by
  have := sumTo_cnt (fun f => (C f).isSome) n 0
  rw [num, this]; exact cnt_le _ _ _
/-- Only the cache has frames. -/
def Sole (C T : Int → Option Nat) : Prop := ∀ x, T x = (C x).map (fun _ => 0)
theorem left_num {n : Nat} {U : Nat → Bool} {C T : Int → Option Nat} (inv : BInv n U T) (h : Sole C T) : num C n + cnt U 0 n = n := by
  have key : ∀ f, f < n → (U f = true ↔ (C (f : Int)).isSome = false) := by
    intro f hf
    constructor
    · intro hU
      cases e : C (f : Int) with
      | none => rfl
      | some k =>
        have hT : T (f : Int) = some 0 := by rw [h, e]; rfl
        obtain ⟨_, q, hq, hx⟩ := inv.tk _ _ hT
        have : f = q := by simp at hq; omega
        have := (hx f (by rw [Nat.pow_zero, Nat.div_one]; exact this)).2
        rw [hU] at this; cases this
    · intro hC
      cases hU : U f with
      | true => rfl
      | false =>
        obtain ⟨z, k, hz, hin⟩ := inv.cover f hf hU
        have hk : k = 0 ∧ (C z).isSome = true := by
          rw [h z] at hz
          cases e : C z with
          | none => rw [e] at hz; cases hz
          | some v => rw [e] at hz; cases hz; exact ⟨rfl, rfl⟩
        obtain ⟨rfl, hCz⟩ := hk
        unfold inb at hin
        have : z = (f : Int) := by simp at hin; omega
        rw [this, hC] at hCz; cases hCz
  rw [num, sumTo_cnt (fun f => (C f).isSome)]
  have : ∀ m a, a + m ≤ n → cnt (fun f : Nat => (C f).isSome) a m + cnt U a m = m := by
    intro m; induction m with
    | zero => intro a _; rfl
    | succ m ih =>
      intro a ha
      have h1 := ih (a + 1) (by omega)
      have h2 := key a (by omega)
      rw [cnt, cnt]
      cases e1 : U a with
      | true => rw [h2.1 e1]; simp; omega
      | false =>
        have : (C (a : Int)).isSome = true := by
          cases e2 : (C (a : Int)).isSome with
          | true => rfl
          | false => rw [h2.2 e2] at e1; cases e1
        rw [this]; simp; omega
  exact this n 0 (by omega)
theorem full_cnt0 {n : Nat} {U : Nat → Bool} (hb : ∀ f, U f = true → f < n) (h : ∀ j r, mxb U j r → j < 0) : cnt U 0 n = 0 := by
  rw [← blocks_size hb]
  cases e : blocks U n with
  | nil => rfl
  | cons x l =>
    obtain ⟨q, _, hx⟩ := (blocks_mem hb x.1 x.2).1 (by rw [e]; simp)
    exact absurd (h _ _ hx) (by omega)
end Go.Proofs.YtcfhanoekniaaaaGreatDoor

namespace Go.Proofs.YtcfhanoekniaaaaGreatDoor
open Go.RowKit

/-- A space's pages: what each may be used for, and its frame (-1: none). -/
abbrev PM := Int → Option (Int × Int)
def frm (P : PM) (a : Int) : Int := match P a with | some p => p.2 | none => -1
def putP (P : PM) (a : Int) (p : Int × Int) : PM := fun x => if x = a then some p else P x
def delP (P : PM) (a : Int) : PM := fun x => if x = a then none else P x
/-- How many pages have that frame; how many pages there are; how many have a frame. -/
def sh (P : PM) (f : Int) : Nat := sumTo (fun a => if frm P a = f then 1 else 0) 0 64
def lenP (P : PM) : Nat := sumTo (fun a => if (P a).isSome then 1 else 0) 0 64
def resP (P : PM) : Nat := sumTo (fun a => if frm P a = -1 then 0 else 1) 0 64

structure PgOk (n : Nat) (P : PM) : Prop where
  key : ∀ a, (P a).isSome = true → 0 ≤ a ∧ a < 64
  prot : ∀ a p, P a = some p → 1 ≤ p.1 ∧ p.1 ≤ 3
  frame : ∀ a, frm P a = -1 ∨ (0 ≤ frm P a ∧ frm P a < (n : Int))

theorem frm_none {P : PM} {a : Int} (h : P a = none) : frm P a = -1 := by unfold frm; rw [h]
theorem frm_some {P : PM} {a : Int} {p : Int × Int} (h : P a = some p) : frm P a = p.2 := by unfold frm; rw [h]
theorem frm_put (P : PM) (a : Int) (p : Int × Int) (x : Int) : frm (putP P a p) x = if x = a then p.2 else frm P x := by
  unfold frm putP; split <;> rename_i h <;> split at h <;> simp_all
theorem frm_del (P : PM) (a : Int) (x : Int) : frm (delP P a) x = if x = a then -1 else frm P x := by
  unfold frm delP; split <;> rename_i h <;> split at h <;> simp_all
theorem frm_key {P : PM} {a : Int} (h : frm P a ≠ -1) : ∃ p, P a = some p ∧ p.2 = frm P a := by
  cases e : P a with
  | none => exact absurd (frm_none e) h
  | some p => exact ⟨p, rfl, (frm_some e).symm⟩

theorem sumTo_le' {g h : Nat → Nat} {m a : Nat} (e : ∀ i, g i ≤ h i) : sumTo g a m ≤ sumTo h a m := sumTo_le m a (fun i _ _ => e i)
theorem sumTo_at {g : Nat → Nat} {m j : Nat} (hj : j < m) : g j ≤ sumTo g 0 m := by
  have h := sumTo_set (g := fun i => if i = j then 0 else g i) (h := g) (f := j) (d := g j) (by simp) (fun i hi => by simp [hi]) m 0 (by omega) (by omega)
  omega
theorem sumTo_const_le {g : Nat → Nat} {d : Nat} : ∀ (m a : Nat), (∀ i, g i ≤ d) → sumTo g a m ≤ m * d
  | 0, _, _ => by simp [sumTo]
  | m + 1, a, e => by rw [sumTo]; have := e a; have := sumTo_const_le m (a + 1) e; rw [Nat.succ_mul]; omega

section
variable {n : Nat} {P : PM} {a : Int}
theorem sh_put (h0 : 0 ≤ a) (h1 : a < 64) (p : Int × Int) (f : Int) : sh (putP P a p) f + (if frm P a = f then 1 else 0) = sh P f + (if p.2 = f then 1 else 0) := by
  have ea : ((a.toNat : Nat) : Int) = a := by omega
  have g0 := sumTo_set (g := fun i : Nat => if i = a.toNat then 0 else if frm P i = f then 1 else 0) (h := fun i : Nat => if frm P i = f then 1 else 0) (f := a.toNat) (d := if frm P a = f then 1 else 0) (by simp [ea]) (fun i hi => by simp [hi]) 64 0 (by omega) (by omega)
  have g1 := sumTo_set (g := fun i : Nat => if i = a.toNat then 0 else if frm P i = f then 1 else 0) (h := fun i : Nat => if frm (putP P a p) i = f then 1 else 0) (f := a.toNat) (d := if p.2 = f then 1 else 0) (by simp [ea, frm_put]) (fun i hi => by
    have : ¬ (i : Int) = a := by omega
    simp [hi, frm_put, this]) 64 0 (by omega) (by omega)
  unfold sh; omega
theorem sh_del (h0 : 0 ≤ a) (h1 : a < 64) {f : Int} (hf : 0 ≤ f) : sh (delP P a) f + (if frm P a = f then 1 else 0) = sh P f := by
  have ea : ((a.toNat : Nat) : Int) = a := by omega
  refine (sumTo_set (g := fun i : Nat => if frm (delP P a) i = f then 1 else 0) (h := fun i : Nat => if frm P i = f then 1 else 0) (f := a.toNat) (d := if frm P a = f then 1 else 0) ?_ (fun i hi => ?_) 64 0 (by omega) (by omega)).symm
  · have : ¬ (-1 : Int) = f := by omega
    simp [ea, frm_del, this]
  · have : ¬ (i : Int) = a := by omega
    simp [frm_del, this]
theorem sh_pos (h : PgOk n P) (hf : frm P a ≠ -1) : 1 ≤ sh P (frm P a) := by
  obtain ⟨p, hp, _⟩ := frm_key hf
  have hk := h.key a (by rw [hp]; rfl)
  have := sumTo_at (g := fun i : Nat => if frm P i = frm P a then 1 else 0) (m := 64) (j := a.toNat) (by omega)
  have ea : ((a.toNat : Nat) : Int) = a := by omega
  simp only [ea, if_true] at this
  exact this
theorem sh_zero {f : Int} (_hf : 0 ≤ f) (h : ∀ a, frm P a ≠ f) : sh P f = 0 := sumTo_zero _ _ (fun i _ _ => by simp [h i])
theorem sh_none {f : Int} (h : sh P f = 0) (hok : PgOk n P) (hf : f ≠ -1) (a : Int) : frm P a ≠ f := by
  intro e
  have := sh_pos (a := a) hok (by rw [e]; exact hf)
  rw [e] at this; omega
theorem lenP_put_old {p : Int × Int} (h : (P a).isSome = true) : lenP (putP P a p) = lenP P := sumTo_congr _ _ (fun i _ _ => by
  unfold putP; by_cases e : (i : Int) = a
  · simp [e, h]
  · simp [e])
theorem lenP_put_new {p : Int × Int} (h0 : 0 ≤ a) (h1 : a < 64) (h : P a = none) : lenP (putP P a p) = lenP P + 1 := by
  have ea : ((a.toNat : Nat) : Int) = a := by omega
  refine sumTo_set (f := a.toNat) ?_ (fun i hi => ?_) 64 0 (by omega) (by omega)
  · simp [putP, ea, h]
  · have : ¬ (i : Int) = a := by omega
    simp [putP, this]
theorem lenP_del (h0 : 0 ≤ a) (h1 : a < 64) (h : (P a).isSome = true) : lenP (delP P a) + 1 = lenP P := by
  have ea : ((a.toNat : Nat) : Int) = a := by omega
  refine (sumTo_set (f := a.toNat) (d := 1) ?_ (fun i hi => ?_) 64 0 (by omega) (by omega)).symm
  · simp [delP, ea, h]
  · have : ¬ (i : Int) = a := by omega
    simp [delP, this]
theorem lenP_le (P : PM) : lenP P ≤ 64 := by
  have := sumTo_const_le (g := fun a : Nat => if (P a).isSome then 1 else 0) (d := 1) 64 0 (fun i => by split <;> omega)
  unfold lenP; omega
theorem lenP_none : lenP (fun _ => none) = 0 := sumTo_zero _ _ (fun _ _ _ => rfl)
theorem sh_empty {f : Int} (hf : 0 ≤ f) : sh (fun _ => none) f = 0 := sh_zero hf (fun a => by show (-1 : Int) ≠ f; omega)
end

section
variable {n : Nat} {P : PM} {a : Int}
theorem PgOk.none (n : Nat) : PgOk n (fun _ => none) := ⟨fun a h => (by cases h), fun a p h => (by cases h), fun a => .inl rfl⟩
theorem PgOk.put (h : PgOk n P) (h0 : 0 ≤ a) (h1 : a < 64) {p : Int × Int} (hp : 1 ≤ p.1 ∧ p.1 ≤ 3) (hf : p.2 = -1 ∨ (0 ≤ p.2 ∧ p.2 < (n : Int))) : PgOk n (putP P a p) := by
  refine ⟨fun x hx => ?_, fun x q hq => ?_, fun x => ?_⟩
  · unfold putP at hx; split at hx
    · rename_i e; rw [e]; exact ⟨h0, h1⟩
    · exact h.key x hx
  · unfold putP at hq; split at hq
    · cases hq; exact hp
    · exact h.prot x q hq
  · rw [frm_put]; split
    · exact hf
    · exact h.frame x
theorem PgOk.del (h : PgOk n P) : PgOk n (delP P a) := by
  refine ⟨fun x hx => ?_, fun x q hq => ?_, fun x => ?_⟩
  · unfold delP at hx; split at hx
    · cases hx
    · exact h.key x hx
  · unfold delP at hq; split at hq
    · cases hq
    · exact h.prot x q hq
  · rw [frm_del]; split
    · exact .inl rfl
    · exact h.frame x

/-- No two pages of a space have one frame. -/
def Dis (P : PM) : Prop := ∀ f, 0 ≤ f → sh P f ≤ 1
theorem Dis.none : Dis (fun _ => none) := fun f hf => by rw [sh_empty hf]; omega
theorem Dis.del (h : Dis P) (h0 : 0 ≤ a) (h1 : a < 64) : Dis (delP P a) := fun f hf => by
  have := sh_del (P := P) h0 h1 hf; have := h f hf; omega
theorem Dis.put (h : Dis P) (h0 : 0 ≤ a) (h1 : a < 64) {p : Int × Int} (hn : p.2 = -1 ∨ sh P p.2 = 0 ∨ frm P a = p.2) : Dis (putP P a p) := fun f hf => by
  have h2 := sh_put (P := P) h0 h1 p f
  have h3 := h f hf
  by_cases e : p.2 = f
  · subst e
    rcases hn with hn | hn | hn
    · omega
    · rw [hn] at h2; simp at h2; omega
    · rw [if_pos hn] at h2; simp at h2; omega
  · rw [if_neg e] at h2; omega
end

end Go.Proofs.YtcfhanoekniaaaaGreatDoor

namespace Go.Proofs.YtcfhanoekniaaaaGreatDoor
open Go.RowKit Go.Shelf Go.Lib Go.Sort

/-- A number as a cell. -/
abbrev ic (x : Int) : Value := .int .i64 x

theorem ic_one : OneCell ic := fun _ => rfl

set_option maxHeartbeats 400000 in
theorem same_call (W : World) (y : Nat) (z u : Int) (h : W.cell? ⟨y, 0, none⟩ = some (.int .i64 z)) :
    Calls Tryz.prog 329 #[.int .i64 u, .pointer (some ⟨y, 0, none⟩)] W fun e w' => e = .returned (.bool (u == z)) ∧ ∃ q, w' = W.drewN q := by
  go_enter Tryz.func329, Tryz.ntmps329
  go_wp2
  go_ret
  exact ⟨rfl, 0, rfl⟩

theorem holds_row {W : World} {s : Nat} {c : Array Value} {xs : List Int} (h1 : W.heap[s]? = some (.cells c 3)) (h2 : ∀ j, j < xs.length → c[j]? = some (.int .i64 (xs.getD j 0))) : Holds ic W s 0 xs.toArray := by
  intro j hj
  have hj' : j < xs.length := by simpa using hj
  refine ⟨?_, by simp [World.frozen?, h1]⟩
  rw [cell_of_row W s _ _ _ _ h1, Nat.zero_add, h2 j hj']
  simp [ic, hj', List.getD_eq_getElem?_getD]

theorem row_put {W : World} {s : Nat} {c : Array Value} {n : Nat} (q : Nat) (ys : List Int) (h1 : W.heap[s]? = some (.cells c 3)) (hn : ys.length = n) (hc : n ≤ c.size) :
    ∃ c', (putRow ic (Sort.ahead W q) s 0 ys.toArray).heap[s]? = some (.cells c' 3) ∧ c'.size = c.size ∧ ∀ j, j < n → c'[j]? = some (.int .i64 (ys.getD j 0)) := by
  refine ⟨putCells ic 0 ys.toArray c, heap_mapBlock_same (Sort.ahead W q) s _ c _ _ h1, by simp [putCells], fun j hj => ?_⟩
  have hj' : j < ys.length := by omega
  have hjc : j < c.size := by omega
  simp [putCells, hj', hjc, ic, List.getD_eq_getElem?_getD]

set_option maxHeartbeats 1000000 in
theorem del_row {W : World} {o : Option Nat} {v : Value} {xs : List Int} (hr : RowAt W o v xs) (y : Nat) (z : Int) (hy : W.cell? ⟨y, 0, none⟩ = some (.int .i64 z)) (hne : o ≠ some y) :
    Calls Tryz.prog 281 #[v, .func (.func 329) #[] #[.pointer (some ⟨y, 0, none⟩)]] W fun e w' => ∃ a c, e = .returned (.slice a (xs.filter fun x => !(x == z)).length c) ∧ RowAt w' o (.slice a (xs.filter fun x => !(x == z)).length c) (xs.filter fun x => !(x == z)) ∧ Fr (fun i => o = some i) W w' := by
  cases o with
  | none =>
    obtain ⟨rfl, rfl⟩ := hr
    have hI := AnyE.slices_IndexFunc_empty Tryz.indexL none 0 (.func (.func 329) #[] #[.pointer (some ⟨y, 0, none⟩)]) W
    go_enter Tryz.func281, Tryz.ntmps281
    go_wp2_with (go_at_call 213; refine hI.mono ?_; rintro e w' ⟨rfl, rfl⟩)
    go_ret
    exact ⟨none, 0, rfl, ⟨rfl, rfl⟩, Fr.refl _ _⟩
  | some s =>
    obtain ⟨c, h1, rfl, h3, h4, h5⟩ := hr
    have hys : y ≠ s := fun e => hne (by rw [e])
    have hyl : y < W.heap.size := World.block_lt_of_cell? W _ hy
    have hH := holds_row h1 h5
    have hp : PredAt Tryz.prog 329 #[.pointer (some ⟨y, 0, none⟩)] ic (fun x => x == z) W := by
      intro W' x hb
      exact same_call W' y z x (by rw [hb.cell (p := ⟨y, 0, none⟩) hyl]; exact hy)
    have hpo : PredOver Tryz.prog 329 #[.pointer (some ⟨y, 0, none⟩)] ic (fun x => x == z) s 0 xs.toArray.size W := by
      intro n os dk x _
      refine same_call _ y z x ?_
      have hb : (sortWorld ic W s 0 n dk os).heap[y]? = W.heap[y]? := by
        show (W.heap.modify s _ ++ os)[y]? = _
        rw [Array.getElem?_append_left (by simpa using hyl), Array.getElem?_modify, if_neg (fun e => hys e.symm)]
      rw [World.cell?_of_block (w := W) (a := ⟨y, 0, none⟩) hb]; exact hy
    have hm : c.size ≤ 9223372036854775807 := by have : maxLen ≤ 9223372036854775807 := by decide
                                                 omega
    have h := AnyE.slices_DeleteFunc Tryz.deleteL ic ic_one (fun x => x == z) 329 #[.pointer (some ⟨y, 0, none⟩)] (fun _ _ => by kernel_rfl) 0 (fun _ => by kernel_rfl) s 0 c.size xs.toArray W hp hpo hH (by simp; omega) (by simpa using h3)
    simp only [List.size_toArray] at h
    refine h.mono ?_
    rintro e w' ⟨rfl, q, rfl⟩
    refine ⟨_, _, rfl, ?_, ?_⟩
    · have hl : (xs.filter fun x => !(x == z)).length ≤ xs.length := List.length_filter_le _ _
      obtain ⟨c', e1, e2, e3⟩ := row_put (n := xs.length) q ((xs.filter fun x => !(x == z)) ++ List.replicate (xs.length - (xs.filter fun x => !(x == z)).length) 0) h1 (by simp; omega) h3
      refine ⟨c', e1, by rw [e2], by omega, by omega, fun j hj => ?_⟩
      rw [e3 j (by omega), List.getD_eq_getElem?_getD, List.getElem?_append_left hj, ← List.getD_eq_getElem?_getD]
    · exact (Fr.drewN _ W q).mapBlock s _ (fun _ => rfl)
end Go.Proofs.YtcfhanoekniaaaaGreatDoor

namespace Go.Proofs.YtcfhanoekniaaaaGreatDoor
open Go.RowKit Go.Shelf Go.Lib Go.Sort

theorem filt_len (l : List Int) (z : Int) : ((l.filter fun x => !(x == z)).length < l.length) ↔ z ∈ l := by
  induction l with
  | nil => simp
  | cons a l ih =>
    have := List.length_filter_le (fun x => !(x == z)) l
    by_cases e : a = z
    · subst e; simp; omega
    · have e' : (a == z) = false := by simpa using e
      have e2 : ¬ z = a := fun h => e h.symm
      simp [e', e2, ih]

set_option maxRecDepth 100000 in
set_option maxHeartbeats 4000000 in
theorem takeOut_ok {w : World} {b g : Nat} {O : Nat → Option Nat} {V : Nat → Value} {F : Nat → List Int} (p : Pl w b g O V F) (z : Int) (k : Nat) (hk : k < 7) :
    Calls Tryz.prog 291 #[pp b, .int .i64 z, .int .i64 k] w fun e w' => ∃ V', e = .returned (.bool (decide (z ∈ F k))) ∧ Pl w' b g O V' (putF F k ((F k).filter fun x => !(x == z))) ∧ Fr (own b O) w w' := by
  have hbl := lt_of_heap p.head
  have hc := p.cell hk
  have hr := p.row k hk
  obtain ⟨a0, c0, hv, hl, hm⟩ := hr.isSlice
  rw [hv] at hc hr
  have hOk : O k ≠ some w.heap.size := by
    intro e; obtain ⟨c', h'⟩ := p.row_block hk e; have := lt_of_heap h'; omega
  have hk' : (k : Int) < 7 := by omega
  have hne : b ≠ w.heap.size := by omega
  -- the world with the number that the closure holds
  have key : ∀ W : World, W.heap = (w.alloc (.cells #[.int .i64 z] 3)).heap → Calls Tryz.prog 281 #[.slice a0 (F k).length c0, .func (.func 329) #[] #[.pointer (some ⟨w.heap.size, 0, none⟩)]] W fun e w' => ∃ a c, e = .returned (.slice a ((F k).filter fun x => !(x == z)).length c) ∧ RowAt w' (O k) (.slice a ((F k).filter fun x => !(x == z)).length c) ((F k).filter fun x => !(x == z)) ∧ Fr (fun i => O k = some i) W w' ∧ w'.cell? ⟨b, k, none⟩ = some (.slice a0 (F k).length c0) ∧ w'.frozen? ⟨b, k, none⟩ = false := by
    intro W hW
    have hbW : W.heap[b]? = w.heap[b]? := by rw [hW]; exact Below.heap_alloc _ _ _ hbl
    refine (del_row (xs := F k) ?_ w.heap.size z ?_ hOk).mono ?_
    rotate_left 2
    · rintro e w' ⟨a, c, he, hr', hf⟩
      have e1 : w'.heap[b]? = w.heap[b]? := (hf.block b (by rw [hW]; simp; omega) (fun e => p.ne_b hk e rfl)).trans hbW
      exact ⟨a, c, he, hr', hf, by rw [World.cell?_of_block (w := w) (a := ⟨b, k, none⟩) e1]; exact hc, by rw [World.frozen?_of_block (w := w) (a := ⟨b, k, none⟩) e1]; exact p.free k⟩
    · exact hr.keep (fun s hs => by rw [hW]; exact Below.heap_alloc _ _ _ (by obtain ⟨c', h'⟩ := p.row_block hk hs; exact lt_of_heap h'))
    · rw [World.cell?_of_block (w := w.alloc (.cells #[.int .i64 z] 3)) (by rw [hW])]; simp
  have hcw : (w.alloc (.cells #[.int .i64 z] 3)).cell? ⟨b, k, none⟩ = some (.slice a0 (F k).length c0) := by
    rw [World.cell?_of_block (w := w) (a := ⟨b, k, none⟩) (Below.heap_alloc _ _ _ hbl)]; exact hc
  -- what the store makes of it
  have fin : ∀ (W w' : World) (a' : Option Addr) (c' : Nat), W.heap = (w.alloc (.cells #[.int .i64 z] 3)).heap → W.os = w.os → W.tape = w.tape → W.output = w.output → RowAt w' (O k) (.slice a' ((F k).filter fun x => !(x == z)).length c') ((F k).filter fun x => !(x == z)) → Fr (fun i => O k = some i) W w' →
      (∃ V' a2 c2, Pl (w'.setCell ⟨b, k, none⟩ (.slice a' ((F k).filter fun x => !(x == z)).length c')) b g O V' (putF F k ((F k).filter fun x => !(x == z))) ∧ Fr (own b O) w (w'.setCell ⟨b, k, none⟩ (.slice a' ((F k).filter fun x => !(x == z)).length c')) ∧ V' k = .slice a2 ((F k).filter fun x => !(x == z)).length c2) := by
    intro W w' a' c' hW h1 h2 h3 hr' hf
    have hf' : Fr (fun i => O k = some i) w w' := (show Fr (fun i => O k = some i) w W from ⟨h1, h2, h3, by rw [hW]; simp, fun i hi _ => by rw [hW]; exact Below.heap_alloc _ _ _ hi⟩).trans hf (fun _ _ h => h)
    obtain ⟨t1, t2, t3⟩ := p.turn hk (O k) _ _ hf' (.inl rfl) hr'
    have e : (fun j => if j = k then O k else O j) = O := by funext j; split <;> simp_all
    rw [e] at t1
    exact ⟨_, a', c', t1, t2, by simp [putV]⟩
  clear hr
  go_enter Tryz.func291, Tryz.ntmps291
  go_upto_region 2 with fail
  go_cut [] (fun wx => ∃ V' a' c', Pl wx b g O V' (putF F k ((F k).filter fun x => !(x == z))) ∧ Fr (own b O) w wx ∧ V' k = .slice a' ((F k).filter fun x => !(x == z)).length c')
  case first =>
    go_region_with (go_at_call 281; refine (key _ (by rfl)).mono ?_; rintro e w1 ⟨a1, c1, rfl, hr1, hf1, hc1, hz1⟩)
    all_goals
      go_wp2_with fail
      go_meet
      case rel => exact fin _ _ _ _ (by rfl) (by rfl) (by rfl) (by rfl) hr1 hf1
  case rest =>
    obtain ⟨V', a', c', p', f', hV⟩ := hcut
    have hc' := p'.cell hk
    rw [hV] at hc'
    clear key fin hcw hc
    go_wp2_with fail
    go_ret
    exact ⟨V', by simp only [← filt_len (F k) z]; simp, p', f'⟩
end Go.Proofs.YtcfhanoekniaaaaGreatDoor

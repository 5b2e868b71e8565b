/- A cache apart from all that was there at first; and what is true of things that are there. -/
import Derived.Test.YthknommfnajeiaaDoorReap3
import Derived.Test.YthknommfnajeiaaDoorLefts
namespace Go.Proofs.YthknommfnajeiaaDoor
open Go.RowKit Go.Shelf Go.Lib Go.Sort Go.Maps

def COwn (w0 : World) (c b per g n : Nat) (w : World) (C : Int → Option Nat) (U : Nat → Bool) (T : Int → Option Nat) (m : Nat) : Prop :=
  ∃ A, CA w c b per g n C U T m A ∧ Below w0.heap.size w0 w ∧ (∀ i, i < w0.heap.size → ¬ A i) ∧ w0.heap.size ≤ g

section
variable {w0 w w' : World} {c b per g n m m' : Nat} {C C' : Int → Option Nat} {U U' : Nat → Bool} {T T' : Int → Option Nat}
theorem COwn.stay (h : COwn w0 c b per g n w C U T m) (hb : Below w.heap.size w w') : COwn w0 c b per g n w' C U T m := by
  obtain ⟨A, a, b0, o, hg⟩ := h
  exact ⟨A, a.below hb, b0.trans (hb.mono b0.size), o, hg⟩
theorem COwn.turn {A : Nat → Prop} (hb : Below w0.heap.size w0 w) (hA : ∀ i, i < w0.heap.size → ¬ A i) (hg : w0.heap.size ≤ g) (t : CTurns w c b per g n A w' C' U' T' m') : COwn w0 c b per g n w' C' U' T' m' := by
  obtain ⟨A', a, fr, sub⟩ := t
  refine ⟨A', a, hb.trans ⟨fr.os, fr.tape, fr.output, fr.size, fun i hi => fr.block i (Nat.lt_of_lt_of_le hi hb.size) (fun h => ?_)⟩, fun i hi h => hA i hi (sub i (Nat.lt_of_lt_of_le hi hb.size) h), hg⟩
  rcases h with h | h
  · exact hA i hi h
  · omega
theorem COwn.at (h : COwn w0 c b per g n w C U T m) : Below w0.heap.size w0 w := by obtain ⟨A, a, b0, o, hg⟩ := h; exact b0
theorem COwn.inv (h : COwn w0 c b per g n w C U T m) : Inv n U T := by obtain ⟨A, a, b0, o, hg⟩ := h; exact a.inv
theorem COwn.pers (h : COwn w0 c b per g n w C U T m) : 1 ≤ per ∧ per ≤ 16 := by obtain ⟨A, a, b0, o, hg⟩ := h; exact ⟨a.per1, a.per16⟩
theorem COwn.most (h : COwn w0 c b per g n w C U T m) : Most per C := by obtain ⟨A, a, b0, o, hg⟩ := h; exact a.most
theorem COwn.within (h : COwn w0 c b per g n w C U T m) : Within C n := by obtain ⟨A, a, b0, o, hg⟩ := h; exact a.within
theorem COwn.n256 (h : COwn w0 c b per g n w C U T m) : n ≤ 256 := by obtain ⟨A, a, b0, o, hg⟩ := h; exact a.n256

theorem COwn.alloc (h : COwn w0 c b per g n w C U T m) (hT : Tab w0) (hm : m < 10000) :
    Calls Tryd.prog 35 #[cp c] w fun e w' => ∃ ks, Ks C ks ∧
      ((∃ f, room per C ks = some f ∧ e = .returned (.tuple #[.int .i64 (f * per + low (val C f)), .nilIface]) ∧ COwn w0 c b per g n w' (putC C f (val C f ||| 2 ^ low (val C f))) U T m) ∨
       (room per C ks = none ∧ (∀ j r, mxb U j r → j < 0) ∧ e = .returned (.tuple #[.int .i64 0, enr 12]) ∧ COwn w0 c b per g n w' C U T m) ∨
       (room per C ks = none ∧ ∃ k q, Best U 0 (q * 2 ^ k) k ∧ T ((q * 2 ^ k : Nat) : Int) = none ∧ e = .returned (.tuple #[.int .i64 (((q * 2 ^ k : Nat) : Int) * per), .nilIface]) ∧ COwn w0 c b per g n w' (putC C ((q * 2 ^ k : Nat) : Int) 1) (cut U 0 (q * 2 ^ k)) (fun z => if z = ((q * 2 ^ k : Nat) : Int) then some 0 else T z) (m + 1))) := by
  have h' := h
  obtain ⟨A, a, b0, o, hg⟩ := h
  refine (calloc_ok a hm (hT.keep (b0.block _ hT.lt)) (o _ hT.lt)).mono ?_
  rintro e w' ⟨ks, hks, ⟨f, hr, he, t⟩ | ⟨hr, hno, he, hb⟩ | ⟨hr, k, q, hB, hTn, he, t⟩⟩
  · exact ⟨ks, hks, .inl ⟨f, hr, he, COwn.turn b0 o hg t⟩⟩
  · exact ⟨ks, hks, .inr (.inl ⟨hr, hno, he, h'.stay hb⟩)⟩
  · exact ⟨ks, hks, .inr (.inr ⟨hr, k, q, hB, hTn, he, COwn.turn b0 o hg t⟩)⟩

theorem COwn.give (h : COwn w0 c b per g n w C U T m) (k : Int) (hk : (Lit.int .i64 k).wf = true) :
    Calls Tryd.prog 36 #[cp c, .int .i64 k] w fun e w' => (isT per C k = false ∧ e = .returned (enr 7) ∧ COwn w0 c b per g n w' C U T m) ∨ (isT per C k = true ∧ e = .returned .nilIface ∧ COwn w0 c b per g n w' (putC C (k / per) (drop (val C (k / per)) (k % per).toNat)) U T m) := by
  have h' := h
  obtain ⟨A, a, b0, o, hg⟩ := h
  refine (cgive_ok a k hk).mono ?_
  rintro e w' (⟨hi, he, hb⟩ | ⟨hi, he, t⟩)
  · exact .inl ⟨hi, he, h'.stay hb⟩
  · exact .inr ⟨hi, he, COwn.turn b0 o hg t⟩

theorem COwn.reaps (h : COwn w0 c b per g n w C U T m) :
    Calls Tryd.prog 38 #[cp c] w fun e w' => ∃ ks, Ks C ks ∧ e = .returned (.int .i64 ((ks.filter (vac C)).length : Nat)) ∧ COwn w0 c b per g n w' (reap C) (backU C U ks) (cutL C T ks) m := by
  obtain ⟨A, a, b0, o, hg⟩ := h
  refine (creap_ok a).mono ?_
  rintro e w' ⟨ks, hks, he, t⟩
  exact ⟨ks, hks, he, COwn.turn b0 o hg t⟩

theorem COwn.count (h : COwn w0 c b per g n w C U T m) : Calls Tryd.prog 41 #[cp c] w fun e w' => e = .returned (.int .i64 (num C n : Nat)) ∧ Below w.heap.size w w' := by
  obtain ⟨A, a, b0, o, hg⟩ := h; exact count_ok a
theorem COwn.things (h : COwn w0 c b per g n w C U T m) : Calls Tryd.prog 40 #[cp c] w fun e w' => e = .returned (.int .i64 (tot C n : Nat)) ∧ Below w.heap.size w w' := by
  obtain ⟨A, a, b0, o, hg⟩ := h; exact things_ok a
theorem COwn.left (h : COwn w0 c b per g n w C U T m) : Calls Tryd.prog 25 #[pp b] w fun e w' => e = .returned (.int .i64 (cnt U 0 n : Nat)) ∧ w' = w := by
  obtain ⟨A, a, b0, o, hg⟩ := h; exact left_ok a.pool
end

theorem cache_own {w0 w : World} {b n per : Nat} {A : Nat → Prop} {U : Nat → Bool} {T : Int → Option Nat} {m : Nat} (a : At w b n U T m A) (b0 : Below w0.heap.size w0 w) (o : ∀ i, i < w0.heap.size → ¬ A i) (h1 : 1 ≤ per) (h2 : per ≤ 16) :
    Calls Tryd.prog 33 #[pp b, .int .i64 (per : Int)] w fun e w' => ∃ c, e = .returned (.tuple #[cp c, .nilIface]) ∧ ∃ g, COwn w0 c b per g n w' (fun _ => none) U T m := by
  have hl : ∀ i, A i → i < w.heap.size := fun i hi => a.lt' hi
  refine (cache_ok w b per h1 h2).mono ?_
  rintro e w' ⟨c, he, g, hch, hb, hc, hg⟩
  have hn : num (fun _ => none) n = 0 := sumTo_zero _ _ (fun _ _ _ => rfl)
  refine ⟨c, he, g, A, ⟨by rw [hn]; exact hch, a.keep' (fun i hi => hb.block i (hl i hi)), h1, h2, fun x k hk => (by cases hk), fun x hx => (by cases hx), fun h => by have := hl c h; omega, fun h => by have := hl g h; omega⟩, b0.trans (hb.mono b0.size), o, Nat.le_trans b0.size hg⟩

/-- Only the cache has frames. -/
def Sole (C T : Int → Option Nat) : Prop := ∀ x, T x = (C x).map (fun _ => 0)
theorem Sole.none : Sole (fun _ => none) (fun _ => none) := fun _ => rfl
theorem Sole.old {C T : Int → Option Nat} (h : Sole C T) {f : Int} {m : Nat} (hf : (C f).isSome = true) : Sole (putC C f m) T := fun x => by
  rw [h x]; unfold putC; split
  · rename_i e; rw [e]; cases e' : C f with
    | none => rw [e'] at hf; cases hf
    | some k => rfl
  · rfl
theorem Sole.new {C T : Int → Option Nat} (h : Sole C T) (f : Int) (m : Nat) : Sole (putC C f m) (fun z => if z = f then some 0 else T z) := fun x => by
  unfold putC; simp only; split
  · rfl
  · exact h x
theorem Sole.reap {C T : Int → Option Nat} (h : Sole C T) {ks : List Int} (hk : Ks C ks) : Sole (reap C) (cutL C T ks) := fun x => by
  rw [← cutL_all hk]; unfold cutL; split
  · rfl
  · exact h x

theorem left_num {n : Nat} {U : Nat → Bool} {C T : Int → Option Nat} (inv : Inv n U T) (h : Sole C T) : num C n + cnt U 0 n = n := by
  have key : ∀ f, f < n → (U f = true ↔ (C (f : Int)).isSome = false) := by
    intro f hf
    constructor
    · intro hU
      cases e : C (f : Int) with
      | none => rfl
      | some k =>
        have hT : T (f : Int) = some 0 := by rw [h, e]; rfl
        obtain ⟨_, q, hq, hx⟩ := inv.tk _ _ hT
        have : f = q := by simp at hq; omega
        have := (hx f (by rw [Nat.pow_zero, Nat.div_one]; exact this)).2
        rw [hU] at this; cases this
    · intro hC
      cases hU : U f with
      | true => rfl
      | false =>
        obtain ⟨z, k, hz, hin⟩ := inv.cover f hf hU
        have hk : k = 0 ∧ (C z).isSome = true := by
          rw [h z] at hz
          cases e : C z with
          | none => rw [e] at hz; cases hz
          | some v => rw [e] at hz; cases hz; exact ⟨rfl, rfl⟩
        obtain ⟨rfl, hCz⟩ := hk
        unfold inb at hin
        have : z = (f : Int) := by simp at hin; omega
        rw [this, hC] at hCz; cases hCz
  rw [num, sumTo_cnt (fun f => (C f).isSome)]
  have : ∀ m a, a + m ≤ n → cnt (fun f : Nat => (C f).isSome) a m + cnt U a m = m := by
    intro m; induction m with
    | zero => intro a _; rfl
    | succ m ih =>
      intro a ha
      have h1 := ih (a + 1) (by omega)
      have h2 := key a (by omega)
      rw [cnt, cnt]
      cases e1 : U a with
      | true => rw [h2.1 e1]; simp; omega
      | false =>
        have : (C (a : Int)).isSome = true := by
          cases e2 : (C (a : Int)).isSome with
          | true => rfl
          | false => rw [h2.2 e2] at e1; cases e1
        rw [this]; simp; omega
  exact this n 0 (by omega)

theorem full_cnt0 {n : Nat} {U : Nat → Bool} (hb : ∀ f, U f = true → f < n) (h : ∀ j r, mxb U j r → j < 0) : cnt U 0 n = 0 := by
  rw [← blocks_size hb]
  cases e : blocks U n with
  | nil => rfl
  | cons x l =>
    obtain ⟨q, _, hx⟩ := (blocks_mem hb x.1 x.2).1 (by rw [e]; simp)
    exact absurd (h _ _ hx) (by omega)

theorem at_eq {per : Nat} {f : Int} {l : Nat} (hl : l < per) (j : Int) : j = f * per + l ↔ j / (per : Int) = f ∧ j % (per : Int) = l := by
  constructor
  · rintro rfl; exact div_at f hl
  · rintro ⟨h1, h2⟩
    have := Int.mul_ediv_add_emod j per
    rw [h1, h2, Int.mul_comm] at this; exact this.symm
theorem isT_add {per : Nat} {C : Int → Option Nat} {f : Int} {l : Nat} (hf : 0 ≤ f) (hl : l < per) (j : Int) : isT per (putC C f (val C f ||| 2 ^ l)) j = true ↔ isT per C j = true ∨ j = f * per + l := by
  rw [at_eq hl]
  unfold isT
  have hp : (0 : Int) < per := by omega
  simp only [Bool.and_eq_true, decide_eq_true_eq, val_put]
  by_cases e : j / (per : Int) = f
  · rw [if_pos e, put_bit, e]
    have h0 := Int.emod_nonneg j (show (per : Int) ≠ 0 by omega)
    have hj : 0 ≤ j := by
      apply Int.not_lt.1; intro h
      have := Int.ediv_neg_of_neg_of_pos h hp; omega
    simp only [Bool.or_eq_true, decide_eq_true_eq]
    constructor
    · rintro ⟨_, h | h⟩
      · exact .inl ⟨hj, h⟩
      · exact .inr ⟨trivial, by omega⟩
    · rintro (⟨_, h⟩ | ⟨_, h⟩)
      · exact ⟨hj, .inl h⟩
      · exact ⟨hj, .inr (by omega)⟩
  · rw [if_neg e]
    constructor
    · exact .inl
    · rintro (h | ⟨h, _⟩)
      · exact h
      · exact absurd h e
theorem isT_del {per : Nat} {C : Int → Option Nat} {k : Int} (hp : 1 ≤ per) (hk : isT per C k = true) (j : Int) : isT per (putC C (k / per) (drop (val C (k / per)) (k % per).toNat)) j = true ↔ isT per C j = true ∧ j ≠ k := by
  have hk' := hk
  unfold isT at hk' ⊢
  simp only [Bool.and_eq_true, decide_eq_true_eq] at hk'
  have hkm := Int.emod_nonneg k (show (per : Int) ≠ 0 by omega)
  have hjm := Int.emod_nonneg j (show (per : Int) ≠ 0 by omega)
  simp only [Bool.and_eq_true, decide_eq_true_eq, val_put]
  by_cases e : j / (per : Int) = k / per
  · rw [if_pos e, drop_bit hk'.2, e]
    simp only [Bool.and_eq_true, Bool.not_eq_true', decide_eq_false_iff_not]
    have : (k % (per : Int)).toNat = (j % (per : Int)).toNat ↔ j = k := by
      constructor
      · intro h
        have h1 := Int.mul_ediv_add_emod j per
        have h2 := Int.mul_ediv_add_emod k per
        rw [e] at h1; omega
      · rintro rfl; rfl
    rw [this]
    constructor
    · rintro ⟨h1, h2, h3⟩; exact ⟨⟨h1, h2⟩, h3⟩
    · rintro ⟨⟨h1, h2⟩, h3⟩; exact ⟨h1, h2, h3⟩
  · rw [if_neg e]
    constructor
    · intro h; exact ⟨h, fun e' => e (by rw [e'])⟩
    · exact fun h => h.1
theorem isT_reap (per : Nat) (C : Int → Option Nat) (j : Int) : isT per (reap C) j = isT per C j := by unfold isT; rw [val_reap]
theorem tot_del {C : Int → Option Nat} {n f m : Nat} (hf : f < n) (hm : ones m + 1 = ones (val C f)) : tot (putC C f m) n + 1 = tot C n := by
  refine (sumTo_set (f := f) (d := 1) ?_ (fun i hi => ?_) n 0 (by omega) (by omega)).symm
  · simp only [val_put, if_pos]; exact hm.symm
  · simp only [val_put]; rw [if_neg (by omega)]
end Go.Proofs.YthknommfnajeiaaDoor

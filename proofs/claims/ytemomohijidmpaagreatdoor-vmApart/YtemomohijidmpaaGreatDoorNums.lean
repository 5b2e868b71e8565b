/- Numbers by frames, counted; what is left of a pool whose frames they are. -/
import Derived.Test.YtemomohijidmpaaGreatDoorSums
namespace Go.Proofs.YtemomohijidmpaaGreatDoor
open Go.RowKit

def val (C : Int → Option Nat) (f : Int) : Nat := (C f).getD 0
def putC (C : Int → Option Nat) (f : Int) (m : Nat) : Int → Option Nat := fun x => if x = f then some m else C x
theorem val_put (C : Int → Option Nat) (f : Int) (m : Nat) (x : Int) : val (putC C f m) x = if x = f then m else val C x := by
  unfold val putC; split <;> simp
/-- The frames, rising. -/
def Ks (C : Int → Option Nat) (ks : List Int) : Prop := ks.Pairwise (· < ·) ∧ ∀ x, x ∈ ks ↔ (C x).isSome = true
theorem lt_nodup {ks : List Int} (h : ks.Pairwise (· < ·)) : ks.Nodup := h.imp (fun {a b} hab e => by subst e; omega)
theorem rising_one {ks ks' : List Int} (h : ks.Pairwise (· < ·)) (h' : ks'.Pairwise (· < ·)) (hm : ∀ x, x ∈ ks ↔ x ∈ ks') : ks = ks' := by
  refine List.Perm.eq_of_pairwise (le := (· < ·)) (fun a b _ _ h1 h2 => absurd h1 (by omega)) h h' ?_
  exact (List.perm_ext_iff_of_nodup (lt_nodup h) (lt_nodup h')).2 hm
theorem Ks.one {C : Int → Option Nat} {ks ks' : List Int} (h : Ks C ks) (h' : Ks C ks') : ks = ks' := rising_one h.1 h'.1 (fun x => by rw [h.2, h'.2])
def sumTo (g : Nat → Nat) : Nat → Nat → Nat
  | _, 0 => 0
  | a, m + 1 => g a + sumTo g (a + 1) m
theorem sumTo_congr {g h : Nat → Nat} : ∀ (m a : Nat), (∀ i, a ≤ i → i < a + m → g i = h i) → sumTo g a m = sumTo h a m
  | 0, _, _ => rfl
  | m + 1, a, e => by rw [sumTo, sumTo, e a (by omega) (by omega), sumTo_congr m (a + 1) (fun i h1 h2 => e i (by omega) (by omega))]
theorem sumTo_set {g h : Nat → Nat} {f d : Nat} (hf : h f = g f + d) (ho : ∀ i, i ≠ f → h i = g i) : ∀ (m a : Nat), a ≤ f → f < a + m → sumTo h a m = sumTo g a m + d
  | 0, a, h1, h2 => by omega
  | m + 1, a, h1, h2 => by
    rw [sumTo, sumTo]
    by_cases e : a = f
    · subst e
      rw [hf, sumTo_congr (g := h) (h := g) m (a + 1) (fun i h1 _ => ho i (by omega))]; omega
    · rw [ho a e, sumTo_set hf ho m (a + 1) (by omega) (by omega)]; omega
theorem sumTo_zero {g : Nat → Nat} : ∀ (m a : Nat), (∀ i, a ≤ i → i < a + m → g i = 0) → sumTo g a m = 0
  | 0, _, _ => rfl
  | m + 1, a, e => by rw [sumTo, e a (by omega) (by omega), sumTo_zero m (a + 1) (fun i h1 h2 => e i (by omega) (by omega))]
theorem sumTo_le {g h : Nat → Nat} : ∀ (m a : Nat), (∀ i, a ≤ i → i < a + m → g i ≤ h i) → sumTo g a m ≤ sumTo h a m
  | 0, _, _ => Nat.le_refl _
  | m + 1, a, e => by
    rw [sumTo, sumTo]
    have := e a (by omega) (by omega)
    have := sumTo_le m (a + 1) (fun i h1 h2 => e i (by omega) (by omega)); omega
theorem sumTo_mul (g : Nat → Nat) (d : Nat) : ∀ (m a : Nat), sumTo (fun i => g i * d) a m = sumTo g a m * d
  | 0, _ => by simp [sumTo]
  | m + 1, a => by rw [sumTo, sumTo, sumTo_mul g d m (a + 1), Nat.add_mul]
theorem sumTo_cnt (U : Nat → Bool) : ∀ (m a : Nat), sumTo (fun i => if U i then 1 else 0) a m = cnt U a m
  | 0, _ => rfl
  | m + 1, a => by rw [sumTo, cnt, sumTo_cnt U m (a + 1)]
theorem sum_keys (h : Int → Nat) : ∀ (m a : Nat) (ks : List Int), ks.Pairwise (· < ·) → (∀ x ∈ ks, (a : Int) ≤ x ∧ x < (a : Int) + m) → (ks.map h).sum = sumTo (fun f => if (f : Int) ∈ ks then h f else 0) a m
  | 0, a, ks, _, hb => by
    cases ks with
    | nil => rfl
    | cons x r => have := hb x (by simp); omega
  | m + 1, a, [], _, _ => by rw [sumTo_zero]; rfl; intros; rfl
  | m + 1, a, x :: r, hp, hb => by
    have hx := hb x (by simp)
    obtain ⟨h1, h2⟩ := List.pairwise_cons.1 hp
    by_cases e : x = (a : Int)
    · have ih := sum_keys h m (a + 1) r h2 (fun y hy => by have := h1 y hy; have := hb y (by simp [hy]); omega)
      rw [List.map_cons, List.sum_cons, ih, sumTo, if_pos (by simp [e]), e]
      congr 1
      refine sumTo_congr m (a + 1) (fun i h3 _ => ?_)
      have : ¬ (i : Int) = (a : Int) := by omega
      simp [this]
    · have ih := sum_keys h m (a + 1) (x :: r) hp (fun y hy => by
        have := hb y hy
        rcases List.mem_cons.1 hy with rfl | hy
        · omega
        · have := h1 y hy; omega)
      have hn : ¬ (a : Int) ∈ x :: r := by
        intro hm
        rcases List.mem_cons.1 hm with e' | hm
        · exact e e'.symm
        · have := h1 _ hm; omega
      rw [ih, sumTo, if_neg hn, Nat.zero_add]
def num (C : Int → Option Nat) (n : Nat) : Nat := sumTo (fun f => if (C f).isSome then 1 else 0) 0 n
/-- Frames are from 0 to below n. -/
def Within (C : Int → Option Nat) (n : Nat) : Prop := ∀ x, (C x).isSome = true → 0 ≤ x ∧ x < (n : Int)
theorem val_none {C : Int → Option Nat} {x : Int} (h : ¬ (C x).isSome = true) : val C x = 0 := by
  unfold val; cases e : C x with | none => rfl | some m => rw [e] at h; simp at h
theorem num_keys {C : Int → Option Nat} {ks : List Int} {n : Nat} (hk : Ks C ks) (hw : Within C n) : ks.length = num C n := by
  have h := sum_keys (fun _ => 1) n 0 ks hk.1 (fun x hx => by have := hw x ((hk.2 x).1 hx); simp; omega)
  have e : (ks.map (fun _ => 1)).sum = ks.length := by
    clear h hk; induction ks with
    | nil => rfl
    | cons a l ih => simp [ih]; omega
  rw [← e, h, num]
  refine sumTo_congr _ _ (fun i _ _ => ?_)
  by_cases hc : (C i).isSome = true
  · rw [if_pos ((hk.2 _).2 hc), if_pos hc]
  · rw [if_neg (fun h' => hc ((hk.2 _).1 h')), if_neg hc]
theorem num_put_old {C : Int → Option Nat} {n : Nat} {f : Int} {m : Nat} (h : (C f).isSome = true) : num (putC C f m) n = num C n := by
  refine sumTo_congr _ _ (fun i _ _ => ?_)
  simp only [putC]; split
  · rename_i e; rw [e, h]; rfl
  · rfl
theorem num_put_new {C : Int → Option Nat} {n : Nat} {f : Nat} {m : Nat} (hf : f < n) (h : C f = none) : num (putC C f m) n = num C n + 1 := by
  refine sumTo_set (f := f) ?_ (fun i hi => ?_) n 0 (by omega) (by omega)
  · simp [putC, h]
  · have : ¬ (i : Int) = (f : Int) := by omega
    simp [putC, this]
theorem Within.put {C : Int → Option Nat} {n : Nat} (h : Within C n) {f : Int} {m : Nat} (h0 : 0 ≤ f) (h1 : f < (n : Int)) : Within (putC C f m) n := fun x hx => by
  unfold putC at hx; split at hx
  · rename_i e; subst e; exact ⟨h0, h1⟩
  · exact h x hx
theorem num_le (C : Int → Option Nat) (n : Nat) : num C n ≤ n := by
  have := sumTo_cnt (fun f => (C f).isSome) n 0
  rw [num, this]; exact cnt_le _ _ _
/-- Only the cache has frames. -/
def Sole (C T : Int → Option Nat) : Prop := ∀ x, T x = (C x).map (fun _ => 0)
theorem Sole.none : Sole (fun _ => none) (fun _ => none) := fun _ => rfl
theorem Sole.old {C T : Int → Option Nat} (h : Sole C T) {f : Int} {m : Nat} (hf : (C f).isSome = true) : Sole (putC C f m) T := fun x => by
  rw [h x]; unfold putC; split
  · rename_i e; rw [e]; cases e' : C f with
    | none => rw [e'] at hf; cases hf
    | some k => rfl
  · rfl
theorem Sole.new {C T : Int → Option Nat} (h : Sole C T) (f : Int) (m : Nat) : Sole (putC C f m) (fun z => if z = f then some 0 else T z) := fun x => by
  unfold putC; simp only; split
  · rfl
  · exact h x
theorem left_num {n : Nat} {U : Nat → Bool} {C T : Int → Option Nat} (inv : Inv n U T) (h : Sole C T) : num C n + cnt U 0 n = n := by
  have key : ∀ f, f < n → (U f = true ↔ (C (f : Int)).isSome = false) := by
    intro f hf
    constructor
    · intro hU
      cases e : C (f : Int) with
      | none => rfl
      | some k =>
        have hT : T (f : Int) = some 0 := by rw [h, e]; rfl
        obtain ⟨_, q, hq, hx⟩ := inv.tk _ _ hT
        have : f = q := by simp at hq; omega
        have := (hx f (by rw [Nat.pow_zero, Nat.div_one]; exact this)).2
        rw [hU] at this; cases this
    · intro hC
      cases hU : U f with
      | true => rfl
      | false =>
        obtain ⟨z, k, hz, hin⟩ := inv.cover f hf hU
        have hk : k = 0 ∧ (C z).isSome = true := by
          rw [h z] at hz
          cases e : C z with
          | none => rw [e] at hz; cases hz
          | some v => rw [e] at hz; cases hz; exact ⟨rfl, rfl⟩
        obtain ⟨rfl, hCz⟩ := hk
        unfold inb at hin
        have : z = (f : Int) := by simp at hin; omega
        rw [this, hC] at hCz; cases hCz
  rw [num, sumTo_cnt (fun f => (C f).isSome)]
  have : ∀ m a, a + m ≤ n → cnt (fun f : Nat => (C f).isSome) a m + cnt U a m = m := by
    intro m; induction m with
    | zero => intro a _; rfl
    | succ m ih =>
      intro a ha
      have h1 := ih (a + 1) (by omega)
      have h2 := key a (by omega)
      rw [cnt, cnt]
      cases e1 : U a with
      | true => rw [h2.1 e1]; simp; omega
      | false =>
        have : (C (a : Int)).isSome = true := by
          cases e2 : (C (a : Int)).isSome with
          | true => rfl
          | false => rw [h2.2 e2] at e1; cases e1
        rw [this]; simp; omega
  exact this n 0 (by omega)
theorem full_cnt0 {n : Nat} {U : Nat → Bool} (hb : ∀ f, U f = true → f < n) (h : ∀ j r, mxb U j r → j < 0) : cnt U 0 n = 0 := by
  rw [← blocks_size hb]
  cases e : blocks U n with
  | nil => rfl
  | cons x l =>
    obtain ⟨q, _, hx⟩ := (blocks_mem hb x.1 x.2).1 (by rw [e]; simp)
    exact absurd (h _ _ hx) (by omega)
end Go.Proofs.YtemomohijidmpaaGreatDoor

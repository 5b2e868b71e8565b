/- A cache's frames, each with its places, plainly. -/
import Derived.Test.YthknommfnajeiaaDoorBits
namespace Go.Proofs.YthknommfnajeiaaDoor
open Go.RowKit Go.Lib

def val (C : Int → Option Nat) (f : Int) : Nat := (C f).getD 0
def begun (per : Nat) (C : Int → Option Nat) (f : Int) : Bool := !decide (val C f = 0) && decide (ones (val C f) < per)
def vac (C : Int → Option Nat) (f : Int) : Bool := decide (val C f = 0)
def putC (C : Int → Option Nat) (f : Int) (m : Nat) : Int → Option Nat := fun x => if x = f then some m else C x
theorem val_put (C : Int → Option Nat) (f : Int) (m : Nat) (x : Int) : val (putC C f m) x = if x = f then m else val C x := by
  unfold val putC; split <;> simp
/-- The frames, rising. -/
def Ks (C : Int → Option Nat) (ks : List Int) : Prop := ks.Pairwise (· < ·) ∧ ∀ x, x ∈ ks ↔ (C x).isSome = true

theorem lt_nodup {ks : List Int} (h : ks.Pairwise (· < ·)) : ks.Nodup := h.imp (fun {a b} hab e => by subst e; omega)
theorem rising_one {ks ks' : List Int} (h : ks.Pairwise (· < ·)) (h' : ks'.Pairwise (· < ·)) (hm : ∀ x, x ∈ ks ↔ x ∈ ks') : ks = ks' := by
  refine List.Perm.eq_of_pairwise (le := (· < ·)) (fun a b _ _ h1 h2 => absurd h1 (by omega)) h h' ?_
  exact (List.perm_ext_iff_of_nodup (lt_nodup h) (lt_nodup h')).2 hm
theorem Ks.one {C : Int → Option Nat} {ks ks' : List Int} (h : Ks C ks) (h' : Ks C ks') : ks = ks' := rising_one h.1 h'.1 (fun x => by rw [h.2, h'.2])

def sumTo (g : Nat → Nat) : Nat → Nat → Nat
  | _, 0 => 0
  | a, m + 1 => g a + sumTo g (a + 1) m
theorem sumTo_congr {g h : Nat → Nat} : ∀ (m a : Nat), (∀ i, a ≤ i → i < a + m → g i = h i) → sumTo g a m = sumTo h a m
  | 0, _, _ => rfl
  | m + 1, a, e => by rw [sumTo, sumTo, e a (by omega) (by omega), sumTo_congr m (a + 1) (fun i h1 h2 => e i (by omega) (by omega))]
theorem sumTo_set {g h : Nat → Nat} {f d : Nat} (hf : h f = g f + d) (ho : ∀ i, i ≠ f → h i = g i) : ∀ (m a : Nat), a ≤ f → f < a + m → sumTo h a m = sumTo g a m + d
  | 0, a, h1, h2 => by omega
  | m + 1, a, h1, h2 => by
    rw [sumTo, sumTo]
    by_cases e : a = f
    · subst e
      rw [hf, sumTo_congr (g := h) (h := g) m (a + 1) (fun i h1 _ => ho i (by omega))]; omega
    · rw [ho a e, sumTo_set hf ho m (a + 1) (by omega) (by omega)]; omega
theorem sumTo_zero {g : Nat → Nat} : ∀ (m a : Nat), (∀ i, a ≤ i → i < a + m → g i = 0) → sumTo g a m = 0
  | 0, _, _ => rfl
  | m + 1, a, e => by rw [sumTo, e a (by omega) (by omega), sumTo_zero m (a + 1) (fun i h1 h2 => e i (by omega) (by omega))]
theorem sumTo_le {g h : Nat → Nat} : ∀ (m a : Nat), (∀ i, a ≤ i → i < a + m → g i ≤ h i) → sumTo g a m ≤ sumTo h a m
  | 0, _, _ => Nat.le_refl _
  | m + 1, a, e => by
    rw [sumTo, sumTo]
    have := e a (by omega) (by omega)
    have := sumTo_le m (a + 1) (fun i h1 h2 => e i (by omega) (by omega)); omega
theorem sumTo_mul (g : Nat → Nat) (d : Nat) : ∀ (m a : Nat), sumTo (fun i => g i * d) a m = sumTo g a m * d
  | 0, _ => by simp [sumTo]
  | m + 1, a => by rw [sumTo, sumTo, sumTo_mul g d m (a + 1), Nat.add_mul]
theorem sumTo_cnt (U : Nat → Bool) : ∀ (m a : Nat), sumTo (fun i => if U i then 1 else 0) a m = cnt U a m
  | 0, _ => rfl
  | m + 1, a => by rw [sumTo, cnt, sumTo_cnt U m (a + 1)]

theorem sum_keys (h : Int → Nat) : ∀ (m a : Nat) (ks : List Int), ks.Pairwise (· < ·) → (∀ x ∈ ks, (a : Int) ≤ x ∧ x < (a : Int) + m) → (ks.map h).sum = sumTo (fun f => if (f : Int) ∈ ks then h f else 0) a m
  | 0, a, ks, _, hb => by
    cases ks with
    | nil => rfl
    | cons x r => have := hb x (by simp); omega
  | m + 1, a, [], _, _ => by rw [sumTo_zero]; rfl; intros; rfl
  | m + 1, a, x :: r, hp, hb => by
    have hx := hb x (by simp)
    obtain ⟨h1, h2⟩ := List.pairwise_cons.1 hp
    by_cases e : x = (a : Int)
    · have ih := sum_keys h m (a + 1) r h2 (fun y hy => by have := h1 y hy; have := hb y (by simp [hy]); omega)
      rw [List.map_cons, List.sum_cons, ih, sumTo, if_pos (by simp [e]), e]
      congr 1
      refine sumTo_congr m (a + 1) (fun i h3 _ => ?_)
      have : ¬ (i : Int) = (a : Int) := by omega
      simp [this]
    · have ih := sum_keys h m (a + 1) (x :: r) hp (fun y hy => by
        have := hb y hy
        rcases List.mem_cons.1 hy with rfl | hy
        · omega
        · have := h1 y hy; omega)
      have hn : ¬ (a : Int) ∈ x :: r := by
        intro hm
        rcases List.mem_cons.1 hm with e' | hm
        · exact e e'.symm
        · have := h1 _ hm; omega
      rw [ih, sumTo, if_neg hn, Nat.zero_add]

/-- How many things; how many frames. -/
def tot (C : Int → Option Nat) (n : Nat) : Nat := sumTo (fun f => ones (val C f)) 0 n
def num (C : Int → Option Nat) (n : Nat) : Nat := sumTo (fun f => if (C f).isSome then 1 else 0) 0 n
/-- Frames are from 0 to below n. -/
def Within (C : Int → Option Nat) (n : Nat) : Prop := ∀ x, (C x).isSome = true → 0 ≤ x ∧ x < (n : Int)

theorem val_none {C : Int → Option Nat} {x : Int} (h : ¬ (C x).isSome = true) : val C x = 0 := by
  unfold val; cases e : C x with | none => rfl | some m => rw [e] at h; simp at h
theorem tot_keys {C : Int → Option Nat} {ks : List Int} {n : Nat} (hk : Ks C ks) (hw : Within C n) : (ks.map (fun f => ones (val C f))).sum = tot C n := by
  rw [sum_keys (fun f => ones (val C f)) n 0 ks hk.1 (fun x hx => by have := hw x ((hk.2 x).1 hx); simp; omega), tot]
  refine sumTo_congr _ _ (fun i _ _ => ?_)
  split
  · rfl
  · rename_i h; rw [val_none (fun h' => h ((hk.2 _).2 h')), ones_zero]
theorem num_keys {C : Int → Option Nat} {ks : List Int} {n : Nat} (hk : Ks C ks) (hw : Within C n) : ks.length = num C n := by
  have h := sum_keys (fun _ => 1) n 0 ks hk.1 (fun x hx => by have := hw x ((hk.2 x).1 hx); simp; omega)
  have e : (ks.map (fun _ => 1)).sum = ks.length := by
    clear h hk; induction ks with
    | nil => rfl
    | cons a l ih => simp [ih]; omega
  rw [← e, h, num]
  refine sumTo_congr _ _ (fun i _ _ => ?_)
  by_cases hc : (C i).isSome = true
  · rw [if_pos ((hk.2 _).2 hc), if_pos hc]
  · rw [if_neg (fun h' => hc ((hk.2 _).1 h')), if_neg hc]

theorem tot_put {C : Int → Option Nat} {n : Nat} {f : Nat} {m d : Nat} (hf : f < n) (hm : ones m = ones (val C f) + d) : tot (putC C f m) n = tot C n + d := by
  refine sumTo_set (f := f) ?_ (fun i hi => ?_) n 0 (by omega) (by omega)
  · simp only [val_put, if_pos]; exact hm
  · simp only [val_put]; rw [if_neg (by omega)]
theorem num_put_old {C : Int → Option Nat} {n : Nat} {f : Int} {m : Nat} (h : (C f).isSome = true) : num (putC C f m) n = num C n := by
  refine sumTo_congr _ _ (fun i _ _ => ?_)
  simp only [putC]; split
  · rename_i e; rw [e, h]; rfl
  · rfl
theorem num_put_new {C : Int → Option Nat} {n : Nat} {f : Nat} {m : Nat} (hf : f < n) (h : C f = none) : num (putC C f m) n = num C n + 1 := by
  refine sumTo_set (f := f) ?_ (fun i hi => ?_) n 0 (by omega) (by omega)
  · simp [putC, h]
  · have : ¬ (i : Int) = (f : Int) := by omega
    simp [putC, this]
theorem Within.put {C : Int → Option Nat} {n : Nat} (h : Within C n) {f : Int} {m : Nat} (h0 : 0 ≤ f) (h1 : f < (n : Int)) : Within (putC C f m) n := fun x hx => by
  unfold putC at hx; split at hx
  · rename_i e; subst e; exact ⟨h0, h1⟩
  · exact h x hx

/-- No frame has more than per. -/
def Most (per : Nat) (C : Int → Option Nat) : Prop := ∀ x m, C x = some m → m < 2 ^ per
theorem Most.val {per : Nat} {C : Int → Option Nat} (h : Most per C) (x : Int) : val C x < 2 ^ per := by
  unfold Proofs.YthknommfnajeiaaDoor.val; cases e : C x with
  | none => exact Nat.two_pow_pos per
  | some m => exact h x m e
theorem Most.put {per : Nat} {C : Int → Option Nat} (h : Most per C) {f : Int} {m : Nat} (hm : m < 2 ^ per) : Most per (putC C f m) := fun x k hk => by
  unfold putC at hk; split at hk
  · cases hk; exact hm
  · exact h x k hk
theorem ones_per_le {per m : Nat} (hp : per ≤ 16) (hm : m < 2 ^ per) : ones m ≤ per := by rw [ones_per hp hm]; exact cnt_le _ _ _
theorem tot_le {per n : Nat} {C : Int → Option Nat} (hp : per ≤ 16) (h : Most per C) : tot C n ≤ num C n * per := by
  rw [num, ← sumTo_mul]
  refine sumTo_le _ _ (fun i _ _ => ?_)
  by_cases hc : (C i).isSome = true
  · rw [if_pos hc, Nat.one_mul]; exact ones_per_le hp (h.val i)
  · rw [val_none hc, ones_zero]; exact Nat.zero_le _

/-- Frames without things go. -/
def reap (C : Int → Option Nat) : Int → Option Nat := fun x => if val C x = 0 then none else C x
theorem val_reap (C : Int → Option Nat) (x : Int) : val (reap C) x = val C x := by
  by_cases h : val C x = 0
  · have e : reap C x = none := by unfold reap; rw [if_pos h]
    rw [h, Proofs.YthknommfnajeiaaDoor.val, e]; rfl
  · have e : reap C x = C x := by unfold reap; rw [if_neg h]
    rw [Proofs.YthknommfnajeiaaDoor.val, e]; rfl
theorem tot_reap (C : Int → Option Nat) (n : Nat) : tot (reap C) n = tot C n := sumTo_congr _ _ (fun i _ _ => by simp only [val_reap])
theorem some_of_val {C : Int → Option Nat} {x : Int} (h : val C x ≠ 0) : (C x).isSome = true := by
  apply Classical.byContradiction; intro hc; exact h (val_none hc)
theorem reap_some (C : Int → Option Nat) (x : Int) : (reap C x).isSome = true ↔ val C x ≠ 0 := by
  unfold reap; split
  · rename_i h; simp [h]
  · rename_i h; exact ⟨fun _ => h, some_of_val⟩
theorem num_reap {per n : Nat} {C : Int → Option Nat} (hp : per ≤ 16) (h : Most per C) : num (reap C) n ≤ tot C n := by
  refine sumTo_le _ _ (fun i _ _ => ?_)
  have hv : val C i < 65536 := Nat.lt_of_lt_of_le (h.val i) (Nat.pow_le_pow_right (by omega : 0 < 2) hp)
  by_cases hc : val C i = 0
  · rw [if_neg (by rw [reap_some]; simpa using hc)]; exact Nat.zero_le _
  · rw [if_pos ((reap_some C i).2 hc)]
    exact Nat.one_le_iff_ne_zero.2 (fun h0 => hc ((ones_pos hv).1 h0))
theorem Within.reap {C : Int → Option Nat} {n : Nat} (h : Within C n) : Within (reap C) n := fun x hx => h x (some_of_val ((reap_some C x).1 hx))
theorem Most.reap {per : Nat} {C : Int → Option Nat} (h : Most per C) : Most per (reap C) := fun x m hm => by
  unfold Proofs.YthknommfnajeiaaDoor.reap at hm; split at hm
  · cases hm
  · exact h x m hm

/-- There is such a thing. -/
def isT (per : Nat) (C : Int → Option Nat) (k : Int) : Bool := decide (0 ≤ k) && (val C (k / per)).testBit (k % per).toNat
theorem div_at {per : Nat} (f : Int) {k : Nat} (hk : k < per) : (f * per + k) / (per : Int) = f ∧ (f * per + k) % (per : Int) = k := by
  have hp : (per : Int) ≠ 0 := by omega
  rw [Int.add_comm, Int.add_mul_ediv_right _ _ hp, Int.add_mul_emod_self_right]
  rw [Int.ediv_eq_zero_of_lt (by omega) (by omega), Int.emod_eq_of_lt (by omega) (by omega)]
  exact ⟨by omega, rfl⟩
end Go.Proofs.YthknommfnajeiaaDoor

/- What is taken and what is free, plainly: together they part the frames. -/
import Derived.Test.YthknommfnajeiaaDoorHeld
namespace Go.Proofs.YthknommfnajeiaaDoor
open Go.RowKit

/-- A frame of one of these blocks. -/
def cov (L : List (Int × Int)) (f : Nat) : Bool := L.any fun x => decide (x.1 ≤ (f : Int) ∧ (f : Int) < x.1 + (2 ^ x.2.toNat : Nat))
theorem cov_iff {L : List (Int × Int)} {f : Nat} : cov L f = true ↔ ∃ x ∈ L, inb x.1 x.2.toNat f := by
  simp [cov, inb]

/-- Blocks that part n frames. -/
structure Parts (n : Nat) (B : List (Int × Int)) : Prop where
  form : ∀ x ∈ B, ∃ k q : Nat, k ≤ 6 ∧ x = toInt (q * 2 ^ k, k) ∧ q * 2 ^ k + 2 ^ k ≤ n
  apart : B.Pairwise (fun x y => ∀ f : Nat, inb x.1 x.2.toNat f → ¬ inb y.1 y.2.toNat f)
  cover : ∀ f, f < n → ∃ x ∈ B, inb x.1 x.2.toNat f

theorem last_in (k q : Nat) : (q * 2 ^ k + (2 ^ k - 1)) / 2 ^ k = q := by
  rw [in_iff]; have := Nat.two_pow_pos k; omega

theorem inb_toInt {q k f : Nat} : inb (toInt (q * 2 ^ k, k)).1 (toInt (q * 2 ^ k, k)).2.toNat f ↔ f / 2 ^ k = q := by
  rw [← inb_iff]; simp [toInt]

theorem parts_of {n : Nat} {U : Nat → Bool} {T : Int → Option Nat} {L : List (Int × Int)} (inv : Inv n U T) (h : Held L T) : Parts n (L ++ (blocks U n).map toInt) := by
  have hL : ∀ x ∈ L, ∃ k q : Nat, k ≤ 6 ∧ x = toInt (q * 2 ^ k, k) ∧ T x.1 = some k ∧ ∀ f, f / 2 ^ k = q → f < n ∧ U f = false := by
    intro x hx
    obtain ⟨k, hk, hT⟩ := h.mem x hx
    obtain ⟨h6, q, hq, hf⟩ := inv.tk _ _ hT
    exact ⟨k, q, h6, Prod.ext hq hk, hT, hf⟩
  refine ⟨fun x hx => ?_, ?_, fun f hf => ?_⟩
  · rcases List.mem_append.1 hx with hx | hx
    · obtain ⟨k, q, h6, rfl, _, hf⟩ := hL x hx
      have := (hf _ (last_in k q)).1
      have := Nat.two_pow_pos k
      exact ⟨k, q, h6, rfl, by omega⟩
    · obtain ⟨k, q, rfl, hm⟩ := (mem_blocks_int inv.bound x).1 hx
      have := inv.bound _ (hm.2.1 _ (last_in k q))
      have := Nat.two_pow_pos k
      exact ⟨k, q, hm.1, rfl, by omega⟩
  · rw [List.pairwise_append]
    refine ⟨h.one.imp_of_mem ?_, ?_, ?_⟩
    · rintro x y hx hy hne f h1 h2
      obtain ⟨k, q, _, ex, hT, _⟩ := hL x hx
      obtain ⟨k', q', _, ey, hT', _⟩ := hL y hy
      have e1 : x.2.toNat = k := by rw [ex]; simp [toInt]
      have e2 : y.2.toNat = k' := by rw [ey]; simp [toInt]
      rw [e1] at h1; rw [e2] at h2
      exact hne (inv.dj _ _ _ _ f hT hT' h1 h2)
    · rw [List.pairwise_map]
      refine (blocks_sorted inv.bound).imp_of_mem ?_
      rintro ⟨b, k⟩ ⟨b', k'⟩ hx hy hlt f h1 h2
      obtain ⟨q, rfl, hm⟩ := (blocks_mem inv.bound _ _).1 hx
      obtain ⟨q', rfl, hm'⟩ := (blocks_mem inv.bound _ _).1 hy
      obtain ⟨e1, e2⟩ := mx_one hm hm' (inb_toInt.1 h1) (inb_toInt.1 h2)
      subst e1; subst e2; omega
    · rintro x hx y hy f h1 h2
      obtain ⟨k, q, _, rfl, _, hf⟩ := hL x hx
      obtain ⟨k', q', rfl, hm⟩ := (mem_blocks_int inv.bound y).1 hy
      have a := (hf f (inb_toInt.1 h1)).2
      rw [hm.2.1 f (inb_toInt.1 h2)] at a; cases a
  · cases hU : U f with
    | false =>
      obtain ⟨z, k, hT, hin⟩ := inv.cover f hf hU
      exact ⟨_, List.mem_append_left _ (h.all z k hT), by simpa using hin⟩
    | true =>
      obtain ⟨j, m, _, hm, hx⟩ := in_mxb U 6 0 f rfl (by omega) (fun g hg => by rw [Nat.pow_zero, Nat.div_one] at hg; rw [hg]; exact hU)
      exact ⟨_, List.mem_append_right _ ((mem_blocks_int inv.bound _).2 ⟨j, m, rfl, hx⟩), inb_toInt.2 (by rw [hm, Nat.sub_zero])⟩

theorem Parts.fresh {n : Nat} {B : List (Int × Int)} (h : Parts n B) {i : Nat} (hi : i < B.length) {f : Nat} (hf : inb B[i].1 B[i].2.toNat f) : cov (B.take i) f = false := by
  cases hc : cov (B.take i) f with
  | false => rfl
  | true =>
    obtain ⟨x, hx, hin⟩ := cov_iff.1 hc
    obtain ⟨j, hj, rfl⟩ := List.mem_iff_getElem.1 hx
    have hj' : j < i := by simp at hj; omega
    rw [List.getElem_take] at hin
    exact absurd hf (List.pairwise_iff_getElem.1 h.apart j i (by omega) hi hj' f hin)

theorem cov_succ {B : List (Int × Int)} {i : Nat} (hi : i < B.length) {q k : Nat} (hx : B[i] = toInt (q * 2 ^ k, k)) : cov (B.take (i + 1)) = fun f => cov (B.take i) f || decide (q * 2 ^ k ≤ f ∧ f < q * 2 ^ k + 2 ^ k) := by
  funext f
  rw [List.take_succ_eq_append_getElem hi, hx]
  have e : decide ((toInt (q * 2 ^ k, k)).1 ≤ (f : Int) ∧ (f : Int) < (toInt (q * 2 ^ k, k)).1 + (2 ^ (toInt (q * 2 ^ k, k)).2.toNat : Nat)) = decide (q * 2 ^ k ≤ f ∧ f < q * 2 ^ k + 2 ^ k) := by
    apply decide_eq_decide.2
    show ((q * 2 ^ k : Nat) : Int) ≤ f ∧ (f : Int) < ((q * 2 ^ k : Nat) : Int) + ((2 ^ ((k : Int)).toNat : Nat) : Int) ↔ _
    rw [Int.toNat_natCast]; omega
  rw [cov, List.any_append, List.any_cons, List.any_nil, Bool.or_false, e]
  rfl

theorem Parts.all {n : Nat} {B : List (Int × Int)} (h : Parts n B) {f : Nat} (hf : f < n) : cov B f = true := cov_iff.2 (h.cover f hf)
theorem Parts.only {n : Nat} {B : List (Int × Int)} (h : Parts n B) {f : Nat} (hf : cov B f = true) : f < n := by
  obtain ⟨x, hx, hin⟩ := cov_iff.1 hf
  obtain ⟨k, q, _, rfl, hn⟩ := h.form x hx
  have := (in_iff f k q).1 (inb_toInt.1 hin); omega

theorem cnt_congr {U V : Nat → Bool} : ∀ (m a : Nat), (∀ i, a ≤ i → i < a + m → U i = V i) → cnt U a m = cnt V a m
  | 0, _, _ => rfl
  | m + 1, a, h => by
    rw [cnt, cnt, h a (by omega) (by omega), cnt_congr m (a + 1) (fun i h1 h2 => h i (by omega) (by omega))]
theorem cnt_set {V : Nat → Bool} {f : Nat} (hf : V f = false) : ∀ (m a : Nat), a ≤ f → f < a + m → cnt (fun i => if i = f then true else V i) a m = cnt V a m + 1
  | 0, a, h1, h2 => by omega
  | m + 1, a, h1, h2 => by
    by_cases e : a = f
    · subst e
      rw [cnt, cnt, cnt_congr (U := fun i => if i = a then true else V i) (V := V) m (a + 1) (fun i h3 _ => if_neg (by omega)), hf]
      simp; omega
    · rw [cnt, cnt, cnt_set hf m (a + 1) (by omega) (by omega)]
      simp only [if_neg e]; omega

/-- The map that tells of each frame how often it was met. -/
def mo (V : Nat → Bool) : Int → Option Value := fun a => if 0 ≤ a ∧ V a.toNat = true then some (.int .i64 1) else none
theorem mo_put (V : Nat → Bool) (f : Nat) : (fun a => if a = (f : Int) then some (.int .i64 1) else mo V a) = mo (fun i => if i = f then true else V i) := by
  funext a
  simp only [mo]
  by_cases h : a = (f : Int)
  · subst h; simp
  · rw [if_neg h]
    by_cases h0 : 0 ≤ a
    · have : a.toNat ≠ f := by omega
      simp [h0, this]
    · simp [h0]
theorem mo_none {V : Nat → Bool} {f : Nat} (h : V f = false) : mo V (f : Int) = none := by simp [mo, h]
theorem mo_some {V : Nat → Bool} {f : Nat} (h : V f = true) : mo V (f : Int) = some (.int .i64 1) := by simp [mo, h]
theorem mo_bot : mo (fun _ => false) = fun _ => none := by funext a; simp [mo]
theorem cnt_bot : ∀ (m a : Nat), cnt (fun _ => false) a m = 0
  | 0, _ => rfl
  | m + 1, a => by rw [cnt, cnt_bot m]; rfl

theorem size_take (l : List (Nat × Nat)) (j : Nat) (h : j < l.length) : size (l.take (j + 1)) = size (l.take j) + 2 ^ l[j].2 := by
  unfold size
  rw [List.take_succ_eq_append_getElem h, List.map_append, List.sum_append]
  simp only [List.map_cons, List.map_nil, List.sum_cons, List.sum_nil, Nat.add_zero]
theorem size_take_le (l : List (Nat × Nat)) (j : Nat) : size (l.take j) ≤ size l := by
  conv => rhs; rw [← List.take_append_drop j l]
  simp only [size, List.map_append, List.sum_append]; omega

/-- No two free halves of one block stand beside each other. -/
theorem no_half {U : Nat → Bool} {n : Nat} (hb : ∀ f, U f = true → f < n) {k q : Nat} (hk : k < 6) (h : toInt (q * 2 ^ k, k) ∈ (blocks U n).map toInt) : toInt (bud q * 2 ^ k, k) ∉ (blocks U n).map toInt := by
  have one : ∀ {r}, toInt (r * 2 ^ k, k) ∈ (blocks U n).map toInt → mxb U k r := by
    intro r hr
    obtain ⟨j, s, e, hx⟩ := (mem_blocks_int hb _).1 hr
    simp only [toInt, Prod.mk.injEq] at e
    have e2 : k = j := by omega
    subst e2
    rw [at_order e.1]; exact hx
  intro h2
  have m1 := one h
  have m2 := one h2
  refine m1.2.2 hk (fun f hf => ?_)
  rw [div_succ] at hf
  rcases half_or hf with e | e
  · exact m1.2.1 f e
  · exact m2.2.1 f e
end Go.Proofs.YthknommfnajeiaaDoor

/- What a map's keys are, as a list; a pool's map is never greater than the pool; Give and Alloc of single frames. -/
import Derived.Test.YtcllfedpdcjbcaaDoorPages
import Derived.Test.YtcllfedpdcjbcaaDoorAtBest
import Derived.Lib.SlKeysI
namespace Go.Proofs.YtcllfedpdcjbcaaDoor
open Go.RowKit Go.Shelf Go.Lib Go.Sort Go.Maps

/-- What a map's keys are. -/
theorem PMap.data {w : World} {g s : Nat} {M : Int → Option Value} (m : PMap w g s M) : ∃ D : DataW Value, w.ownsMap Tryd.prog 3 self g s D ∧ Maps.size D = s ∧ (Go.intKeys D).Nodup ∧ (Go.intKeys D).length = s ∧ ∀ x, x ∈ Go.intKeys D ↔ (M x).isSome = true := by
  obtain ⟨D, hown, hs, hS, _⟩ := m
  refine ⟨D, hown, hs, ?_⟩
  obtain ⟨es, hD, hpw, _⟩ := hown.entries keyedInt
  obtain ⟨es', hD', hko⟩ := hown.keysOf
  obtain rfl : es = es' := by rw [hD] at hD'; simpa using hD'
  have hk : ∀ p ∈ es, ∃ x, p.1 = .int .i64 x := fun p hp => by
    obtain ⟨v, hv⟩ := hko p hp
    obtain ⟨x, _, hx, _⟩ := Maps.keyOf_i64 Tryd.underlying3 hv
    exact ⟨x, hx⟩
  have hnd : (es.map fun p => Go.intOf p.1).Nodup := by
    refine List.pairwise_map.2 (hpw.imp_of_mem fun {p q} hp hq hne e => hne ?_)
    obtain ⟨a, ha⟩ := hk p hp
    obtain ⟨d, hd⟩ := hk q hq
    rw [ha, hd] at e ⊢
    exact congrArg _ e
  subst hD
  refine ⟨hnd, by rw [← hs]; simp [Go.intKeys, Maps.size], fun x => ?_⟩
  rw [← hS x, has_eq, List.any_eq_true]
  show x ∈ es.map (fun p => Go.intOf p.1) ↔ _
  rw [List.mem_map]
  constructor
  · rintro ⟨p, hp, rfl⟩
    obtain ⟨a, ha⟩ := hk p hp
    exact ⟨p, hp, by rw [ha]; simp [Lit.sameKey, Go.intOf]⟩
  · rintro ⟨p, hp, hq⟩
    obtain ⟨a, ha⟩ := hk p hp
    rw [ha] at hq
    exact ⟨p, hp, by rw [ha]; simpa [Lit.sameKey, Go.intOf] using hq⟩
theorem sorted_keys {ss : List Int} (h : ss.Nodup) : (ss.mergeSort (fun x y => decide (x ≤ y))).Pairwise (· < ·) := by
  have tr : ∀ a b c : Int, decide (a ≤ b) = true → decide (b ≤ c) = true → decide (a ≤ c) = true := fun a b c h1 h2 => by simp only [decide_eq_true_eq] at *; omega
  have tl : ∀ a b : Int, (decide (a ≤ b) || decide (b ≤ a)) = true := fun a b => by simp only [Bool.or_eq_true, decide_eq_true_eq]; omega
  have h1 := List.pairwise_mergeSort tr tl ss
  have h2 : (ss.mergeSort (fun x y => decide (x ≤ y))).Nodup := (List.mergeSort_perm ss _).nodup_iff.2 h
  exact h1.imp₂ (fun {a b} h1 h2 => by simp only [decide_eq_true_eq] at h1; omega) h2

theorem PMap.size_num {w : World} {g s n : Nat} {T : Int → Option Nat} (m : PMap w g s (tm T)) (hw : Within T n) : s = num T n := by
  obtain ⟨D, _, _, hnd, hl, hk⟩ := m.data
  have hp := sorted_keys hnd
  have hK : Ks T ((Go.intKeys D).mergeSort (fun x y => decide (x ≤ y))) := ⟨hp, fun x => by
    rw [(List.mergeSort_perm _ _).mem_iff, hk x]; unfold tm; cases T x <;> simp⟩
  rw [← num_keys hK hw, (List.mergeSort_perm _ _).length_eq, hl]

theorem Inv.within {n : Nat} {U : Nat → Bool} {T : Int → Option Nat} (h : Inv n U T) : Within T n := fun x hx => by
  cases e : T x with
  | none => rw [e] at hx; cases hx
  | some k =>
    obtain ⟨_, q, hq, hf⟩ := h.tk x k e
    have := (hf _ (first_in k q)).1
    omega

section
variable {w : World} {b n : Nat} {U : Nat → Bool} {T : Int → Option Nat} {m : Nat} {A : Nat → Prop}
theorem At.inv (h : At w b n U T m A) : Inv n U T := by obtain ⟨g, O, V, F, s, p, c, pm, hs, inv, hn, hA⟩ := h; exact inv
theorem At.n256 (h : At w b n U T m A) : n ≤ 256 := by obtain ⟨g, O, V, F, s, p, c, pm, hs, inv, hn, hA⟩ := h; exact hn
theorem At.shrink (h : At w b n U T m A) : At w b n U T 256 A := by
  obtain ⟨g, O, V, F, s, p, c, pm, hs, inv, hn, hA⟩ := h
  refine ⟨g, O, V, F, s, p, c, pm, ?_, inv, hn, hA⟩
  rw [pm.size_num inv.within]
  exact Nat.le_trans (num_le _ _) hn

theorem give0 (h : At w b n U T m A) (f : Nat) (ht : T (f : Int) = some 0) :
    Calls Tryd.prog 26 #[pp b, .int .i64 (f : Int), .int .i64 0] w fun e w' => e = .returned .nilIface ∧ ∃ U', Turns w b n A w' U' (fun z => if z = (f : Int) then none else T z) m := by
  have h0 := give_ok h f 0 (by simpa using ht)
  simp only [Nat.pow_zero, Nat.mul_one] at h0
  refine h0.mono ?_
  rintro e w' ⟨he, t⟩
  exact ⟨he, _, t⟩
theorem alloc0 (h : At w b n U T m A) (hm : m < 10000) :
    Calls Tryd.prog 25 #[pp b, .int .i64 0] w fun e w' => (cnt U 0 n = 0 ∧ e = .returned (.tuple #[.int .i64 0, enr 12]) ∧ w' = w) ∨
      ∃ f : Nat, f < n ∧ T (f : Int) = none ∧ e = .returned (.tuple #[.int .i64 (f : Int), .nilIface]) ∧ ∃ U', Turns w b n A w' U' (fun z => if z = (f : Int) then some 0 else T z) (m + 1) := by
  by_cases hno : ∀ j r, mxb U j r → j < 0
  · refine (alloc_none h 0 (by omega) hno).mono ?_
    rintro e w' ⟨he, hw⟩
    exact .inl ⟨full_cnt0 h.inv.bound hno, he, hw⟩
  · obtain ⟨k, q, hB, hT⟩ := h.best 0 hno
    refine (alloc_some h hm 0 (by omega) k q hB).mono ?_
    rintro e w' ⟨he, t⟩
    have hl : q * 2 ^ k < n := by
      obtain ⟨⟨q', hq', hx⟩, _, _⟩ := hB
      rw [hq']; exact h.inv.bound _ (hx.2.1 _ (first_in _ _))
    exact .inr ⟨q * 2 ^ k, hl, hT, he, _, t⟩
end
end Go.Proofs.YtcllfedpdcjbcaaDoor

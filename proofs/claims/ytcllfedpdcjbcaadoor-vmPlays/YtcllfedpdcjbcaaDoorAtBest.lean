/- A pool: where it lies; the best of its blocks that serve. -/
import Derived.Test.YtcllfedpdcjbcaaDoorAlloc
namespace Go.Proofs.YtcllfedpdcjbcaaDoor
open Go.RowKit Go.Shelf Go.Lib Go.Sort

theorem At.lt' {w : World} {b n : Nat} {U : Nat → Bool} {T : Int → Option Nat} {m : Nat} {A : Nat → Prop} (h : At w b n U T m A) {i : Nat} (hi : A i) : i < w.heap.size := by
  obtain ⟨g, O, V, F, s, p, c, pm, hs, inv, hn, hA⟩ := h
  rcases (hA i).1 hi with h | rfl
  · exact p.own_lt h
  · exact pm.lt
theorem At.keep' {w w' : World} {b n : Nat} {U : Nat → Bool} {T : Int → Option Nat} {m : Nat} {A : Nat → Prop} (h : At w b n U T m A) (hk : ∀ i, A i → w'.heap[i]? = w.heap[i]?) : At w' b n U T m A := by
  obtain ⟨g, O, V, F, s, p, c, pm, hs, inv, hn, hA⟩ := h
  exact ⟨g, O, V, F, s, p.keep (fun i hi => hk i ((hA i).2 (.inl hi))), c, pm.keep (hk g ((hA g).2 (.inr rfl))), hs, inv, hn, hA⟩
theorem At.more' {w : World} {b n : Nat} {U : Nat → Bool} {T : Int → Option Nat} {m m' : Nat} {A : Nat → Prop} (h : At w b n U T m A) (hm : m ≤ m') : At w b n U T m' A := by
  obtain ⟨g, O, V, F, s, p, c, pm, hs, inv, hn, hA⟩ := h
  exact ⟨g, O, V, F, s, p, c, pm, Nat.le_trans hs hm, inv, hn, hA⟩
theorem least_in (F : Nat → List Int) (o : Nat) : ∀ d, (∃ j, o ≤ j ∧ j ≤ o + d ∧ F j ≠ []) → ∃ j, o ≤ j ∧ j ≤ o + d ∧ F j ≠ [] ∧ ∀ i, o ≤ i → i < j → F i = []
  | 0, ⟨j, h1, h2, h3⟩ => ⟨j, h1, h2, h3, fun i a1 a2 => by omega⟩
  | d + 1, ⟨j, h1, h2, h3⟩ => by
    by_cases h : ∃ j, o ≤ j ∧ j ≤ o + d ∧ F j ≠ []
    · obtain ⟨i, a1, a2, a3, a4⟩ := least_in F o d h
      exact ⟨i, a1, by omega, a3, a4⟩
    · refine ⟨j, h1, h2, h3, fun i a1 a2 => ?_⟩
      by_cases e : F i = []
      · exact e
      · exact absurd ⟨i, a1, by omega, e⟩ h
/-- Where there is a block that serves, there is a best one. -/
theorem At.best {w : World} {b n : Nat} {U : Nat → Bool} {T : Int → Option Nat} {m : Nat} {A : Nat → Prop} (h : At w b n U T m A) (o : Nat) (hno : ¬ ∀ j r, mxb U j r → j < o) : ∃ k q, Best U o (q * 2 ^ k) k ∧ T ((q * 2 ^ k : Nat) : Int) = none := by
  obtain ⟨g, O, V, F, s, p, c, pm, hs, inv, hn, hA⟩ := h
  have hex : ∃ j, o ≤ j ∧ j ≤ o + 6 ∧ F j ≠ [] ∧ j ≤ 6 := by
    refine Classical.byContradiction fun hc => hno fun j r hx => ?_
    by_cases ho : o ≤ j
    · exfalso
      have hj := hx.1
      have hm := ((c j (by omega)).2 _).2 ⟨r, rfl, hx⟩
      exact hc ⟨j, ho, by omega, fun e => (by rw [e] at hm; cases hm), hj⟩
    · omega
  obtain ⟨j, h1, h2, h3, h6⟩ := hex
  obtain ⟨k, k1, k2, k3, k4⟩ := least_in F o 6 ⟨j, h1, h2, h3⟩
  have hk6 : k ≤ 6 := by
    by_cases e : k ≤ j
    · omega
    · exact absurd (k4 j h1 (by omega)) h3
  obtain ⟨z, l, hl⟩ := List.exists_cons_of_ne_nil k3
  obtain ⟨q, _, hx, hB⟩ := best_row c k1 hk6 k4 hl
  refine ⟨k, q, hB, ?_⟩
  cases hT : T ((q * 2 ^ k : Nat) : Int) with
  | none => rfl
  | some k' =>
    obtain ⟨_, r, hr, hf⟩ := inv.tk _ _ hT
    have e : q * 2 ^ k = r * 2 ^ k' := Int.ofNat.inj hr
    have a1 := hx.2.1 _ (first_in k q)
    rw [e, (hf _ (first_in k' r)).2] at a1; cases a1
end Go.Proofs.YtcllfedpdcjbcaaDoor

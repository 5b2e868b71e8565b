/- A list of blocks, held against what is taken. -/
import Derived.Test.YthknommfnajeiaaDoorSums
namespace Go.Proofs.YthknommfnajeiaaDoor
open Go.RowKit

/-- The list has just what is taken. -/
structure Held (L : List (Int × Int)) (T : Int → Option Nat) : Prop where
  mem : ∀ x ∈ L, ∃ k : Nat, x.2 = (k : Int) ∧ T x.1 = some k
  all : ∀ z k, T z = some k → (z, (k : Int)) ∈ L
  one : L.Pairwise (fun x y => x.1 ≠ y.1)

theorem held_none : Held [] (fun _ => none) := ⟨fun x h => (by cases h), fun z k h => (by cases h), List.Pairwise.nil⟩

theorem Held.add {L : List (Int × Int)} {T : Int → Option Nat} (h : Held L T) {z : Int} {o : Nat} (hz : T z = none) : Held (L ++ [(z, (o : Int))]) (fun i => if i = z then some o else T i) := by
  have hne : ∀ x ∈ L, x.1 ≠ z := fun x hx e => by obtain ⟨k, _, hk⟩ := h.mem x hx; rw [e, hz] at hk; cases hk
  refine ⟨fun x hx => ?_, fun i k hi => ?_, ?_⟩
  · rcases List.mem_append.1 hx with hx | hx
    · obtain ⟨k, h1, h2⟩ := h.mem x hx; exact ⟨k, h1, by rw [if_neg (hne x hx)]; exact h2⟩
    · rw [List.mem_singleton] at hx; subst hx; exact ⟨o, rfl, by simp⟩
  · by_cases e : i = z
    · rw [if_pos e] at hi; cases hi; rw [e]; simp
    · rw [if_neg e] at hi; exact List.mem_append_left _ (h.all i k hi)
  · rw [List.pairwise_append]
    refine ⟨h.one, by simp, fun x hx y hy => ?_⟩
    rw [List.mem_singleton] at hy; subst hy; exact hne x hx

theorem Held.drop {L : List (Int × Int)} {T : Int → Option Nat} (h : Held L T) {k : Nat} (hk : k < L.length) : Held (L.take k ++ L.drop (k + 1)) (fun i => if i = L[k].1 then none else T i) := by
  have hsub : ∀ x, x ∈ L.take k ++ L.drop (k + 1) ↔ x ∈ L ∧ x.1 ≠ L[k].1 := by
    intro x
    have hp := List.pairwise_iff_getElem.1 h.one
    constructor
    · intro hx
      rcases List.mem_append.1 hx with hx | hx
      · obtain ⟨i, hi, rfl⟩ := List.mem_iff_getElem.1 hx
        have hi' : i < k := by simp at hi; omega
        rw [List.getElem_take]
        exact ⟨List.getElem_mem _, hp i k (by omega) hk hi'⟩
      · obtain ⟨i, hi, rfl⟩ := List.mem_iff_getElem.1 hx
        simp at hi
        rw [List.getElem_drop]
        exact ⟨List.getElem_mem _, fun e => hp k (k + 1 + i) hk (by omega) (by omega) e.symm⟩
    · rintro ⟨hx, hne⟩
      obtain ⟨i, hi, rfl⟩ := List.mem_iff_getElem.1 hx
      by_cases h1 : i < k
      · exact List.mem_append_left _ (List.mem_iff_getElem.2 ⟨i, by simp; omega, by rw [List.getElem_take]⟩)
      · have h2 : i ≠ k := by rintro rfl; exact hne rfl
        exact List.mem_append_right _ (List.mem_iff_getElem.2 ⟨i - (k + 1), by simp; omega, by rw [List.getElem_drop]; congr 1; omega⟩)
  refine ⟨fun x hx => ?_, fun z j hz => ?_, ?_⟩
  · obtain ⟨h1, h2⟩ := (hsub x).1 hx
    obtain ⟨j, h3, h4⟩ := h.mem x h1
    exact ⟨j, h3, by rw [if_neg h2]; exact h4⟩
  · by_cases e : z = L[k].1
    · rw [if_pos e] at hz; cases hz
    · rw [if_neg e] at hz
      exact (hsub _).2 ⟨h.all z j hz, e⟩
  · have hs : (L.take k ++ L.drop (k + 1)).Sublist L := by
      conv => rhs; rw [← List.take_append_drop k L]
      exact (List.Sublist.refl _).append (List.drop_sublist_drop_left _ (by omega))
    exact h.one.sublist hs

end Go.Proofs.YthknommfnajeiaaDoor

/- How many there are, of what is there by int. -/
import Derived.Test.YtidinhbokkelnacDoorPKeys
namespace Go.Proofs.YtidinhbokkelnacDoor
open Go.RowKit Go.Maps

theorem int_sub : ∀ {a b : List Int}, a.Nodup → a ⊆ b → a.length ≤ b.length
  | [], b, _, _ => Nat.zero_le _
  | x :: a, b, hn, hs => by
    rw [List.nodup_cons] at hn
    have hx : x ∈ b := hs List.mem_cons_self
    have h1 := int_sub (b := b.erase x) hn.2 (fun y hy => (List.mem_erase_of_ne (fun e => hn.1 (by rw [← e]; exact hy))).2 (hs (List.mem_cons_of_mem _ hy)))
    have h2 := List.length_erase_of_mem hx
    have h3 := List.length_pos_of_mem hx
    rw [List.length_cons]; omega
/-- How many there are. -/
def IsN {α : Type} (F : Int → Option α) (n : Nat) : Prop := ∃ ks : List Int, ks.Nodup ∧ ks.length = n ∧ ∀ x, x ∈ ks ↔ (F x).isSome = true
section
variable {α β : Type} {F : Int → Option α} {G : Int → Option β} {n n' : Nat} {k : Int}
theorem IsN.one (h : IsN F n) (h' : IsN F n') : n = n' := by
  obtain ⟨a, ha, rfl, ma⟩ := h
  obtain ⟨b, hb, rfl, mb⟩ := h'
  exact Nat.le_antisymm (int_sub ha (fun x hx => (mb x).2 ((ma x).1 hx))) (int_sub hb (fun x hx => (ma x).2 ((mb x).1 hx)))
theorem IsN.few (h : IsN F n) {B : Int} (h0 : 0 ≤ B) (hB : ∀ x, (F x).isSome = true → 0 < x ∧ x ≤ B) : (n : Int) ≤ B := by
  obtain ⟨ks, h1, rfl, h2⟩ := h
  have h5 := int_sub (b := ((List.range B.toNat).map (fun i : Nat => (i : Int) + 1))) h1 (fun x hx => by
    have := hB x ((h2 x).1 hx)
    exact List.mem_map.2 ⟨(x - 1).toNat, List.mem_range.2 (by omega), by omega⟩)
  simp at h5
  omega
theorem IsN.congr (h : IsN F n) (he : ∀ x, (G x).isSome = (F x).isSome) : IsN G n := by
  obtain ⟨ks, a, b, c⟩ := h
  exact ⟨ks, a, b, fun x => by rw [he]; exact c x⟩
theorem IsN.add (h : IsN F n) (hk : F k = none) (v : α) : IsN (fun i => if i = k then some v else F i) (n + 1) := by
  obtain ⟨ks, a, rfl, c⟩ := h
  refine ⟨k :: ks, List.nodup_cons.2 ⟨fun hm => ?_, a⟩, rfl, fun x => ?_⟩
  · have := (c k).1 hm; rw [hk] at this; cases this
  · by_cases e : x = k
    · simp [e]
    · show x ∈ k :: ks ↔ (if x = k then some v else F x).isSome = true
      rw [List.mem_cons, if_neg e, ← c x]; simp [e]
theorem IsN.del (h : IsN F n) (hk : (F k).isSome = true) : 1 ≤ n ∧ IsN (fun i => if i = k then none else F i) (n - 1) := by
  obtain ⟨ks, a, rfl, c⟩ := h
  have hm := (c k).2 hk
  refine ⟨List.length_pos_of_mem hm, ks.erase k, a.erase k, List.length_erase_of_mem hm, fun x => ?_⟩
  rw [a.mem_erase_iff]
  by_cases e : x = k
  · simp [e]
  · show x ≠ k ∧ x ∈ ks ↔ (if x = k then none else F x).isSome = true
    rw [if_neg e, ← c x]; simp [e]
theorem IsN.pos (h : IsN F n) (hk : (F k).isSome = true) : 1 ≤ n := (h.del hk).1
theorem IsN.nil (h : ∀ x, F x = none) : IsN F 0 := ⟨[], List.nodup_nil, rfl, fun x => by rw [h x]; simp⟩
theorem IsN.le (h : IsN F n) (h' : IsN G n') (hs : ∀ x, (G x).isSome = true → (F x).isSome = true) : n' ≤ n := by
  obtain ⟨a, _, rfl, ma⟩ := h
  obtain ⟨b, hb, rfl, mb⟩ := h'
  exact int_sub hb (fun x hx => (ma x).2 (hs x ((mb x).1 hx)))
theorem IsN.le1 (h : IsN F n) (h' : IsN G n') (hs : ∀ x, (G x).isSome = true → (F x).isSome = true ∨ x = k) : n' ≤ n + 1 := by
  obtain ⟨a, _, rfl, ma⟩ := h
  obtain ⟨b, hb, rfl, mb⟩ := h'
  exact int_sub (b := k :: a) hb (fun x hx => by
    rcases hs x ((mb x).1 hx) with z | z
    · exact List.mem_cons_of_mem _ ((ma x).2 z)
    · rw [z]; exact List.mem_cons_self)
end
/-- A map's size is the number of its keys. -/
theorem PMap.isN {w : World} {g s : Nat} {M : Int → Option Value} (m : PMap w g s M) : IsN M s := by
  obtain ⟨D, _, _, h1, h2, h3⟩ := m.data
  exact ⟨_, h1, h2, h3⟩
theorem PMap.resize {w : World} {g s n : Nat} {M : Int → Option Value} (m : PMap w g s M) (h : IsN M n) : PMap w g n M := m.isN.one h ▸ m
end Go.Proofs.YtidinhbokkelnacDoor

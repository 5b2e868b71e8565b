/- What the keys of a map keyed by texts are, as a list; a list in order is one. -/
import Derived.Test.YtjkneekfijibiabGreatDoorWAbs
import Derived.Test.YtjkneekfijibiabGreatDoorSRanges
import Derived.Test.YtjkneekfijibiabGreatDoorUCnt
import Derived.Sort.KeysCollected
import Derived.Maps.Views
namespace Go.Proofs.YtjkneekfijibiabGreatDoor
open Go.RowKit Go.Maps

theorem SMap.data {w : World} {g s : Nat} {M : List UInt8 → Option Value} (m : SMap w g s M) : ∃ D : DataW Value, w.ownsMap Tryz.prog 9 self g s D ∧ Maps.size D = s ∧ (strKeys D).Nodup ∧ (strKeys D).length = s ∧ ∀ x, x ∈ strKeys D ↔ (M x).isSome = true := by
  obtain ⟨D, hown, hs, hS, _⟩ := m
  refine ⟨D, hown, hs, ?_⟩
  obtain ⟨es, hD, hpw, _⟩ := hown.entries keyedText
  obtain ⟨es', hD', hko⟩ := hown.keysOf
  obtain rfl : es = es' := by rw [hD] at hD'; simpa using hD'
  have hk : ∀ p ∈ es, ∃ x, p.1 = .string x := fun p hp => by
    obtain ⟨v, hv⟩ := hko p hp
    obtain ⟨x, _, hx, _⟩ := keyOf_text_inv hv
    exact ⟨x, hx⟩
  have hnd : (es.map fun p => strOf p.1).Nodup := by
    refine List.pairwise_map.2 (hpw.imp_of_mem fun {p q} hp hq hne e => hne ?_)
    obtain ⟨a, ha⟩ := hk p hp
    obtain ⟨d, hd⟩ := hk q hq
    rw [ha, hd] at e ⊢
    exact congrArg _ e
  subst hD
  refine ⟨hnd, by rw [← hs]; simp [strKeys, Maps.size], fun x => ?_⟩
  rw [← hS x, has_eq, List.any_eq_true]
  show x ∈ es.map (fun p => strOf p.1) ↔ _
  rw [List.mem_map]
  constructor
  · rintro ⟨p, hp, rfl⟩
    obtain ⟨a, ha⟩ := hk p hp
    exact ⟨p, hp, by rw [ha]; simp [Lit.sameKey, strOf]⟩
  · rintro ⟨p, hp, hq⟩
    obtain ⟨a, ha⟩ := hk p hp
    rw [ha] at hq
    exact ⟨p, hp, by rw [ha]; simpa [Lit.sameKey, strOf] using hq⟩

theorem ltr (a b c : Nm) (h1 : decide (a ≤ b) = true) (h2 : decide (b ≤ c) = true) : decide (a ≤ c) = true := by
  simp only [decide_eq_true_eq] at *; exact List.le_trans h1 h2
theorem ltl (a b : Nm) : (decide (a ≤ b) || decide (b ≤ a)) = true := by
  simp only [Bool.or_eq_true, decide_eq_true_eq]; exact List.le_total a b
/-- Two lists in order that have the same, are the same. -/
theorem order_one : ∀ {a b : List Nm}, a.Pairwise (fun x y => decide (x ≤ y) = true) → b.Pairwise (fun x y => decide (x ≤ y) = true) → a.Perm b → a = b
  | [], b, _, _, hp => (List.nil_perm.1 hp).symm
  | x :: a, b, ha, hb, hp => by
    cases b with
    | nil => exact absurd hp.length_eq (by simp)
    | cons y b =>
      have hxy : x = y := by
        have hx : x ∈ y :: b := hp.mem_iff.1 List.mem_cons_self
        have hy : y ∈ x :: a := hp.mem_iff.2 List.mem_cons_self
        rcases List.mem_cons.1 hx with e | hx
        · exact e
        · rcases List.mem_cons.1 hy with e | hy
          · exact e.symm
          · have h1 := (List.pairwise_cons.1 ha).1 y hy
            have h2 := (List.pairwise_cons.1 hb).1 x hx
            simp only [decide_eq_true_eq] at h1 h2
            exact List.le_antisymm h1 h2
      subst hxy
      rw [order_one (List.pairwise_cons.1 ha).2 (List.pairwise_cons.1 hb).2 (List.perm_cons x |>.1 hp)]

/-- A directory's names, in order. -/
def listT (C : List (Nm × Int)) : List Nm := inOrder (C.map (·.1))
theorem listT_one {C : List (Nm × Int)} (hn : (C.map (·.1)).Nodup) {L : List Nm} (hL : L.Nodup) (hm : ∀ x, x ∈ L ↔ (C.lookup x).isSome = true) : inOrder L = listT C := by
  have hp : L.Perm (C.map (·.1)) := (List.perm_ext_iff_of_nodup hL hn).2 (fun x => by
    rw [hm x]
    constructor
    · intro h
      obtain ⟨n, e⟩ := Option.isSome_iff_exists.1 h
      exact List.mem_map.2 ⟨(x, n), lookup_mem e, rfl⟩
    · intro h
      obtain ⟨⟨y, n⟩, hy, rfl⟩ := List.mem_map.1 h
      rw [mem_lookup hn hy]; rfl)
  exact order_one (List.pairwise_mergeSort ltr ltl L) (List.pairwise_mergeSort ltr ltl _) ((List.mergeSort_perm L _).trans (hp.trans (List.mergeSort_perm _ _).symm))
theorem listT_mem {C : List (Nm × Int)} {x : Nm} : x ∈ listT C ↔ x ∈ C.map (·.1) := (List.mergeSort_perm _ _).mem_iff
theorem listT_len (C : List (Nm × Int)) : (listT C).length = C.length := by unfold listT inOrder; rw [List.length_mergeSort, List.length_map]
theorem listT_nodup {C : List (Nm × Int)} (h : (C.map (·.1)).Nodup) : (listT C).Nodup := (List.mergeSort_perm _ _).nodup_iff.2 h
end Go.Proofs.YtjkneekfijibiabGreatDoor

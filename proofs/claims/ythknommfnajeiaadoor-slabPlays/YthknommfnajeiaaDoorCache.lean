/- Package slab: a cache as it lies in memory. -/
import Derived.Test.YthknommfnajeiaaDoorPlaces
import Derived.Test.YthknommfnajeiaaDoorGive
import Derived.Lib.SlKeysI
namespace Go.Proofs.YthknommfnajeiaaDoor
open Go.RowKit Go.Shelf Go.Lib Go.Sort Go.Maps

def cm (C : Int → Option Nat) : Int → Option Value := fun a => (C a).map (fun (m : Nat) => Value.int .u32 (m : Int))
theorem cm_val (C : Int → Option Nat) (x : Int) : (cm C x).getD (.int .u32 0) = .int .u32 (val C x : Int) := by
  unfold cm val; cases C x <;> rfl
theorem cm_isSome (C : Int → Option Nat) (x : Int) : (cm C x).isSome = (C x).isSome := by
  unfold cm; cases C x <;> rfl
theorem cm_put (C : Int → Option Nat) (f : Int) (m : Nat) : (fun i => if i = f then some (.int .u32 (m : Int)) else cm C i) = cm (putC C f m) := by
  funext i; unfold cm putC; split <;> rfl
theorem cm_del (C : Int → Option Nat) (f : Int) : (fun i => if i = f then none else cm C i) = cm (fun i => if i = f then none else C i) := by
  funext i; by_cases e : i = f <;> simp [cm, e]

abbrev cp (c : Nat) : Value := .pointer (some ⟨c, 0, none⟩)
/-- A cache at block c over a pool at b, its map, of s frames, at g. -/
structure Ch (w : World) (c b per g s : Nat) (C : Int → Option Nat) : Prop where
  head : w.heap[c]? = some (.cells #[pp b, .int .i64 (per : Int), .map (some g)] 111)
  map : PMap w g s (cm C)

section
variable {w w' : World} {c b per g s : Nat} {C : Int → Option Nat}
theorem Ch.keep (h : Ch w c b per g s C) (h1 : w'.heap[c]? = w.heap[c]?) (h2 : w'.heap[g]? = w.heap[g]?) : Ch w' c b per g s C := ⟨h1.trans h.head, h.map.keep h2⟩
theorem Ch.c0 (h : Ch w c b per g s C) : w.cell? ⟨c, 0, none⟩ = some (pp b) := by rw [cell_of_row w c 0 _ _ _ h.head]; rfl
theorem Ch.c1 (h : Ch w c b per g s C) : w.cell? ⟨c, 1, none⟩ = some (.int .i64 (per : Int)) := by rw [cell_of_row w c 1 _ _ _ h.head]; rfl
theorem Ch.c2 (h : Ch w c b per g s C) : w.cell? ⟨c, 2, none⟩ = some (.map (some g)) := by rw [cell_of_row w c 2 _ _ _ h.head]; rfl
theorem Ch.lt (h : Ch w c b per g s C) : c < w.heap.size := lt_of_heap h.head
theorem Ch.mlt (h : Ch w c b per g s C) : g < w.heap.size := h.map.lt
theorem Ch.ne (h : Ch w c b per g s C) : c ≠ g := by
  rintro rfl
  obtain ⟨es, cl, hm⟩ := h.map.isMap
  rw [h.head] at hm; cases hm
theorem Ch.below (h : Ch w c b per g s C) (hb : Below w.heap.size w w') : Ch w' c b per g s C := h.keep (hb.block c h.lt) (hb.block g h.mlt)
end

/-- What a map's keys are. -/
theorem PMap.data {w : World} {g s : Nat} {M : Int → Option Value} (m : PMap w g s M) : ∃ D : DataW Value, w.ownsMap Tryd.prog 3 self g s D ∧ Maps.size D = s ∧ (Go.intKeys D).Nodup ∧ (Go.intKeys D).length = s ∧ ∀ x, x ∈ Go.intKeys D ↔ (M x).isSome = true := by
  obtain ⟨D, hown, hs, hS, _⟩ := m
  refine ⟨D, hown, hs, ?_⟩
  obtain ⟨es, hD, hpw, _⟩ := hown.entries keyedInt
  obtain ⟨es', hD', hko⟩ := hown.keysOf
  obtain rfl : es = es' := by rw [hD] at hD'; simpa using hD'
  have hk : ∀ p ∈ es, ∃ x, p.1 = .int .i64 x := fun p hp => by
    obtain ⟨v, hv⟩ := hko p hp
    obtain ⟨x, _, hx, _⟩ := Maps.keyOf_i64 Tryd.underlying3 hv
    exact ⟨x, hx⟩
  have hnd : (es.map fun p => Go.intOf p.1).Nodup := by
    refine List.pairwise_map.2 (hpw.imp_of_mem fun {p q} hp hq hne e => hne ?_)
    obtain ⟨a, ha⟩ := hk p hp
    obtain ⟨d, hd⟩ := hk q hq
    rw [ha, hd] at e ⊢
    exact congrArg _ e
  subst hD
  refine ⟨hnd, by rw [← hs]; simp [Go.intKeys, Maps.size], fun x => ?_⟩
  rw [← hS x, has_eq, List.any_eq_true]
  show x ∈ es.map (fun p => Go.intOf p.1) ↔ _
  rw [List.mem_map]
  constructor
  · rintro ⟨p, hp, rfl⟩
    obtain ⟨a, ha⟩ := hk p hp
    exact ⟨p, hp, by rw [ha]; simp [Lit.sameKey, Go.intOf]⟩
  · rintro ⟨p, hp, hq⟩
    obtain ⟨a, ha⟩ := hk p hp
    rw [ha] at hq
    exact ⟨p, hp, by rw [ha]; simpa [Lit.sameKey, Go.intOf] using hq⟩

theorem sorted_keys {ss : List Int} (h : ss.Nodup) : (ss.mergeSort (fun x y => decide (x ≤ y))).Pairwise (· < ·) := by
  have tr : ∀ a b c : Int, decide (a ≤ b) = true → decide (b ≤ c) = true → decide (a ≤ c) = true := fun a b c h1 h2 => by simp only [decide_eq_true_eq] at *; omega
  have tl : ∀ a b : Int, (decide (a ≤ b) || decide (b ≤ a)) = true := fun a b => by simp only [Bool.or_eq_true, decide_eq_true_eq]; omega
  have h1 := List.pairwise_mergeSort tr tl ss
  have h2 : (ss.mergeSort (fun x y => decide (x ≤ y))).Nodup := (List.mergeSort_perm ss _).nodup_iff.2 h
  exact h1.imp₂ (fun {a b} h1 h2 => by simp only [decide_eq_true_eq] at h1; omega) h2

/-- A row of numbers, in cells. -/
def Rz (w : World) (g : Nat) (L : List Int) : Prop := ∀ j (hj : j < L.length), w.cell? ⟨g, j, none⟩ = some (.int .i64 L[j])
theorem Rz.keep {w w' : World} {g : Nat} {L : List Int} (h : Rz w g L) (hb : w'.heap[g]? = w.heap[g]?) : Rz w' g L := fun j hj => by
  rw [World.cell?_of_block (w := w) (a := ⟨g, j, none⟩) hb]; exact h j hj
theorem zrow_read {w : World} {N t : Nat} {v : Value} {L : List Int} (h : w.ownsRow N t 1 v L.length (L.map encZ)) : (v = .slice none 0 0 ∧ L = []) ∨ ∃ g cap, v = .slice (some ⟨g, 0, none⟩) L.length cap ∧ N ≤ g ∧ g < w.heap.size ∧ L.length ≤ cap ∧ cap ≤ maxLen ∧ Rz w g L := by
  rcases h.2 with ⟨rfl, hz⟩ | ⟨g, cap, cur, rfl, hbase, hg, r1, r2, r3, r4⟩
  · exact .inl ⟨rfl, List.eq_nil_of_length_eq_zero hz⟩
  · refine .inr ⟨g, cap, rfl, hbase, lt_of_heap hg, r1, r2, fun j hj => ?_⟩
    have hH : Holds encZ w g 0 L.toArray := holds_of_block_i hg (by simpa using r4)
    have := (hH j (by simpa using hj)).1
    rw [Nat.zero_add] at this
    simpa [hj] using this
end Go.Proofs.YthknommfnajeiaaDoor

/- The document's Alloc, by its Go text. -/
import Derived.Test.YthknommfnajeiaaDoorRefGive
namespace Go.Proofs.YthknommfnajeiaaDoor
open Go.RowKit Go.Shelf Go.Lib Go.Sort

/-- The best of the blocks so far (-1: none). -/
def PB (o : Int) (l : List (Int × Int)) (b : Int × Int) : Prop :=
  (b.1 = -1 ∧ ∀ x ∈ l, x.2 < o) ∨ (0 ≤ b.1 ∧ b ∈ l ∧ o ≤ b.2 ∧ ∀ x ∈ l, o ≤ x.2 → b.2 < x.2 ∨ (b.2 = x.2 ∧ b.1 ≤ x.1))

theorem pb_less {o : Int} {l : List (Int × Int)} {b x : Int × Int} (h : PB o l b) (hx : x.2 < o) : PB o (l ++ [x]) b := by
  rcases h with ⟨h1, h2⟩ | ⟨h1, h2, h3, h4⟩
  · refine .inl ⟨h1, fun y hy => ?_⟩
    rcases List.mem_append.1 hy with hy | hy
    · exact h2 y hy
    · rw [List.mem_singleton] at hy; subst hy; exact hx
  · refine .inr ⟨h1, List.mem_append_left _ h2, h3, fun y hy ho => ?_⟩
    rcases List.mem_append.1 hy with hy | hy
    · exact h4 y hy ho
    · rw [List.mem_singleton] at hy; subst hy; omega

theorem pb_first {o : Int} {l : List (Int × Int)} {b x : Int × Int} (h : PB o l b) (hx : o ≤ x.2) (h0 : 0 ≤ x.1) (hb : b.1 < 0 ∨ x.2 < b.2) : PB o (l ++ [x]) x := by
  refine .inr ⟨h0, by simp, hx, fun y hy ho => ?_⟩
  rcases List.mem_append.1 hy with hy | hy
  · rcases h with ⟨h1, h2⟩ | ⟨h1, h2, h3, h4⟩
    · have := h2 y hy; omega
    · have := h4 y hy ho; omega
  · rw [List.mem_singleton] at hy; subst hy; exact .inr ⟨rfl, Int.le_refl _⟩

theorem pb_keep {o : Int} {l : List (Int × Int)} {b x : Int × Int} (h : PB o l b) (hs : ∀ y ∈ l, y.1 < x.1) (hb : 0 ≤ b.1) (hx : b.2 ≤ x.2) : PB o (l ++ [x]) b := by
  rcases h with ⟨h1, h2⟩ | ⟨h1, h2, h3, h4⟩
  · omega
  · refine .inr ⟨h1, List.mem_append_left _ h2, h3, fun y hy ho => ?_⟩
    rcases List.mem_append.1 hy with hy | hy
    · exact h4 y hy ho
    · rw [List.mem_singleton] at hy; subst hy; have := hs b h2; omega

/-- The best of all is the one that the document tells. -/
theorem pb_all {U : Nat → Bool} {n : Nat} (hb : ∀ f, U f = true → f < n) {o : Nat} {b : Int × Int} (h : PB o ((blocks U n).map toInt) b) :
    (b.1 = -1 ∧ ∀ j r, mxb U j r → j < o) ∨ ∃ k q, b = toInt (q * 2 ^ k, k) ∧ Best U o (q * 2 ^ k) k := by
  rcases h with ⟨h1, h2⟩ | ⟨h1, h2, h3, h4⟩
  · refine .inl ⟨h1, fun j r hx => ?_⟩
    have := h2 _ ((mem_blocks_int hb _).2 ⟨j, r, rfl, hx⟩)
    simp only [toInt] at this; omega
  · obtain ⟨k, q, rfl, hx⟩ := (mem_blocks_int hb _).1 h2
    refine .inr ⟨k, q, rfl, ⟨q, rfl, hx⟩, by simp only [toInt] at h3; omega, fun j r hy hj => ?_⟩
    have := h4 _ ((mem_blocks_int hb _).2 ⟨j, r, rfl, hy⟩) (by simp only [toInt]; omega)
    simp only [toInt] at this; omega

theorem blocks_int_sorted {U : Nat → Bool} {n : Nat} (hb : ∀ f, U f = true → f < n) : ((blocks U n).map toInt).Pairwise (fun x y => x.1 < y.1) := by
  rw [List.pairwise_map]; exact (blocks_sorted hb).imp (fun h => by simp only [toInt]; omega)

theorem take_sorted {L : List (Int × Int)} (h : L.Pairwise (fun x y => x.1 < y.1)) {j : Nat} (hj : j < L.length) : ∀ y ∈ L.take j, y.1 < L[j].1 := by
  intro y hy
  obtain ⟨i, hi, rfl⟩ := List.mem_iff_getElem.1 hy
  rw [List.getElem_take]
  have hi' : i < j := by simp at hi; omega
  exact List.pairwise_iff_getElem.1 h i j (by omega) hj hi'

/-- How a list of blocks reads. -/
theorem BL.read {w : World} {N : Nat} {v : Value} {L : List (Int × Int)} (h : BL w N v L) {j : Nat} (hj : j < L.length) : ∃ g cap, v = .slice (some ⟨g, 0, none⟩) L.length cap ∧ N ≤ g ∧ g < w.heap.size ∧ L.length ≤ cap ∧ w.cell? ⟨g, j * 2, none⟩ = some (.int .i64 L[j].1) ∧ w.cell? ⟨g, j * 2 + 1, none⟩ = some (.int .i64 L[j].2) := by
  rcases h.2 with ⟨_, h0⟩ | ⟨g, cap, cur, rfl, hb, hg, hcap, hml, hsz, htake⟩
  · omega
  · have hr := bc_get L j L[j] (by simp [hj])
    refine ⟨g, cap, rfl, hb, lt_of_heap hg, hcap, ?_, ?_⟩
    · rw [cell_of_row w g _ _ _ _ hg, ← hr.1, ← htake, List.getElem?_take, if_pos (by omega)]; simp
    · rw [cell_of_row w g _ _ _ _ hg, ← hr.2, ← htake, List.getElem?_take, if_pos (by omega)]; simp

theorem BL.slice {w : World} {N : Nat} {v : Value} {L : List (Int × Int)} (h : BL w N v L) : ∃ a cap, v = .slice a L.length cap ∧ L.length ≤ cap := by
  rcases h.2 with ⟨rfl, h0⟩ | ⟨g, cap, cur, rfl, _, _, hcap, _⟩
  · exact ⟨none, 0, by rw [h0], by omega⟩
  · exact ⟨_, _, rfl, hcap⟩

theorem BL.keep {w w' : World} {N : Nat} {v : Value} {L : List (Int × Int)} (h : BL w N v L) (hk : ∀ i, N ≤ i → i < w.heap.size → w'.heap[i]? = w.heap[i]?) : BL w' N v L := by
  refine ⟨h.1, ?_⟩
  rcases h.2 with h0 | ⟨g, cap, cur, e, hb, hg, rest⟩
  · exact .inl h0
  · exact .inr ⟨g, cap, cur, e, hb, (hk g hb (lt_of_heap hg)).trans hg, rest⟩

theorem blocks_len {U : Nat → Bool} {n : Nat} (hb : ∀ f, U f = true → f < n) : (blocks U n).length ≤ n := by
  have h := blocks_size hb
  have h2 := cnt_le U n 0
  have : ∀ l : List (Nat × Nat), l.length ≤ size l := by
    intro l
    induction l with
    | nil => exact Nat.le_refl _
    | cons a l ih => simp only [size, List.map_cons, List.sum_cons, List.length_cons] at *; have := Nat.two_pow_pos a.2; omega
  have := this (blocks U n)
  omega
end Go.Proofs.YthknommfnajeiaaDoor

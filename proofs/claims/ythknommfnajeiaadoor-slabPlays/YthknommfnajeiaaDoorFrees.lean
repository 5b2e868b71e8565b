/- Free of package buddy, by its Go text; the library's sort by its contract. -/
import Derived.Test.YthknommfnajeiaaDoorLefts
import Derived.Test.YthknommfnajeiaaDoorShelf2
import Derived.Maps.AppendAt
namespace Go.Proofs.YthknommfnajeiaaDoor
open Go.RowKit Go.Shelf Go.Lib Go.Sort

/-- A block's two cells. -/
def be (x : Int × Int) : List Value := [.int .i64 x.1, .int .i64 x.2]
/-- A list of blocks, cell by cell. -/
def bc (L : List (Int × Int)) : List Value := L.flatMap be
/-- A list of blocks that lies in memory of its own, at N or beyond. -/
def BL (w : World) (N : Nat) (v : Value) (L : List (Int × Int)) : Prop := w.ownsRow N 62 2 v L.length (bc L)

theorem be_len (x : Int × Int) : (be x).length = 2 := rfl
theorem be_one (x : Int × Int) : ∀ v ∈ be x, v.oneCell' = true := by
  intro v hv; simp only [be, List.mem_cons, List.not_mem_nil, or_false] at hv; rcases hv with rfl | rfl <;> rfl
theorem bc_len (L : List (Int × Int)) : (bc L).length = L.length * 2 := by
  induction L with
  | nil => rfl
  | cons a l ih => simp only [bc, List.flatMap_cons, List.length_append, be_len, List.length_cons] at *; omega
theorem bc_app (L M : List (Int × Int)) : bc (L ++ M) = bc L ++ bc M := by simp [bc]
theorem bc_get : ∀ (L : List (Int × Int)) (j : Nat) (x : Int × Int), L[j]? = some x → (bc L)[j * 2]? = some (.int .i64 x.1) ∧ (bc L)[j * 2 + 1]? = some (.int .i64 x.2)
  | [], j, x, h => by simp at h
  | a :: l, 0, x, h => by simp at h; subst h; exact ⟨rfl, rfl⟩
  | a :: l, j + 1, x, h => by
    have ih := bc_get l j x (by simpa using h)
    have e : bc (a :: l) = .int .i64 a.1 :: .int .i64 a.2 :: bc l := rfl
    rw [e, show (j + 1) * 2 = j * 2 + 1 + 1 by omega, show j * 2 + 1 + 1 + 1 = (j * 2 + 1) + 1 + 1 by omega]
    simpa using ih

theorem cat_len (F : Nat → List Int) : ∀ k, (cat F k).length ≤ lf F k
  | 0 => Nat.le_refl _
  | k + 1 => by
    have := cat_len F k
    have h2 := Nat.le_mul_of_pos_right (F k).length (Nat.two_pow_pos k)
    simp only [cat, lf, List.length_append, List.length_map]; omega

/-- The order of blocks. -/
def ci (x y : Int) : Int := if x < y then -1 else if y < x then 1 else 0
def cfB (x y : Int × Int) : Int := ci x.1 y.1
theorem ltB (x y : Int × Int) : ltOf cfB x y = decide (x.1 < y.1) := by
  unfold ltOf cfB ci
  by_cases h1 : x.1 < y.1
  · simp [h1]
  · by_cases h2 : y.1 < x.1 <;> simp [h1, h2]
theorem swoB : SWO (ltOf cfB) where
  irrefl x := by rw [ltB]; simp
  trans x y z h1 h2 := by rw [ltB] at *; simp at *; omega
  ntrans x y z h1 h2 := by rw [ltB] at *; simp at *; omega

set_option maxHeartbeats 1000000 in
theorem compare_ok (w : World) (x y : Int) :
    Calls Tryd.prog 53 #[.int .i64 x, .int .i64 y] w fun e w' => e = .returned (.int .i64 (ci x y)) ∧ w' = w := by
  by_cases h1 : x < y
  · go_enter Tryd.func53, Tryd.ntmps53
    go_wp2
    go_ret
    exact ⟨by simp [ci, h1], rfl⟩
  · by_cases h2 : y < x
    · go_enter Tryd.func53, Tryd.ntmps53
      go_wp2
      go_ret
      exact ⟨by simp [ci, h1, h2], rfl⟩
    · have e0 : ci x y = 0 := by unfold ci; rw [if_neg h1, if_neg h2]
      rw [e0]
      clear e0
      go_enter Tryd.func53, Tryd.ntmps53
      go_wp2
      go_ret
      exact ⟨rfl, rfl⟩

set_option maxHeartbeats 1000000 in
theorem less_ok (w : World) (x y : Int × Int) :
    Calls Tryd.prog 52 #[.agg (be x).toArray, .agg (be y).toArray] w fun e w' => e = .returned (.int .i64 (cfB x y)) ∧ ∃ q os', w' = grow (w.drewN q) os' := by
  have hc := fun w => compare_ok w x.1 y.1
  simp only [be]
  go_enter Tryd.func52, Tryd.ntmps52
  go_wp2_with (go_at_call 53; refine (hc _).mono ?_; rintro e w1 ⟨rfl, h1⟩; subst w1)
  go_ret
  refine ⟨rfl, 0, #[.cells #[.int .i64 x.1, .int .i64 x.2] 62, .cells #[.int .i64 y.1, .int .i64 y.2] 62], ?_⟩
  rw [alloc_eq_grow, alloc_eq_grow, grow_grow]; rfl

theorem perm_of {d d' : Array (Int × Int)} (h : PermIn 0 d.size d d') : d'.toList.Perm d.toList := by
  have h2 := h.2.2
  rw [show d'.extract 0 d.size = d' by rw [← h.1]; simp, show d.extract 0 d.size = d by simp] at h2
  exact h2

theorem bc_flat (L : List (Int × Int)) (t : Nat) (h : t < L.length * 2) : (bc L)[t]? = some ((be (L.toArray[t / 2]!))[t % 2]!) := by
  have hj : t / 2 < L.length := by omega
  have hg := bc_get L (t / 2) L[t / 2] (by simp [hj])
  have e : L.toArray[t / 2]! = L[t / 2] := by rw [getElem!_pos _ _ (by simpa using hj)]; simp
  rw [e]
  rcases Nat.mod_two_eq_zero_or_one t with h0 | h0
  · rw [h0, show (bc L)[t]? = (bc L)[t / 2 * 2]? by congr 1; omega, hg.1]; rfl
  · rw [h0, show (bc L)[t]? = (bc L)[t / 2 * 2 + 1]? by congr 1; omega, hg.2]; rfl

theorem flat_bc (d : Array (Int × Int)) : flatK be 2 d = (bc d.toList).toArray := by
  apply Array.ext
  · simp [bc_len]
  · intro t h1 h2
    have ht : t < d.toList.length * 2 := by simpa [bc_len] using h2
    have h3 := bc_flat d.toList t ht
    rw [List.getElem?_eq_getElem (by rw [bc_len]; exact ht)] at h3
    have h4 := get_flatK be 2 d t (by simpa using ht)
    rw [getElem!_pos _ t h1] at h4
    rw [h4]
    simpa using (Option.some.inj h3).symm

/-- The library's sort at a list of blocks: the same blocks, by their bases. -/
theorem sort_ok {w : World} {N : Nat} {v : Value} {L : List (Int × Int)} (h : BL w N v L) (hl : L.length ≤ 256) :
    Calls Tryd.prog 51 #[v, .func (.func 52) #[] #[]] w fun e w' => e = .returned (.tuple #[]) ∧ ∃ M, BL w' N v M ∧ M.Perm L ∧ M.Pairwise (fun x y => x.1 ≤ y.1) ∧ Below N w w' := by
  rcases h.2 with ⟨rfl, h0⟩ | ⟨g, cap, cur, rfl, hb, hg, hcap, hml, hsz, htake⟩
  · have e : L = [] := List.length_eq_zero_iff.1 h0
    subst e
    refine (AnyF.slices_SortFunc_none Tryd.sortL none 0 (.func (.func 52) #[] #[]) w).mono ?_
    rintro e w' ⟨rfl, rfl⟩
    exact ⟨rfl, [], h, List.Perm.refl _, List.Pairwise.nil, Below.refl _ _⟩
  · have hcell : ∀ t, t < L.length * 2 → w.cell? ⟨g, t, none⟩ = (bc L)[t]? := by
      intro t ht
      rw [cell_of_row w g t _ _ _ hg, ← htake, List.getElem?_take, if_pos ht]; simp
    have hH : HoldsK be 2 w g 0 L.toArray := by
      unfold HoldsK
      rw [flat_bc]
      intro t ht
      have ht' : t < L.length * 2 := by simpa [bc_len] using ht
      refine ⟨?_, by simp [World.frozen?, hg]⟩
      rw [Nat.zero_add, hcell t ht', getElem!_pos _ t ht]
      simp [bc_len, ht']
    have hcmp : CmpLays Tryd.prog 52 #[] be 2 cfB g 0 L.toArray.size w := by
      intro m os dk _ x y
      exact less_ok _ x y
    have hgl := lt_of_heap hg
    refine (AnyQ.slices_SortFunc Tryd.sortL 2 (fun _ => by kernel_rfl) (fun _ => by kernel_rfl) be be_len be_one cfB swoB 52 #[] g 0 cap L.toArray w (fun _ _ => by kernel_rfl) hcmp hH hgl (by simp; omega)).mono ?_
    rintro e w' ⟨rfl, d', n, os, hp, hso, rfl⟩
    have hds : d'.size = L.length := by simpa using hp.1
    have hg' : (sortWorldK be 2 w g 0 n d' os).heap[g]? = some (.cells (putCells id 0 (bc d'.toList).toArray cur) 62) := by
      show ((putRow id (Sort.ahead w n) g 0 (flatK be 2 d')).heap ++ os)[g]? = _
      rw [Array.getElem?_append_left (by simpa [putRow, Sort.mapBlock, Sort.ahead] using hgl), flat_bc]
      exact heap_mapBlock_same (Sort.ahead w n) g _ cur _ _ hg
    have hll : d'.toList.length = L.length := by simpa using hds
    refine ⟨rfl, d'.toList, ⟨bc_len _, .inr ⟨g, cap, _, by rw [hll], hb, hg', by rw [hll]; exact hcap, hml, by simp [putCells, hsz], ?_⟩⟩, by simpa using perm_of hp, ?_, ?_⟩
    · apply List.ext_getElem?
      intro t
      rw [List.getElem?_take, hll]
      by_cases ht : t < L.length * 2
      · have htc : t < cur.size := by omega
        have htb : t < (bc d'.toList).length := by rw [bc_len, hll]; exact ht
        rw [if_pos ht]
        simp [putCells, htc, htb]
      · rw [if_neg ht, List.getElem?_eq_none (by rw [bc_len, hll]; omega)]
    · rw [List.pairwise_iff_getElem]
      intro i j hi hj hij
      have := hso i j (Nat.zero_le _) hij (by simpa [hds] using hj)
      rw [ltB, getElem!_pos _ i (by simpa using hi), getElem!_pos _ j (by simpa using hj)] at this
      simpa using this
    · refine ⟨rfl, rfl, rfl, ?_, fun k hk => ?_⟩
      · simp [sortWorldK, grow, putRowK, putRow, Sort.mapBlock, Sort.ahead]
      · show ((putRow id (Sort.ahead w n) g 0 (flatK be 2 d')).heap ++ os)[k]? = _
        rw [Array.getElem?_append_left (by simp [putRow, Sort.mapBlock, Sort.ahead]; omega)]
        exact heap_mapBlock_other (Sort.ahead w n) g k _ (by omega)
end Go.Proofs.YthknommfnajeiaaDoor

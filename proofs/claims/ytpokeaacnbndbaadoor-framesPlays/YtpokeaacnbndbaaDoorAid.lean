/- Small facts: arrays of eight words as values, numbers in their range, the four ways of an item. -/
import Derived.Test.YtpokeaacnbndbaaDoorMaps
import Derived.Test.YtpokeaacnbndbaaDoorMem
namespace Go.Proofs.YtpokeaacnbndbaaDoor
open Go.RowKit Go.Maps

/-- An array of eight words, as a value. -/
def arr (R : Nat → Int) : Value := .agg (eight R).toArray

/-- Is x one of n? -/
def inR (x n : Int) : Bool := decide (0 ≤ x) && decide (x < n)
theorem inR_lo {x n : Int} (h : ¬ 0 ≤ x) : inR x n = false := by simp [inR, h]
theorem inR_hi {x n : Int} (h : ¬ x < n) : inR x n = false := by simp [inR, h]
theorem inR_in {x n : Int} (h : 0 ≤ x) (h' : x < n) : inR x n = true := by simp [inR, h, h']
theorem inR_out {x n : Int} (h : inR x n = true) : 0 ≤ x ∧ x < n := by simpa [inR] using h
theorem inR_not {x n : Int} (h : inR x n = false) : ¬ (0 ≤ x ∧ x < n) := by
  intro k; rw [inR_in k.1 k.2] at h; cases h

theorem tri (x n : Int) : (decide (0 ≤ x) = false ∧ inR x n = false) ∨ (0 ≤ x ∧ x < n ∧ inR x n = true) ∨ (0 ≤ x ∧ decide (x < n) = false ∧ inR x n = false) := by
  by_cases h1 : 0 ≤ x
  · by_cases h2 : x < n
    · exact .inr (.inl ⟨h1, h2, inR_in h1 h2⟩)
    · exact .inr (.inr ⟨h1, by simpa using h2, inR_hi h2⟩)
  · exact .inl ⟨by simpa using h1, inR_lo h1⟩

theorem four (W : Int) : (IntKind.u64.wrap W).tmod 4 = 0 ∨ (IntKind.u64.wrap W).tmod 4 = 1 ∨ (IntKind.u64.wrap W).tmod 4 = 2 ∨ (IntKind.u64.wrap W).tmod 4 = 3 := by
  have h0 : 0 ≤ IntKind.u64.wrap W := by rw [IntKind.wrap_u64]; omega
  rw [Int.tmod_eq_emod_of_nonneg h0]; omega

theorem idx0 (R : Nat → Int) (w : World) : (Instr.index 36 (arr R) (.int .i64 0)).run Tryd.prog w = .ok (.int .i64 (R 0)) w := by kernel_rfl
theorem idx1 (R : Nat → Int) (w : World) : (Instr.index 36 (arr R) (.int .i64 1)).run Tryd.prog w = .ok (.int .i64 (R 1)) w := by kernel_rfl
theorem idx2 (R : Nat → Int) (w : World) : (Instr.index 36 (arr R) (.int .i64 2)).run Tryd.prog w = .ok (.int .i64 (R 2)) w := by kernel_rfl
theorem idx3 (R : Nat → Int) (w : World) : (Instr.index 36 (arr R) (.int .i64 3)).run Tryd.prog w = .ok (.int .i64 (R 3)) w := by kernel_rfl
theorem idx4 (R : Nat → Int) (w : World) : (Instr.index 36 (arr R) (.int .i64 4)).run Tryd.prog w = .ok (.int .i64 (R 4)) w := by kernel_rfl
theorem idx5 (R : Nat → Int) (w : World) : (Instr.index 36 (arr R) (.int .i64 5)).run Tryd.prog w = .ok (.int .i64 (R 5)) w := by kernel_rfl
theorem idx6 (R : Nat → Int) (w : World) : (Instr.index 36 (arr R) (.int .i64 6)).run Tryd.prog w = .ok (.int .i64 (R 6)) w := by kernel_rfl
theorem idx7 (R : Nat → Int) (w : World) : (Instr.index 36 (arr R) (.int .i64 7)).run Tryd.prog w = .ok (.int .i64 (R 7)) w := by kernel_rfl
theorem idx (R : Nat → Int) (i : Int) (h0 : 0 ≤ i) (h8 : i < 8) (w : World) : (Instr.index 36 (arr R) (.int .i64 i)).run Tryd.prog w = .ok (.int .i64 (R i.toNat)) w := by
  obtain ⟨k, rfl⟩ := Int.eq_ofNat_of_zero_le h0
  have hk : k < 8 := by omega
  match k, hk with
  | 0, _ => exact idx0 R w
  | 1, _ => exact idx1 R w
  | 2, _ => exact idx2 R w
  | 3, _ => exact idx3 R w
  | 4, _ => exact idx4 R w
  | 5, _ => exact idx5 R w
  | 6, _ => exact idx6 R w
  | 7, _ => exact idx7 R w

theorem zero8 (w : World) : (zeroValue 36).run Tryd.prog w = .ok (arr fun _ => 0) w := by kernel_rfl

theorem wf_in {x n : Int} (h0 : 0 ≤ x) (h : x < n) (hn : n ≤ 256) : (Lit.int .i64 x).wf = true := by
  simp [Lit.wf, IntKind.min, IntKind.max, IntKind.signed, IntKind.bits]; omega


theorem IMap.more {P : Program} {z : Value} {w : World} {g n : Nat} {M : Int → Value} (m : IMap P z w g n M) {n' : Nat} (h : n ≤ n') : IMap P z w g n' M := by
  obtain ⟨D, o, hM⟩ := m
  exact ⟨D, o.mono h, hM⟩

/-- Memory and map hold the same words. -/
def Agree (n : Int) (D : Nat → Nat → Int) (M : Int → Value) : Prop := ∀ a : Int, 0 ≤ a → a < n → M a = arr (D a.toNat)

theorem Agree.upd {n : Int} {D : Nat → Nat → Int} {M : Int → Value} (h : Agree n D M) (A : Int) (hA : 0 ≤ A) (k : Nat) (v : Int) :
    Agree n (upd D A.toNat k v) (fun i => if i = A then arr (fun j => if j = k then v else D A.toNat j) else M i) := by
  intro a h0 h1
  by_cases e : a = A
  · subst e
    simp only [if_pos]
    congr 1
    funext j
    simp [YtpokeaacnbndbaaDoor.upd]
  · have : ¬ a.toNat = A.toNat := by omega
    simp only [e, if_false]
    rw [h a h0 h1]
    congr 1
    funext j
    simp [YtpokeaacnbndbaaDoor.upd, this]

theorem Agree.row {n : Int} {D : Nat → Nat → Int} {M : Int → Value} (h : Agree n D M) (A : Int) (hA : 0 ≤ A) (R : Nat → Int) :
    Agree n (row D A.toNat R) (fun i => if i = A then arr R else M i) := by
  intro a h0 h1
  by_cases e : a = A
  · subst e
    simp only [if_pos]
    congr 1
    funext j
    simp [YtpokeaacnbndbaaDoor.row]
  · have : ¬ a.toNat = A.toNat := by omega
    simp only [e, if_false]
    rw [h a h0 h1]
    congr 1
    funext j
    simp [YtpokeaacnbndbaaDoor.row, this]

theorem range_set {w : World} {b : Nat} {R : Nat → Int} (h : w.rangeAt b 0 (eight R)) (k : Nat) (hk : k < 8) (v : Int) :
    (w.setCell ⟨b, k, none⟩ (.int .i64 v)).rangeAt b 0 (eight fun j => if j = k then v else R j) := by
  intro j x hx
  have hj : j < 8 := by have := (List.getElem?_eq_some_iff.1 hx).1; simpa [eight_len] using this
  rw [eight_get _ _ hj] at hx
  cases hx
  have old := h k _ (eight_get R k hk)
  rw [Nat.zero_add] at old ⊢
  by_cases e : j = k
  · subst e
    rw [World.cell?_setCell_same _ _ _ old]; simp
  · rw [World.cell?_setCell_other _ _ _ _ (by intro q; simp only [Addr.mk.injEq, true_and, and_true] at q; omega)]
    have := h j _ (eight_get R j hj)
    rw [Nat.zero_add] at this
    rw [this]; simp [e]

theorem there_new (w : World) : (w.alloc (.cells #[.int .i64 0, .int .i64 0, .int .i64 0, .int .i64 0, .int .i64 0, .int .i64 0, .int .i64 0, .int .i64 0] 36)).there w.heap.size 0 8 := by
  have e : (w.alloc (.cells #[.int .i64 0, .int .i64 0, .int .i64 0, .int .i64 0, .int .i64 0, .int .i64 0, .int .i64 0, .int .i64 0] 36)).heap[w.heap.size]? = some (.cells (eight fun _ => 0).toArray 36) := by
    show (w.heap.push _)[w.heap.size]? = _
    rw [Array.getElem?_push, if_pos rfl]; rfl
  intro j hj
  refine ⟨?_, by unfold World.frozen?; simp only [e]; simp⟩
  rw [cell_of_row _ _ _ _ _ _ e]
  have := eight_get (fun _ => 0) j hj
  rw [Nat.zero_add]
  simp only [List.getElem?_toArray, this]; rfl

theorem grown_new (w : World) (o : Obj) (k : Nat) (vs : List Value) : w.grownBy ((w.alloc o).setCells w.heap.size k vs) none := by
  have h := World.grownBy_alloc w o none
  have g := grown_sets w.heap.size vs k (w.alloc o)
  exact ⟨g.os.trans h.os, g.tape.trans h.tape, g.output.trans h.output, Nat.le_trans h.size g.size, fun i hi hn => (g.block i (Nat.lt_of_lt_of_le hi h.size) (by intro e; cases e; omega)).trans (h.block i hi hn)⟩
end Go.Proofs.YtpokeaacnbndbaaDoor

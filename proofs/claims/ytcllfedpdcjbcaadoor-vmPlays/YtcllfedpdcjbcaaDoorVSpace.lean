/- Package vm: a space as it lies in memory; what is only asked of it, by its Go text. -/
import Derived.Test.YtcllfedpdcjbcaaDoorVStore
namespace Go.Proofs.YtcllfedpdcjbcaaDoor
open Go.RowKit Go.Shelf Go.Lib Go.Sort Go.Maps

def pgv (P : PM) : Int → Option Value := fun a => (P a).map fun p => .agg #[.int .i64 p.1, .int .i64 p.2]
def pg (P : PM) (a : Int) : Int × Int := (P a).getD (0, 0)
theorem pgv_get (P : PM) (a : Int) : (pgv P a).getD (.agg #[.int .i64 0, .int .i64 0]) = .agg #[.int .i64 (pg P a).1, .int .i64 (pg P a).2] := by
  unfold pgv pg; cases P a <;> rfl
theorem pgv_isSome (P : PM) (a : Int) : (pgv P a).isSome = (P a).isSome := by unfold pgv; cases P a <;> rfl
theorem pgv_put (P : PM) (a x y : Int) : (fun i => if i = a then some (.agg #[.int .i64 x, .int .i64 y]) else pgv P i) = pgv (putP P a (x, y)) := by
  funext i; unfold pgv putP; split <;> rfl
theorem pgv_del (P : PM) (a : Int) : (fun i => if i = a then none else pgv P i) = pgv (delP P a) := by
  funext i; by_cases e : i = a <;> simp [pgv, delP, e]
theorem pg_frm {P : PM} {a : Int} (h : (P a).isSome = true) : (pg P a).2 = frm P a := by
  unfold pg frm; cases e : P a with
  | none => rw [e] at h; cases h
  | some p => rfl
theorem pg_some {P : PM} {a : Int} (h : (P a).isSome = true) : P a = some (pg P a) := by
  unfold pg; cases e : P a with
  | none => rw [e] at h; cases h
  | some p => rfl

/-- A space at block c over a store at b, its pages at gc. -/
structure Sp (w : World) (c b gc : Nat) (P : PM) : Prop where
  head : w.heap[c]? = some (.cells #[vp b, .map (some gc)] 168)
  map : PMap w gc (lenP P) (pgv P)

theorem zero_page (w : World) : (zeroValue 172).run Tryd.prog w = .ok (.agg #[.int .i64 0, .int .i64 0]) w := by kernel_rfl

theorem page_second (x y : Int) (W : World) : (Instr.field 172 (.agg #[.int .i64 x, .int .i64 y]) 1).run Tryd.prog W = .ok (.int .i64 y) W := by kernel_rfl

theorem sumTo_last (g : Nat → Nat) : ∀ (m a : Nat), sumTo g a (m + 1) = sumTo g a m + g (a + m)
  | 0, a => by simp [sumTo]
  | m + 1, a => by rw [sumTo, sumTo_last g m (a + 1), sumTo]; rw [show a + 1 + m = a + (m + 1) by omega]; omega

/-- How many of n pages from a on are there. -/
def hasP (P : PM) (a : Int) (n : Nat) : Nat := sumTo (fun i => if (P (a + i)).isSome then 1 else 0) 0 n
theorem hasP_next (P : PM) (a : Int) (n : Nat) : hasP P a (n + 1) = hasP P a n + if (P (a + n)).isSome then 1 else 0 := by
  unfold hasP; rw [sumTo_last, Nat.zero_add]
theorem hasP_le (P : PM) (a : Int) (n : Nat) : hasP P a n ≤ n := by
  have := sumTo_const_le (g := fun i : Nat => if (P (a + i)).isSome then 1 else 0) (d := 1) n 0 (fun i => by split <;> omega)
  unfold hasP; omega
theorem hasP_none {P : PM} {a : Int} : ∀ {n : Nat}, hasP P a n = 0 → ∀ i : Nat, i < n → P (a + i) = none
  | n + 1, h, i, hi => by
    rw [hasP_next] at h
    by_cases e : i = n
    · subst e; cases e' : P (a + i) with
      | none => rfl
      | some p => rw [e'] at h; simp at h
    · exact hasP_none (n := n) (by omega) i (by omega)
theorem hasP_all {P : PM} {a : Int} : ∀ {n : Nat}, ¬ hasP P a n < n → ∀ i : Nat, i < n → (P (a + i)).isSome = true
  | n + 1, h, i, hi => by
    rw [hasP_next] at h
    have := hasP_le P a n
    by_cases e : i = n
    · subst e; cases e' : (P (a + i)).isSome with
      | true => rfl
      | false => rw [e'] at h; simp at h; omega
    · refine hasP_all (n := n) ?_ i (by omega)
      split at h <;> omega

section
variable {w w' : World} {c b gc : Nat} {P : PM}
theorem Sp.lt (h : Sp w c b gc P) : c < w.heap.size := lt_of_heap h.head
theorem Sp.glt (h : Sp w c b gc P) : gc < w.heap.size := h.map.lt
theorem Sp.ne (h : Sp w c b gc P) : c ≠ gc := by
  rintro rfl
  obtain ⟨es, cl, hm⟩ := h.map.isMap
  rw [h.head] at hm; cases hm
theorem Sp.keep (h : Sp w c b gc P) (h1 : w'.heap[c]? = w.heap[c]?) (h2 : w'.heap[gc]? = w.heap[gc]?) : Sp w' c b gc P := ⟨h1.trans h.head, h.map.keep h2⟩
theorem Sp.below (h : Sp w c b gc P) (hb : Below w.heap.size w w') : Sp w' c b gc P := h.keep (hb.block c h.lt) (hb.block gc h.glt)
theorem Sp.c0 (h : Sp w c b gc P) : w.cell? ⟨c, 0, none⟩ = some (vp b) := by rw [cell_of_row w c 0 _ _ _ h.head]; rfl
theorem Sp.c1 (h : Sp w c b gc P) : w.cell? ⟨c, 1, none⟩ = some (.map (some gc)) := by rw [cell_of_row w c 1 _ _ _ h.head]; rfl

set_option maxHeartbeats 1000000 in
theorem find_ok (h : Sp w c b gc P) (a : Int) (ha : (Lit.int .i64 a).wf = true) : Calls Tryd.prog 113 #[vp c, .int .i64 a] w fun e w' => e = .returned (.tuple #[.agg #[.int .i64 (pg P a).1, .int .i64 (pg P a).2], .bool (P a).isSome]) ∧ Below w.heap.size w w' := by
  have c1 := h.c1
  have hm := h.map
  have hg := pgv_get P a
  have hs := pgv_isSome P a
  have hlt := h.lt
  have hglt := h.glt
  clear h
  generalize (pg P a).1 = x at *
  generalize (pg P a).2 = y at *
  generalize (P a).isSome = t at *
  have e1 : ∀ o, (w.alloc o).cell? ⟨c, 1, none⟩ = some (.map (some gc)) := fun o => by rw [World.cell?_of_block (w := w) (a := ⟨c, 1, none⟩) (Below.heap_alloc _ _ _ hlt)]; exact c1
  go_enter Tryd.func113, Tryd.ntmps113
  go_wp2_with (at_lookup; refine wpList_kask rfl _ _ 166 rfl 172 Tryd.underlying166 _ (zero_page _) gc _ _ rfl (hm.keep (Below.heap_alloc _ _ _ hglt)) a rfl ha ?_; rw [hg, hs])
  refine bodyPost_ret (v := .tuple #[.agg #[.int .i64 x, .int .i64 y], .bool t]) (by simp [results, Tryd.results113, go_sem]) rfl ⟨rfl, ?_⟩
  repeat first | exact Below.refl _ _ | refine Below.alloc ?_ (by first | omega | (simp <;> omega)) _ | refine Below.setCell ?_ (by first | omega | (simp <;> omega)) _

def areP (a n : Int) : Bool := decide (1 ≤ n) && decide (0 ≤ a) && decide (a + n ≤ 64)
def isU (p : Int) : Bool := decide (1 ≤ p) && decide (p ≤ 3)
theorem areP_true {a n : Int} : areP a n = true ↔ 1 ≤ n ∧ 0 ≤ a ∧ a + n ≤ 64 := by unfold areP; simp [and_assoc]
theorem isU_true {p : Int} : isU p = true ↔ 1 ≤ p ∧ p ≤ 3 := by unfold isU; simp

set_option maxHeartbeats 1000000 in
theorem arePages_ok (w : World) (a n : Int) (hn : n ≤ 9223372036854775807) : Calls Tryd.prog 100 #[.int .i64 a, .int .i64 n] w fun e w' => e = .returned (.bool (areP a n)) ∧ w' = w := by
  by_cases h1 : 1 ≤ n <;> by_cases h2 : 0 ≤ a <;> by_cases h3 : a + n ≤ 64
  all_goals
    have hA : areP a n = (decide (1 ≤ n) && decide (0 ≤ a) && decide (a + n ≤ 64)) := rfl
    simp only [h1, h2, h3, decide_true, decide_false, Bool.and_true, Bool.and_false] at hA
    rw [hA]
    clear hA
    try have h4 : a ≤ 64 - n := by omega
    try have h4 : ¬ a ≤ 64 - n := by omega
    go_enter Tryd.func100, Tryd.ntmps100
    go_wp2_with fail
    go_ret
    exact ⟨rfl, rfl⟩

set_option maxHeartbeats 1000000 in
theorem isUse_ok (w : World) (p : Int) : Calls Tryd.prog 101 #[.int .i64 p] w fun e w' => e = .returned (.bool (isU p)) ∧ w' = w := by
  by_cases h1 : 1 ≤ p <;> by_cases h2 : p ≤ 3
  all_goals
    have hA : isU p = (decide (1 ≤ p) && decide (p ≤ 3)) := rfl
    simp only [h1, h2, decide_true, decide_false, Bool.and_true, Bool.and_false] at hA
    rw [hA]
    clear hA
    go_enter Tryd.func101, Tryd.ntmps101
    go_wp2_with fail
    go_ret
    exact ⟨rfl, rfl⟩

set_option maxHeartbeats 2000000 in
theorem Sp.count (h : Sp w c b gc P) (a : Int) (n : Nat) (h0 : 0 ≤ a) (h1 : a + n ≤ 64) : Calls Tryd.prog 102 #[vp c, .int .i64 a, .int .i64 (n : Int)] w fun e w' => e = .returned (.int .i64 (hasP P a n : Nat)) ∧ Below w.heap.size w w' := by
  go_enter Tryd.func102, Tryd.ntmps102
  go_wp2_with fail
  go_loopg [7, 12] n (fun mm s7 s12 wr => ∃ i : Nat, i + mm = n ∧ s12 = .int .i64 (i : Int) ∧ s7 = .int .i64 (hasP P a i : Nat) ∧ Below w.heap.size w wr)
  case atStart => exact ⟨0, by omega, rfl, rfl, Below.refl _ _⟩
  case round =>
    obtain ⟨i, hi, rfl, rfl, hb⟩ := hrel
    have hle := hasP_le P a i
    by_cases hlt : (i : Int) < (n : Int)
    · have hF := find_ok (h.below hb) (a + i) (wf_small (by omega) (by omega))
      have hnx := hasP_next P a i
      have hbl := hb.size
      generalize (pg P (a + i)).1 = x at *
      generalize (pg P (a + i)).2 = y at *
      generalize hS1 : hasP P a (i + 1) = S1 at *
      generalize hasP P a i = S0 at *
      clear h
      cases ht : (P (a + i)).isSome with
      | true =>
        rw [ht] at hF hnx
        replace hnx : S1 = S0 + 1 := hnx
        clear ht
        go_wp2_with (go_at_call 113; refine hF.mono ?_; rintro e w1 ⟨rfl, b1⟩)
        go_roundg (n - (i + 1))
        case measure => omega
        case rel =>
          refine ⟨i + 1, by omega, by go_num, by rw [hS1, hnx]; go_num, ?_⟩
          have b2 := hb.trans (b1.mono hb.size)
          have := b2.size
          repeat first | exact b2 | refine Below.alloc ?_ (by first | omega | (simp <;> omega)) _ | refine Below.setCell ?_ (by first | omega | (simp <;> omega)) _
      | false =>
        rw [ht] at hF hnx
        replace hnx : S1 = S0 := hnx
        clear ht
        go_wp2_with (go_at_call 113; refine hF.mono ?_; rintro e w1 ⟨rfl, b1⟩)
        go_roundg (n - (i + 1))
        case measure => omega
        case rel =>
          refine ⟨i + 1, by omega, by go_num, by rw [hS1, hnx], ?_⟩
          have b2 := hb.trans (b1.mono hb.size)
          have := b2.size
          repeat first | exact b2 | refine Below.alloc ?_ (by first | omega | (simp <;> omega)) _ | refine Below.setCell ?_ (by first | omega | (simp <;> omega)) _
    · have hin : i = n := by omega
      subst hin
      go_wp2_with fail
      go_ret
      exact ⟨rfl, hb⟩

/-- What is told of a word that is wanted. -/
def useE (P : PM) (a k use : Int) : Int := match P a with | none => 7 | some p => if 0 ≤ k ∧ k < 8 then (if p.1 / use % 2 = 0 then 13 else 0) else 2

theorem and_use {p use : Int} (hp : 1 ≤ p ∧ p ≤ 3) (hu : use = 1 ∨ use = 2) : ∃ v, bits BinOp.and IntKind.i64 p use = v ∧ (v = 0 ↔ p / use % 2 = 0) := by
  obtain ⟨h1, h2⟩ := hp
  have : p = 1 ∨ p = 2 ∨ p = 3 := by omega
  rcases this with rfl | rfl | rfl <;> rcases hu with rfl | rfl
  · exact ⟨1, by kernel_rfl, by decide⟩
  · exact ⟨0, by kernel_rfl, by decide⟩
  · exact ⟨0, by kernel_rfl, by decide⟩
  · exact ⟨2, by kernel_rfl, by decide⟩
  · exact ⟨1, by kernel_rfl, by decide⟩
  · exact ⟨2, by kernel_rfl, by decide⟩

/-- A page's two cells. -/
theorem page_cells {W : World} {i : Nat} {x y : Int} (h : W.heap[i]? = some (.cells #[.int .i64 x, .int .i64 y] 172)) : W.cell? ⟨i, 0, none⟩ = some (.int .i64 x) ∧ W.cell? ⟨i, 1, none⟩ = some (.int .i64 y) ∧ W.frozen? ⟨i, 0, none⟩ = false ∧ W.frozen? ⟨i, 1, none⟩ = false := by
  refine ⟨by rw [cell_of_row W i 0 _ _ _ h]; rfl, by rw [cell_of_row W i 1 _ _ _ h]; rfl, by simp [World.frozen?, h], by simp [World.frozen?, h]⟩
theorem heap_new (W : World) (o : Obj) : (W.alloc o).heap[W.heap.size]? = some o := by
  show (W.heap.push o)[W.heap.size]? = _
  rw [Array.getElem?_push, if_pos rfl]

/-- A page's two cells, written; and a block more. -/
theorem page_set {W : World} {i : Nat} {x y : Value} {t : TypeId} (h : W.heap[i]? = some (.cells #[x, y] t)) (u v : Value) (o : Obj) : (((W.setCell ⟨i, 0, none⟩ u).setCell ⟨i, 1, none⟩ v).alloc o).heap[i]? = some (.cells #[u, v] t) := by
  have h1 := heap_setCell_same W i 0 u _ _ _ h
  have h2 := heap_setCell_same _ i 1 v _ _ _ h1
  rw [Below.heap_alloc _ _ _ (lt_of_heap h2), h2]; rfl
theorem page_set_cells {W : World} {i : Nat} {x y : Value} {t : TypeId} (h : W.heap[i]? = some (.cells #[x, y] t)) (u v : Value) (o : Obj) : (((W.setCell ⟨i, 0, none⟩ u).setCell ⟨i, 1, none⟩ v).alloc o).cell? ⟨i, 0, none⟩ = some u ∧ (((W.setCell ⟨i, 0, none⟩ u).setCell ⟨i, 1, none⟩ v).alloc o).cell? ⟨i, 1, none⟩ = some v := by
  have h2 := page_set h u v o
  exact ⟨by rw [cell_of_row _ i 0 _ _ _ h2]; rfl, by rw [cell_of_row _ i 1 _ _ _ h2]; rfl⟩

set_option maxHeartbeats 4000000 in
theorem usable_ok {n : Nat} (h : Sp w c b gc P) (hok : PgOk n P) (a k use : Int) (ha : (Lit.int .i64 a).wf = true) (hu : use = 1 ∨ use = 2) :
    Calls Tryd.prog 107 #[vp c, .int .i64 a, .int .i64 k, .int .i64 use] w fun e w' => ∃ x y, e = .returned (.tuple #[.agg #[.int .i64 x, .int .i64 y], errV (useE P a k use)]) ∧ (useE P a k use = 0 → P a = some (x, y)) ∧ Below w.heap.size w w' := by
  have e1 : ∀ o, Below w.heap.size w (w.alloc o) := fun o => (Below.refl _ w).alloc (Nat.le_refl _) _
  have hF := find_ok (h.below (e1 (.cells #[.int .i64 0, .int .i64 0] 172))) a ha
  have hn := heap_new w (.cells #[.int .i64 0, .int .i64 0] 172)
  have hln : (w.alloc (.cells #[.int .i64 0, .int .i64 0] 172)).heap.size = w.heap.size + 1 := by simp
  go_enter Tryd.func107, Tryd.ntmps107
  go_wp2_with fail
  refine hF.mono ?_
  rintro e w1 ⟨rfl, b1⟩
  have b2 : Below w.heap.size w w1 := (e1 _).trans (b1.mono (by omega))
  have hl1 := b1.size
  have hblk := (b1.block w.heap.size (by omega)).trans hn
  obtain ⟨r0, r1, f0, f1⟩ := page_cells hblk
  have s0 := fun u v o => (page_set_cells hblk u v o).1
  have s1 := fun u v o => (page_set_cells hblk u v o).2
  clear hblk
  have hl2 : w.heap.size < w1.heap.size := by omega
  have hne : w.heap.size ≠ w1.heap.size := by omega
  cases hP : P a with
  | none =>
    have hpg : pg P a = (0, 0) := by unfold pg; rw [hP]; rfl
    have hE : useE P a k use = 7 := by unfold useE; rw [hP]
    rw [hpg]
    have HP := hide hP
    clear hP h hok hpg hF hn b1
    simp only [Option.isSome_none]
    have HE := hide hE
    clear hE
    go_wp2_with fail
    refine bodyPost_ret (v := .tuple #[.agg #[.int .i64 0, .int .i64 0], enr 7]) (by simp [results, Tryd.results107, go_sem, s0, s1]) rfl ⟨0, 0, by rw [HE.out]; rfl, fun h => absurd (HE.out.symm.trans h) (by decide), ?_⟩
    repeat first | exact b2 | refine Below.alloc ?_ (by first | omega | (simp <;> omega)) _ | refine Below.setCell ?_ (by first | omega | (simp <;> omega)) _
  | some p =>
    have hpg : pg P a = p := by unfold pg; rw [hP]; rfl
    have hpr := hok.prot a p hP
    obtain ⟨v, hv, hv0⟩ := and_use hpr hu
    have hE : useE P a k use = if 0 ≤ k ∧ k < 8 then (if p.1 / use % 2 = 0 then 13 else 0) else 2 := by unfold useE; rw [hP]
    rw [hpg]
    have HP := hide hP
    clear hP h hok hpg hF hn b1
    obtain ⟨x, y⟩ := p
    simp only [Option.isSome_some]
    simp only at hE hpr hv hv0
    by_cases hk0 : k < 0
    · rw [if_neg (by omega)] at hE
      clear hv hv0
      have HE := hide hE
      clear hE
      go_wp2_with fail
      refine bodyPost_ret (v := .tuple #[.agg #[.int .i64 0, .int .i64 0], enr 2]) (by simp [results, Tryd.results107, go_sem, s0, s1]) rfl ⟨0, 0, by rw [HE.out]; rfl, fun h => absurd (HE.out.symm.trans h) (by decide), ?_⟩
      repeat first | exact b2 | refine Below.alloc ?_ (by first | omega | (simp <;> omega)) _ | refine Below.setCell ?_ (by first | omega | (simp <;> omega)) _
    · by_cases hk8 : 8 ≤ k
      · rw [if_neg (by omega)] at hE
        clear hv hv0
        have HE := hide hE
        clear hE
        go_wp2_with fail
        refine bodyPost_ret (v := .tuple #[.agg #[.int .i64 0, .int .i64 0], enr 2]) (by simp [results, Tryd.results107, go_sem, s0, s1]) rfl ⟨0, 0, by rw [HE.out]; rfl, fun h => absurd (HE.out.symm.trans h) (by decide), ?_⟩
        repeat first | exact b2 | refine Below.alloc ?_ (by first | omega | (simp <;> omega)) _ | refine Below.setCell ?_ (by first | omega | (simp <;> omega)) _
      · rw [if_pos (by omega)] at hE
        by_cases hz : v = 0
        · rw [if_pos (hv0.1 hz)] at hE
          rw [hz] at hv
          clear hv0 hz
          have HE := hide hE
          clear hE
          go_wp2_with fail
          refine bodyPost_ret (v := .tuple #[.agg #[.int .i64 0, .int .i64 0], enr 13]) (by simp [results, Tryd.results107, go_sem, s0, s1]) rfl ⟨0, 0, by rw [HE.out]; rfl, fun h => absurd (HE.out.symm.trans h) (by decide), ?_⟩
          repeat first | exact b2 | refine Below.alloc ?_ (by first | omega | (simp <;> omega)) _ | refine Below.setCell ?_ (by first | omega | (simp <;> omega)) _
        · rw [if_neg (fun h => hz (hv0.2 h))] at hE
          clear hv0
          have HE := hide hE
          clear hE
          go_wp2_with fail
          refine bodyPost_ret (v := .tuple #[.agg #[.int .i64 x, .int .i64 y], .nilIface]) (by simp [results, Tryd.results107, go_sem, s0, s1]) rfl ⟨x, y, by rw [HE.out]; rfl, fun _ => HP.out, ?_⟩
          repeat first | exact b2 | refine Below.alloc ?_ (by first | omega | (simp <;> omega)) _ | refine Below.setCell ?_ (by first | omega | (simp <;> omega)) _
end
end Go.Proofs.YtcllfedpdcjbcaaDoor

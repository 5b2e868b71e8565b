/- The library's Insert at a row of bases: one more, in its place. -/
import Derived.Test.YtcllfedpdcjbcaaDoorTakeOut
namespace Go.Proofs.YtcllfedpdcjbcaaDoor
open Go.RowKit Go.Shelf Go.Lib Go.Sort

theorem row_of {w : World} {s : Nat} {c : Array Value} {ys : List Int} (h : w.heap[s]? = some (.cells c 3)) (h1 : ys.length ≤ c.size) (h2 : c.size ≤ maxLen) (hc : ∀ j, j < ys.length → w.cell? ⟨s, j, none⟩ = some (.int .i64 (ys.getD j 0))) :
    RowAt w (some s) (.slice (some ⟨s, 0, none⟩) ys.length c.size) ys :=
  ⟨c, h, rfl, h1, h2, fun j hj => by rw [← cell_of_row w s j _ _ _ h]; exact hc j hj⟩

theorem ins_len (l : List Int) (x : Int) : (ins l x).length = l.length + 1 := by
  have := List.countP_le_length (p := (· < x)) (l := l)
  simp [ins]; omega

theorem ins_at (l : List Int) (x : Int) (j : Nat) : (ins l x).getD j 0 = if j < l.countP (· < x) then l.getD j 0 else if j = l.countP (· < x) then x else l.getD (j - 1) 0 := by
  have hc := List.countP_le_length (p := (· < x)) (l := l)
  unfold ins
  generalize l.countP (· < x) = i at *
  rw [List.getD_eq_getElem?_getD]
  by_cases h1 : j < i
  · rw [if_pos h1, List.getElem?_append_left (by simp; omega), List.getElem?_take, if_pos h1, List.getD_eq_getElem?_getD]
  · rw [if_neg h1, List.getElem?_append_right (by simp; omega)]
    by_cases h2 : j = i
    · subst h2; simp [Nat.min_eq_left hc]
    · rw [if_neg h2]
      have e : j - (l.take i).length = (j - 1 - i) + 1 := by simp [Nat.min_eq_left hc]; omega
      rw [e, List.getElem?_cons_succ, List.getElem?_drop, List.getD_eq_getElem?_getD]
      congr 2; omega

theorem cells_map (l : List Int) (j : Nat) (v : Value) (h : (l.map ic)[j]? = some v) : j < l.length ∧ v = .int .i64 (l.getD j 0) := by
  rw [List.getElem?_map] at h
  cases e : l[j]? with
  | none => rw [e] at h; cases h
  | some a =>
    rw [e] at h
    have hj := (List.getElem?_eq_some_iff.1 e).1
    refine ⟨hj, ?_⟩
    simp [List.getD_eq_getElem?_getD, e]
    simpa using h.symm

theorem map_get (l : List Int) (j : Nat) (h : j < l.length) : (l.map ic)[j]? = some (.int .i64 (l.getD j 0)) := by
  simp [h, List.getD_eq_getElem?_getD, ic]

theorem map_one (l : List Int) : ∀ v ∈ l.map ic, v.oneCell' = true := by
  intro v hv; obtain ⟨a, _, rfl⟩ := List.mem_map.1 hv; rfl

theorem one_one (x : Int) : ∀ v ∈ [ic x], v.oneCell' = true := by
  intro v hv; rw [List.mem_singleton] at hv; subst hv; rfl

theorem setIn {w : World} {s o : Nat} {vs : List Value} (hin : ∀ q, q < vs.length → (w.cell? ⟨s, o + q, none⟩).isSome = true) (j : Nat) (h1 : o ≤ j) (h2 : j < o + vs.length) : (w.setCells s o vs).cell? ⟨s, j, none⟩ = vs[j - o]? := by
  have := World.cell?_setCells_in s vs o w hin (j - o) (by omega)
  rw [Nat.add_sub_cancel' h1] at this
  rw [this, List.getElem?_eq_getElem (by omega)]

theorem setOut {w : World} {s o : Nat} {vs : List Value} (j : Nat) (h : j < o ∨ o + vs.length ≤ j) : (w.setCells s o vs).cell? ⟨s, j, none⟩ = w.cell? ⟨s, j, none⟩ :=
  World.cell?_setCells_out s vs o w ⟨s, j, none⟩ (fun _ _ => h)

set_option maxHeartbeats 1000000 in
theorem ins_row {W : World} {o : Option Nat} {v : Value} {xs : List Int} (hr : RowAt W o v xs) (y : Nat) (x : Int) (hy : W.heap[y]? = some (.cells #[.int .i64 x] 3)) (hne : o ≠ some y) (hl : xs.length ≤ 256) :
    Calls Tryd.prog 115 #[v, .int .i64 (xs.countP (· < x) : Nat), .slice (some ⟨y, 0, none⟩) 1 1] W fun e w' => ∃ a c, e = .returned (.slice a (ins xs x).length c) ∧ ∃ o', RowAt w' o' (.slice a (ins xs x).length c) (ins xs x) ∧ (o' = o ∨ ∃ s, o' = some s ∧ W.heap.size ≤ s) ∧ Fr (fun i => o = some i) W w' := by
  have hcl := List.countP_le_length (p := (· < x)) (l := xs)
  have hvs : ∀ j v, [ic x][j]? = some v → W.cell? ⟨y, 0 + j, none⟩ = some v := by
    intro j v h
    rw [cell_of_row W y _ _ _ _ hy, Nat.zero_add]
    have : j = 0 := by have := (List.getElem?_eq_some_iff.1 h).1; simpa using this
    subst this; simpa using h
  have hml : maxLen ≤ 9223372036854775807 := by decide
  have hmb : 257 ≤ maxLen := by decide
  have ht : Tryd.insertL_ren.t 3 = 3 := rfl
  rw [ins_len]
  -- a new row
  have hnew : ∀ (w' : World) (cap : Nat) (cs : Array Value), xs.length + 1 ≤ cap → cap ≤ maxLen → cs.size = cap → w'.heap[W.heap.size]? = some (.cells cs 3) → (∀ j, j < xs.length + 1 → w'.cell? ⟨W.heap.size, j, none⟩ = some (.int .i64 ((ins xs x).getD j 0))) →
      RowAt w' (some W.heap.size) (.slice (some ⟨W.heap.size, 0, none⟩) (xs.length + 1) cap) (ins xs x) := by
    intro w' cap cs h1 h2 h3 h4 h5
    have := row_of (ys := ins xs x) h4 (by rw [ins_len]; omega) (by omega) (by rw [ins_len]; exact h5)
    rw [ins_len, h3] at this; exact this
  by_cases hi : xs.countP (· < x) = xs.length
  · rw [hi]
    by_cases hroom : ∃ s, o = some s ∧ ∃ c : Array Value, W.heap[s]? = some (.cells c 3) ∧ xs.length + 1 ≤ c.size
    · obtain ⟨s, rfl, c, h1, hro⟩ := hroom
      obtain ⟨c', h1', rfl, h3, h4, h5⟩ := hr
      rw [h1] at h1'; cases h1'
      have hsp : ∀ j, j < 1 → (W.cell? ⟨s, 0 + xs.length + j, none⟩).isSome = true := by
        intro j hj; rw [cell_of_row W s _ _ _ _ h1]; simp; omega
      refine (Any2.slices_Insert_int_end_room Tryd.insertL s 0 xs.length c.size y 0 1 1 [ic x] W (by omega) hro (by omega) rfl hsp (fun j _ => by simp [World.frozen?, h1]) hvs (one_one x)).mono ?_
      rintro e w' ⟨rfl, rfl⟩
      obtain ⟨c2, e1, e2⟩ := heap_setCells_same s 3 (0, 0) [ic x] (0 + xs.length) W c h1
      have hrow := row_of (ys := ins xs x) e1 (by rw [ins_len]; omega) (by omega) (fun j hj => by
        rw [ins_len] at hj
        rw [ins_at, hi]
        by_cases hj' : j < xs.length
        · rw [if_pos hj', setOut j (.inl (by omega)), cell_of_row W s _ _ _ _ h1, h5 j hj']
        · have : j = xs.length := by omega
          subst this
          rw [if_neg (by omega), if_pos rfl, setIn (by intro q hq; exact hsp q (by simpa using hq)) _ (by omega) (by simp)]
          simp [ic])
      rw [ins_len, e2] at hrow
      exact ⟨_, _, rfl, _, hrow, .inl rfl, Fr.setCells (A := fun i => some s = some i) s (fun _ => rfl) _ _ _ (Fr.refl _ _)⟩
    · have hnc : ∃ c, v = .slice (o.map fun s => ⟨s, 0, none⟩) xs.length c ∧ xs.length ≤ c ∧ c < xs.length + 1 ∧ (o = none → xs.length = 0) ∧ ∀ a : Addr, (o.map fun s => (⟨s, 0, none⟩ : Addr)) = some a → ∀ j v, (xs.map ic)[j]? = some v → W.cell? (a.add j) = some v := by
        cases o with
        | none => obtain ⟨rfl, rfl⟩ := hr; exact ⟨0, rfl, by simp, by simp, fun _ => rfl, fun a h => (by cases h)⟩
        | some s =>
          obtain ⟨c, h1, rfl, h3, h4, h5⟩ := hr
          have hlt : c.size < xs.length + 1 := by
            by_cases h : xs.length + 1 ≤ c.size
            · exact absurd ⟨s, rfl, c, h1, h⟩ hroom
            · omega
          refine ⟨c.size, rfl, h3, hlt, fun h => (by cases h), fun a h j v hv => ?_⟩
          cases h
          obtain ⟨hj, rfl⟩ := cells_map xs j v hv
          rw [Addr.add_lit, cell_of_row W s _ _ _ _ h1, Nat.zero_add, h5 j hj]
      obtain ⟨c, rfl, h1, h2, h3, h4⟩ := hnc
      have hcall := Any2.slices_Insert_int_end_grow Tryd.insertL (o.map fun s => ⟨s, 0, none⟩) xs.length c y 0 1 1 (xs.map ic) [ic x] W (by omega) h1 h2 (by omega) (by simp) rfl (fun h => h3 (by cases o <;> simp_all)) h4 hvs (one_one x)
      rw [ht] at hcall
      refine hcall.mono ?_
      rintro e w' ⟨rfl, rfl⟩
      have hg1 := grownCap_ge W (xs.length + 1) c 3
      have hg2 := grownCap_le_maxLen W (xs.length + 1) c 3 (by omega)
      refine ⟨_, _, rfl, some W.heap.size, ?_, .inr ⟨_, rfl, Nat.le_refl _⟩, (Fr.drew _ W).trans (Fr.alloc _ _ _) (fun _ _ h => h)⟩
      have hh : (W.drew.alloc (.cells ((xs.map ic ++ [ic x]).toArray ++ Builtin.zeroCells (Value.int .i64 0).cells (grownCap W (xs.length + 1) c 3 - (xs.length + 1))) 3)).heap[W.heap.size]? = some (.cells ((xs.map ic ++ [ic x]).toArray ++ Builtin.zeroCells (Value.int .i64 0).cells (grownCap W (xs.length + 1) c 3 - (xs.length + 1))) 3) := by
        show (W.heap.push _)[W.heap.size]? = _
        rw [Array.getElem?_push, if_pos rfl]
      refine hnew _ _ _ hg1 hg2 ?_ hh (fun j hj => ?_)
      · simp [Builtin.zeroCells, Value.cells]; omega
      · rw [cell_of_row _ _ _ _ _ _ hh, Array.getElem?_append_left (by simp; omega), ins_at, hi]
        by_cases hj' : j < xs.length
        · rw [if_pos hj']; simp [List.getElem?_append_left, hj', List.getD_eq_getElem?_getD, ic]
        · have : j = xs.length := by omega
          subst this; simp [ic]
  · have hi' : xs.countP (· < x) < xs.length := by omega
    have hn0 : 0 < xs.length := by omega
    cases o with
    | none => obtain ⟨_, rfl⟩ := hr; simp at hn0
    | some s =>
      obtain ⟨c, h1, rfl, h3, h4, h5⟩ := hr
      have hys : y ≠ s := fun e => hne (by rw [e])
      have hcs : ∀ j v, (xs.map ic)[j]? = some v → W.cell? ⟨s, 0 + j, none⟩ = some v := by
        intro j v hv
        obtain ⟨hj, rfl⟩ := cells_map xs j v hv
        rw [cell_of_row W s _ _ _ _ h1, Nat.zero_add, h5 j hj]
      have hdrop : ∀ j, xs.countP (· < x) + 1 ≤ j → j < xs.length + 1 → ((xs.map ic).drop (xs.countP (· < x)))[j - (xs.countP (· < x) + 1)]? = some (.int .i64 (xs.getD (j - 1) 0)) := by
        intro j hj1 hj2
        rw [List.getElem?_drop, show xs.countP (· < x) + (j - (xs.countP (· < x) + 1)) = j - 1 by omega, map_get xs (j - 1) (by omega)]
      by_cases hro : xs.length + 1 ≤ c.size
      · have hsp : ∀ j, j < xs.length + 1 → (W.cell? ⟨s, 0 + j, none⟩).isSome = true := by
          intro j hj; rw [cell_of_row W s _ _ _ _ h1]; simp; omega
        refine (Any2.slices_Insert_int_shift Tryd.insertL s 0 xs.length c.size (xs.countP (· < x)) y 0 1 1 (xs.map ic) [ic x] W hi' (by omega) hro (by omega) hys (by simp) rfl hcs hsp (fun j _ => by simp [World.frozen?, h1]) hvs (map_one xs) (one_one x) 3 3 1 c.size (by simp [World.shape?, hy]) (by simp [World.shape?, h1]) (by omega) (by simp [World.frozen?, hy]) (by simp [World.frozen?, hy])).mono ?_
        rintro e w' ⟨rfl, rfl⟩
        obtain ⟨c2, e1, e2⟩ := heap_setCells_same s 3 (0, 0) ((xs.map ic).drop (xs.countP (· < x))) (0 + (xs.countP (· < x) + 1)) W.drew c h1
        obtain ⟨c3, e3, e4⟩ := heap_setCells_same s 3 (0, 0) [ic x] (0 + xs.countP (· < x)) _ c2 e1
        have hld : ((xs.map ic).drop (xs.countP (· < x))).length = xs.length - xs.countP (· < x) := by simp
        have hrow := row_of (ys := ins xs x) e3 (by rw [ins_len]; omega) (by omega) (fun j hj => by
          rw [ins_len] at hj
          rw [ins_at]
          have hin1 : ∀ q, q < ((xs.map ic).drop (xs.countP (· < x))).length → (W.drew.cell? ⟨s, 0 + (xs.countP (· < x) + 1) + q, none⟩).isSome = true := by
            intro q hq
            have := hsp (xs.countP (· < x) + 1 + q) (by rw [hld] at hq; omega)
            rw [show 0 + (xs.countP (· < x) + 1) + q = 0 + (xs.countP (· < x) + 1 + q) by omega]; exact this
          by_cases c1 : j < xs.countP (· < x)
          · rw [if_pos c1, setOut j (.inl (by omega)), setOut j (.inl (by omega))]
            show W.cell? _ = _
            rw [cell_of_row W s _ _ _ _ h1, h5 j (by omega)]
          · by_cases c2 : j = xs.countP (· < x)
            · subst c2
              rw [if_neg c1, if_pos rfl, setIn (by
                intro q hq
                rw [setOut _ (.inl (by simp at hq; omega))]
                exact hsp _ (by simp at hq; omega) ▸ (by simp at hq; subst hq; rfl)) _ (by omega) (by simp)]
              simp [ic]
            · rw [if_neg c1, if_neg c2, setOut j (.inr (by simp; omega)), setIn hin1 _ (by omega) (by rw [hld]; omega)]
              rw [show j - (0 + (xs.countP (· < x) + 1)) = j - (xs.countP (· < x) + 1) by omega]
              exact hdrop j (by omega) hj)
        rw [ins_len, e4, e2] at hrow
        exact ⟨_, _, rfl, _, hrow, .inl rfl, Fr.setCells (A := fun i => some s = some i) s (fun _ => rfl) _ _ _ (Fr.setCells (A := fun i => some s = some i) s (fun _ => rfl) _ _ _ (Fr.drew _ W))⟩
      · have hcall := Any2.slices_Insert_int_grow Tryd.insertL s 0 xs.length c.size (xs.countP (· < x)) y 0 1 1 (xs.map ic) [ic x] W hi' (by omega) h3 (by omega) (by omega) (by simp) rfl hcs hvs (map_one xs) (one_one x)
        rw [ht] at hcall
        refine hcall.mono ?_
        rintro e w' ⟨rfl, rfl⟩
        have hg1 := grownCap_ge W (xs.length + 1) c.size 3
        have hg2 := grownCap_le_maxLen W (xs.length + 1) c.size 3 (by omega)
        generalize grownCap W (xs.length + 1) c.size 3 = cap at *
        obtain ⟨z0, hz0⟩ : ∃ z0, z0 = ((xs.map ic).take (xs.countP (· < x))).toArray ++ Builtin.zeroCells (Value.int .i64 0).cells (xs.length + 1 - xs.countP (· < x)) ++ Builtin.zeroCells (Value.int .i64 0).cells (cap - (xs.length + 1)) := ⟨_, rfl⟩
        rw [← hz0]
        have hzs : z0.size = cap := by rw [hz0]; simp [Builtin.zeroCells, Value.cells, Nat.min_eq_left hcl]; omega
        have hh : (W.alloc (.cells z0 3)).drew.heap[W.heap.size]? = some (.cells z0 3) := by
          show (W.heap.push _)[W.heap.size]? = _
          rw [Array.getElem?_push, if_pos rfl]
        obtain ⟨c2, e1, e2⟩ := heap_setCells_same W.heap.size 3 (0, 0) [ic x] (xs.countP (· < x)) _ z0 hh
        have e1' : ((W.alloc (.cells z0 3)).drew.setCells W.heap.size (xs.countP (· < x)) [ic x]).drew.heap[W.heap.size]? = some (.cells c2 3) := e1
        obtain ⟨c3, e3, e4⟩ := heap_setCells_same W.heap.size 3 (0, 0) ((xs.map ic).drop (xs.countP (· < x))) (xs.countP (· < x) + 1) _ c2 e1'
        have hld : ((xs.map ic).drop (xs.countP (· < x))).length = xs.length - xs.countP (· < x) := by simp
        have hsp : ∀ j, j < cap → ((W.alloc (.cells z0 3)).drew.cell? ⟨W.heap.size, j, none⟩).isSome = true := by
          intro j hj; rw [cell_of_row _ _ _ _ _ _ hh]; simp [hzs, hj]
        have hsp2 : ∀ j, j < cap → (((W.alloc (.cells z0 3)).drew.setCells W.heap.size (xs.countP (· < x)) [ic x]).drew.cell? ⟨W.heap.size, j, none⟩).isSome = true := by
          intro j hj; rw [cell_of_row _ _ _ _ _ _ e1']; simp [e2, hzs, hj]
        refine ⟨_, _, rfl, some W.heap.size, hnew _ _ c3 hg1 hg2 (by rw [e4, e2, hzs]) e3 (fun j hj => ?_), .inr ⟨_, rfl, Nat.le_refl _⟩, ?_⟩
        · rw [ins_at]
          by_cases k1 : j < xs.countP (· < x)
          · rw [if_pos k1, setOut j (.inl (by omega))]
            show World.cell? ((W.alloc (.cells z0 3)).drew.setCells W.heap.size (xs.countP (· < x)) [ic x]) _ = _
            rw [setOut j (.inl (by omega)), cell_of_row _ _ _ _ _ _ hh, hz0, Array.append_assoc, Array.getElem?_append_left (by simp; omega), List.getElem?_toArray, List.getElem?_take, if_pos k1, map_get xs j (by omega)]
          · by_cases k2 : j = xs.countP (· < x)
            · subst k2
              rw [if_neg k1, if_pos rfl, setOut _ (.inl (by omega))]
              show World.cell? ((W.alloc (.cells z0 3)).drew.setCells W.heap.size (xs.countP (· < x)) [ic x]) _ = _
              rw [setIn (by intro q hq; exact hsp _ (by simp at hq; omega)) _ (by omega) (by simp)]
              simp [ic]
            · rw [if_neg k1, if_neg k2, setIn (by intro q hq; exact hsp2 _ (by rw [hld] at hq; omega)) _ (by omega) (by rw [hld]; omega)]
              exact hdrop j (by omega) hj
        · refine Fr.setCells (A := fun i => some s = some i) W.heap.size (fun h => by omega) _ _ _ ?_
          have hf := Fr.setCells (A := fun i => some s = some i) (w := W) W.heap.size (fun h => by omega) [ic x] (xs.countP (· < x)) _ ((Fr.alloc _ W (.cells z0 3)).trans (Fr.drew _ _) (fun _ _ h => h))
          exact hf.trans (Fr.drew _ _) (fun _ _ h => h)
end Go.Proofs.YtcllfedpdcjbcaaDoor

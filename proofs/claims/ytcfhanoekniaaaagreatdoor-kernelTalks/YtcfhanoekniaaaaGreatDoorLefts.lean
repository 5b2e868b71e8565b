/- The library's Insert at a row of bases: one more, in its place. -/
import Derived.Test.YtcfhanoekniaaaaGreatDoorTakeOut
import Derived.Carry
namespace Go.Proofs.YtcfhanoekniaaaaGreatDoor
open Go.RowKit Go.Shelf Go.Lib Go.Sort

theorem row_of {w : World} {s : Nat} {c : Array Value} {ys : List Int} (h : w.heap[s]? = some (.cells c 3)) (h1 : ys.length ≤ c.size) (h2 : c.size ≤ maxLen) (hc : ∀ j, j < ys.length → w.cell? ⟨s, j, none⟩ = some (.int .i64 (ys.getD j 0))) :
    RowAt w (some s) (.slice (some ⟨s, 0, none⟩) ys.length c.size) ys :=
  ⟨c, h, rfl, h1, h2, fun j hj => by rw [← cell_of_row w s j _ _ _ h]; exact hc j hj⟩

theorem ins_len (l : List Int) (x : Int) : (ins l x).length = l.length + 1 := by
  have := List.countP_le_length (p := (· < x)) (l := l)
  simp [ins]; omega

theorem ins_at (l : List Int) (x : Int) (j : Nat) : (ins l x).getD j 0 = if j < l.countP (· < x) then l.getD j 0 else if j = l.countP (· < x) then x else l.getD (j - 1) 0 := by
  have hc := List.countP_le_length (p := (· < x)) (l := l)
  unfold ins
  generalize l.countP (· < x) = i at *
  rw [List.getD_eq_getElem?_getD]
  by_cases h1 : j < i
  · rw [if_pos h1, List.getElem?_append_left (by simp; omega), List.getElem?_take, if_pos h1, List.getD_eq_getElem?_getD]
  · rw [if_neg h1, List.getElem?_append_right (by simp; omega)]
    by_cases h2 : j = i
    · subst h2; simp [Nat.min_eq_left hc]
    · rw [if_neg h2]
      have e : j - (l.take i).length = (j - 1 - i) + 1 := by simp [Nat.min_eq_left hc]; omega
      rw [e, List.getElem?_cons_succ, List.getElem?_drop, List.getD_eq_getElem?_getD]
      congr 2; omega

theorem cells_map (l : List Int) (j : Nat) (v : Value) (h : (l.map ic)[j]? = some v) : j < l.length ∧ v = .int .i64 (l.getD j 0) := by
  rw [List.getElem?_map] at h
  cases e : l[j]? with
  | none => rw [e] at h; cases h
  | some a =>
    rw [e] at h
    have hj := (List.getElem?_eq_some_iff.1 e).1
    refine ⟨hj, ?_⟩
    simp [List.getD_eq_getElem?_getD, e]
    simpa using h.symm

theorem map_get (l : List Int) (j : Nat) (h : j < l.length) : (l.map ic)[j]? = some (.int .i64 (l.getD j 0)) := by
  simp [h, List.getD_eq_getElem?_getD, ic]

theorem map_one (l : List Int) : ∀ v ∈ l.map ic, v.oneCell' = true := by
  intro v hv; obtain ⟨a, _, rfl⟩ := List.mem_map.1 hv; rfl

theorem one_one (x : Int) : ∀ v ∈ [ic x], v.oneCell' = true := by
  intro v hv; rw [List.mem_singleton] at hv; subst hv; rfl

theorem setIn {w : World} {s o : Nat} {vs : List Value} (hin : ∀ q, q < vs.length → (w.cell? ⟨s, o + q, none⟩).isSome = true) (j : Nat) (h1 : o ≤ j) (h2 : j < o + vs.length) : (w.setCells s o vs).cell? ⟨s, j, none⟩ = vs[j - o]? := by
  have := World.cell?_setCells_in s vs o w hin (j - o) (by omega)
  rw [Nat.add_sub_cancel' h1] at this
  rw [this, List.getElem?_eq_getElem (by omega)]

theorem setOut {w : World} {s o : Nat} {vs : List Value} (j : Nat) (h : j < o ∨ o + vs.length ≤ j) : (w.setCells s o vs).cell? ⟨s, j, none⟩ = w.cell? ⟨s, j, none⟩ :=
  World.cell?_setCells_out s vs o w ⟨s, j, none⟩ (fun _ _ => h)

set_option maxHeartbeats 1000000 in
theorem ins_row {W : World} {o : Option Nat} {v : Value} {xs : List Int} (hr : RowAt W o v xs) (y : Nat) (x : Int) (hy : W.heap[y]? = some (.cells #[.int .i64 x] 3)) (hne : o ≠ some y) (hl : xs.length ≤ 256) :
    Calls Tryz.prog 293 #[v, .int .i64 (xs.countP (· < x) : Nat), .slice (some ⟨y, 0, none⟩) 1 1] W fun e w' => ∃ a c, e = .returned (.slice a (ins xs x).length c) ∧ ∃ o', RowAt w' o' (.slice a (ins xs x).length c) (ins xs x) ∧ (o' = o ∨ ∃ s, o' = some s ∧ W.heap.size ≤ s) ∧ Fr (fun i => o = some i) W w' := by
  have hcl := List.countP_le_length (p := (· < x)) (l := xs)
  have hvs : ∀ j v, [ic x][j]? = some v → W.cell? ⟨y, 0 + j, none⟩ = some v := by
    intro j v h
    rw [cell_of_row W y _ _ _ _ hy, Nat.zero_add]
    have : j = 0 := by have := (List.getElem?_eq_some_iff.1 h).1; simpa using this
    subst this; simpa using h
  have hml : maxLen ≤ 9223372036854775807 := by decide
  have hmb : 257 ≤ maxLen := by decide
  have ht : Tryz.insertL_ren.t 3 = 3 := rfl
  rw [ins_len]
  -- a new row
  have hnew : ∀ (w' : World) (cap : Nat) (cs : Array Value), xs.length + 1 ≤ cap → cap ≤ maxLen → cs.size = cap → w'.heap[W.heap.size]? = some (.cells cs 3) → (∀ j, j < xs.length + 1 → w'.cell? ⟨W.heap.size, j, none⟩ = some (.int .i64 ((ins xs x).getD j 0))) →
      RowAt w' (some W.heap.size) (.slice (some ⟨W.heap.size, 0, none⟩) (xs.length + 1) cap) (ins xs x) := by
    intro w' cap cs h1 h2 h3 h4 h5
    have := row_of (ys := ins xs x) h4 (by rw [ins_len]; omega) (by omega) (by rw [ins_len]; exact h5)
    rw [ins_len, h3] at this; exact this
  by_cases hi : xs.countP (· < x) = xs.length
  · rw [hi]
    by_cases hroom : ∃ s, o = some s ∧ ∃ c : Array Value, W.heap[s]? = some (.cells c 3) ∧ xs.length + 1 ≤ c.size
    · obtain ⟨s, rfl, c, h1, hro⟩ := hroom
      obtain ⟨c', h1', rfl, h3, h4, h5⟩ := hr
      rw [h1] at h1'; cases h1'
      have hsp : ∀ j, j < 1 → (W.cell? ⟨s, 0 + xs.length + j, none⟩).isSome = true := by
        intro j hj; rw [cell_of_row W s _ _ _ _ h1]; simp; omega
      refine (Any2.slices_Insert_int_end_room Tryz.insertL s 0 xs.length c.size y 0 1 1 [ic x] W (by omega) hro (by omega) rfl hsp (fun j _ => by simp [World.frozen?, h1]) hvs (one_one x)).mono ?_
      rintro e w' ⟨rfl, rfl⟩
      obtain ⟨c2, e1, e2⟩ := heap_setCells_same s 3 (0, 0) [ic x] (0 + xs.length) W c h1
      have hrow := row_of (ys := ins xs x) e1 (by rw [ins_len]; omega) (by omega) (fun j hj => by
        rw [ins_len] at hj
        rw [ins_at, hi]
        by_cases hj' : j < xs.length
        · rw [if_pos hj', setOut j (.inl (by omega)), cell_of_row W s _ _ _ _ h1, h5 j hj']
        · have : j = xs.length := by omega
          subst this
          rw [if_neg (by omega), if_pos rfl, setIn (by intro q hq; exact hsp q (by simpa using hq)) _ (by omega) (by simp)]
          simp [ic])
      rw [ins_len, e2] at hrow
      exact ⟨_, _, rfl, _, hrow, .inl rfl, Fr.setCells (A := fun i => some s = some i) s (fun _ => rfl) _ _ _ (Fr.refl _ _)⟩
    · have hnc : ∃ c, v = .slice (o.map fun s => ⟨s, 0, none⟩) xs.length c ∧ xs.length ≤ c ∧ c < xs.length + 1 ∧ (o = none → xs.length = 0) ∧ ∀ a : Addr, (o.map fun s => (⟨s, 0, none⟩ : Addr)) = some a → ∀ j v, (xs.map ic)[j]? = some v → W.cell? (a.add j) = some v := by
        cases o with
        | none => obtain ⟨rfl, rfl⟩ := hr; exact ⟨0, rfl, by simp, by simp, fun _ => rfl, fun a h => (by cases h)⟩
        | some s =>
          obtain ⟨c, h1, rfl, h3, h4, h5⟩ := hr
          have hlt : c.size < xs.length + 1 := by
            by_cases h : xs.length + 1 ≤ c.size
            · exact absurd ⟨s, rfl, c, h1, h⟩ hroom
            · omega
          refine ⟨c.size, rfl, h3, hlt, fun h => (by cases h), fun a h j v hv => ?_⟩
          cases h
          obtain ⟨hj, rfl⟩ := cells_map xs j v hv
          rw [Addr.add_lit, cell_of_row W s _ _ _ _ h1, Nat.zero_add, h5 j hj]
      obtain ⟨c, rfl, h1, h2, h3, h4⟩ := hnc
      have hcall := Any2.slices_Insert_int_end_grow Tryz.insertL (o.map fun s => ⟨s, 0, none⟩) xs.length c y 0 1 1 (xs.map ic) [ic x] W (by omega) h1 h2 (by omega) (by simp) rfl (fun h => h3 (by cases o <;> simp_all)) h4 hvs (one_one x)
      rw [ht] at hcall
      refine hcall.mono ?_
      rintro e w' ⟨rfl, rfl⟩
      have hg1 := grownCap_ge W (xs.length + 1) c 3
      have hg2 := grownCap_le_maxLen W (xs.length + 1) c 3 (by omega)
      refine ⟨_, _, rfl, some W.heap.size, ?_, .inr ⟨_, rfl, Nat.le_refl _⟩, (Fr.drew _ W).trans (Fr.alloc _ _ _) (fun _ _ h => h)⟩
      have hh : (W.drew.alloc (.cells ((xs.map ic ++ [ic x]).toArray ++ Builtin.zeroCells (Value.int .i64 0).cells (grownCap W (xs.length + 1) c 3 - (xs.length + 1))) 3)).heap[W.heap.size]? = some (.cells ((xs.map ic ++ [ic x]).toArray ++ Builtin.zeroCells (Value.int .i64 0).cells (grownCap W (xs.length + 1) c 3 - (xs.length + 1))) 3) := by
        show (W.heap.push _)[W.heap.size]? = _
        rw [Array.getElem?_push, if_pos rfl]
      refine hnew _ _ _ hg1 hg2 ?_ hh (fun j hj => ?_)
      · simp [Builtin.zeroCells, Value.cells]; omega
      · rw [cell_of_row _ _ _ _ _ _ hh, Array.getElem?_append_left (by simp; omega), ins_at, hi]
        by_cases hj' : j < xs.length
        · rw [if_pos hj']; simp [List.getElem?_append_left, hj', List.getD_eq_getElem?_getD, ic]
        · have : j = xs.length := by omega
          subst this; simp [ic]
  · have hi' : xs.countP (· < x) < xs.length := by omega
    have hn0 : 0 < xs.length := by omega
    cases o with
    | none => obtain ⟨_, rfl⟩ := hr; simp at hn0
    | some s =>
      obtain ⟨c, h1, rfl, h3, h4, h5⟩ := hr
      have hys : y ≠ s := fun e => hne (by rw [e])
      have hcs : ∀ j v, (xs.map ic)[j]? = some v → W.cell? ⟨s, 0 + j, none⟩ = some v := by
        intro j v hv
        obtain ⟨hj, rfl⟩ := cells_map xs j v hv
        rw [cell_of_row W s _ _ _ _ h1, Nat.zero_add, h5 j hj]
      have hdrop : ∀ j, xs.countP (· < x) + 1 ≤ j → j < xs.length + 1 → ((xs.map ic).drop (xs.countP (· < x)))[j - (xs.countP (· < x) + 1)]? = some (.int .i64 (xs.getD (j - 1) 0)) := by
        intro j hj1 hj2
        rw [List.getElem?_drop, show xs.countP (· < x) + (j - (xs.countP (· < x) + 1)) = j - 1 by omega, map_get xs (j - 1) (by omega)]
      by_cases hro : xs.length + 1 ≤ c.size
      · have hsp : ∀ j, j < xs.length + 1 → (W.cell? ⟨s, 0 + j, none⟩).isSome = true := by
          intro j hj; rw [cell_of_row W s _ _ _ _ h1]; simp; omega
        refine (Any2.slices_Insert_int_shift Tryz.insertL s 0 xs.length c.size (xs.countP (· < x)) y 0 1 1 (xs.map ic) [ic x] W hi' (by omega) hro (by omega) hys (by simp) rfl hcs hsp (fun j _ => by simp [World.frozen?, h1]) hvs (map_one xs) (one_one x) 3 3 1 c.size (by simp [World.shape?, hy]) (by simp [World.shape?, h1]) (by omega) (by simp [World.frozen?, hy]) (by simp [World.frozen?, hy])).mono ?_
        rintro e w' ⟨rfl, rfl⟩
        obtain ⟨c2, e1, e2⟩ := heap_setCells_same s 3 (0, 0) ((xs.map ic).drop (xs.countP (· < x))) (0 + (xs.countP (· < x) + 1)) W.drew c h1
        obtain ⟨c3, e3, e4⟩ := heap_setCells_same s 3 (0, 0) [ic x] (0 + xs.countP (· < x)) _ c2 e1
        have hld : ((xs.map ic).drop (xs.countP (· < x))).length = xs.length - xs.countP (· < x) := by simp
        have hrow := row_of (ys := ins xs x) e3 (by rw [ins_len]; omega) (by omega) (fun j hj => by
          rw [ins_len] at hj
          rw [ins_at]
          have hin1 : ∀ q, q < ((xs.map ic).drop (xs.countP (· < x))).length → (W.drew.cell? ⟨s, 0 + (xs.countP (· < x) + 1) + q, none⟩).isSome = true := by
            intro q hq
            have := hsp (xs.countP (· < x) + 1 + q) (by rw [hld] at hq; omega)
            rw [show 0 + (xs.countP (· < x) + 1) + q = 0 + (xs.countP (· < x) + 1 + q) by omega]; exact this
          by_cases c1 : j < xs.countP (· < x)
          · rw [if_pos c1, setOut j (.inl (by omega)), setOut j (.inl (by omega))]
            show W.cell? _ = _
            rw [cell_of_row W s _ _ _ _ h1, h5 j (by omega)]
          · by_cases c2 : j = xs.countP (· < x)
            · subst c2
              rw [if_neg c1, if_pos rfl, setIn (by
                intro q hq
                rw [setOut _ (.inl (by simp at hq; omega))]
                exact hsp _ (by simp at hq; omega) ▸ (by simp at hq; subst hq; rfl)) _ (by omega) (by simp)]
              simp [ic]
            · rw [if_neg c1, if_neg c2, setOut j (.inr (by simp; omega)), setIn hin1 _ (by omega) (by rw [hld]; omega)]
              rw [show j - (0 + (xs.countP (· < x) + 1)) = j - (xs.countP (· < x) + 1) by omega]
              exact hdrop j (by omega) hj)
        rw [ins_len, e4, e2] at hrow
        exact ⟨_, _, rfl, _, hrow, .inl rfl, Fr.setCells (A := fun i => some s = some i) s (fun _ => rfl) _ _ _ (Fr.setCells (A := fun i => some s = some i) s (fun _ => rfl) _ _ _ (Fr.drew _ W))⟩
      · have hcall := Any2.slices_Insert_int_grow Tryz.insertL s 0 xs.length c.size (xs.countP (· < x)) y 0 1 1 (xs.map ic) [ic x] W hi' (by omega) h3 (by omega) (by omega) (by simp) rfl hcs hvs (map_one xs) (one_one x)
        rw [ht] at hcall
        refine hcall.mono ?_
        rintro e w' ⟨rfl, rfl⟩
        have hg1 := grownCap_ge W (xs.length + 1) c.size 3
        have hg2 := grownCap_le_maxLen W (xs.length + 1) c.size 3 (by omega)
        generalize grownCap W (xs.length + 1) c.size 3 = cap at *
        obtain ⟨z0, hz0⟩ : ∃ z0, z0 = ((xs.map ic).take (xs.countP (· < x))).toArray ++ Builtin.zeroCells (Value.int .i64 0).cells (xs.length + 1 - xs.countP (· < x)) ++ Builtin.zeroCells (Value.int .i64 0).cells (cap - (xs.length + 1)) := ⟨_, rfl⟩
        rw [← hz0]
        have hzs : z0.size = cap := by rw [hz0]; simp [Builtin.zeroCells, Value.cells, Nat.min_eq_left hcl]; omega
        have hh : (W.alloc (.cells z0 3)).drew.heap[W.heap.size]? = some (.cells z0 3) := by
          show (W.heap.push _)[W.heap.size]? = _
          rw [Array.getElem?_push, if_pos rfl]
        obtain ⟨c2, e1, e2⟩ := heap_setCells_same W.heap.size 3 (0, 0) [ic x] (xs.countP (· < x)) _ z0 hh
        have e1' : ((W.alloc (.cells z0 3)).drew.setCells W.heap.size (xs.countP (· < x)) [ic x]).drew.heap[W.heap.size]? = some (.cells c2 3) := e1
        obtain ⟨c3, e3, e4⟩ := heap_setCells_same W.heap.size 3 (0, 0) ((xs.map ic).drop (xs.countP (· < x))) (xs.countP (· < x) + 1) _ c2 e1'
        have hld : ((xs.map ic).drop (xs.countP (· < x))).length = xs.length - xs.countP (· < x) := by simp
        have hsp : ∀ j, j < cap → ((W.alloc (.cells z0 3)).drew.cell? ⟨W.heap.size, j, none⟩).isSome = true := by
          intro j hj; rw [cell_of_row _ _ _ _ _ _ hh]; simp [hzs, hj]
        have hsp2 : ∀ j, j < cap → (((W.alloc (.cells z0 3)).drew.setCells W.heap.size (xs.countP (· < x)) [ic x]).drew.cell? ⟨W.heap.size, j, none⟩).isSome = true := by
          intro j hj; rw [cell_of_row _ _ _ _ _ _ e1']; simp [e2, hzs, hj]
        refine ⟨_, _, rfl, some W.heap.size, hnew _ _ c3 hg1 hg2 (by rw [e4, e2, hzs]) e3 (fun j hj => ?_), .inr ⟨_, rfl, Nat.le_refl _⟩, ?_⟩
        · rw [ins_at]
          by_cases k1 : j < xs.countP (· < x)
          · rw [if_pos k1, setOut j (.inl (by omega))]
            show World.cell? ((W.alloc (.cells z0 3)).drew.setCells W.heap.size (xs.countP (· < x)) [ic x]) _ = _
            rw [setOut j (.inl (by omega)), cell_of_row _ _ _ _ _ _ hh, hz0, Array.append_assoc, Array.getElem?_append_left (by simp; omega), List.getElem?_toArray, List.getElem?_take, if_pos k1, map_get xs j (by omega)]
          · by_cases k2 : j = xs.countP (· < x)
            · subst k2
              rw [if_neg k1, if_pos rfl, setOut _ (.inl (by omega))]
              show World.cell? ((W.alloc (.cells z0 3)).drew.setCells W.heap.size (xs.countP (· < x)) [ic x]) _ = _
              rw [setIn (by intro q hq; exact hsp _ (by simp at hq; omega)) _ (by omega) (by simp)]
              simp [ic]
            · rw [if_neg k1, if_neg k2, setIn (by intro q hq; exact hsp2 _ (by rw [hld] at hq; omega)) _ (by omega) (by rw [hld]; omega)]
              exact hdrop j (by omega) hj
        · refine Fr.setCells (A := fun i => some s = some i) W.heap.size (fun h => by omega) _ _ _ ?_
          have hf := Fr.setCells (A := fun i => some s = some i) (w := W) W.heap.size (fun h => by omega) [ic x] (xs.countP (· < x)) _ ((Fr.alloc _ W (.cells z0 3)).trans (Fr.drew _ _) (fun _ _ h => h))
          exact hf.trans (Fr.drew _ _) (fun _ _ h => h)
end Go.Proofs.YtcfhanoekniaaaaGreatDoor

namespace Go.Proofs.YtcfhanoekniaaaaGreatDoor
open Go.RowKit Go.Shelf Go.Lib Go.Sort

/-- What a row of a pool's turns into another pool. -/
structure Goes (b g : Nat) (O : Nat → Option Nat) (w w' : World) (O' : Nat → Option Nat) (V' : Nat → Value) (F' : Nat → List Int) : Prop where
  pool : Pl w' b g O' V' F'
  fr : Fr (own b O) w w'
  sub : ∀ i, i < w.heap.size → own b O' i → own b O i

theorem bits_all : ((List.range 6).all fun k => (List.range 256).all fun q => bits BinOp.xor IntKind.i64 ((q : Int) * 2 ^ k) (wrap64 (2 ^ k)) == ((bud q * 2 ^ k : Nat) : Int) && bits BinOp.andNot IntKind.i64 ((q : Int) * 2 ^ k) (wrap64 (2 ^ k)) == ((q / 2 * 2 ^ (k + 1) : Nat) : Int)) = true := by kernel_rfl

theorem bits_at {k q : Nat} (hk : k < 6) (hq : q < 256) : bits BinOp.xor IntKind.i64 ((q : Int) * 2 ^ k) (wrap64 (2 ^ k)) = ((bud q * 2 ^ k : Nat) : Int) ∧ bits BinOp.andNot IntKind.i64 ((q : Int) * 2 ^ k) (wrap64 (2 ^ k)) = ((q / 2 * 2 ^ (k + 1) : Nat) : Int) := by
  have := List.all_eq_true.1 (List.all_eq_true.1 bits_all k (List.mem_range.2 hk)) q (List.mem_range.2 hq)
  simpa using this

theorem small_of {U : Nat → Bool} {n k q : Nat} (hU : ∀ f, U f = true → f < n) (hn : n ≤ 256) (hb : blk U k q) : q * 2 ^ k < 256 ∧ q < 256 := by
  have := hU _ (hb _ (first_in k q))
  have h2 := Nat.le_mul_of_pos_right q (Nat.two_pow_pos k)
  omega

theorem search_row {W : World} {o : Option Nat} {v : Value} {xs : List Int} (hr : RowAt W o v xs) (hs : xs.Pairwise (· < ·)) (hl : xs.length ≤ 256) (x : Int) :
    Calls Tryz.prog 292 #[v, .int .i64 x] W fun e w' => e = .returned (.tuple #[.int .i64 (xs.countP (· < x) : Nat), .bool (xs.contains x)]) ∧ ∃ q, w' = W.drewN q := by
  cases o with
  | none =>
    obtain ⟨rfl, rfl⟩ := hr
    refine (Any.slices_BinarySearch_int_empty Tryz.searchL none 0 x W).mono ?_
    rintro e w' ⟨rfl, rfl⟩
    exact ⟨rfl, 0, rfl⟩
  | some s =>
    obtain ⟨c, h1, rfl, h3, h4, h5⟩ := hr
    have h := Any.slices_BinarySearch_int Tryz.searchL s 0 xs.length c.size xs x W (Nat.le_refl _) (by omega) (fun j hj => by rw [cell_of_row W s _ _ _ _ h1, Nat.zero_add, h5 j hj]) (by rw [List.take_length]; exact hs.imp (fun h => Int.le_of_lt h))
    rw [List.take_length] at h
    exact h

theorem ins_key {w : World} {b g : Nat} {O : Nat → Option Nat} {V : Nat → Value} {F : Nat → List Int} (p : Pl w b g O V F) {k : Nat} (hk : k < 7) (x : Int) (hl : (F k).length ≤ 256) (W : World) (hW : W.heap = (w.alloc (.cells #[.int .i64 x] 3)).heap) (h1 : W.os = w.os) (h2 : W.tape = w.tape) (h3 : W.output = w.output) :
    Calls Tryz.prog 293 #[V k, .int .i64 ((F k).countP (· < x) : Nat), .slice (some ⟨w.heap.size, 0, none⟩) 1 1] W fun e w' => ∃ a c, e = .returned (.slice a (ins (F k) x).length c) ∧ (∃ O' V', Goes b g O w (w'.setCell ⟨b, k, none⟩ (.slice a (ins (F k) x).length c)) O' V' (putF F k (ins (F k) x))) ∧ w'.cell? ⟨b, k, none⟩ = some (V k) ∧ w'.frozen? ⟨b, k, none⟩ = false := by
  have hbl := lt_of_heap p.head
  have hr := p.row k hk
  have hbW : W.heap[b]? = w.heap[b]? := by rw [hW]; exact Below.heap_alloc _ _ _ hbl
  have hy : W.heap[w.heap.size]? = some (.cells #[.int .i64 x] 3) := by
    rw [hW]; show (w.heap.push _)[w.heap.size]? = _; rw [Array.getElem?_push, if_pos rfl]
  have hOk : O k ≠ some w.heap.size := by
    intro e; obtain ⟨c', h'⟩ := p.row_block hk e; have := lt_of_heap h'; omega
  have hrW : RowAt W (O k) (V k) (F k) := hr.keep (fun s hs => by rw [hW]; exact Below.heap_alloc _ _ _ (by obtain ⟨c', h'⟩ := p.row_block hk hs; exact lt_of_heap h'))
  refine (ins_row hrW w.heap.size x hy hOk hl).mono ?_
  rintro e w' ⟨a, c, rfl, o', r', ho', f'⟩
  have e1 : w'.heap[b]? = w.heap[b]? := (f'.block b (by rw [hW]; simp; omega) (fun e => p.ne_b hk e rfl)).trans hbW
  have hf : Fr (fun i => O k = some i) w w' := (show Fr (fun i => O k = some i) w W from ⟨h1, h2, h3, by rw [hW]; simp, fun i hi _ => by rw [hW]; exact Below.heap_alloc _ _ _ hi⟩).trans f' (fun _ _ h => h)
  have ho : o' = O k ∨ ∃ s, o' = some s ∧ w.heap.size ≤ s := by
    rcases ho' with h | ⟨s, h, hs⟩
    · exact .inl h
    · exact .inr ⟨s, h, by rw [hW] at hs; simp at hs; omega⟩
  obtain ⟨t1, t2, t3⟩ := p.turn hk o' _ _ hf ho r'
  exact ⟨a, c, rfl, ⟨_, _, t1, t2, t3⟩, by rw [World.cell?_of_block (w := w) (a := ⟨b, k, none⟩) e1]; exact p.cell hk, by rw [World.frozen?_of_block (w := w) (a := ⟨b, k, none⟩) e1]; exact p.free k⟩

theorem Goes.trans {b g : Nat} {O O1 O2 : Nat → Option Nat} {w w1 w2 : World} {V1 V2 : Nat → Value} {F1 F2 : Nat → List Int} (h : Goes b g O w w1 O1 V1 F1) (k : Goes b g O1 w1 w2 O2 V2 F2) : Goes b g O w w2 O2 V2 F2 :=
  ⟨k.pool, h.fr.trans k.fr (fun i hi a => h.sub i hi a), fun i hi a => h.sub i hi (k.sub i (Nat.lt_of_lt_of_le hi h.fr.size) a)⟩

theorem filt_none {l : List Int} {z : Int} (h : z ∉ l) : (l.filter fun x => !(x == z)) = l := by
  rw [List.filter_eq_self]; intro a ha; simp; exact fun e => h (e ▸ ha)

set_option maxRecDepth 100000 in
set_option maxHeartbeats 4000000 in
theorem put_ok {w : World} {b g : Nat} {O : Nat → Option Nat} {V : Nat → Value} {F : Nat → List Int} (p : Pl w b g O V F) {U : Nat → Bool} {n : Nat} (hU : ∀ f, U f = true → f < n) (hn : n ≤ 256) (k q : Nat) (hk : k ≤ 6) (c : Can F (cut U k q)) (hb : blk U k q) :
    Calls Tryz.prog 233 #[pp b, .int .i64 ((q * 2 ^ k : Nat) : Int), .int .i64 k] w fun e w' => e = .returned (.tuple #[]) ∧ ∃ O' V' F', Goes b g O w w' O' V' F' ∧ Can F' U := by
  go_enter Tryz.func233, Tryz.ntmps233
  go_wp2_with fail
  go_loopg [1, 2] (6 - k) (fun m s1 s2 wr => ∃ (k q : Nat) (O' : Nat → Option Nat) (V' : Nat → Value) (F' : Nat → List Int), k + m = 6 ∧ s1 = .int .i64 ((q * 2 ^ k : Nat) : Int) ∧ s2 = .int .i64 k ∧ Goes b g O w wr O' V' F' ∧ Can F' (cut U k q) ∧ blk U k q)
  case atStart => exact ⟨k, q, O, V, F, by omega, rfl, rfl, ⟨p, Fr.refl _ _, fun _ _ h => h⟩, c, hb⟩
  case round =>
    obtain ⟨k1, q1, O1, V1, F1, hk1, rfl, rfl, G1, c1, hb1⟩ := hrel
    by_cases h6 : (k1 : Int) < 6
    · have hk6 : k1 < 6 := by omega
      obtain ⟨hq1, hq2⟩ := small_of hU hn hb1
      obtain ⟨e1, e2⟩ := bits_at hk6 hq2
      have hz : ((bud q1 : Int) * 2 ^ k1) = ((bud q1 * 2 ^ k1 : Nat) : Int) := by simp
      have T := takeOut_ok G1.pool ((bud q1 : Int) * 2 ^ k1) k1 (by omega)
      rw [← hz] at e1
      by_cases hm : ((bud q1 * 2 ^ k1 : Nat) : Int) ∈ F1 k1
      · have hx : mxb (cut U k1 q1) k1 (bud q1) := by
          obtain ⟨r, hr, hx⟩ := ((c1 k1 (by omega)).2 _).1 hm
          rw [at_order hr]; exact hx
        have c2 := can_cut c1 (by omega) hx
        rw [cut_two] at c2
        have hb2 := blk_up hb1 hx
        rw [← hz] at hm c2
        rw [decide_eq_true hm] at T
        clear hz
        go_wp2_with (go_at_call 291; refine T.mono ?_; rintro e w1 ⟨V2, rfl, p2, f2⟩)
        go_roundg (6 - (k1 + 1))
        case measure => omega
        case rel =>
          exact ⟨k1 + 1, q1 / 2, O1, V2, _, by omega, by simp, by go_num, ⟨p2, G1.fr.trans f2 (fun i hi h => G1.sub i hi h), G1.sub⟩, c2, hb2⟩
      · have hx : mxb U k1 q1 := mxb_alone (by omega) hb1 (fun _ hy => hm (((c1 k1 (by omega)).2 _).2 ⟨_, rfl, hy⟩))
        rw [← hz] at hm
        rw [decide_eq_false hm, filt_none hm, putF_self] at T
        clear hz hm
        have T' : Calls Tryz.prog 291 #[pp b, .int .i64 ((bud q1 : Int) * 2 ^ k1), .int .i64 k1] wr (fun e w1 => ∃ V2, e = .returned (.bool false) ∧ Goes b g O w w1 O1 V2 F1 ∧ w1.cell? ⟨b, k1, none⟩ = some (V2 k1) ∧ (∀ o, (w1.alloc o).cell? ⟨b, k1, none⟩ = some (V2 k1)) ∧ (∀ q o, ((w1.drewN q).alloc o).cell? ⟨b, k1, none⟩ = some (V2 k1))) := T.mono (by
          rintro e w1 ⟨V2, rfl, p2, f2⟩
          have hc2 := p2.cell (k := k1) (by omega)
          have hb2 := lt_of_heap p2.head
          exact ⟨V2, rfl, ⟨p2, G1.fr.trans f2 (fun i hi h => G1.sub i hi h), G1.sub⟩, hc2, fun o => by rw [World.cell?_of_block (w := w1) (a := ⟨b, k1, none⟩) (Below.heap_alloc _ _ _ hb2)]; exact hc2, fun q o => (World.cell?_of_block (w := w1) (a := ⟨b, k1, none⟩) (Below.heap_alloc (w1.drewN q) o b hb2)).trans hc2⟩)
        have hs1 := (c1 k1 (by omega)).1
        have hl1 : (F1 k1).length ≤ 256 := Nat.le_trans (len_le F1 (m := 7) (by omega)) (Nat.le_trans (lf_le c1 (fun f hf => hU f (cut_true.1 hf).1)) hn)
        have hfin := can_ins c1 (by omega) hx
        rw [show ((q1 * 2 ^ k1 : Nat) : Int) = (q1 : Int) * 2 ^ k1 by simp] at hfin
        clear T c1 hb1 e2 c p hb
        go_wp2_with (first | (go_at_call 291; refine T'.mono ?_; rintro e w1 ⟨V2, rfl, G2, z2, z21, z22⟩) | (go_at_call 292; refine (search_row (G2.pool.row k1 (by omega)) hs1 hl1 _).mono ?_; rintro e w2 ⟨rfl, q2, rfl⟩))
        go_region_with (go_at_call 293; refine (ins_key G2.pool (by omega) _ hl1 _ (by rfl) (by rfl) (by rfl) (by rfl)).mono ?_; rintro e w3 ⟨a3, c3, rfl, ⟨O3, V3, G3⟩, y3, z3⟩)
        all_goals
          go_end0
          exact ⟨rfl, _, _, _, G2.trans G3, hfin⟩
    · have hk6 : k1 = 6 := by omega
      subst hk6
      have hx : mxb U 6 q1 := mxb_alone (by omega) hb1 (fun h => by omega)
      have hs1 := (c1 6 (by omega)).1
      have hl1 : (F1 6).length ≤ 256 := Nat.le_trans (len_le F1 (m := 7) (by omega)) (Nat.le_trans (lf_le c1 (fun f hf => hU f (cut_true.1 hf).1)) hn)
      have hfin := can_ins c1 (by omega) hx
      rw [show ((q1 * 2 ^ 6 : Nat) : Int) = (q1 : Int) * 64 by simp] at hfin
      have hb2 := lt_of_heap G1.pool.head
      have z2 := G1.pool.cell (k := 6) (by omega)
      have z21 : ∀ o, (wr.alloc o).cell? ⟨b, 6, none⟩ = some (V1 6) := fun o => (World.cell?_of_block (w := wr) (a := ⟨b, 6, none⟩) (Below.heap_alloc wr o b hb2)).trans z2
      have z22 : ∀ q o, ((wr.drewN q).alloc o).cell? ⟨b, 6, none⟩ = some (V1 6) := fun q o => (World.cell?_of_block (w := wr) (a := ⟨b, 6, none⟩) (Below.heap_alloc (wr.drewN q) o b hb2)).trans z2
      clear c1 hb1 c p hb
      go_wp2_with (go_at_call 292; refine (search_row (G1.pool.row 6 (by omega)) hs1 hl1 _).mono ?_; rintro e w2 ⟨rfl, q2, rfl⟩)
      go_region_with (go_at_call 293; refine (ins_key G1.pool (by omega) _ hl1 _ (by rfl) (by rfl) (by rfl) (by rfl)).mono ?_; rintro e w3 ⟨a3, c3, rfl, ⟨O3, V3, G3⟩, y3, z3⟩)
      all_goals
        go_end0
        exact ⟨rfl, _, _, _, G1.trans G3, hfin⟩
end Go.Proofs.YtcfhanoekniaaaaGreatDoor

namespace Go.Proofs.YtcfhanoekniaaaaGreatDoor
open Go.RowKit Go.Shelf Go.Lib Go.Sort

/-- What is taken, as a map's elements. -/
def tm (T : Int → Option Nat) (z : Int) : Option Value := (T z).map fun k => .int .i64 (k : Int)

/-- A pool at block b: frames below n, U free, T taken (at most m ever); A: all that is its own. -/
def At (w : World) (b n : Nat) (U : Nat → Bool) (T : Int → Option Nat) (m : Nat) (A : Nat → Prop) : Prop :=
  ∃ g O V F s, Pl w b g O V F ∧ Can F U ∧ PMap w g s (tm T) ∧ s ≤ m ∧ BInv n U T ∧ n ≤ 256 ∧ ∀ i, A i ↔ own b O i ∨ i = g

/-- It turned into another one; all else is as it was. -/
def Turns (w : World) (b n : Nat) (A : Nat → Prop) (w' : World) (U : Nat → Bool) (T : Int → Option Nat) (m : Nat) : Prop :=
  ∃ A', At w' b n U T m A' ∧ Fr A w w' ∧ ∀ i, i < w.heap.size → A' i → A i

abbrev enr (k : Int) : Value := .iface 36 (.int .i64 k)

theorem tm_put (T : Int → Option Nat) (z : Int) (k : Nat) : (fun i => if i = z then some (.int .i64 (k : Int)) else tm T i) = tm (fun i => if i = z then some k else T i) := by
  funext i; simp only [tm]; split <;> rfl
theorem tm_del (T : Int → Option Nat) (z : Int) : (fun i => if i = z then none else tm T i) = tm (fun i => if i = z then none else T i) := by
  funext i; simp only [tm]; split <;> rfl

theorem zero_int (w : World) : (zeroValue 3).run Tryz.prog w = .ok (.int .i64 0) w := by kernel_rfl

theorem wf_small {z : Int} (h0 : 0 ≤ z) (h1 : z < 100000) : (Lit.int .i64 z).wf = true := by
  have a : IntKind.min .i64 = -9223372036854775808 := rfl
  have b : IntKind.max .i64 = 9223372036854775807 := rfl
  simp only [Lit.wf, a, b, Bool.and_eq_true, decide_eq_true_eq]; omega

/-- put, behind a change of the map. -/
theorem put_behind {w w1 : World} {b g n : Nat} {O : Nat → Option Nat} {V : Nat → Value} {F : Nat → List Int} {A : Nat → Prop} (p : Pl w b g O V F) (hA : ∀ i, A i ↔ own b O i ∨ i = g) (hgo : ¬ own b O g) (g1 : w.grownBy w1 (some g)) {s : Nat} {T : Int → Option Nat} {m : Nat} (pm1 : PMap w1 g s (tm T)) (hs : s ≤ m)
    {U : Nat → Bool} (inv : BInv n U T) (hn : n ≤ 256) (k q : Nat) (hk : k ≤ 6) (c : Can F (cut U k q)) (hb : blk U k q) :
    Calls Tryz.prog 233 #[pp b, .int .i64 ((q * 2 ^ k : Nat) : Int), .int .i64 k] w1 fun e w' => e = .returned (.tuple #[]) ∧ Turns w b n A w' U T m := by
  have p1 : Pl w1 b g O V F := p.keep (fun i hi => g1.block i (p.own_lt hi) (fun e => hgo (by cases e; exact hi)))
  refine (put_ok p1 inv.bound hn k q hk c hb).mono ?_
  rintro e w' ⟨rfl, O', V', F', G, c'⟩
  refine ⟨rfl, fun i => own b O' i ∨ i = g, ⟨g, O', V', F', s, G.pool, c', pm1.keep (G.fr.block g pm1.lt hgo), hs, inv, hn, fun _ => Iff.rfl⟩, ?_, ?_⟩
  · exact ((Fr.grown g1).mono (fun i _ h => (hA i).2 (.inr h))).trans G.fr (fun i _ h => (hA i).2 (.inl h))
  · rintro i hi (h | h)
    · exact (hA i).2 (.inl (G.sub i (Nat.lt_of_lt_of_le hi g1.size) h))
    · exact (hA i).2 (.inr h)

set_option maxRecDepth 100000 in
set_option maxHeartbeats 2000000 in
theorem give_ok {w : World} {b n : Nat} {U : Nat → Bool} {T : Int → Option Nat} {m : Nat} {A : Nat → Prop} (h : At w b n U T m A) (q k : Nat) (ht : T ((q * 2 ^ k : Nat) : Int) = some k) :
    Calls Tryz.prog 326 #[pp b, .int .i64 ((q * 2 ^ k : Nat) : Int), .int .i64 k] w fun e w' => e = .returned .nilIface ∧ Turns w b n A w' (join U k q) (fun z => if z = ((q * 2 ^ k : Nat) : Int) then none else T z) m := by
  obtain ⟨g, O, V, F, s, p, c, pm, hs, inv, hn, hA⟩ := h
  have h7 := p.cellm
  have inv' := inv.give ht
  obtain ⟨hk, r, hr, htk⟩ := inv.tk _ _ ht
  have hrq := at_order hr
  subst hrq
  have hsm : q * 2 ^ k < 256 := by have := (htk _ (first_in k q)).1; omega
  have e1 : tm T ((q * 2 ^ k : Nat) : Int) = some (.int .i64 k) := by simp only [tm, ht]; rfl
  have hcj : cut (join U k q) k q = U := cut_join (fun f hf => (htk f hf).2)
  have hbj : blk (join U k q) k q := fun f hf => join_true.2 (.inr hf)
  have hwf : (Lit.int .i64 ((q * 2 ^ k : Nat) : Int)).wf = true := wf_small (by omega) (by omega)
  have hgo := p.map_off pm
  rw [← hcj] at c
  have e2 := tm_del T ((q * 2 ^ k : Nat) : Int)
  have hput := fun w1 s1 (g1 : w.grownBy w1 (some g)) (pm1 : PMap w1 g s1 (tm fun z => if z = ((q * 2 ^ k : Nat) : Int) then none else T z)) (hs1 : s1 ≤ m) => put_behind p hA hgo g1 pm1 hs1 inv' hn k q hk c hbj
  have hs1 : (if (tm T ((q * 2 ^ k : Nat) : Int)).isSome then s - 1 else s) ≤ m := by split <;> omega
  clear p c inv inv' hA htk hcj hbj
  generalize hZ : ((q * 2 ^ k : Nat) : Int) = z at *
  go_enter Tryz.func326, Tryz.ntmps326
  go_wp2_with (first
    | (at_lookup; refine wpList_kask rfl _ _ 83 rfl 3 Tryz.underlying83 _ (zero_int _) g s _ rfl pm z rfl hwf ?_; rw [e1]; simp only [Option.getD_some, Option.isSome_some])
    | (at_delete; refine wpList_kdel rfl _ _ 83 rfl 3 Tryz.underlying83 g s _ rfl pm z rfl hwf ?_; intro w1 pm1 g1; rw [e2] at pm1)
    | (go_at_call 233; refine (hput _ _ g1 pm1 hs1).mono ?_; rintro e w2 ⟨rfl, t2⟩))
  go_ret
  exact ⟨rfl, t2⟩

/-- An Errno, or none. -/
def errV (c : Int) : Value := if c = 0 then .nilIface else enr c
end Go.Proofs.YtcfhanoekniaaaaGreatDoor

namespace Go.Proofs.YtcfhanoekniaaaaGreatDoor
open Go.RowKit Go.Shelf Go.Lib Go.Sort

/-- The first part of a block, and the one behind it. -/
theorem part_step {U : Nat → Bool} {k q j : Nat} (hb : blk U k q) (hj : j < k) :
    cut (cut U j (q * 2 ^ (k - j))) j (q * 2 ^ (k - j) + 1) = cut U (j + 1) (q * 2 ^ (k - (j + 1))) ∧ blk (cut U j (q * 2 ^ (k - j))) j (q * 2 ^ (k - j) + 1) ∧ (q * 2 ^ (k - j) + 1) * 2 ^ j = q * 2 ^ k + 2 ^ j := by
  have e0 : k - j = (k - (j + 1)) + 1 := by omega
  have e1 : q * 2 ^ (k - j) = 2 * (q * 2 ^ (k - (j + 1))) := by rw [e0, Nat.pow_succ]; rw [Nat.mul_comm 2, Nat.mul_assoc]
  have e2 : bud (q * 2 ^ (k - j)) = q * 2 ^ (k - j) + 1 := by unfold bud; rw [if_pos (by omega)]
  have e3 : q * 2 ^ (k - j) / 2 = q * 2 ^ (k - (j + 1)) := by omega
  refine ⟨by rw [← e2, cut_two, e3], fun f hf => cut_true.2 ⟨hb f ?_, by omega⟩, ?_⟩
  · have h1 : f / 2 ^ (j + 1) = q * 2 ^ (k - (j + 1)) := by rw [div_succ, hf]; omega
    rw [div_up h1 hj]; exact first_in _ _
  · rw [Nat.add_mul, Nat.mul_assoc, ← Nat.pow_add, Nat.sub_add_cancel (by omega)]; omega

theorem pow_wrap {z j : Nat} (hz : z < 256) (hj : j ≤ 6) : wrap64 ((z : Int) + wrap64 (2 ^ j)) = (z : Int) + 2 ^ j := by
  match j, hj with
  | 0, _ | 1, _ | 2, _ | 3, _ | 4, _ | 5, _ | 6, _ => simp only [wrap64]; omega

set_option maxHeartbeats 1000000 in
theorem alloc_arg (w : World) (b : Nat) (o : Int) (h : o < 0 ∨ 6 < o) :
    Calls Tryz.prog 284 #[pp b, .int .i64 o] w fun e w' => e = .returned (.tuple #[.int .i64 0, enr 1]) ∧ w' = w := by
  by_cases h1 : o < 0 <;> by_cases h2 : 6 < o
  all_goals first
    | (exfalso; omega)
    | (clear h
       go_enter Tryz.func284, Tryz.ntmps284
       go_wp2_with fail
       go_ret2
       exact ⟨rfl, rfl⟩)

set_option maxHeartbeats 1000000 in
theorem alloc_none {w : World} {b n : Nat} {U : Nat → Bool} {T : Int → Option Nat} {m : Nat} {A : Nat → Prop} (h : At w b n U T m A) (o : Nat) (ho : o ≤ 6) (hno : ∀ j r, mxb U j r → j < o) :
    Calls Tryz.prog 284 #[pp b, .int .i64 o] w fun e w' => e = .returned (.tuple #[.int .i64 0, enr 12]) ∧ w' = w := by
  obtain ⟨g, O, V, F, s, p, c, pm, hs, inv, hn, hA⟩ := h
  have hL : Calls Tryz.prog 327 #[pp b, .int .i64 o] w fun e w' => e = .returned (.int .i64 7) ∧ w' = w := by
    refine (least_ok p o ho).mono ?_
    rintro e w' ⟨k, rfl, rfl, h1, h2, h3, h4⟩
    have : k = 7 := by
      by_cases hk : k ≤ 6
      · exfalso
        obtain ⟨z, l, hl⟩ := List.exists_cons_of_ne_nil (h4 hk)
        obtain ⟨q, _, hx, _⟩ := best_row c h1 hk h3 hl
        have := hno _ _ hx; omega
      · omega
    subst this
    exact ⟨rfl, rfl⟩
  have h1 : ¬ (o : Int) < 0 := by omega
  have h2 : ¬ (6 : Int) < o := by omega
  go_enter Tryz.func284, Tryz.ntmps284
  go_wp2_with (go_at_call 327; refine hL.mono ?_; rintro e w1 ⟨rfl, rfl⟩)
  go_ret2
  exact ⟨rfl, rfl⟩

set_option maxRecDepth 100000 in
set_option maxHeartbeats 4000000 in
theorem alloc_some {w : World} {b n : Nat} {U : Nat → Bool} {T : Int → Option Nat} {m : Nat} {A : Nat → Prop} (h : At w b n U T m A) (hm : m < 10000) (o : Nat) (ho : o ≤ 6) (k q : Nat) (hB : Best U o (q * 2 ^ k) k) :
    Calls Tryz.prog 284 #[pp b, .int .i64 o] w fun e w' => e = .returned (.tuple #[.int .i64 ((q * 2 ^ k : Nat) : Int), .nilIface]) ∧ Turns w b n A w' (cut U o (q * 2 ^ (k - o))) (fun z => if z = ((q * 2 ^ k : Nat) : Int) then some o else T z) (m + 1) := by
  obtain ⟨g, O, V, F, s, p, c, pm, hs, inv, hn, hA⟩ := h
  obtain ⟨⟨q', hq', hx⟩, hok, hleast⟩ := hB
  have e := Nat.eq_of_mul_eq_mul_right (Nat.two_pow_pos k) hq'
  subst e
  have hk := hx.1
  have hsm : q * 2 ^ k < 256 := (small_of inv.bound hn hx.2.1).1
  -- the row, and its first
  obtain ⟨l, hl⟩ : ∃ l, F k = ((q * 2 ^ k : Nat) : Int) :: l := by
    have hmem := ((c k (by omega)).2 _).2 ⟨q, rfl, hx⟩
    cases hF : F k with
    | nil => rw [hF] at hmem; cases hmem
    | cons z l =>
      obtain ⟨r, hr, hy⟩ := ((c k (by omega)).2 z).1 (by rw [hF]; exact List.mem_cons_self)
      have h1 := hleast k r hy hok
      have hso := (c k (by omega)).1
      rw [hF] at hso hmem
      rcases List.mem_cons.1 hmem with e | e
      · rw [e]; exact ⟨l, rfl⟩
      · have := (List.pairwise_cons.1 hso).1 _ e; omega
  have hL : Calls Tryz.prog 327 #[pp b, .int .i64 o] w fun e w' => e = .returned (.int .i64 k) ∧ w' = w := by
    refine (least_ok p o ho).mono ?_
    rintro e w' ⟨k', rfl, rfl, h1, h2, h3, h4⟩
    have : k' = k := by
      by_cases hk' : k' ≤ 6
      · obtain ⟨z, l', hl'⟩ := List.exists_cons_of_ne_nil (h4 hk')
        obtain ⟨r, _, hy, _⟩ := best_row c h1 hk' h3 hl'
        have := hleast _ _ hy h1
        by_cases h5 : k < k'
        · have := h3 k hok h5; rw [hl] at this; cases this
        · omega
      · have := h3 k hok (by omega); rw [hl] at this; cases this
    subst this
    exact ⟨rfl, rfl⟩
  have hck := p.cell (k := k) (by omega)
  have hrk := p.row k (by omega)
  obtain ⟨sb, cb, hOk, hv, hlen, hc0⟩ : ∃ sb cb, O k = some sb ∧ V k = .slice (some ⟨sb, 0, none⟩) (l.length + 1) cb ∧ l.length + 1 ≤ cb ∧ w.cell? ⟨sb, 0, none⟩ = some (.int .i64 ((q * 2 ^ k : Nat) : Int)) := by
    cases hO : O k with
    | none => rw [hO, hl] at hrk; obtain ⟨_, h'⟩ := hrk; cases h'
    | some sb =>
      rw [hO, hl] at hrk
      obtain ⟨cc, h1, h2, h3, h4, h5⟩ := hrk
      exact ⟨sb, cc.size, rfl, by simpa using h2, by simpa using h3, by rw [cell_of_row w sb _ _ _ _ h1, h5 0 (by simp)]; rfl⟩
  rw [hv] at hck
  have hT := takeOut_ok p ((q * 2 ^ k : Nat) : Int) k (by omega)
  have c1 := can_cut c (by omega) hx
  have hgo := p.map_off pm
  have h1 : ¬ (o : Int) < 0 := by omega
  have h2 : ¬ (6 : Int) < o := by omega
  have h3 : ¬ (6 : Int) < k := by omega
  have hpart := blk_part hx.2.1 hok
  have inv' := inv.take ho hpart.1
  rw [hpart.2] at inv'
  have hwf : (Lit.int .i64 ((q * 2 ^ k : Nat) : Int)).wf = true := wf_small (by omega) (by omega)
  have e2 := tm_put T ((q * 2 ^ k : Nat) : Int) o
  have hsz : (if (tm T ((q * 2 ^ k : Nat) : Int)).isSome then s else s + 1) ≤ m + 1 := by split <;> omega
  have hput := fun (j : Nat) (hj : j < k) {w1 : World} {O1 : Nat → Option Nat} {V1 : Nat → Value} {F1 : Nat → List Int} (G1 : Goes b g O w w1 O1 V1 F1) (c1 : Can F1 (cut U (j + 1) (q * 2 ^ (k - (j + 1))))) => put_ok G1.pool (n := n) (U := cut U j (q * 2 ^ (k - j))) (fun f hf => inv.bound f (cut_true.1 hf).1) hn j (q * 2 ^ (k - j) + 1) (by omega) (by rw [(part_step hx.2.1 hj).1]; exact c1) (part_step hx.2.1 hj).2.1
  have hval := fun (j : Nat) (hj : j < k) => (part_step hx.2.1 hj).2.2
  have hA' := hA
  generalize hZ : q * 2 ^ k = z0 at *
  go_enter Tryz.func284, Tryz.ntmps284
  go_wp2_with (first | (go_at_call 327; refine hL.mono ?_; rintro e w0 ⟨rfl, h0⟩; subst w0) | (go_at_call 291; refine hT.mono ?_; rintro e w1 ⟨V1, rfl, p1, f1⟩))
  have cS : Can (putF F k ((F k).filter fun x => !(x == (z0 : Int)))) (cut U k (q * 2 ^ (k - k))) := by rw [Nat.sub_self, Nat.pow_zero, Nat.mul_one]; exact c1
  clear hT hL hleast hck hrk hv hc0 c1 hl
  go_loopg [6] (k - o) (fun mm s6 wr => ∃ (j : Nat) (O1 : Nat → Option Nat) (V1 : Nat → Value) (F1 : Nat → List Int), o + mm = j ∧ j ≤ k ∧ s6 = .int .i64 j ∧ Goes b g O w wr O1 V1 F1 ∧ Can F1 (cut U j (q * 2 ^ (k - j))))
  case atStart => exact ⟨k, O, V1, _, by omega, Nat.le_refl _, rfl, ⟨p1, f1, fun _ _ h => h⟩, cS⟩
  case round =>
    obtain ⟨j, O1, V2, F1, hj, hjk, rfl, G1, cj⟩ := hrel
    by_cases hgt : (o : Int) < j
    · obtain ⟨j', rfl⟩ : ∃ j', j = j' + 1 := ⟨j - 1, by omega⟩
      have hp := hput j' (by omega) G1 cj
      rw [hval j' (by omega), show ((z0 + 2 ^ j' : Nat) : Int) = (z0 : Int) + 2 ^ j' by simp] at hp
      have hw := pow_wrap (z := z0) (j := j') (by omega) (by omega)
      go_wp2_with (go_at_call 233; refine hp.mono ?_; rintro e w2 ⟨rfl, O2, V3, F2, G2, c2⟩)
      go_roundg (j' - o)
      case measure => omega
      case rel => exact ⟨j', O2, V3, F2, by omega, by omega, by go_num, G1.trans G2, c2⟩
    · have hjo : j = o := by omega
      subst hjo
      have p2 := G1.pool
      have h7 := p2.cellm
      have pm2 := pm.keep (G1.fr.block g pm.lt hgo)
      have hsx : s < maxLen := by unfold maxLen; omega
      clear hput hval p1 f1 p
      go_wp2_with (at_mapUpdate; refine wpList_kput rfl _ _ _ 83 rfl 3 Tryz.underlying83 g s _ rfl pm2 hsx (z0 : Int) rfl hwf (.int .i64 (j : Int)) rfl ?_; intro w3 pm3 g3; rw [e2] at pm3)
      go_ret2
      have hgo2 : ¬ own b O1 g := p2.map_off pm2
      refine ⟨rfl, fun i => own b O1 i ∨ i = g, ⟨g, O1, V2, F1, _, p2.keep (fun i hi => g3.block i (p2.own_lt hi) (fun e => hgo2 (by cases e; exact hi))), cj, pm3, hsz, inv', hn, fun _ => Iff.rfl⟩, ?_, ?_⟩
      · exact (G1.fr.mono (fun i _ h => (hA i).2 (.inl h))).trans (Fr.grown g3) (fun i _ h => (hA i).2 (.inr h))
      · rintro i hi (h | h)
        · exact (hA i).2 (.inl (G1.sub i hi h))
        · exact (hA i).2 (.inr h)
end Go.Proofs.YtcfhanoekniaaaaGreatDoor

namespace Go.Proofs.YtcfhanoekniaaaaGreatDoor
open Go.RowKit Go.Shelf Go.Lib Go.Sort

theorem can_empty : Can (fun _ => []) (fun _ => false) := by
  intro k hk
  refine ⟨List.Pairwise.nil, fun z => ⟨fun h => (by cases h), ?_⟩⟩
  rintro ⟨q, _, hx⟩
  have := hx.2.1 _ (first_in k q)
  cases this

set_option maxHeartbeats 1000000 in
theorem pool_no (w : World) (n : Int) (h : ¬ (1 ≤ n ∧ n ≤ 256)) :
    Calls Tryz.prog 131 #[.int .i64 n] w fun e w' => e = .returned (.tuple #[.pointer none, enr 2]) ∧ w' = w := by
  by_cases h1 : n < 1 <;> by_cases h2 : 256 < n
  all_goals first
    | (exfalso; omega)
    | (clear h
       go_enter Tryz.func131, Tryz.ntmps131
       go_wp2_with fail
       go_ret2
       exact ⟨rfl, rfl⟩)

theorem pool_new (w : World) : Pl ((w.alloc (.map #[] 0)).alloc (.cells #[.slice none 0 0, .slice none 0 0, .slice none 0 0, .slice none 0 0, .slice none 0 0, .slice none 0 0, .slice none 0 0, .map (some w.heap.size)] 334)) (w.heap.size + 1) w.heap.size (fun _ => none) (fun _ => .slice none 0 0) (fun _ => []) := by
  refine ⟨?_, fun k _ => ⟨rfl, rfl⟩, fun j k s _ _ h => by cases h⟩
  show ((w.heap.push _).push _)[w.heap.size + 1]? = _
  rw [Array.getElem?_push, if_pos (by simp)]
  rfl

set_option maxRecDepth 100000 in
set_option maxHeartbeats 4000000 in
theorem pool_ok (w : World) (n : Nat) (h1 : 1 ≤ n) (h2 : n ≤ 256) :
    Calls Tryz.prog 131 #[.int .i64 n] w fun e w' => ∃ b, e = .returned (.tuple #[pp b, .nilIface]) ∧ ∃ A, At w' b n (fun f => decide (f < n)) (fun _ => none) 0 A ∧ Fr (fun _ => False) w w' ∧ ∀ i, i < w.heap.size → ¬ A i := by
  have p0 := pool_new w
  have pm0 : PMap ((w.alloc (.map #[] 0)).alloc (.cells #[.slice none 0 0, .slice none 0 0, .slice none 0 0, .slice none 0 0, .slice none 0 0, .slice none 0 0, .slice none 0 0, .map (some w.heap.size)] 334)) w.heap.size 0 (fun _ => none) := (PMap.made w).keep (Below.heap_alloc _ _ _ (by simp))
  have f0 : Fr (fun _ => False) w ((w.alloc (.map #[] 0)).alloc (.cells #[.slice none 0 0, .slice none 0 0, .slice none 0 0, .slice none 0 0, .slice none 0 0, .slice none 0 0, .slice none 0 0, .map (some w.heap.size)] 334)) := (Fr.alloc _ w _).trans (Fr.alloc _ _ _) (fun _ _ h => h)
  have hs0 : w.heap.size + 2 ≤ ((w.alloc (.map #[] 0)).alloc (.cells #[.slice none 0 0, .slice none 0 0, .slice none 0 0, .slice none 0 0, .slice none 0 0, .slice none 0 0, .slice none 0 0, .map (some w.heap.size)] 334)).heap.size := by simp
  have hmm := @run_makeMap Tryz.prog
  have h3 : ¬ (n : Int) < 1 := by omega
  have h4 : ¬ (256 : Int) < n := by omega
  go_enter Tryz.func131, Tryz.ntmps131
  go_wp2_with fail
  go_loopg [17] n (fun m s wr => ∃ (i : Nat) (O : Nat → Option Nat) (V : Nat → Value) (F : Nat → List Int), i + m = n ∧ s = .int .i64 i ∧ Goes (w.heap.size + 1) w.heap.size (fun _ => none) ((w.alloc (.map #[] 0)).alloc (.cells #[.slice none 0 0, .slice none 0 0, .slice none 0 0, .slice none 0 0, .slice none 0 0, .slice none 0 0, .slice none 0 0, .map (some w.heap.size)] 334)) wr O V F ∧ Can F (fun f => decide (f < i)))
  case atStart => exact ⟨0, _, _, _, by omega, rfl, ⟨p0, Fr.refl _ _, fun _ _ h => h⟩, by simpa using can_empty⟩
  case round =>
    obtain ⟨i, O, V, F, hi, rfl, G, c⟩ := hrel
    by_cases hlt : (i : Int) < n
    · have e1 : cut (fun f => decide (f < i + 1)) 0 i = fun f => decide (f < i) := by
        funext f; rw [Bool.eq_iff_iff, cut_true]; simp; omega
      have hp := put_ok G.pool (n := i + 1) (U := fun f => decide (f < i + 1)) (fun f hf => by simpa using hf) (by omega) 0 i (by omega) (by rw [e1]; exact c) (fun f hf => by simp at hf; simp; omega)
      rw [show ((i * 2 ^ 0 : Nat) : Int) = (i : Int) by simp] at hp
      go_wp2_with (go_at_call 233; refine hp.mono ?_; rintro e w2 ⟨rfl, O2, V2, F2, G2, c2⟩)
      go_roundg (n - (i + 1))
      case measure => omega
      case rel => exact ⟨i + 1, O2, V2, F2, by omega, by go_num, G.trans G2, c2⟩
    · have hin : i = n := by omega
      subst hin
      go_wp2_with fail
      go_ret2
      have hgo := p0.map_off pm0
      refine ⟨_, rfl, fun j => own (w.heap.size + 1) O j ∨ j = w.heap.size, ⟨w.heap.size, O, V, F, 0, G.pool, c, ?_, Nat.le_refl _, inv_new i, h2, fun _ => Iff.rfl⟩, ?_, ?_⟩
      · exact pm0.keep (G.fr.block _ (by omega) hgo)
      · refine f0.trans G.fr ?_
        rintro j hj (h | ⟨k, _, h⟩)
        · omega
        · cases h
      · rintro j hj (h | h)
        · rcases G.sub j (by omega) h with h | ⟨k, _, h⟩
          · omega
          · cases h
        · omega
end Go.Proofs.YtcfhanoekniaaaaGreatDoor

namespace Go.Proofs.YtcfhanoekniaaaaGreatDoor
open Go.RowKit Go.Shelf Go.Lib Go.Sort

theorem shl_small {l k : Nat} (h : l * 2 ^ k ≤ 256) (a : Nat) (ha : a ≤ 256) : wrap64 ((a : Int) + wrap64 ((l : Int) * 2 ^ k)) = ((a + l * 2 ^ k : Nat) : Int) := by
  have e : ((l * 2 ^ k : Nat) : Int) = (l : Int) * 2 ^ k := by simp
  rw [← e]
  generalize l * 2 ^ k = x at *
  unfold wrap64; omega

theorem index7 (V : Nat → Value) (k : Nat) (hk : k < 7) (w : World) : (Instr.index 332 (.agg #[V 0, V 1, V 2, V 3, V 4, V 5, V 6]) (.int .i64 k)).run Tryz.prog w = .ok (V k) w := by
  rcases (by omega : k = 0 ∨ k = 1 ∨ k = 2 ∨ k = 3 ∨ k = 4 ∨ k = 5 ∨ k = 6) with h | h | h | h | h | h | h <;> subst h <;> kernel_rfl

set_option maxRecDepth 100000 in
set_option maxHeartbeats 4000000 in
theorem left_ok {w : World} {b n : Nat} {U : Nat → Bool} {T : Int → Option Nat} {m : Nat} {A : Nat → Prop} (h : At w b n U T m A) :
    Calls Tryz.prog 219 #[pp b] w fun e w' => e = .returned (.int .i64 (cnt U 0 n : Nat)) ∧ w' = w := by
  obtain ⟨g, O, V, F, s, p, c, pm, hs, inv, hn, hA⟩ := h
  have hlf := lf_eq c inv.bound
  have hle := lf_le c inv.bound
  have c0 := p.cell (k := 0) (by omega)
  have c1 := p.cell (k := 1) (by omega)
  have c2 := p.cell (k := 2) (by omega)
  have c3 := p.cell (k := 3) (by omega)
  have c4 := p.cell (k := 4) (by omega)
  have c5 := p.cell (k := 5) (by omega)
  have c6 := p.cell (k := 6) (by omega)
  go_enter Tryz.func219, Tryz.ntmps219
  go_wp2_with fail
  go_loopg [3, 12] 7 (fun mm s3 s12 wr => ∃ k : Nat, k + mm = 7 ∧ s3 = .int .i64 (lf F k : Nat) ∧ s12 = .int .i64 k ∧ wr = w)
  case atStart => exact ⟨0, by omega, rfl, rfl, rfl⟩
  case round =>
    obtain ⟨k, hk, rfl, rfl, hw⟩ := hrel
    subst wr
    by_cases hlt : (k : Int) < 7
    · have hk7 : k < 7 := by omega
      obtain ⟨a, cc, hv, _, _⟩ := (p.row k hk7).isSlice
      have hrow := lf_row F (k := k) (m := 7) hk7
      have hw := shl_small (l := (F k).length) (k := k) (by omega) (lf F k) (by omega)
      have hix := index7 V k hk7 w
      rw [hv] at hix
      go_wp2_with fail
      go_roundg (7 - (k + 1))
      case measure => omega
      case rel => exact ⟨k + 1, by omega, by rw [lf, hw], by go_num, rfl⟩
    · have hk7 : k = 7 := by omega
      subst hk7
      go_wp2_with fail
      go_ret
      exact ⟨rfl, rfl⟩
end Go.Proofs.YtcfhanoekniaaaaGreatDoor

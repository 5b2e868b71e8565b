/- Package desc from the first: New, and a table more; all that is new is newer than where it began. -/
import Derived.Test.YtjkneekfijibiabGreatDoorQAll2
import Derived.Maps.AppendAt
namespace Go.Proofs.YtjkneekfijibiabGreatDoor
open Go.RowKit Go.Maps

abbrev zeroN : Ns := List.replicate 8 (0, false)
/-- Files and tables, all newer than w0. -/
def KW (w0 w : World) (m : Int) (f r : Nat) (D : DS) (bs : List Nat) (Ts : List Ns) (k : Nat) : Prop := ∃ A, KD w m f r D bs Ts k A ∧ (∀ i, A i → w0.heap.size ≤ i) ∧ Below w0.heap.size w0 w
section
variable {w w' w2 w0 w1 : World} {f r b n k k' j : Nat} {D D' : DS} {g g' : QG} {bs : List Nat} {Ts Ts' : List Ns} {M N N' : Ns} {d m : Int} {A A' : Nat → Prop}
theorem KW.step (hA : ∀ i, A i → w0.heap.size ≤ i) (hb : Below w0.heap.size w0 w) (h' : KD w' m f r D' bs Ts' k' A') (st : Stp w w' A A') : KW w0 w' m f r D' bs Ts' k' := by
  refine ⟨A', h', fun i hi => ?_, ⟨st.wt.os.trans hb.os, st.wt.tape.trans hb.tape, st.wt.output.trans hb.output, Nat.le_trans hb.size st.wt.size, fun i hi => ?_⟩⟩
  · rcases st.own i hi with z | z
    · exact hA i z
    · exact Nat.le_trans hb.size z
  · rw [st.wt.block i (Nat.lt_of_lt_of_le hi hb.size) (fun z => by have := hA i z; omega)]
    exact hb.block i hi
theorem KW.below (h : KW w0 w m f r D bs Ts k) (hb : Below w.heap.size w w') : KW w0 w' m f r D bs Ts k := by
  obtain ⟨A, h1, h2, h3⟩ := h
  exact ⟨A, h1.below hb, h2, h3.trans (hb.mono h3.size)⟩
/-- Nothing is open. -/
theorem Inv.none {T : Wd} {k : Nat} (hT : TrLv T) (hs : Sm k T) : Inv (noneD T) [] k :=
  ⟨⟨noneD_given T, hT, hs, fun d e h => (by cases h), fun d _ => by simp [noneD, cntS], fun d _ => by simp [noneD, cntS]⟩, fun N hN => (by cases hN), by simp⟩
theorem sm_null : Sm 0 nullT := ⟨fun i C e => by
  obtain ⟨_, e9⟩ := nullT_node e; cases e9; simp, fun i b x e => by
  obtain ⟨_, e9⟩ := nullT_node e; cases e9⟩
theorem KW.first (w : World) (hm : w.cell? ⟨2, 0, none⟩ = some (.int .i64 m)) (he : w.cell? ⟨0, 0, none⟩ = some errT) :
    Calls Tryz.prog 9 #[] w fun y w' => ∃ r, y = .returned (wp r) ∧ Below w.heap.size w w' ∧ Calls Tryz.prog 27 #[wp r] w' fun y w2 => ∃ f, y = .returned (.tuple #[wp f, .nilIface]) ∧ KW w w2 m f r (noneD nullT) [] [] 0 := by
  refine (new_ok w).mono ?_
  rintro y w1 ⟨r, O, rfl, p1, b1, hO⟩
  refine ⟨r, rfl, b1, (QNew.ok p1).mono ?_⟩
  rintro y w2 ⟨f, g, rfl, q, hk, hr, b2⟩
  have bb := b1.trans (b2.mono b1.size)
  have hA : ∀ i, (g.kap i).isSome = true → w.heap.size ≤ i := fun i hi => by
    by_cases e1 : i < w1.heap.size
    · exact hO i ((hk i e1).1 hi)
    · have := b1.size; omega
  have hml := World.block_lt_of_cell? w _ hm
  have hel := World.block_lt_of_cell? w _ he
  refine ⟨f, rfl, fun i => (g.kap i).isSome = true, ⟨⟨g, 0, q, hr, fun j h => (by simp at h), fun i hi => hi⟩, rfl, List.nodup_nil, fun b hb => (by cases hb), Inv.none nullT_lv sm_null, fun i hi => q.lt i hi, cell_below hm bb, fun z => ?_, cell_below he bb, fun z => ?_⟩, hA, bb⟩
  · have := hA _ z
    simp only at hml
    omega
  · have := hA _ z
    simp only at hel
    omega
/-- A table more. -/
theorem cntN_zero {d : Int} (hd : 0 < d) : cntN d zeroN = 0 := by
  unfold cntN
  rw [List.length_eq_zero_iff, List.filter_eq_nil_iff]
  intro x hx
  rw [List.eq_of_mem_replicate hx]
  simp; omega
theorem KD.table (h1 : KD w m f r D bs Ts k A) (hf : Ts.length < 8) : KD (w.alloc (.cells (nv zeroN).toArray 69)) m f r D (bs ++ [w.heap.size]) (Ts ++ [zeroN]) k (fun i => A i ∨ i = w.heap.size) := by
  have bA : Below w.heap.size w (w.alloc (.cells (nv zeroN).toArray 69)) := (Below.refl _ w).alloc (Nat.le_refl _) _
  have hsz : (w.alloc (.cells (nv zeroN).toArray 69)).heap.size = w.heap.size + 1 := by show (w.heap.push _).size = _; rw [Array.size_push]
  have hn : (w.alloc (.cells (nv zeroN).toArray 69)).heap[w.heap.size]? = some (.cells (nv zeroN).toArray 69) := by
    show (w.heap.push _)[w.heap.size]? = _
    rw [Array.getElem?_push, if_pos rfl]
  obtain ⟨g, n, q, hr, ht, hk⟩ := h1.st
  have h2 := h1.below bA
  have hml := World.block_lt_of_cell? _ _ h1.ml
  have hel := World.block_lt_of_cell? _ _ h1.er
  simp only at hml hel
  have hz : QTb (w.alloc (.cells (nv zeroN).toArray 69)) w.heap.size g zeroN zeroN := by
    refine ⟨⟨hn, rfl, fun x hx => ?_⟩, kap_new q, rfl, fun i h1 h2 => ?_⟩
    · rw [List.eq_of_mem_replicate hx]; simp
    · have e1 : (zeroN)[i] = (0, false) := List.eq_of_mem_replicate (List.getElem_mem h1)
      exact ⟨rfl, .inl ⟨congrArg Prod.fst e1, congrArg Prod.fst e1⟩⟩
  refine ⟨⟨g, n, q.below bA, hr, fun x hx hx' => ?_, fun i hi => .inl (hk i hi)⟩, by rw [List.length_append, List.length_append, h1.len]; rfl, ?_, fun b hb => ?_, ⟨h1.inv.core.congr (fun d hd => ?_), fun N hN => ?_, by rw [List.length_append]; simp; omega⟩, fun i hi => ?_, h2.ml, fun z => ?_, h2.er, fun z => ?_⟩
  · by_cases e1 : x < bs.length
    · have e2 : x < Ts.length := by rw [← h1.len]; exact e1
      rw [List.getElem_append_left e1, List.getElem_append_left e2]
      obtain ⟨Mx, tx⟩ := ht x e1 e2
      exact ⟨Mx, tx.below bA⟩
    · have e3 : x = bs.length := by rw [List.length_append] at hx; simp at hx; omega
      have e4 := h1.len
      subst e3
      rw [List.getElem_concat_length rfl]
      have : (Ts ++ [zeroN])[bs.length]'hx' = zeroN := by
        rw [List.getElem_append_right (by omega)]
        simp
      rw [this]
      exact ⟨zeroN, hz⟩
  · rw [List.nodup_append]
    exact ⟨h1.nd, by simp, fun a ha b hb e => by rw [List.mem_singleton.1 hb] at e; have := h1.lt a (h1.bsA a ha); omega⟩
  · rcases List.mem_append.1 hb with z | z
    · exact .inl (h1.bsA b z)
    · exact .inr (List.mem_singleton.1 z)
  · have := cntN_zero hd
    simp only [cntS, List.map_append, List.sum_append, List.map_cons, List.map_nil, List.sum_cons, List.sum_nil]
    omega
  · rcases List.mem_append.1 hN with z | z
    · exact h1.inv.tab N z
    · rw [List.mem_singleton.1 z]
      exact ⟨rfl, fun x hx => by rw [List.eq_of_mem_replicate hx]; simp⟩
  · rw [hsz]
    rcases hi with z | z
    · have := h1.lt i z; omega
    · omega
  · rcases z with z | z
    · exact h1.mn z
    · omega
  · rcases z with z | z
    · exact h1.en z
    · omega
theorem KW.table (h : KW w0 w m f r D bs Ts k) (hf : Ts.length < 8) : KW w0 (w.alloc (.cells (nv zeroN).toArray 69)) m f r D (bs ++ [w.heap.size]) (Ts ++ [zeroN]) k := by
  obtain ⟨A, h1, hA, hb⟩ := h
  have bA : Below w.heap.size w (w.alloc (.cells (nv zeroN).toArray 69)) := (Below.refl _ w).alloc (Nat.le_refl _) _
  refine ⟨_, h1.table hf, fun i hi => ?_, hb.trans (bA.mono hb.size)⟩
  rcases hi with z | z
  · exact hA i z
  · have := hb.size; omega
end
end Go.Proofs.YtjkneekfijibiabGreatDoor

namespace Go.Proofs.YtjkneekfijibiabGreatDoor
open Go.RowKit Go.Maps Go.Lib Go.Sort

theorem orow_keep {w w' : World} {base : Nat} {T : TypeId} {v : Value} {n : Nat} {xs : List Value} (h : w.ownsRow base T 1 v n xs) (hk : ∀ g, v.ownBlock = some g → g < w.heap.size → w'.heap[g]? = w.heap[g]?) : w'.ownsRow base T 1 v n xs := by
  refine ⟨h.1, ?_⟩
  rcases h.2 with h0 | ⟨g, cap, cur, e, hN, hg, rest⟩
  · exact .inl h0
  · exact .inr ⟨g, cap, cur, e, hN, (hk g (by rw [e]; rfl) (lt_of_heap hg)).trans hg, rest⟩
theorem orow_block {w : World} {base : Nat} {T : TypeId} {v : Value} {n : Nat} {xs : List Value} (h : w.ownsRow base T 1 v n xs) {g : Nat} (hv : v.ownBlock = some g) : base ≤ g ∧ ∃ cur, w.heap[g]? = some (.cells cur T) := by
  rcases h.2 with ⟨rfl, _⟩ | ⟨g', cap, cur, e, hN, hg, _⟩
  · cases hv
  · rw [e] at hv; cases hv; exact ⟨hN, cur, hg⟩
theorem orow_read {w : World} {base : Nat} {T : TypeId} {v : Value} {n : Nat} {xs : List Value} (h : w.ownsRow base T 1 v n xs) (hp : 0 < n) : ∃ g cap, v = .slice (some ⟨g, 0, none⟩) n cap ∧ n ≤ cap ∧ g < w.heap.size ∧ ∀ j, j < n → w.cell? ⟨g, j, none⟩ = xs[j]? := by
  rcases h.2 with ⟨_, h0⟩ | ⟨g, cap, cur, e, hN, hg, h1, h2, h3, h4⟩
  · omega
  · refine ⟨g, cap, e, h1, lt_of_heap hg, fun j hj => ?_⟩
    rw [cell_of_row w g j _ _ _ hg, ← Array.getElem?_toList, ← h4, Nat.mul_one, List.getElem?_take, if_pos hj]

/-- append: its own law, and: the cells that were there stay, also where the list has moved. -/
theorem append_stays {P : Program} (w : World) (base : Nat) (t ty e : TypeId) (i : TypeInfo) (z : Value) (bytes : Nat) (ht : P.underlying t = some (.slice e)) (hi : P.info? e = some i) (hz : i.zero = some z)
    (hsize : i.size = 1) (hby : i.bytes = bytes) (hzs : z.cells.size = 1)
    (v : Value) (n : Nat) (xs : List Value) (hown : w.ownsRow base e 1 v n xs)
    (a : Addr) (c : Nat) (u : Value) (hnews : w.cell? a = some u) (h1 : u.oneCell' = true)
    (h63 : n + 1 ≤ maxLen) (hbytes : (n + 1) * bytes ≤ 140737488355328) (hbase : base ≤ w.heap.size) :
    ∃ v' w', (Builtin.append_ #[t, t] ty #[v, .slice (some a) 1 c]).run P w = .ok v' w' ∧ w'.ownsRow base e 1 v' (n + 1) (xs ++ [u]) ∧ w.grownBy w' v.ownBlock ∧ (v'.ownBlock = v.ownBlock ∨ v'.ownBlock = some w.heap.size) ∧ ∀ g j, v.ownBlock = some g → j < n → w'.cell? ⟨g, j, none⟩ = w.cell? ⟨g, j, none⟩ := by
  have hn : ∀ j x, [u][j]? = some x → w.cell? (a.add j) = some x := by
    intro j x hx
    cases j with
    | zero => simp at hx; subst hx; rw [show a.add 0 = a by simp [Addr.add]]; exact hnews
    | succ j => simp at hx
  have h1' : ∀ x ∈ [u], x.oneCell' = true := by intro x hx; rw [List.mem_singleton.1 hx]; exact h1
  obtain ⟨v', w', hr, o, g, _, b⟩ := run_append_own_at (P := P) w base t ty e i z 1 bytes ht hi hz hsize hby hzs (by decide) v n xs hown a 1 c [u] rfl hn h1' h63 hbytes hbase
  refine ⟨v', w', hr, o, g, b, fun g0 j hv hj => ?_⟩
  obtain ⟨g1, cap, hv1, hc1, hg1, hcl⟩ := orow_read hown (by omega)
  have e0 : g1 = g0 := by rw [hv1] at hv; cases hv; rfl
  subst e0
  by_cases hb : v'.ownBlock = v.ownBlock
  · obtain ⟨g2, cap2, hv2, _, _, hcl2⟩ := orow_read o (by omega)
    have e2 : g2 = g1 := by
      rw [hv2, hv] at hb
      exact Option.some.inj hb
    subst e2
    rw [hcl j hj, hcl2 j (by omega), List.getElem?_append_left (by have := hown.1; omega)]
  · subst hby
    have hsize' := hsize
    rcases hown.2 with ⟨hv0, _⟩ | ⟨g', cap', cur, hv3, hbg, hg, hnc, hcm, hcs, htake⟩
    · rw [hv0] at hv; cases hv
    · have e3 : g' = g1 := by rw [hv3] at hv; cases hv; rfl
      subst e3
      by_cases hroom : n + 1 ≤ cap'
      · exfalso
        have hr2 := run_append_room (P := P) w t ty e i ht hi g' n cap' cur hg a 1 c [u] (by rw [hsize']; rfl) hn h1' hroom (by rw [hcs, hsize']; simp; omega)
        rw [hv3] at hr
        rw [hr2] at hr
        cases hr
        exact hb (by rw [hv3]; rfl)
      · have hr2 := run_append_grow (P := P) w t ty e i z ht hi hz ⟨g', 0, none⟩ n cap' xs (by rw [hsize']; exact hown.1) (hown.cells (g := g') (by rw [hv3]; rfl)) a 1 c [u] (by rw [hsize']; rfl) hn (by omega) (by simp only [maxLen] at h63; omega) (growslice_fits (by omega) hbytes)
        rw [hv3] at hr
        rw [hr2] at hr
        cases hr
        exact World.cell?_alloc_lt _ _ ⟨g', j, none⟩ hg1

/-- The same heap. -/
structure Sam (w W : World) : Prop where
  heap : W.heap = w.heap
  os : W.os = w.os
  tape : W.tape = w.tape
  output : W.output = w.output
theorem Sam.below {w W : World} (h : Sam w W) (s : Nat) : Below s w W := ⟨h.os, h.tape, h.output, by rw [h.heap]; exact Nat.le_refl _, fun i _ => by rw [h.heap]⟩
end Go.Proofs.YtjkneekfijibiabGreatDoor

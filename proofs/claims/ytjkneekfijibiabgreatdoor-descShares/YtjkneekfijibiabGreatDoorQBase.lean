/- Package desc from the first: New, and a table more; all that is new is newer than where it began. -/
import Derived.Test.YtjkneekfijibiabGreatDoorQAll2
namespace Go.Proofs.YtjkneekfijibiabGreatDoor
open Go.RowKit Go.Maps

abbrev zeroN : Ns := List.replicate 8 (0, false)
/-- Files and tables, all newer than w0. -/
def KW (w0 w : World) (m : Int) (f r : Nat) (D : DS) (bs : List Nat) (Ts : List Ns) (k : Nat) : Prop := ∃ A, KD w m f r D bs Ts k A ∧ (∀ i, A i → w0.heap.size ≤ i) ∧ Below w0.heap.size w0 w
section
variable {w w' w2 w0 w1 : World} {f r b n k k' j : Nat} {D D' : DS} {g g' : QG} {bs : List Nat} {Ts Ts' : List Ns} {M N N' : Ns} {d m : Int} {A A' : Nat → Prop}
theorem KW.step (hA : ∀ i, A i → w0.heap.size ≤ i) (hb : Below w0.heap.size w0 w) (h' : KD w' m f r D' bs Ts' k' A') (st : Stp w w' A A') : KW w0 w' m f r D' bs Ts' k' := by
  refine ⟨A', h', fun i hi => ?_, ⟨st.wt.os.trans hb.os, st.wt.tape.trans hb.tape, st.wt.output.trans hb.output, Nat.le_trans hb.size st.wt.size, fun i hi => ?_⟩⟩
  · rcases st.own i hi with z | z
    · exact hA i z
    · exact Nat.le_trans hb.size z
  · rw [st.wt.block i (Nat.lt_of_lt_of_le hi hb.size) (fun z => by have := hA i z; omega)]
    exact hb.block i hi
theorem KW.below (h : KW w0 w m f r D bs Ts k) (hb : Below w.heap.size w w') : KW w0 w' m f r D bs Ts k := by
  obtain ⟨A, h1, h2, h3⟩ := h
  exact ⟨A, h1.below hb, h2, h3.trans (hb.mono h3.size)⟩
/-- Nothing is open. -/
theorem Inv.none {T : Wd} {k : Nat} (hT : TrLv T) (hs : Sm k T) : Inv (noneD T) [] k :=
  ⟨⟨noneD_given T, hT, hs, fun d e h => (by cases h), fun d _ => by simp [noneD, cntS], fun d _ => by simp [noneD, cntS]⟩, fun N hN => (by cases hN), by simp⟩
theorem sm_null : Sm 0 nullT := ⟨fun i C e => by
  obtain ⟨_, e9⟩ := nullT_node e; cases e9; simp, fun i b x e => by
  obtain ⟨_, e9⟩ := nullT_node e; cases e9⟩
theorem KW.first (w : World) (hm : w.cell? ⟨2, 0, none⟩ = some (.int .i64 m)) (he : w.cell? ⟨0, 0, none⟩ = some errT) :
    Calls Tryz.prog 9 #[] w fun y w' => ∃ r, y = .returned (wp r) ∧ Below w.heap.size w w' ∧ Calls Tryz.prog 27 #[wp r] w' fun y w2 => ∃ f, y = .returned (.tuple #[wp f, .nilIface]) ∧ KW w w2 m f r (noneD nullT) [] [] 0 := by
  refine (new_ok w).mono ?_
  rintro y w1 ⟨r, O, rfl, p1, b1, hO⟩
  refine ⟨r, rfl, b1, (QNew.ok p1).mono ?_⟩
  rintro y w2 ⟨f, g, rfl, q, hk, hr, b2⟩
  have bb := b1.trans (b2.mono b1.size)
  have hA : ∀ i, (g.kap i).isSome = true → w.heap.size ≤ i := fun i hi => by
    by_cases e1 : i < w1.heap.size
    · exact hO i ((hk i e1).1 hi)
    · have := b1.size; omega
  have hml := World.block_lt_of_cell? w _ hm
  have hel := World.block_lt_of_cell? w _ he
  refine ⟨f, rfl, fun i => (g.kap i).isSome = true, ⟨⟨g, 0, q, hr, fun j h => (by simp at h), fun i hi => hi⟩, rfl, List.nodup_nil, fun b hb => (by cases hb), Inv.none nullT_lv sm_null, fun i hi => q.lt i hi, cell_below hm bb, fun z => ?_, cell_below he bb, fun z => ?_⟩, hA, bb⟩
  · have := hA _ z
    simp only at hml
    omega
  · have := hA _ z
    simp only at hel
    omega
/-- A table more. -/
theorem cntN_zero {d : Int} (hd : 0 < d) : cntN d zeroN = 0 := by
  unfold cntN
  rw [List.length_eq_zero_iff, List.filter_eq_nil_iff]
  intro x hx
  rw [List.eq_of_mem_replicate hx]
  simp; omega
theorem KW.table (h : KW w0 w m f r D bs Ts k) (hf : Ts.length < 8) : KW w0 (w.alloc (.cells (nv zeroN).toArray 69)) m f r D (bs ++ [w.heap.size]) (Ts ++ [zeroN]) k := by
  obtain ⟨A, h1, hA, hb⟩ := h
  have bA : Below w.heap.size w (w.alloc (.cells (nv zeroN).toArray 69)) := (Below.refl _ w).alloc (Nat.le_refl _) _
  have hsz : (w.alloc (.cells (nv zeroN).toArray 69)).heap.size = w.heap.size + 1 := by show (w.heap.push _).size = _; rw [Array.size_push]
  have hn : (w.alloc (.cells (nv zeroN).toArray 69)).heap[w.heap.size]? = some (.cells (nv zeroN).toArray 69) := by
    show (w.heap.push _)[w.heap.size]? = _
    rw [Array.getElem?_push, if_pos rfl]
  obtain ⟨g, n, q, hr, ht, hk⟩ := h1.st
  have h2 := h1.below bA
  have hml := World.block_lt_of_cell? _ _ h1.ml
  have hel := World.block_lt_of_cell? _ _ h1.er
  simp only at hml hel
  have hz : QTb (w.alloc (.cells (nv zeroN).toArray 69)) w.heap.size g zeroN zeroN := by
    refine ⟨⟨hn, rfl, fun x hx => ?_⟩, kap_new q, rfl, fun i h1 h2 => ?_⟩
    · rw [List.eq_of_mem_replicate hx]; simp
    · have e1 : (zeroN)[i] = (0, false) := List.eq_of_mem_replicate (List.getElem_mem h1)
      exact ⟨rfl, .inl ⟨congrArg Prod.fst e1, congrArg Prod.fst e1⟩⟩
  refine ⟨fun i => A i ∨ i = w.heap.size, ⟨⟨g, n, q.below bA, hr, fun x hx hx' => ?_, fun i hi => .inl (hk i hi)⟩, by rw [List.length_append, List.length_append, h1.len]; rfl, ?_, fun b hb => ?_, ⟨h1.inv.core.congr (fun d hd => ?_), fun N hN => ?_, by rw [List.length_append]; simp; omega⟩, fun i hi => ?_, h2.ml, fun z => ?_, h2.er, fun z => ?_⟩, fun i hi => ?_, hb.trans (bA.mono hb.size)⟩
  · by_cases e1 : x < bs.length
    · have e2 : x < Ts.length := by rw [← h1.len]; exact e1
      rw [List.getElem_append_left e1, List.getElem_append_left e2]
      obtain ⟨Mx, tx⟩ := ht x e1 e2
      exact ⟨Mx, tx.below bA⟩
    · have e3 : x = bs.length := by rw [List.length_append] at hx; simp at hx; omega
      have e4 := h1.len
      subst e3
      rw [List.getElem_concat_length rfl]
      have : (Ts ++ [zeroN])[bs.length]'hx' = zeroN := by
        rw [List.getElem_append_right (by omega)]
        simp
      rw [this]
      exact ⟨zeroN, hz⟩
  · rw [List.nodup_append]
    exact ⟨h1.nd, by simp, fun a ha b hb e => by rw [List.mem_singleton.1 hb] at e; have := h1.lt a (h1.bsA a ha); omega⟩
  · rcases List.mem_append.1 hb with z | z
    · exact .inl (h1.bsA b z)
    · exact .inr (List.mem_singleton.1 z)
  · have := cntN_zero hd
    simp only [cntS, List.map_append, List.sum_append, List.map_cons, List.map_nil, List.sum_cons, List.sum_nil]
    omega
  · rcases List.mem_append.1 hN with z | z
    · exact h1.inv.tab N z
    · rw [List.mem_singleton.1 z]
      exact ⟨rfl, fun x hx => by rw [List.eq_of_mem_replicate hx]; simp⟩
  · rw [hsz]
    rcases hi with z | z
    · have := h1.lt i z; omega
    · omega
  · rcases z with z | z
    · exact h1.mn z
    · omega
  · rcases z with z | z
    · exact h1.en z
    · omega
  · rcases hi with z | z
    · exact hA i z
    · have := hb.size; omega
end
end Go.Proofs.YtjkneekfijibiabGreatDoor

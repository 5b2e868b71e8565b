/- Both sides, the two lists of pointers that the statement keeps, and cells that stay. -/
import Derived.Test.YtjkneekfijibiabGreatDoorSFds
import Derived.Test.YtjkneekfijibiabGreatDoorSRow
import Derived.Test.YtjkneekfijibiabGreatDoorDNew
import Derived.Test.YtjkneekfijibiabGreatDoorWNew
import Derived.BigQuiet
namespace Go.Proofs.YtjkneekfijibiabGreatDoor
open Go.RowKit Go.Maps Go.Lib Go.Sort

/-- Both sides; C: cells that stay (block, place, value); the lists v1, v2 hold cs, ds. -/
structure BL (w0 : World) (C : List (Nat × Nat × Value)) (w : World) (m : Int) (f r f2 r2 : Nat) (ek : Nat × Nat) (D : DS) (bs : List Nat) (Ts : List Ns) (k : Nat) (D2 : DS) (bs2 : List Nat) (Ts2 : List Ns) (v1 v2 : Value) (cs ds : List Nat) : Prop where
  st : ∃ A, BD w m f r f2 r2 ek D bs Ts k D2 bs2 Ts2 A ∧ (∀ i, A i → w0.heap.size ≤ i) ∧ (∀ i, v1.ownBlock = some i → ¬ A i) ∧ (∀ i, v2.ownBlock = some i → ¬ A i) ∧ ∀ c ∈ C, ¬ A c.1
  bel : Below w0.heap.size w0 w
  r1 : w.ownsRow w0.heap.size 64 1 v1 cs.length (cs.map wp)
  r2 : w.ownsRow w0.heap.size 71 1 v2 ds.length (ds.map wp)
  cell : ∀ c ∈ C, w.cell? ⟨c.1, c.2.1, none⟩ = some c.2.2
  c1 : ∀ c ∈ C, v1.ownBlock = some c.1 → c.2.1 < cs.length
  c2 : ∀ c ∈ C, v2.ownBlock = some c.1 → c.2.1 < ds.length
  mlt : 2 < w0.heap.size
  elt : 0 < w0.heap.size

section
variable {w0 w w' W : World} {C C' : List (Nat × Nat × Value)} {m : Int} {f r f2 r2 k k' j : Nat} {D D' D2 D2' : DS} {bs bs2 bs' bs2' cs ds : List Nat} {Ts Ts2 Ts' Ts2' : List Ns} {v1 v2 v' : Value} {A A' : Nat → Prop} {ek : Nat × Nat}

theorem BD.keep (h : BD w m f r f2 r2 ek D bs Ts k D2 bs2 Ts2 A) (hk : ∀ i, A i → w'.heap[i]? = w.heap[i]?) (hs : w.heap.size ≤ w'.heap.size) (hm : w'.heap[2]? = w.heap[2]?) (he : w'.heap[0]? = w.heap[0]?) : BD w' m f r f2 r2 ek D bs Ts k D2 bs2 Ts2 A := by
  obtain ⟨A1, A2, h1, h2, h3, h4, h5⟩ := h.both
  exact ⟨⟨A1, A2, h1.keep (fun i hi => hk i (h4 i hi)) hs ((World.cell?_of_block (w := w) (a := ⟨_, 0, none⟩) hm).trans h1.ml) ((World.cell?_of_block (w := w) (a := ⟨_, 0, none⟩) he).trans h1.er), h2.keep (fun i hi => hk i (h5 i hi)) hs, h3, h4, h5⟩, fun i hi => Nat.lt_of_lt_of_le (h.lt i hi) hs, h.mn, h.en⟩

theorem BL.len (h : BL w0 C w m f r f2 r2 ek D bs Ts k D2 bs2 Ts2 v1 v2 cs ds) : bs.length = Ts.length ∧ bs2.length = Ts2.length := by
  obtain ⟨A, hb, _⟩ := h.st; exact hb.len
theorem BL.inv (h : BL w0 C w m f r f2 r2 ek D bs Ts k D2 bs2 Ts2 v1 v2 cs ds) : Inv D Ts k := by
  obtain ⟨A, hb, _⟩ := h.st; exact hb.inv
theorem BL.er (h : BL w0 C w m f r f2 r2 ek D bs Ts k D2 bs2 Ts2 v1 v2 cs ds) : w.cell? ⟨0, 0, none⟩ = some errT := by
  obtain ⟨A, hb, _⟩ := h.st; exact hb.er
theorem BL.ml (h : BL w0 C w m f r f2 r2 ek D bs Ts k D2 bs2 Ts2 v1 v2 cs ds) : w.cell? ⟨2, 0, none⟩ = some (.int .i64 m) := by
  obtain ⟨A, hb, _⟩ := h.st; exact hb.ml
theorem BL.more (h : BL w0 C w m f r f2 r2 ek D bs Ts k D2 bs2 Ts2 v1 v2 cs ds) (hk : k ≤ k') : BL w0 C w m f r f2 r2 ek D bs Ts k' D2 bs2 Ts2 v1 v2 cs ds := by
  obtain ⟨A, hb, h1, h2, h3, h4⟩ := h.st
  exact ⟨⟨A, hb.more hk, h1, h2, h3, h4⟩, h.bel, h.r1, h.r2, h.cell, h.c1, h.c2, h.mlt, h.elt⟩
theorem BL.sub (h : BL w0 C w m f r f2 r2 ek D bs Ts k D2 bs2 Ts2 v1 v2 cs ds) (hC : ∀ c ∈ C', c ∈ C) : BL w0 C' w m f r f2 r2 ek D bs Ts k D2 bs2 Ts2 v1 v2 cs ds := by
  obtain ⟨A, hb, h1, h2, h3, h4⟩ := h.st
  exact ⟨⟨A, hb, h1, h2, h3, fun c hc => h4 c (hC c hc)⟩, h.bel, h.r1, h.r2, fun c hc => h.cell c (hC c hc), fun c hc => h.c1 c (hC c hc), fun c hc => h.c2 c (hC c hc), h.mlt, h.elt⟩
/-- A step that keeps all but A. -/
theorem BL.of (h : BL w0 C w m f r f2 r2 ek D bs Ts k D2 bs2 Ts2 v1 v2 cs ds) (hA : ∀ i, A i → w0.heap.size ≤ i) (hv1 : ∀ i, v1.ownBlock = some i → ¬ A i) (hv2 : ∀ i, v2.ownBlock = some i → ¬ A i) (hC : ∀ c ∈ C, ¬ A c.1) (hb : BD w' m f r f2 r2 ek D' bs' Ts' k' D2' bs2' Ts2' A') (st : Stp w w' A A') : BL w0 C w' m f r f2 r2 ek D' bs' Ts' k' D2' bs2' Ts2' v1 v2 cs ds := by
  have hs := h.bel.size
  have hlt1 : ∀ i, v1.ownBlock = some i → i < w.heap.size := fun i hi => by obtain ⟨_, c, hc⟩ := orow_block h.r1 hi; exact lt_of_heap hc
  have hlt2 : ∀ i, v2.ownBlock = some i → i < w.heap.size := fun i hi => by obtain ⟨_, c, hc⟩ := orow_block h.r2 hi; exact lt_of_heap hc
  have hltC : ∀ c ∈ C, c.1 < w.heap.size := fun c hc => World.block_lt_of_cell? w _ (h.cell c hc)
  have off : ∀ i, i < w.heap.size → ¬ A i → ¬ A' i := fun i hi hn ha => by
    rcases st.own i ha with z | z
    · exact hn z
    · omega
  refine ⟨⟨A', hb, fun i hi => ?_, fun i hi => off i (hlt1 i hi) (hv1 i hi), fun i hi => off i (hlt2 i hi) (hv2 i hi), fun c hc => off _ (hltC c hc) (hC c hc)⟩, ⟨st.wt.os.trans h.bel.os, st.wt.tape.trans h.bel.tape, st.wt.output.trans h.bel.output, Nat.le_trans hs st.wt.size, fun i hi => ?_⟩, orow_keep h.r1 (fun g hg hl => st.wt.block g hl (hv1 g hg)), orow_keep h.r2 (fun g hg hl => st.wt.block g hl (hv2 g hg)), fun c hc => ?_, h.c1, h.c2, h.mlt, h.elt⟩
  · rcases st.own i hi with z | z
    · exact hA i z
    · omega
  · rw [st.wt.block i (by omega) (fun z => by have := hA i z; omega)]; exact h.bel.block i hi
  · rw [World.cell?_of_block (w := w) (a := ⟨c.1, c.2.1, none⟩) (st.wt.block _ (hltC c hc) (hC c hc))]; exact h.cell c hc
theorem BL.call (h : BL w0 C w m f r f2 r2 ek D bs Ts k D2 bs2 Ts2 v1 v2 cs ds) {fn : FuncId} {args : Array Value} {Q : Ending → DS → List Nat → List Ns → DS → List Nat → List Ns → Prop}
    (hc : ∀ A, BD w m f r f2 r2 ek D bs Ts k D2 bs2 Ts2 A → Calls Tryz.prog fn args w fun y w' => ∃ D' bs' Ts' D2' bs2' Ts2' A', Q y D' bs' Ts' D2' bs2' Ts2' ∧ BD w' m f r f2 r2 ek D' bs' Ts' k' D2' bs2' Ts2' A' ∧ Stp w w' A A') :
    Calls Tryz.prog fn args w fun y w' => ∃ D' bs' Ts' D2' bs2' Ts2', Q y D' bs' Ts' D2' bs2' Ts2' ∧ BL w0 C w' m f r f2 r2 ek D' bs' Ts' k' D2' bs2' Ts2' v1 v2 cs ds := by
  obtain ⟨A, hb, h1, h2, h3, h4⟩ := h.st
  refine (hc A hb).mono ?_
  rintro y w' ⟨D', bs', Ts', D2', bs2', Ts2', A', hq, hb', st⟩
  exact ⟨D', bs', Ts', D2', bs2', Ts2', hq, h.of h1 h2 h3 h4 hb' st⟩
theorem BL.below (h : BL w0 C w m f r f2 r2 ek D bs Ts k D2 bs2 Ts2 v1 v2 cs ds) (hb : Below w.heap.size w w') : BL w0 C w' m f r f2 r2 ek D bs Ts k D2 bs2 Ts2 v1 v2 cs ds := by
  obtain ⟨A, b, h1, h2, h3, h4⟩ := h.st
  exact h.of h1 h2 h3 h4 (b.below hb) ⟨⟨hb.os, hb.tape, hb.output, hb.size, fun i hi _ => hb.block i hi⟩, fun i hi => .inl hi⟩
theorem BL.to0 (h : BL w0 C w m f r f2 r2 ek D bs Ts k D2 bs2 Ts2 v1 v2 cs ds) (hs : Sam w W) : BL w0 C W m f r f2 r2 ek D bs Ts k D2 bs2 Ts2 v1 v2 cs ds := h.below (hs.below _)
/-- New cells. -/
theorem BL.to1 (h : BL w0 C w m f r f2 r2 ek D bs Ts k D2 bs2 Ts2 v1 v2 cs ds) (x : Value) (T : TypeId) (hs : Sam (w.alloc (.cells #[x] T)) W) : BL w0 ((w.heap.size, 0, x) :: C) W m f r f2 r2 ek D bs Ts k D2 bs2 Ts2 v1 v2 cs ds := by
  have b : Below w.heap.size w W := ((Below.refl _ w).alloc (Nat.le_refl _) (.cells #[x] T)).trans (hs.below _)
  have h' := h.below b
  obtain ⟨A, hb, h1, h2, h3, h4⟩ := h.st
  have hb' := h'
  obtain ⟨A9, _⟩ := h'.st
  have hlt1 : ∀ i, v1.ownBlock = some i → i < w.heap.size := fun i hi => by obtain ⟨_, c, hc⟩ := orow_block h.r1 hi; exact lt_of_heap hc
  have hlt2 : ∀ i, v2.ownBlock = some i → i < w.heap.size := fun i hi => by obtain ⟨_, c, hc⟩ := orow_block h.r2 hi; exact lt_of_heap hc
  refine ⟨⟨A, hb.below b, h1, h2, h3, fun c hc ha => ?_⟩, h'.bel, h'.r1, h'.r2, fun c hc => ?_, fun c hc hv => ?_, fun c hc hv => ?_, h.mlt, h.elt⟩
  · rcases List.mem_cons.1 hc with rfl | hc
    · have := hb.lt _ ha; simp at this
    · exact h4 c hc ha
  · rcases List.mem_cons.1 hc with rfl | hc
    · show W.cell? ⟨w.heap.size, 0, none⟩ = some x
      have : W.heap[w.heap.size]? = some (.cells #[x] T) := by
        rw [hs.heap]
        show (w.heap.push _)[w.heap.size]? = _
        rw [Array.getElem?_push, if_pos rfl]
      rw [cell_of_row _ _ _ _ _ _ this]; rfl
    · exact h'.cell c hc
  · rcases List.mem_cons.1 hc with rfl | hc
    · have := hlt1 _ hv; simp at this
    · exact h.c1 c hc hv
  · rcases List.mem_cons.1 hc with rfl | hc
    · have := hlt2 _ hv; simp at this
    · exact h.c2 c hc hv
theorem BL.to2 (h : BL w0 C w m f r f2 r2 ek D bs Ts k D2 bs2 Ts2 v1 v2 cs ds) (x y : Value) (T U : TypeId) (hs : Sam ((w.alloc (.cells #[x] T)).alloc (.cells #[y] U)) W) : BL w0 ((w.heap.size + 1, 0, y) :: (w.heap.size, 0, x) :: C) W m f r f2 r2 ek D bs Ts k D2 bs2 Ts2 v1 v2 cs ds := by
  have h1 := h.to1 x T ⟨rfl, rfl, rfl, rfl⟩
  have h2 := h1.to1 y U hs
  rw [show (w.alloc (.cells #[x] T)).heap.size = w.heap.size + 1 by show (w.heap.push _).size = _; rw [Array.size_push]] at h2
  exact h2
/-- Cells of the lists themselves. -/
theorem BL.in1 (h : BL w0 C w m f r f2 r2 ek D bs Ts k D2 bs2 Ts2 v1 v2 cs ds) {g : Nat} (hv : v1.ownBlock = some g) {j : Nat} (hj : j < cs.length) : BL w0 ((g, j, wp cs[j]) :: C) w m f r f2 r2 ek D bs Ts k D2 bs2 Ts2 v1 v2 cs ds := by
  obtain ⟨A, hb, h1, h2, h3, h4⟩ := h.st
  have hne : v2.ownBlock ≠ some g := fun e => by
    obtain ⟨_, a, ha⟩ := orow_block h.r1 hv
    obtain ⟨_, b, hb⟩ := orow_block h.r2 e
    rw [ha] at hb; simp at hb
  obtain ⟨g', cap, e, _, _, hcl⟩ := orow_read h.r1 (by omega)
  have e1 : g' = g := by rw [e] at hv; cases hv; rfl
  subst e1
  refine ⟨⟨A, hb, h1, h2, h3, fun c hc => ?_⟩, h.bel, h.r1, h.r2, fun c hc => ?_, fun c hc hv' => ?_, fun c hc hv' => ?_, h.mlt, h.elt⟩
  · rcases List.mem_cons.1 hc with rfl | hc
    · exact h2 _ hv
    · exact h4 c hc
  · rcases List.mem_cons.1 hc with rfl | hc
    · show w.cell? ⟨g', j, none⟩ = some (wp cs[j])
      rw [hcl j hj, List.getElem?_map, List.getElem?_eq_getElem hj]; rfl
    · exact h.cell c hc
  · rcases List.mem_cons.1 hc with rfl | hc
    · exact hj
    · exact h.c1 c hc hv'
  · rcases List.mem_cons.1 hc with rfl | hc
    · exact absurd hv' hne
    · exact h.c2 c hc hv'
theorem BL.in2 (h : BL w0 C w m f r f2 r2 ek D bs Ts k D2 bs2 Ts2 v1 v2 cs ds) {g : Nat} (hv : v2.ownBlock = some g) {j : Nat} (hj : j < ds.length) : BL w0 ((g, j, wp ds[j]) :: C) w m f r f2 r2 ek D bs Ts k D2 bs2 Ts2 v1 v2 cs ds := by
  obtain ⟨A, hb, h1, h2, h3, h4⟩ := h.st
  have hne : v1.ownBlock ≠ some g := fun e => by
    obtain ⟨_, a, ha⟩ := orow_block h.r2 hv
    obtain ⟨_, b, hb⟩ := orow_block h.r1 e
    rw [ha] at hb; simp at hb
  obtain ⟨g', cap, e, _, _, hcl⟩ := orow_read h.r2 (by omega)
  have e1 : g' = g := by rw [e] at hv; cases hv; rfl
  subst e1
  refine ⟨⟨A, hb, h1, h2, h3, fun c hc => ?_⟩, h.bel, h.r1, h.r2, fun c hc => ?_, fun c hc hv' => ?_, fun c hc hv' => ?_, h.mlt, h.elt⟩
  · rcases List.mem_cons.1 hc with rfl | hc
    · exact h3 _ hv
    · exact h4 c hc
  · rcases List.mem_cons.1 hc with rfl | hc
    · show w.cell? ⟨g', j, none⟩ = some (wp ds[j])
      rw [hcl j hj, List.getElem?_map, List.getElem?_eq_getElem hj]; rfl
    · exact h.cell c hc
  · rcases List.mem_cons.1 hc with rfl | hc
    · exact absurd hv' hne
    · exact h.c1 c hc hv'
  · rcases List.mem_cons.1 hc with rfl | hc
    · exact hj
    · exact h.c2 c hc hv'
end
end Go.Proofs.YtjkneekfijibiabGreatDoor

namespace Go.Proofs.YtjkneekfijibiabGreatDoor
open Go.RowKit Go.Maps Go.Lib Go.Sort

section
variable {w0 w w' W : World} {C C' : List (Nat × Nat × Value)} {m : Int} {f r f2 r2 k k' j b : Nat} {D D' D2 D2' : DS} {bs bs2 bs' bs2' cs ds : List Nat} {Ts Ts2 Ts' Ts2' : List Ns} {v1 v2 v' : Value} {A A' : Nat → Prop} {ek : Nat × Nat}
theorem BL.push1 (h : BL w0 C w m f r f2 r2 ek D bs Ts k D2 bs2 Ts2 v1 v2 cs ds) (hg : w.grownBy w' v1.ownBlock) (hr : w'.ownsRow w0.heap.size 64 1 v' (cs.length + 1) (cs.map wp ++ [wp b])) (hv : v'.ownBlock = v1.ownBlock ∨ v'.ownBlock = some w.heap.size) (hk : ∀ g j, v1.ownBlock = some g → j < cs.length → w'.cell? ⟨g, j, none⟩ = w.cell? ⟨g, j, none⟩) : BL w0 C w' m f r f2 r2 ek D bs Ts k D2 bs2 Ts2 v' v2 (cs ++ [b]) ds := by
  obtain ⟨A, hb, h1, h2, h3, h4⟩ := h.st
  have kp : ∀ i, i < w.heap.size → v1.ownBlock ≠ some i → w'.heap[i]? = w.heap[i]? := fun i hi hn => hg.block i hi (fun e => hn e.symm)
  have hbs : ∀ i, v1.ownBlock = some i → w0.heap.size ≤ i := fun i hi => (orow_block h.r1 hi).1
  have hsz := h.bel.size
  have n2 : ∀ i, v2.ownBlock = some i → v1.ownBlock ≠ some i := fun i hi e => by
    obtain ⟨_, c1, e1⟩ := orow_block h.r1 e
    obtain ⟨_, c2, e2⟩ := orow_block h.r2 hi
    rw [e1] at e2; simp at e2
  have low : ∀ i, i < w0.heap.size → w'.heap[i]? = w.heap[i]? := fun i hi => kp i (by omega) (fun e => by have := hbs i e; omega)
  have hltC : ∀ c ∈ C, c.1 < w.heap.size := fun c hc => World.block_lt_of_cell? w _ (h.cell c hc)
  refine ⟨⟨A, hb.keep (fun i hi => kp i (hb.lt i hi) (fun e => h2 i e hi)) hg.size (low _ h.mlt) (low _ h.elt), h1, fun i hi ha => ?_, h3, h4⟩, ⟨hg.os.trans h.bel.os, hg.tape.trans h.bel.tape, hg.output.trans h.bel.output, Nat.le_trans hsz hg.size, fun i hi => (low i hi).trans (h.bel.block i hi)⟩, ?_, orow_keep h.r2 (fun g hg' hl => kp g hl (n2 g hg')), fun c hc => ?_, fun c hc hv' => ?_, h.c2, h.mlt, h.elt⟩
  · rcases hv with e | e
    · exact h2 i (e ▸ hi) ha
    · rw [e] at hi; cases hi; have := hb.lt _ ha; omega
  · rw [List.length_append, List.map_append]; exact hr
  · by_cases e : v1.ownBlock = some c.1
    · rw [hk _ _ e (h.c1 c hc e)]; exact h.cell c hc
    · rw [World.cell?_of_block (w := w) (a := ⟨c.1, c.2.1, none⟩) (kp _ (hltC c hc) e)]; exact h.cell c hc
  · rw [List.length_append]
    rcases hv with e | e
    · have := h.c1 c hc (e ▸ hv'); omega
    · rw [e] at hv'; have := hltC c hc; have := Option.some.inj hv'; omega
theorem BL.push2 (h : BL w0 C w m f r f2 r2 ek D bs Ts k D2 bs2 Ts2 v1 v2 cs ds) (hg : w.grownBy w' v2.ownBlock) (hr : w'.ownsRow w0.heap.size 71 1 v' (ds.length + 1) (ds.map wp ++ [wp b])) (hv : v'.ownBlock = v2.ownBlock ∨ v'.ownBlock = some w.heap.size) (hk : ∀ g j, v2.ownBlock = some g → j < ds.length → w'.cell? ⟨g, j, none⟩ = w.cell? ⟨g, j, none⟩) : BL w0 C w' m f r f2 r2 ek D bs Ts k D2 bs2 Ts2 v1 v' cs (ds ++ [b]) := by
  obtain ⟨A, hb, h1, h2, h3, h4⟩ := h.st
  have kp : ∀ i, i < w.heap.size → v2.ownBlock ≠ some i → w'.heap[i]? = w.heap[i]? := fun i hi hn => hg.block i hi (fun e => hn e.symm)
  have hbs : ∀ i, v2.ownBlock = some i → w0.heap.size ≤ i := fun i hi => (orow_block h.r2 hi).1
  have hsz := h.bel.size
  have n2 : ∀ i, v1.ownBlock = some i → v2.ownBlock ≠ some i := fun i hi e => by
    obtain ⟨_, c1, e1⟩ := orow_block h.r2 e
    obtain ⟨_, c2, e2⟩ := orow_block h.r1 hi
    rw [e1] at e2; simp at e2
  have low : ∀ i, i < w0.heap.size → w'.heap[i]? = w.heap[i]? := fun i hi => kp i (by omega) (fun e => by have := hbs i e; omega)
  have hltC : ∀ c ∈ C, c.1 < w.heap.size := fun c hc => World.block_lt_of_cell? w _ (h.cell c hc)
  refine ⟨⟨A, hb.keep (fun i hi => kp i (hb.lt i hi) (fun e => h3 i e hi)) hg.size (low _ h.mlt) (low _ h.elt), h1, h2, fun i hi ha => ?_, h4⟩, ⟨hg.os.trans h.bel.os, hg.tape.trans h.bel.tape, hg.output.trans h.bel.output, Nat.le_trans hsz hg.size, fun i hi => (low i hi).trans (h.bel.block i hi)⟩, orow_keep h.r1 (fun g hg' hl => kp g hl (n2 g hg')), ?_, fun c hc => ?_, h.c1, fun c hc hv' => ?_, h.mlt, h.elt⟩
  · rcases hv with e | e
    · exact h3 i (e ▸ hi) ha
    · rw [e] at hi; cases hi; have := hb.lt _ ha; omega
  · rw [List.length_append, List.map_append]; exact hr
  · by_cases e : v2.ownBlock = some c.1
    · rw [hk _ _ e (h.c2 c hc e)]; exact h.cell c hc
    · rw [World.cell?_of_block (w := w) (a := ⟨c.1, c.2.1, none⟩) (kp _ (hltC c hc) e)]; exact h.cell c hc
  · rw [List.length_append]
    rcases hv with e | e
    · have := h.c2 c hc (e ▸ hv'); omega
    · rw [e] at hv'; have := hltC c hc; have := Option.some.inj hv'; omega

/-- append, at a step of a region that draws. -/
theorem step_push1 {ops : Array Oper} {o : Oper} {a : Act} {K : Act → World → Prop} {Q : Exit → Act → World → Prop} {E : Prop}
    (hg : o.guard = none) (s x : Operand) (hop : o.op = Op.call { callee := Callee.builtin Builtin.append, args := #[s, x], argTypes := #[70, 70] })
    (h : BL w0 C w m f r f2 r2 ek D bs Ts k D2 bs2 Ts2 v1 v2 cs ds) (hs : a.eval s = v1) {q c : Nat} (hx : a.eval x = .slice (some ⟨q, 0, none⟩) 1 c) (hq : (q, 0, wp b) ∈ C) (hl : cs.length ≤ 100)
    (hK : ∀ v' w', BL w0 C w' m f r f2 r2 ek D bs Ts k D2 bs2 Ts2 v' v2 (cs ++ [b]) ds → K (a.put o.dst v') w') :
    if Region.wanted o (yielded ops a.tmps) = true then Oper.wp Tryz.prog o a w K Q else E := by
  have hw : Region.wanted o (yielded ops a.tmps) = true := by simp [Region.wanted, hg]
  rw [if_pos hw]
  obtain ⟨i0, hi, hz0, hz1, hz2⟩ := info_parts (P := Tryz.prog) (e := 64) (z := .pointer none) (size := 1) (bytes := 8) (by kernel_rfl)
  obtain ⟨v', w', hrun, r1, r2, r3, r4⟩ := append_stays (P := Tryz.prog) w w0.heap.size 70 o.type 64 i0 (.pointer none) 8 Tryz.underlying70 hi hz0 hz1 hz2 rfl v1 cs.length _ h.r1 ⟨q, 0, none⟩ c (wp b) (h.cell _ hq) rfl (by unfold maxLen; omega) (by omega) h.bel.size
  unfold Oper.wp
  simp [execOp, hop, resolve, invoke, builtin, hs, hx, hrun, Result.andThen]
  exact hK v' w' (h.push1 r2 r1 r3 r4)
theorem step_push2 {ops : Array Oper} {o : Oper} {a : Act} {K : Act → World → Prop} {Q : Exit → Act → World → Prop} {E : Prop}
    (hg : o.guard = none) (s x : Operand) (hop : o.op = Op.call { callee := Callee.builtin Builtin.append, args := #[s, x], argTypes := #[76, 76] })
    (h : BL w0 C w m f r f2 r2 ek D bs Ts k D2 bs2 Ts2 v1 v2 cs ds) (hs : a.eval s = v2) {q c : Nat} (hx : a.eval x = .slice (some ⟨q, 0, none⟩) 1 c) (hq : (q, 0, wp b) ∈ C) (hl : ds.length ≤ 100)
    (hK : ∀ v' w', BL w0 C w' m f r f2 r2 ek D bs Ts k D2 bs2 Ts2 v1 v' cs (ds ++ [b]) → K (a.put o.dst v') w') :
    if Region.wanted o (yielded ops a.tmps) = true then Oper.wp Tryz.prog o a w K Q else E := by
  have hw : Region.wanted o (yielded ops a.tmps) = true := by simp [Region.wanted, hg]
  rw [if_pos hw]
  obtain ⟨i0, hi, hz0, hz1, hz2⟩ := info_parts (P := Tryz.prog) (e := 71) (z := .pointer none) (size := 1) (bytes := 8) (by kernel_rfl)
  obtain ⟨v', w', hrun, r1, r2, r3, r4⟩ := append_stays (P := Tryz.prog) w w0.heap.size 76 o.type 71 i0 (.pointer none) 8 Tryz.underlying76 hi hz0 hz1 hz2 rfl v2 ds.length _ h.r2 ⟨q, 0, none⟩ c (wp b) (h.cell _ hq) rfl (by unfold maxLen; omega) (by omega) h.bel.size
  unfold Oper.wp
  simp [execOp, hop, resolve, invoke, builtin, hs, hx, hrun, Result.andThen]
  exact hK v' w' (h.push2 r2 r1 r3 r4)

/-- What an item does, whichever it is. -/
theorem fds_any (v : Int) (hv : v ≠ 9) (h : BD w m f r f2 r2 ek D bs Ts k D bs2 Ts A) (hk : k ≤ 800) (hn : D.nx < 800) (hj : j < bs.length) (hj2 : j < bs2.length) (hjT : j < Ts.length) (t9 X Y : Int) (p : List UInt8) (hp : p.length ≤ 250) (yes : Bool) (hY : Y < 9223372036854775808) :
    Calls Tryz.prog 31 #[wp f, wp f2, wp bs[j], wp bs2[j], .agg #[.int .i64 v, .int .i64 t9, .int .i64 X, .int .i64 Y, tx p, .bool yes]] w fun e w' => e = .returned (.bool true) ∧ Nxd w m f r f2 r2 ek D bs bs2 Ts k A w' := by
  by_cases h9 : ¬ (0 ≤ v ∧ v ≤ 8) ∧ v ≠ 10 ∧ v ≠ 11
  · exact fds_none v h9 h hk hn hj hj2 hjT t9 X Y p hp yes hY
  · have hc : v = 0 ∨ v = 1 ∨ v = 2 ∨ v = 3 ∨ v = 4 ∨ v = 5 ∨ v = 6 ∨ v = 7 ∨ v = 8 ∨ v = 10 ∨ v = 11 := by omega
    rcases hc with rfl | rfl | rfl | rfl | rfl | rfl | rfl | rfl | rfl | rfl | rfl
    · exact fds_0 h hk hn hj hj2 hjT t9 X Y p hp yes hY
    · exact fds_1 h hk hn hj hj2 hjT t9 X Y p hp yes hY
    · exact fds_2 h hk hn hj hj2 hjT t9 X Y p hp yes hY
    · exact fds_3 h hk hn hj hj2 hjT t9 X Y p hp yes hY
    · exact fds_4 h hk hn hj hj2 hjT t9 X Y p hp yes hY
    · exact fds_5 h hk hn hj hj2 hjT t9 X Y p hp yes hY
    · exact fds_6 h hk hn hj hj2 hjT t9 X Y p hp yes hY
    · exact fds_7 h hk hn hj hj2 hjT t9 X Y p hp yes hY
    · exact fds_8 h hk hn hj hj2 hjT t9 X Y p hp yes hY
    · exact fds_10 h hk hn hj hj2 hjT t9 X Y p hp yes hY
    · exact fds_11 h hk hn hj hj2 hjT t9 X Y p hp yes hY
theorem BL.fds (h : BL w0 C w m f r f2 r2 ek D bs Ts k D bs2 Ts v1 v2 cs ds) (v : Int) (hv : v ≠ 9) (hk : k ≤ 800) (hn : D.nx < 800) (hj : j < bs.length) (hj2 : j < bs2.length) (t9 X Y : Int) (p : List UInt8) (hp : p.length ≤ 250) (yes : Bool) (hY : Y < 9223372036854775808) :
    Calls Tryz.prog 31 #[wp f, wp f2, wp bs[j], wp bs2[j], .agg #[.int .i64 v, .int .i64 t9, .int .i64 X, .int .i64 Y, tx p, .bool yes]] w fun e w' => e = .returned (.bool true) ∧ ∃ D' Ts', BL w0 C w' m f r f2 r2 ek D' bs Ts' (k + 2) D' bs2 Ts' v1 v2 cs ds ∧ D'.nx ≤ D.nx + 3 := by
  have hl := h.len.1
  refine (h.call (k' := k + 2) (Q := fun y D' bs' Ts' D2' bs2' Ts2' => y = .returned (.bool true) ∧ bs' = bs ∧ bs2' = bs2 ∧ D2' = D' ∧ Ts2' = Ts' ∧ D'.nx ≤ D.nx + 3) (fun A hb => (fds_any v hv hb hk hn hj hj2 (by omega) t9 X Y p hp yes hY).mono ?_)).mono ?_
  · rintro y w' ⟨rfl, D', Ts', A', h', st, hx⟩
    exact ⟨D', bs, Ts', D', bs2, Ts', A', ⟨rfl, rfl, rfl, rfl, rfl, hx⟩, h', st⟩
  · rintro y w' ⟨D', bs', Ts', D2', bs2', Ts2', ⟨rfl, rfl, rfl, rfl, rfl, hx⟩, h'⟩
    exact ⟨rfl, _, _, h', hx⟩
theorem BL.forkP (h : BL w0 C w m f r f2 r2 ek D bs Ts k D2 bs2 Ts2 v1 v2 cs ds) (hf : Ts.length < 8) (hj : j < bs.length) (hjT : j < Ts.length) :
    Calls Tryz.prog 29 #[wp f, wp bs[j]] w fun y w' => ∃ b, y = .returned (wp b) ∧ BL w0 C w' m f r f2 r2 ek (forkD D Ts[j]) (bs ++ [b]) (Ts ++ [Ts[j]]) k D2 bs2 Ts2 v1 v2 cs ds := by
  refine (h.call (k' := k) (Q := fun y D' bs' Ts' D2' bs2' Ts2' => ∃ b, y = .returned (wp b) ∧ D' = forkD D Ts[j] ∧ bs' = bs ++ [b] ∧ Ts' = Ts ++ [Ts[j]] ∧ D2' = D2 ∧ bs2' = bs2 ∧ Ts2' = Ts2) (fun A hb => (hb.callP (k' := k) (Q := fun y D' bs' Ts' => ∃ b, y = .returned (wp b) ∧ D' = forkD D Ts[j] ∧ bs' = bs ++ [b] ∧ Ts' = Ts ++ [Ts[j]]) (fun A1 h1 => (h1.fork hf hj).mono ?_)).mono ?_)).mono ?_
  · rintro y w' ⟨A', rfl, h', st⟩
    exact ⟨_, _, _, A', ⟨_, rfl, rfl, rfl, rfl⟩, h', st⟩
  · rintro y w' ⟨D', bs', Ts', A', ⟨b, rfl, rfl, rfl, rfl⟩, h', st⟩
    exact ⟨_, _, _, _, _, _, A', ⟨b, rfl, rfl, rfl, rfl, rfl, rfl, rfl⟩, h', st⟩
  · rintro y w' ⟨D', bs', Ts', D2', bs2', Ts2', ⟨b, rfl, rfl, rfl, rfl, rfl, rfl, rfl⟩, h'⟩
    exact ⟨b, rfl, h'⟩
theorem BL.forkR (h : BL w0 C w m f r f2 r2 ek D bs Ts k D2 bs2 Ts2 v1 v2 cs ds) (I : Inv D2 Ts2 k') (hj : j < bs2.length) (hjT : j < Ts2.length) :
    Calls Tryz.prog 30 #[wp f2, wp bs2[j]] w fun y w' => ∃ b, y = .returned (wp b) ∧ BL w0 C w' m f r f2 r2 ek D bs Ts k (forkD D2 Ts2[j]) (bs2 ++ [b]) (Ts2 ++ [Ts2[j]]) v1 v2 cs ds := by
  refine (h.call (k' := k) (Q := fun y D' bs' Ts' D2' bs2' Ts2' => ∃ b, y = .returned (wp b) ∧ D' = D ∧ bs' = bs ∧ Ts' = Ts ∧ D2' = forkD D2 Ts2[j] ∧ bs2' = bs2 ++ [b] ∧ Ts2' = Ts2 ++ [Ts2[j]]) (fun A hb => (hb.callR (Q := fun y D' bs' Ts' => ∃ b, y = .returned (wp b) ∧ D' = forkD D2 Ts2[j] ∧ bs' = bs2 ++ [b] ∧ Ts' = Ts2 ++ [Ts2[j]]) (fun A1 h1 => (h1.fork I hj).mono ?_)).mono ?_)).mono ?_
  · rintro y w' ⟨A', rfl, h', st⟩
    exact ⟨_, _, _, A', ⟨_, rfl, rfl, rfl, rfl⟩, h', st⟩
  · rintro y w' ⟨D', bs', Ts', A', ⟨b, rfl, rfl, rfl, rfl⟩, h', st⟩
    exact ⟨_, _, _, _, _, _, A', ⟨b, rfl, rfl, rfl, rfl, rfl, rfl, rfl⟩, h', st⟩
  · rintro y w' ⟨D', bs', Ts', D2', bs2', Ts2', ⟨b, rfl, rfl, rfl, rfl, rfl, rfl, rfl⟩, h'⟩
    exact ⟨b, rfl, h'⟩
theorem BL.unlinkP (h : BL w0 C w m f r f2 r2 ek D bs Ts k D2 bs2 Ts2 v1 v2 cs ds) (hk : k ≤ 900) (p : List UInt8) (hp : p.length < 100000) :
    Calls Tryz.prog 22 #[wp r, tx p] w fun y w' => y = .returned (uev (unlinkE D.T p)) ∧ BL w0 C w' m f r f2 r2 ek { D with T := unlinkN D.T p } bs Ts (k + 1) D2 bs2 Ts2 v1 v2 cs ds := by
  refine (h.call (k' := k + 1) (Q := fun y D' bs' Ts' D2' bs2' Ts2' => y = .returned (uev (unlinkE D.T p)) ∧ D' = { D with T := unlinkN D.T p } ∧ bs' = bs ∧ Ts' = Ts ∧ D2' = D2 ∧ bs2' = bs2 ∧ Ts2' = Ts2) (fun A hb => (hb.callP (k' := k + 1) (Q := fun y D' bs' Ts' => y = .returned (uev (unlinkE D.T p)) ∧ D' = { D with T := unlinkN D.T p } ∧ bs' = bs ∧ Ts' = Ts) (fun A1 h1 => (h1.unlink hk p hp).mono ?_)).mono ?_)).mono ?_
  · rintro y w' ⟨A', rfl, h', st⟩
    exact ⟨_, _, _, A', ⟨rfl, rfl, rfl, rfl⟩, h', st⟩
  · rintro y w' ⟨D', bs', Ts', A', ⟨rfl, rfl, rfl, rfl⟩, h', st⟩
    exact ⟨_, _, _, _, _, _, A', ⟨rfl, rfl, rfl, rfl, rfl, rfl, rfl⟩, h', st⟩
  · rintro y w' ⟨D', bs', Ts', D2', bs2', Ts2', ⟨rfl, rfl, rfl, rfl, rfl, rfl, rfl⟩, h'⟩
    exact ⟨rfl, h'⟩
theorem BL.unlinkR (h : BL w0 C w m f r f2 r2 ek D bs Ts k D2 bs2 Ts2 v1 v2 cs ds) (I : Inv D2 Ts2 k') (hk : k' ≤ 900) (p : List UInt8) (hp : p.length < 100000) :
    Calls Tryz.prog 37 #[wp r2, tx p] w fun y w' => y = .returned (.int .i64 (unlinkE D2.T p)) ∧ BL w0 C w' m f r f2 r2 ek D bs Ts k { D2 with T := unlinkN D2.T p } bs2 Ts2 v1 v2 cs ds := by
  refine (h.call (k' := k) (Q := fun y D' bs' Ts' D2' bs2' Ts2' => y = .returned (.int .i64 (unlinkE D2.T p)) ∧ D' = D ∧ bs' = bs ∧ Ts' = Ts ∧ D2' = { D2 with T := unlinkN D2.T p } ∧ bs2' = bs2 ∧ Ts2' = Ts2) (fun A hb => (hb.callR (Q := fun y D' bs' Ts' => y = .returned (.int .i64 (unlinkE D2.T p)) ∧ D' = { D2 with T := unlinkN D2.T p } ∧ bs' = bs2 ∧ Ts' = Ts2) (fun A1 h1 => (h1.unlink I hk hb.ml p hp).mono ?_)).mono ?_)).mono ?_
  · rintro y w' ⟨A', rfl, h', st⟩
    exact ⟨_, _, _, A', ⟨rfl, rfl, rfl, rfl⟩, h', st⟩
  · rintro y w' ⟨D', bs', Ts', A', ⟨rfl, rfl, rfl, rfl⟩, h', st⟩
    exact ⟨_, _, _, _, _, _, A', ⟨rfl, rfl, rfl, rfl, rfl, rfl, rfl⟩, h', st⟩
  · rintro y w' ⟨D', bs', Ts', D2', bs2', Ts2', ⟨rfl, rfl, rfl, rfl, rfl, rfl, rfl⟩, h'⟩
    exact ⟨rfl, h'⟩

/-- What is only read. -/
theorem BL.usedP (h : BL w0 C w m f r f2 r2 ek D bs Ts k D2 bs2 Ts2 v1 v2 cs ds) (hj : j < bs.length) (hjT : j < Ts.length) : Calls Tryz.prog 32 #[wp bs[j]] w fun y w' => y = .returned (.int .i64 (usedN Ts[j] : Int)) ∧ BL w0 C w' m f r f2 r2 ek D bs Ts k D2 bs2 Ts2 v1 v2 cs ds := by
  obtain ⟨A, hb, _⟩ := h.st
  obtain ⟨A1, A2, q1, q2, _⟩ := hb.both
  refine (q1.used hj).mono ?_
  rintro y w' ⟨rfl, b⟩
  exact ⟨rfl, h.below b⟩
theorem BL.usedR (h : BL w0 C w m f r f2 r2 ek D bs Ts k D2 bs2 Ts2 v1 v2 cs ds) (hj : j < bs2.length) (hjT : j < Ts2.length) : Calls Tryz.prog 33 #[wp bs2[j]] w fun y w' => y = .returned (.int .i64 (usedN Ts2[j] : Int)) ∧ BL w0 C w' m f r f2 r2 ek D bs Ts k D2 bs2 Ts2 v1 v2 cs ds := by
  obtain ⟨A, hb, _⟩ := h.st
  obtain ⟨A1, A2, q1, q2, _⟩ := hb.both
  refine (q2.used hj).mono ?_
  rintro y w' ⟨rfl, b⟩
  exact ⟨rfl, h.below b⟩
theorem BL.hasP (h : BL w0 C w m f r f2 r2 ek D bs Ts k D2 bs2 Ts2 v1 v2 cs ds) (hj : j < bs.length) (hjT : j < Ts.length) (x : Int) : Calls Tryz.prog 34 #[wp f, wp bs[j], .int .i64 x] w fun y w' => y = .returned (.bool (hasN Ts[j] x)) ∧ BL w0 C w' m f r f2 r2 ek D bs Ts k D2 bs2 Ts2 v1 v2 cs ds := by
  obtain ⟨A, hb, _⟩ := h.st
  obtain ⟨A1, A2, q1, q2, _⟩ := hb.both
  refine (q1.has hj x).mono ?_
  rintro y w' ⟨rfl, b⟩
  exact ⟨rfl, h.below b⟩
theorem BL.hasR (h : BL w0 C w m f r f2 r2 ek D bs Ts k D2 bs2 Ts2 v1 v2 cs ds) (hj : j < bs2.length) (hjT : j < Ts2.length) (x : Int) : Calls Tryz.prog 35 #[wp bs2[j], .int .i64 x] w fun y w' => y = .returned (.bool (hasN Ts2[j] x)) ∧ BL w0 C w' m f r f2 r2 ek D bs Ts k D2 bs2 Ts2 v1 v2 cs ds := by
  obtain ⟨A, hb, _⟩ := h.st
  obtain ⟨A1, A2, q1, q2, _⟩ := hb.both
  refine (q2.has hj x).mono ?_
  rintro y w' ⟨rfl, rfl⟩
  exact ⟨rfl, h⟩
/-- How many are open, how many nodes there are: both told. -/
theorem BL.links (h : BL w0 C w m f r f2 r2 ek D bs Ts k D2 bs2 Ts2 v1 v2 cs ds) : w.cell? ⟨f2, 0, none⟩ = some (wp r2) ∧ w.cell? ⟨f2, 1, none⟩ = some (.map (some ek.2)) ∧ w.cell? ⟨r2, 0, none⟩ = some (.map (some ek.1)) := by
  obtain ⟨A, hb, _⟩ := h.st
  obtain ⟨A1, A2, q1, q2, _⟩ := hb.both
  obtain ⟨n, s, a1, a2, a3, _⟩ := q2.lens
  exact ⟨a1, a2, a3⟩
theorem BL.tell (h : BL w0 C w m f r f2 r2 ek D bs Ts k D bs2 Ts2 v1 v2 cs ds) : ∃ n s : Nat, ∀ w', BL w0 C w' m f r f2 r2 ek D bs Ts k D bs2 Ts2 v1 v2 cs ds → (∀ ty, (Builtin.len_ #[84] ty #[.map (some ek.2)]).run Tryz.prog w' = .ok (.int .i64 n) w') ∧ (∀ ty, (Builtin.len_ #[33] ty #[.map (some ek.1)]).run Tryz.prog w' = .ok (.int .i64 s) w') ∧ Calls Tryz.prog 36 #[wp f] w' (fun y w2 => y = .returned (.int .i64 (n : Int)) ∧ w2 = w') ∧ Calls Tryz.prog 13 #[wp r] w' (fun y w2 => y = .returned (.int .i64 (s : Int)) ∧ w2 = w') := by
  obtain ⟨A, hb, _⟩ := h.st
  obtain ⟨A1, A2, q1, q2, _⟩ := hb.both
  obtain ⟨n, s, _, _, _, a4, a5, _, _⟩ := q2.lens
  refine ⟨n, s, fun w' h' => ?_⟩
  obtain ⟨A', hb', _⟩ := h'.st
  obtain ⟨A1', A2', q1', q2', _⟩ := hb'.both
  obtain ⟨n', s', _, _, _, a4', a5', a6, a7⟩ := q2'.lens
  obtain rfl := a4.one a4'
  obtain rfl := a5.one a5'
  exact ⟨a6, a7, q1'.openIs a4, q1'.nodes a5⟩
/-- What stands behind an item, told once for all worlds that follow. -/
def AfterS (_w0 : World) (C : List (Nat × Nat × Value)) (_m : Int) (f r f2 r2 : Nat) (ek : Nat × Nat) (b1 b2 : Nat) (X : Int) (St : World → Prop) (un n s : Nat) (hv : Bool) (V : World) : Prop :=
  (V.cell? ⟨f2, 0, none⟩ = some (wp r2) ∧ V.cell? ⟨f2, 1, none⟩ = some (.map (some ek.2)) ∧ V.cell? ⟨r2, 0, none⟩ = some (.map (some ek.1))) ∧ (∀ c ∈ C, V.cell? ⟨c.1, c.2.1, none⟩ = some c.2.2) ∧
  Calls Tryz.prog 32 #[wp b1] V (fun y w' => y = .returned (.int .i64 (un : Int)) ∧ St w') ∧
  Calls Tryz.prog 33 #[wp b2] V (fun y w' => y = .returned (.int .i64 (un : Int)) ∧ St w') ∧
  Calls Tryz.prog 34 #[wp f, wp b1, .int .i64 X] V (fun y w' => y = .returned (.bool hv) ∧ St w') ∧
  Calls Tryz.prog 35 #[wp b2, .int .i64 X] V (fun y w' => y = .returned (.bool hv) ∧ St w') ∧
  Calls Tryz.prog 36 #[wp f] V (fun y w' => y = .returned (.int .i64 (n : Int)) ∧ w' = V) ∧
  Calls Tryz.prog 13 #[wp r] V (fun y w' => y = .returned (.int .i64 (s : Int)) ∧ w' = V) ∧
  (∀ ty, (Builtin.len_ #[84] ty #[.map (some ek.2)]).run Tryz.prog V = .ok (.int .i64 n) V) ∧
  ∀ ty, (Builtin.len_ #[33] ty #[.map (some ek.1)]).run Tryz.prog V = .ok (.int .i64 s) V
theorem BL.after (h : BL w0 C w m f r f2 r2 ek D bs Ts k D bs2 Ts v1 v2 cs ds) (v : Int) (hv : v ≠ 9) (hk : k ≤ 800) (hn : D.nx < 800) (hj : j < bs.length) (hj2 : j < bs2.length) (t9 X Y : Int) (p : List UInt8) (hp : p.length ≤ 250) (yes : Bool) (hY : Y < 9223372036854775808) :
    Calls Tryz.prog 31 #[wp f, wp f2, wp bs[j], wp bs2[j], .agg #[.int .i64 v, .int .i64 t9, .int .i64 X, .int .i64 Y, tx p, .bool yes]] w fun e w' => e = .returned (.bool true) ∧ ∃ (St : World → Prop) (un n s : Nat) (hv : Bool), St w' ∧ (∀ V, St V → AfterS w0 C m f r f2 r2 ek bs[j] bs2[j] X St un n s hv V) ∧ ∃ D' Ts', D'.nx ≤ D.nx + 3 ∧ Ts'.length = Ts.length ∧ ∀ V, St V → BL w0 C V m f r f2 r2 ek D' bs Ts' (k + 2) D' bs2 Ts' v1 v2 cs ds := by
  refine (h.fds v hv hk hn hj hj2 t9 X Y p hp yes hY).mono ?_
  rintro e w' ⟨rfl, D', Ts', h', hx⟩
  obtain ⟨n, s, ht⟩ := h'.tell
  have l1 := h'.len.1
  have l2 := h.len.1
  refine ⟨rfl, fun V => BL w0 C V m f r f2 r2 ek D' bs Ts' (k + 2) D' bs2 Ts' v1 v2 cs ds, usedN (Ts'[j]'(by omega)), n, s, hasN (Ts'[j]'(by omega)) X, h', fun V hV => ?_, D', Ts', hx, by omega, fun V hV => hV⟩
  obtain ⟨t1, t2, t3, t4⟩ := ht V hV
  exact ⟨hV.links, hV.cell, hV.usedP hj (by omega), hV.usedR hj2 (by omega), hV.hasP hj (by omega) X, hV.hasR hj2 (by omega) X, t3, t4, t1, t2⟩
end
end Go.Proofs.YtjkneekfijibiabGreatDoor

namespace Go.Proofs.YtjkneekfijibiabGreatDoor
open Go.RowKit Go.Maps Go.Lib Go.Sort

section
variable {w0 w w' W : World} {C : List (Nat × Nat × Value)} {m : Int} {f r f2 r2 k j b : Nat} {D D2 : DS} {bs bs2 : List Nat} {Ts Ts2 : List Ns} {A : Nat → Prop} {ek : Nat × Nat}
theorem RD.table (h : RD w f r ek D bs Ts A) : RD (w.alloc (.cells (nv zeroN).toArray 75)) f r ek D (bs ++ [w.heap.size]) (Ts ++ [zeroN]) (fun i => A i ∨ i = w.heap.size) := by
  have bA : Below w.heap.size w (w.alloc (.cells (nv zeroN).toArray 75)) := (Below.refl _ w).alloc (Nat.le_refl _) _
  have hsz : (w.alloc (.cells (nv zeroN).toArray 75)).heap.size = w.heap.size + 1 := by show (w.heap.push _).size = _; rw [Array.size_push]
  have hn : (w.alloc (.cells (nv zeroN).toArray 75)).heap[w.heap.size]? = some (.cells (nv zeroN).toArray 75) := by
    show (w.heap.push _)[w.heap.size]? = _
    rw [Array.getElem?_push, if_pos rfl]
  obtain ⟨gN, s, G, gE, gR, gP, sE, sR, sP, q, ht, hA⟩ := h.st
  refine ⟨⟨gN, s, G, gE, gR, gP, sE, sR, sP, q.below bA, fun x hx hx' => ?_, fun i hi => .inl (hA i hi)⟩, by rw [List.length_append, List.length_append, h.len]; rfl, ?_, fun b hb => ?_, fun i hi => ?_, q.lk (q.below bA) h.lk⟩
  · by_cases e1 : x < bs.length
    · have e2 : x < Ts.length := by rw [← h.len]; exact e1
      rw [List.getElem_append_left e1, List.getElem_append_left e2]
      exact ⟨(ht x e1 e2).1.below bA, (ht x e1 e2).2⟩
    · have e3 : x = bs.length := by rw [List.length_append] at hx; simp at hx; omega
      have e4 := h.len
      subst e3
      rw [List.getElem_concat_length rfl]
      have : (Ts ++ [zeroN])[bs.length]'hx' = zeroN := by
        rw [List.getElem_append_right (by omega)]
        simp
      rw [this]
      exact ⟨⟨hn, rfl⟩, fun hf => by have := q.lt hf; omega⟩
  · rw [List.nodup_append]
    exact ⟨h.nd, by simp, fun a ha b hb e => by rw [List.mem_singleton.1 hb] at e; have := h.lt a (h.bsA a ha); omega⟩
  · rcases List.mem_append.1 hb with z | z
    · exact .inl (h.bsA b z)
    · exact .inr (List.mem_singleton.1 z)
  · rw [hsz]
    rcases hi with z | z
    · have := h.lt i z; omega
    · omega
/-- Nothing open on either side. -/
def BN (w0 w : World) (m : Int) (f r f2 r2 : Nat) (ek : Nat × Nat) : Prop := ∃ A1 A2, KD w m f r (noneD nullT) [] [] 0 A1 ∧ RD w f2 r2 ek (noneD nullT) [] [] A2 ∧ (∀ i, A1 i → ¬ A2 i) ∧ (∀ i, A1 i → w0.heap.size ≤ i) ∧ (∀ i, A2 i → w0.heap.size ≤ i) ∧ Below w0.heap.size w0 w
theorem BN.below (h : BN w0 w m f r f2 r2 ek) (hb : Below w.heap.size w w') : BN w0 w' m f r f2 r2 ek := by
  obtain ⟨A1, A2, h1, h2, h3, h4, h5, h6⟩ := h
  exact ⟨A1, A2, h1.below hb, h2.below hb, h3, h4, h5, h6.trans (hb.mono h6.size)⟩
theorem BN.er (h : BN w0 w m f r f2 r2 ek) : w.cell? ⟨0, 0, none⟩ = some errT := by
  obtain ⟨A1, A2, h1, _⟩ := h; exact h1.er
theorem BN.first (w : World) (hm : w.cell? ⟨2, 0, none⟩ = some (.int .i64 m)) (he : w.cell? ⟨0, 0, none⟩ = some errT) :
    Calls Tryz.prog 9 #[] w fun y w1 => ∃ r, y = .returned (wp r) ∧ Calls Tryz.prog 10 #[] w1 fun y w2 => ∃ r2, y = .returned (wp r2) ∧ Calls Tryz.prog 26 #[wp r2] w2 fun y w3 => ∃ f2, y = .returned (wp f2) ∧ Calls Tryz.prog 27 #[wp r] w3 fun y w4 => ∃ f, y = .returned (.tuple #[wp f, .nilIface]) ∧ ∃ ek, BN w w4 m f r f2 r2 ek := by
  refine (new_ok w).mono ?_
  rintro y w1 ⟨r, O, rfl, p1, b1, hO⟩
  refine ⟨r, rfl, (newTree_ok w1).mono ?_⟩
  rintro y w2 ⟨r2, rfl, gN, g, t2, b2, l1, l2, l3⟩
  refine ⟨r2, rfl, (NewFiles_ok t2).mono ?_⟩
  rintro y w3 ⟨f2, gE, gR, gP, rfl, q3, b3, _, n1, n2, n3, n4⟩
  have p3 := (p1.below b2).below b3
  refine ⟨f2, rfl, (QNew.ok p3).mono ?_⟩
  rintro y w4 ⟨f, g4, rfl, q4, hk, hr, b4⟩
  have bb2 := b1.trans (b2.mono b1.size)
  have bb3 := bb2.trans (b3.mono bb2.size)
  have bb := bb3.trans (b4.mono bb3.size)
  have hA : ∀ i, (g4.kap i).isSome = true → w.heap.size ≤ i := fun i hi => by
    by_cases e1 : i < w3.heap.size
    · exact hO i ((hk i e1).1 hi)
    · have := bb3.size; omega
  have hml := World.block_lt_of_cell? w _ hm
  have hel := World.block_lt_of_cell? w _ he
  simp only at hml hel
  have hfo : ∀ i, fown f2 r2 gN nullT (fun _ => g) gE gR gP i → w1.heap.size ≤ i := fun i hi => by
    have := b2.size
    rcases hi with z | z | z | z | z
    · omega
    · omega
    · omega
    · omega
    · rcases z with z | z | ⟨_, _, _, z⟩
      · omega
      · omega
      · have z : i = g := z
        omega
  have hs1 := b1.size
  have q34 := q3.below b4
  refine ⟨f, rfl, (gN, gE), fun i => (g4.kap i).isSome = true, fown f2 r2 gN nullT (fun _ => g) gE gR gP, ⟨⟨g4, 0, q4, hr, fun j h => (by simp at h), fun i hi => hi⟩, rfl, List.nodup_nil, fun b hb => (by cases hb), Inv.none nullT_lv sm_null, fun i hi => q4.lt i hi, cell_below hm bb, fun z => ?_, cell_below he bb, fun z => ?_⟩, ⟨⟨gN, 1, fun _ => g, gE, gR, gP, 0, 0, 0, q3.below b4, fun j h => (by simp at h), fun i hi => hi⟩, rfl, List.nodup_nil, fun b hb => (by cases hb), fun i hi => Nat.lt_of_lt_of_le (q3.lt hi) b4.size, q34.cells.2.1, q34.tree.c0⟩, fun i hi hf => ?_, hA, fun i hi => Nat.le_trans hs1 (hfo i hi), bb⟩
  · have := hA _ z; omega
  · have := hA _ z; omega
  · have h1 := hfo i hf
    have h2 := q3.lt hf
    have := p1.lt i ((hk i h2).1 hi)
    omega
/-- A table each, and the two lists of one. -/
theorem BN.lists (h : BN w0 w m f r f2 r2 ek) (hml : 2 < w0.heap.size) (hel : 0 < w0.heap.size) : BL w0 [] ((((w.alloc (.cells (nv zeroN).toArray 69)).alloc (.cells #[wp w.heap.size] 64)).alloc (.cells (nv zeroN).toArray 75)).alloc (.cells #[wp (w.heap.size + 2)] 71)) m f r f2 r2 ek (noneD nullT) [w.heap.size] [zeroN] 0 (noneD nullT) [w.heap.size + 2] [zeroN] (.slice (some ⟨w.heap.size + 1, 0, none⟩) 1 1) (.slice (some ⟨w.heap.size + 3, 0, none⟩) 1 1) [w.heap.size] [w.heap.size + 2] := by
  obtain ⟨A1, A2, h1, h2, h3, h4, h5, h6⟩ := h
  obtain ⟨wA, hwA⟩ : ∃ wA, w.alloc (.cells (nv zeroN).toArray 69) = wA := ⟨_, rfl⟩
  obtain ⟨wB, hwB⟩ : ∃ wB, wA.alloc (.cells #[wp w.heap.size] 64) = wB := ⟨_, rfl⟩
  obtain ⟨wC, hwC⟩ : ∃ wC, wB.alloc (.cells (nv zeroN).toArray 75) = wC := ⟨_, rfl⟩
  obtain ⟨wE, hwE⟩ : ∃ wE, wC.alloc (.cells #[wp (w.heap.size + 2)] 71) = wE := ⟨_, rfl⟩
  have sA : wA.heap.size = w.heap.size + 1 := by rw [← hwA]; show (w.heap.push _).size = _; rw [Array.size_push]
  have sB : wB.heap.size = w.heap.size + 2 := by rw [← hwB]; show (wA.heap.push _).size = _; rw [Array.size_push, sA]
  have sC : wC.heap.size = w.heap.size + 3 := by rw [← hwC]; show (wB.heap.push _).size = _; rw [Array.size_push, sB]
  have sE : wE.heap.size = w.heap.size + 4 := by rw [← hwE]; show (wC.heap.push _).size = _; rw [Array.size_push, sC]
  have bA : Below w.heap.size w wA := by rw [← hwA]; exact (Below.refl _ w).alloc (Nat.le_refl _) _
  have bB : Below wA.heap.size wA wB := by rw [← hwB]; exact (Below.refl _ wA).alloc (Nat.le_refl _) _
  have bC : Below wB.heap.size wB wC := by rw [← hwC]; exact (Below.refl _ wB).alloc (Nat.le_refl _) _
  have bE : Below wC.heap.size wC wE := by rw [← hwE]; exact (Below.refl _ wC).alloc (Nat.le_refl _) _
  have k1 := h1.table (by simp)
  rw [hwA] at k1
  have k4 := ((k1.below bB).below bC).below bE
  have r2' := ((h2.below bA).below bB).table
  rw [hwC, sB] at r2'
  have r4 := r2'.below bE
  have hB : wB.heap[w.heap.size + 1]? = some (.cells #[wp w.heap.size] 64) := by
    rw [← hwB]; show (wA.heap.push _)[w.heap.size + 1]? = _
    rw [Array.getElem?_push, if_pos sA.symm]
  have hBE : wE.heap[w.heap.size + 1]? = some (.cells #[wp w.heap.size] 64) := ((bE.block _ (by omega)).trans (bC.block _ (by omega))).trans hB
  have hE : wE.heap[w.heap.size + 3]? = some (.cells #[wp (w.heap.size + 2)] 71) := by
    rw [← hwE]; show (wC.heap.push _)[w.heap.size + 3]? = _
    rw [Array.getElem?_push, if_pos sC.symm]
  have b0 := h6.size
  have bb : Below w0.heap.size w0 wE := (((h6.trans (bA.mono b0)).trans (bB.mono (by omega))).trans (bC.mono (by omega))).trans (bE.mono (by omega))
  rw [hwA, hwB, hwC, hwE]
  refine ⟨⟨fun i => (A1 i ∨ i = w.heap.size) ∨ (A2 i ∨ i = w.heap.size + 2), ⟨⟨_, _, k4, r4, fun i hi hj => ?_, fun i hi => .inl hi, fun i hi => .inr hi⟩, fun i hi => ?_, fun hi => ?_, fun hi => ?_⟩, fun i hi => ?_, fun i hi ha => ?_, fun i hi ha => ?_, fun c hc => (by cases hc)⟩, bb, ⟨rfl, .inr ⟨w.heap.size + 1, 1, #[wp w.heap.size], rfl, by omega, hBE, Nat.le_refl _, by decide, rfl, rfl⟩⟩, ⟨rfl, .inr ⟨w.heap.size + 3, 1, #[wp (w.heap.size + 2)], rfl, by omega, hE, Nat.le_refl _, by decide, rfl, rfl⟩⟩, fun c hc => (by cases hc), fun c hc => (by cases hc), fun c hc => (by cases hc), hml, hel⟩
  · rcases hi with hi | hi
    · rcases hj with hj | hj
      · exact h3 i hi hj
      · have := h1.lt i hi; omega
    · rcases hj with hj | hj
      · have := h2.lt i hj; omega
      · omega
  · rw [sE]
    rcases hi with (z | z) | (z | z)
    · have := h1.lt i z; omega
    · omega
    · have := h2.lt i z; omega
    · omega
  · rcases hi with (z | z) | (z | z)
    · have := h4 _ z; omega
    · omega
    · have := h5 _ z; omega
    · omega
  · rcases hi with (z | z) | (z | z)
    · have := h4 _ z; omega
    · omega
    · have := h5 _ z; omega
    · omega
  · rcases hi with (z | z) | (z | z)
    · exact h4 i z
    · omega
    · exact h5 i z
    · omega
  · have hi : w.heap.size + 1 = i := Option.some.inj hi
    rcases ha with (z | z) | (z | z)
    · have := h1.lt i z; omega
    · omega
    · have := h2.lt i z; omega
    · omega
  · have hi : w.heap.size + 3 = i := Option.some.inj hi
    rcases ha with (z | z) | (z | z)
    · have := h1.lt i z; omega
    · omega
    · have := h2.lt i z; omega
    · omega
end
end Go.Proofs.YtjkneekfijibiabGreatDoor

namespace Go.Proofs.YtjkneekfijibiabGreatDoor
open Go.RowKit Go.Maps Go.Lib Go.Sort

section
variable {w0 w w' W : World} {C : List (Nat × Nat × Value)} {m : Int} {f r f2 r2 k j b : Nat} {ek : Nat × Nat} {D D2 : DS} {bs bs2 cs ds : List Nat} {Ts Ts2 : List Ns} {v1 v2 : Value}
/-- A new block, some of whose cells are told. -/
theorem BL.new (h : BL w0 C w m f r f2 r2 ek D bs Ts k D2 bs2 Ts2 v1 v2 cs ds) (o : Obj) (N : List (Nat × Value)) (hN : ∀ c ∈ N, (w.alloc o).cell? ⟨w.heap.size, c.1, none⟩ = some c.2) : BL w0 (N.map (fun c => (w.heap.size, c.1, c.2)) ++ C) (w.alloc o) m f r f2 r2 ek D bs Ts k D2 bs2 Ts2 v1 v2 cs ds := by
  have b : Below w.heap.size w (w.alloc o) := (Below.refl _ w).alloc (Nat.le_refl _) o
  have h' := h.below b
  obtain ⟨A, hb, h1, h2, h3, h4⟩ := h.st
  have hlt1 : ∀ i, v1.ownBlock = some i → i < w.heap.size := fun i hi => by obtain ⟨_, c, hc⟩ := orow_block h.r1 hi; exact lt_of_heap hc
  have hlt2 : ∀ i, v2.ownBlock = some i → i < w.heap.size := fun i hi => by obtain ⟨_, c, hc⟩ := orow_block h.r2 hi; exact lt_of_heap hc
  refine ⟨⟨A, hb.below b, h1, h2, h3, fun c hc ha => ?_⟩, h'.bel, h'.r1, h'.r2, fun c hc => ?_, fun c hc hv => ?_, fun c hc hv => ?_, h.mlt, h.elt⟩
  · rcases List.mem_append.1 hc with hc | hc
    · obtain ⟨x, _, rfl⟩ := List.mem_map.1 hc
      have := hb.lt _ ha; simp at this
    · exact h4 c hc ha
  · rcases List.mem_append.1 hc with hc | hc
    · obtain ⟨x, hx, rfl⟩ := List.mem_map.1 hc
      exact hN x hx
    · exact h'.cell c hc
  · rcases List.mem_append.1 hc with hc | hc
    · obtain ⟨x, _, rfl⟩ := List.mem_map.1 hc
      have := hlt1 _ hv; simp at this
    · exact h.c1 c hc hv
  · rcases List.mem_append.1 hc with hc | hc
    · obtain ⟨x, _, rfl⟩ := List.mem_map.1 hc
      have := hlt2 _ hv; simp at this
    · exact h.c2 c hc hv
theorem BL.box (h : BL w0 C w m f r f2 r2 ek D bs Ts k D2 bs2 Ts2 v1 v2 cs ds) (x0 x1 x2 x3 x4 x5 : Value) (T : TypeId) : BL w0 ((w.heap.size, 0, x0) :: (w.heap.size, 1, x1) :: (w.heap.size, 2, x2) :: (w.heap.size, 3, x3) :: (w.heap.size, 4, x4) :: (w.heap.size, 5, x5) :: C) (w.alloc (.cells #[x0, x1, x2, x3, x4, x5] T)) m f r f2 r2 ek D bs Ts k D2 bs2 Ts2 v1 v2 cs ds := by
  have hn : (w.alloc (.cells #[x0, x1, x2, x3, x4, x5] T)).heap[w.heap.size]? = some (.cells #[x0, x1, x2, x3, x4, x5] T) := by
    show (w.heap.push _)[w.heap.size]? = _
    rw [Array.getElem?_push, if_pos rfl]
  refine h.new (.cells #[x0, x1, x2, x3, x4, x5] T) [(0, x0), (1, x1), (2, x2), (3, x3), (4, x4), (5, x5)] (fun c hc => ?_)
  rw [cell_of_row _ _ _ _ _ _ hn]
  simp only [List.mem_cons, List.not_mem_nil, or_false] at hc
  rcases hc with rfl | rfl | rfl | rfl | rfl | rfl <;> rfl
theorem fork_nx (N : Ns) : ∀ D : DS, (forkD D N).nx = D.nx := by
  unfold forkD
  induction N with
  | nil => intro D; rfl
  | cons x N ih =>
    intro D
    rw [List.foldl_cons, ih]
    split <;> rfl
end

/-- One item of the script. -/
structure FItem where
  what : Int
  tab : Int
  n : Int
  a : Int
  s : List UInt8
  y : Bool
/-- The items lie in the argument's array. -/
def FScript (w : World) (ad : Option Addr) (len : Nat) (q : Nat → FItem) : Prop :=
  len = 0 ∨ ∃ blk off, ad = some ⟨blk, off, none⟩ ∧ blk < w.heap.size ∧ ∀ i, i < len →
    w.cell? ⟨blk, off + i * 6, none⟩ = some (.int .i64 (q i).what) ∧ w.cell? ⟨blk, off + i * 6 + 1, none⟩ = some (.int .i64 (q i).tab) ∧ w.cell? ⟨blk, off + i * 6 + 2, none⟩ = some (.int .i64 (q i).n) ∧ w.cell? ⟨blk, off + i * 6 + 3, none⟩ = some (.int .i64 (q i).a) ∧ w.cell? ⟨blk, off + i * 6 + 4, none⟩ = some (tx (q i).s) ∧ w.cell? ⟨blk, off + i * 6 + 5, none⟩ = some (.bool (q i).y) ∧ (q i).a < 9223372036854775808

set_option maxRecDepth 100000 in
set_option maxHeartbeats 1000000 in
theorem dplays_long (ad : Option Addr) (len cap : Nat) (w : World) (h : 60 < len) :
    Calls Tryz.prog 6 #[.slice ad len cap] w fun e w' => e = .returned (.bool true) ∧ Below w.heap.size w w' := by
  have h1 : (60 : Int) < (len : Int) := by omega
  go_enter Tryz.func6, Tryz.ntmps6
  go_wp2_with fail
  go_ret
  exact ⟨rfl, Below.refl _ _⟩

/-- Between two items. -/
def PD (w : World) (m : Int) (f r f2 r2 : Nat) (ek : Nat × Nat) (i : Nat) (v1 v2 : Value) (wr : World) : Prop :=
  ∃ D bs bs2 Ts, BL w [] wr m f r f2 r2 ek D bs Ts (3 * i) D bs2 Ts v1 v2 bs bs2 ∧ D.nx ≤ 3 * i ∧ 1 ≤ Ts.length ∧ Ts.length ≤ 8
theorem PD.of {w wr : World} {m : Int} {f r f2 r2 : Nat} {ek : Nat × Nat} {i k : Nat} {v1 v2 : Value} {C : List (Nat × Nat × Value)} {D : DS} {bs bs2 : List Nat} {Ts : List Ns} (h : BL w C wr m f r f2 r2 ek D bs Ts k D bs2 Ts v1 v2 bs bs2) (hk : k ≤ 3 * i) (hn : D.nx ≤ 3 * i) (h1 : 1 ≤ Ts.length) (h8 : Ts.length ≤ 8) : PD w m f r f2 r2 ek i v1 v2 wr :=
  ⟨D, bs, bs2, Ts, (h.more hk).sub (fun c hc => (by cases hc)), hn, h1, h8⟩

theorem files_ne (b : Nat) (w : World) : (binOp BinOp.eql 60 (wp b) (.pointer none)).run Tryz.prog w = .ok (.bool false) w := by kernel_rfl
theorem files_no (w : World) : (binOp BinOp.neq 60 (.pointer none) (.pointer none)).run Tryz.prog w = .ok (.bool false) w := by kernel_rfl
theorem table_ne (b : Nat) (w : World) : (binOp BinOp.eql 64 (wp b) (.pointer none)).run Tryz.prog w = .ok (.bool false) w := by kernel_rfl

set_option maxRecDepth 100000 in
set_option maxHeartbeats 16000000 in
theorem dplays_short (ad : Option Addr) (len cap : Nat) (q : Nat → FItem) (w : World) (h1 : len ≤ 60) (hsc : FScript w ad len q) (m : Int) (hm : w.cell? ⟨2, 0, none⟩ = some (.int .i64 m)) (hg : w.cell? ⟨0, 0, none⟩ = some errT) :
    Calls Tryz.prog 6 #[.slice ad len cap] w fun e w' => e = .returned (.bool true) ∧ Below w.heap.size w w' := by
  have h1' : ¬ (60 : Int) < (len : Int) := by omega
  have hN := BN.first w hm hg
  have hne := files_ne
  have hno := files_no
  have hml : 2 < w.heap.size := World.block_lt_of_cell? w _ hm
  have hel : 0 < w.heap.size := World.block_lt_of_cell? w _ hg
  clear hm hg
  go_enter Tryz.func6, Tryz.ntmps6
  go_upto_region 4 with (first
    | (go_at_call 9; refine hN.mono ?_; rintro e w1 ⟨r, rfl, hN2⟩)
    | (go_at_call 10; refine hN2.mono ?_; rintro e w2 ⟨r2, rfl, hN3⟩)
    | (go_at_call 26; refine hN3.mono ?_; rintro e w3 ⟨f2, rfl, hN4⟩))
  clear hN hN2 hN3
  go_upto_region 5 with (go_at_call 27; refine hN4.mono ?_; rintro e w4 ⟨f, rfl, ek, hB⟩)
  clear hN4
  go_upto_region 6 with (go_at_call 27; refine (QNew.nil _).mono ?_; rintro e w5 ⟨rfl, hw5⟩; subst w5)
  go_upto_region 8 with (go_at_call 28; refine (bare_eno 7 _ hB.er).mono ?_; rintro e w6 ⟨rfl, b6⟩; have hB6 := hB.below b6)
  have hL := hB6.lists hml hel
  clear hB b6 hne hno hml hel
  have HL : Aside (PD w m f r f2 r2 ek 0 (.slice (some ⟨w6.heap.size + 1, 0, none⟩) 1 1) (.slice (some ⟨w6.heap.size + 3, 0, none⟩) 1 1) ((((w6.alloc (.cells (nv zeroN).toArray 69)).alloc (.cells #[wp w6.heap.size] 64)).alloc (.cells (nv zeroN).toArray 75)).alloc (.cells #[wp (w6.heap.size + 2)] 71))) := PD.of hL (by omega) (show (0 : Int) ≤ _ by omega) (by simp) (by simp)
  clear hL hB6
  go_wp2_with fail
  go_loopg [9, 10, 11] len (fun k s9 s10 s11 wr => ∃ (i : Nat), i + k = len ∧ s11 = .int .i64 (i : Int) ∧ PD w m f r f2 r2 ek i s9 s10 wr)
  case atStart => exact ⟨0, by omega, rfl, HL.out⟩
  case round =>
    clear HL
    obtain ⟨i, hi, rfl, D, bs, bs2, Ts, S, hx, hl1, hl8⟩ := hrel
    obtain ⟨hlb, hlb2⟩ := S.len
    by_cases hlt : (i : Int) < (len : Int)
    · rcases hsc with h0 | ⟨blk, off, rfl, hbl, hss⟩
      · exfalso; omega
      obtain ⟨c0, c1, c2, c3, c4, c5, hY⟩ := hss i (by omega)
      have hB := S.bel
      have d0 : wr.cell? ⟨blk, off + i * 6, none⟩ = some (.int .i64 (q i).what) := by rw [hB.cell (p := ⟨blk, off + i * 6, none⟩) hbl]; exact c0
      have d1 : wr.cell? ⟨blk, off + i * 6 + 1, none⟩ = some (.int .i64 (q i).tab) := by rw [hB.cell (p := ⟨blk, off + i * 6 + 1, none⟩) hbl]; exact c1
      have d2 : wr.cell? ⟨blk, off + i * 6 + 2, none⟩ = some (.int .i64 (q i).n) := by rw [hB.cell (p := ⟨blk, off + i * 6 + 2, none⟩) hbl]; exact c2
      have d3 : wr.cell? ⟨blk, off + i * 6 + 3, none⟩ = some (.int .i64 (q i).a) := by rw [hB.cell (p := ⟨blk, off + i * 6 + 3, none⟩) hbl]; exact c3
      have d4 : wr.cell? ⟨blk, off + i * 6 + 4, none⟩ = some (tx (q i).s) := by rw [hB.cell (p := ⟨blk, off + i * 6 + 4, none⟩) hbl]; exact c4
      have d5 : wr.cell? ⟨blk, off + i * 6 + 5, none⟩ = some (.bool (q i).y) := by rw [hB.cell (p := ⟨blk, off + i * 6 + 5, none⟩) hbl]; exact c5
      clear c0 c1 c2 c3 c4 c5 hss hB hbl
      generalize (q i).what = W at *
      generalize (q i).tab = K at *
      generalize (q i).n = X at *
      generalize (q i).a = Y at *
      generalize (q i).s = U at *
      generalize (q i).y = V at *
      obtain ⟨N0, hN0⟩ : ∃ N0, bs.length = N0 := ⟨_, rfl⟩
      have hN2 : bs2.length = N0 := by omega
      obtain ⟨g1, cap1, rfl, hc1, hg1, _⟩ := orow_read S.r1 (by omega)
      obtain ⟨g2, cap2, rfl, hc2, hg2, _⟩ := orow_read S.r2 (by omega)
      obtain ⟨j, hj, hjN⟩ : ∃ j : Nat, wrap64 ((IntKind.u64.wrap K).tmod (N0 : Int)) = (j : Int) ∧ j < N0 := by
        have h0 : 0 ≤ IntKind.u64.wrap K := by rw [IntKind.wrap_u64]; omega
        have ht : (IntKind.u64.wrap K).tmod (N0 : Int) = IntKind.u64.wrap K % (N0 : Int) := Int.tmod_eq_emod_of_nonneg h0
        have l := Int.emod_nonneg (IntKind.u64.wrap K) (b := (N0 : Int)) (by omega)
        have u := Int.emod_lt_of_pos (IntKind.u64.wrap K) (b := (N0 : Int)) (by omega)
        refine ⟨(IntKind.u64.wrap K % (N0 : Int)).toNat, ?_, by omega⟩
        rw [ht]; unfold wrap64; omega
      have hjb : j < bs.length := by omega
      have hjb2 : j < bs2.length := by omega
      have hjT : j < Ts.length := by omega
      have S0 := ((S.in1 rfl hjb).in2 rfl hjb2).box (.int .i64 W) (.int .i64 K) (.int .i64 X) (.int .i64 Y) (tx U) (.bool V) 78
      clear S
      rw [hN0, hN2] at S0 ⊢
      have hNw : IntKind.u64.wrap (N0 : Int) = (N0 : Int) := by rw [IntKind.wrap_u64]; omega
      have hN0' : ¬ (N0 : Int) = 0 := by omega
      go_upto_region 13 with fail
      obtain ⟨C0, hC0⟩ : ∃ C0 : List (Nat × Nat × Value), [(wr.heap.size, 0, .int .i64 W), (wr.heap.size, 1, .int .i64 K), (wr.heap.size, 2, .int .i64 X), (wr.heap.size, 3, .int .i64 Y), (wr.heap.size, 4, tx U), (wr.heap.size, 5, .bool V), (g2, j, wp bs2[j]), (g1, j, wp bs[j])] = C0 := ⟨_, rfl⟩
      rw [hC0] at S0
      obtain ⟨b1, hb1⟩ : ∃ b1, bs[j] = b1 := ⟨_, rfl⟩
      obtain ⟨b2, hb2⟩ : ∃ b2, bs2[j] = b2 := ⟨_, rfl⟩
      rw [hb1, hb2] at hC0
      have m0 : (wr.heap.size, 0, .int .i64 W) ∈ C0 := by rw [← hC0]; simp
      have m1 : (wr.heap.size, 1, .int .i64 K) ∈ C0 := by rw [← hC0]; simp
      have m2 : (wr.heap.size, 2, .int .i64 X) ∈ C0 := by rw [← hC0]; simp
      have m3 : (wr.heap.size, 3, .int .i64 Y) ∈ C0 := by rw [← hC0]; simp
      have m4 : (wr.heap.size, 4, tx U) ∈ C0 := by rw [← hC0]; simp
      have m5 : (wr.heap.size, 5, .bool V) ∈ C0 := by rw [← hC0]; simp
      have m7 : (g2, j, wp b2) ∈ C0 := by rw [← hC0]; simp
      have m8 : (g1, j, wp b1) ∈ C0 := by rw [← hC0]; simp
      clear hC0 d0 d1 d2 d3 d4 d5 hg1 hg2
      generalize wr.heap.size = J at *
      generalize wr.alloc (.cells #[.int .i64 W, .int .i64 K, .int .i64 X, .int .i64 Y, tx U, .bool V] 78) = wA at *
      have z0 := S0.cell _ m0
      have z1 := S0.cell _ m1
      have z2 := S0.cell _ m2
      have z3 := S0.cell _ m3
      have z4 := S0.cell _ m4
      have z5 := S0.cell _ m5
      have z7 := S0.cell _ m7
      have z8 := S0.cell _ m8
      simp only at z0 z1 z2 z3 z4 z5 z7 z8
      by_cases hlong : (250 : Int) < (U.length : Int)
      · as_aux_lemma =>
          go_wp2_with fail
          go_roundg (gk - 1)
          case measure => omega
          case rel => exact ⟨i + 1, by omega, by go_num, PD.of S0 (by omega) (by omega) hl1 hl8⟩
      go_upto_region 15 with fail
      rw [hj]
      clear hj hNw hN0'
      by_cases hW : W = 9
      · subst hW
        by_cases h8 : (N0 : Int) < 8
        · as_aux_lemma =>
          have hF := S0.forkP (by omega) hjb hjT
          have hI := S0.inv
          have htn := table_ne
          rw [hb1] at hF
          have hR := fun (C : List (Nat × Nat × Value)) (V : World) (u1 : Value) (cs : List Nat) (b : Nat) (h : BL w C V m f r f2 r2 ek (forkD D Ts[j]) (bs ++ [b]) (Ts ++ [Ts[j]]) (3 * i) D bs2 Ts u1 (.slice (some ⟨g2, 0, none⟩) N0 cap2) cs bs2) => h.forkR hI hjb2 hjT
          rw [hb2] at hR
          have hlq : bs.length ≤ 100 := by omega
          have hlq2 : bs2.length ≤ 100 := by omega
          go_upto_region 18 with (go_at_call 29; refine hF.mono ?_; rintro e w7 ⟨b, rfl, SS⟩)
          replace hR := fun (C : List (Nat × Nat × Value)) (V : World) (u1 : Value) (cs : List Nat) => hR C V u1 cs b
          have y7 := SS.cell _ m7
          simp only at y7
          clear hF z0 z1 z2 z3 z4 z5 z7 z8 S0
          go_upto_region 20 with fail
          go_region_held3 (fun w' => w'.cell? ⟨g2, j, none⟩ = some (wp b2)) (first | exact (SS.to0 ⟨by rfl, by rfl, by rfl, by rfl⟩).cell (g2, j, wp b2) (by simp [m7]) | exact (SS.to1 (wp b) 64 ⟨by rfl, by rfl, by rfl, by rfl⟩).cell (g2, j, wp b2) (by simp [m7]) | exact (SS.to1 (wp bF) 71 ⟨by rfl, by rfl, by rfl, by rfl⟩).cell (g2, j, wp b2) (by simp [m7])) (first
            | (go_at_call 30; refine (hR _ _ _ _ (SS.to0 ⟨by rfl, by rfl, by rfl, by rfl⟩)).mono ?_; rintro e wF ⟨bF, rfl, SS⟩)
            | (refine step_push1 (b := b) (q := w7.heap.size) (c := 1) rfl (.tmp 87) (.tmp 89) rfl (SS.to1 (wp b) 64 ⟨by rfl, by rfl, by rfl, by rfl⟩) (by simp [Act.eval]) (by simp [Act.eval]) (by simp) hlq ?_; intro v8 w8 SS)
            | (refine step_push2 (b := bF) (q := wF.heap.size) (c := 1) rfl (.tmp 91) (.tmp 98) rfl (SS.to1 (wp bF) 71 ⟨by rfl, by rfl, by rfl, by rfl⟩) (by simp [Act.eval]) (by simp [Act.eval]) (by simp) hlq2 ?_; intro v9 w9 SS))
          all_goals
            go_wp2_with fail
            go_roundg (gk - 1)
            case measure => omega
            case rel => exact ⟨i + 1, by omega, by go_num, PD.of SS (by omega) (by rw [fork_nx]; omega) (by simp) (by simp; omega)⟩
        · as_aux_lemma =>
          go_wp2_with fail
          go_roundg (gk - 1)
          case measure => omega
          case rel => exact ⟨i + 1, by omega, by go_num, PD.of S0 (by omega) (by omega) hl1 hl8⟩
      · have hW9 : (W == 9) = false := by simp [hW]
        have hA := fun (V9 : World) (h : BL w C0 V9 m f r f2 r2 ek D bs Ts (3 * i) D bs2 Ts (.slice (some ⟨g1, 0, none⟩) N0 cap1) (.slice (some ⟨g2, 0, none⟩) N0 cap2) bs bs2) => h.after W hW (by omega) (by omega) hjb hjb2 K X Y U (by omega) V hY
        rw [hb1, hb2] at hA
        have hq := S0.links
        obtain ⟨q0, q1, q2⟩ := hq
        go_upto_region 21 with fail
        simp only [List.append_eq, List.cons_append, List.nil_append]
        -- BEGIN dreg
        refine wp_region_noPanic ?_
        refine wp_region_held_drew (S := fun w' => w'.cell? ⟨J, 0, none⟩ = some (.int .i64 W) ∧ w'.cell? ⟨J, 1, none⟩ = some (.int .i64 K) ∧ w'.cell? ⟨J, 2, none⟩ = some (.int .i64 X) ∧ w'.cell? ⟨J, 3, none⟩ = some (.int .i64 Y) ∧ w'.cell? ⟨J, 4, none⟩ = some (tx U) ∧ w'.cell? ⟨J, 5, none⟩ = some (.bool V) ∧ w'.cell? ⟨g1, j, none⟩ = some (wp b1) ∧ w'.cell? ⟨g2, j, none⟩ = some (wp b2) ∧ w'.cell? ⟨f2, 0, none⟩ = some (wp r2) ∧ w'.cell? ⟨f2, 1, none⟩ = some (.map (some ek.2)) ∧ w'.cell? ⟨r2, 0, none⟩ = some (.map (some ek.1))) (by kernel_rfl) ⟨z0, z1, z2, z3, z4, z5, z8, z7, q0, q1, q2⟩ (fun hHeld => ?_)
        refine wpAnyH_take (i := 0) (oi := ?oi1) (v := ?v1) ?hi1 (by kernel_rfl) (by kernel_rfl) (by kernel_rfl) (fun _ _ _ h => h) (Or.inl ⟨?hw1, ?hy1⟩) (by assumption) ?rest1
        case hi1 => (simp only [List.getElem?_toArray, List.getElem?_cons_zero]; rfl)
        case hw1 => rfl
        case hy1 => (intro w hSw; (try dsimp only at hSw); go_simp; (try with_reducible rfl))
        case' rest1 => simp only [Act.put, List.setIfInBounds_toArray, List.set_cons_zero, List.set_cons_succ]
        refine wpAnyH_take (i := 1) (oi := ?oi2) (v := ?v2) ?hi2 (by kernel_rfl) (by kernel_rfl) (by kernel_rfl) (fun _ _ _ h => h) (Or.inl ⟨?hw2, ?hy2⟩) (by assumption) ?rest2
        case hi2 => (simp only [List.getElem?_toArray, List.getElem?_cons_succ, List.getElem?_cons_zero]; rfl)
        case hw2 => rfl
        case hy2 => (intro w hSw; (try dsimp only at hSw); go_simp; (try with_reducible rfl))
        case' rest2 => simp only [Act.put, List.setIfInBounds_toArray, List.set_cons_zero, List.set_cons_succ]
        refine wpAnyH_take (i := 2) (oi := ?oi3) (v := ?v3) ?hi3 (by kernel_rfl) (by kernel_rfl) (by kernel_rfl) (fun _ _ _ h => h) (Or.inl ⟨?hw3, ?hy3⟩) (by assumption) ?rest3
        case hi3 => (simp only [List.getElem?_toArray, List.getElem?_cons_succ, List.getElem?_cons_zero]; rfl)
        case hw3 => rfl
        case hy3 => (intro w hSw; (try dsimp only at hSw); go_simp; (try with_reducible rfl))
        case' rest3 => simp only [Act.put, List.setIfInBounds_toArray, List.set_cons_zero, List.set_cons_succ]
        refine wpAnyH_take (i := 3) (oi := ?oi4) (v := ?v4) ?hi4 (by kernel_rfl) (by kernel_rfl) (by kernel_rfl) (fun _ _ _ h => h) (Or.inl ⟨?hw4, ?hy4⟩) (by assumption) ?rest4
        case hi4 => (simp only [List.getElem?_toArray, List.getElem?_cons_succ, List.getElem?_cons_zero]; rfl)
        case hw4 => rfl
        case hy4 => (intro w hSw; (try dsimp only at hSw); go_simp; (try with_reducible rfl))
        case' rest4 => simp only [Act.put, List.setIfInBounds_toArray, List.set_cons_zero, List.set_cons_succ]
        refine wpAnyH_take (i := 4) (oi := ?oi5) (v := ?v5) ?hi5 (by kernel_rfl) (by kernel_rfl) (by kernel_rfl) (fun _ _ _ h => h) (Or.inl ⟨?hw5, ?hy5⟩) (by assumption) ?rest5
        case hi5 => (simp only [List.getElem?_toArray, List.getElem?_cons_succ, List.getElem?_cons_zero]; rfl)
        case hw5 => rfl
        case hy5 => (intro w hSw; (try dsimp only at hSw); go_simp; (try with_reducible rfl))
        case' rest5 => simp only [Act.put, List.setIfInBounds_toArray, List.set_cons_zero, List.set_cons_succ]
        refine wpAnyH_take (i := 5) (oi := ?oi6) (v := ?v6) ?hi6 (by kernel_rfl) (by kernel_rfl) (by kernel_rfl) (fun _ _ _ h => h) (Or.inl ⟨?hw6, ?hy6⟩) (by assumption) ?rest6
        case hi6 => (simp only [List.getElem?_toArray, List.getElem?_cons_succ, List.getElem?_cons_zero]; rfl)
        case hw6 => rfl
        case hy6 => (intro w hSw; (try dsimp only at hSw); go_simp; (try with_reducible rfl))
        case' rest6 => simp only [Act.put, List.setIfInBounds_toArray, List.set_cons_zero, List.set_cons_succ]
        refine wpAnyH_take (i := 6) (oi := ?oi7) (v := ?v7) ?hi7 (by kernel_rfl) (by kernel_rfl) (by kernel_rfl) (fun _ _ _ h => h) (Or.inl ⟨?hw7, ?hy7⟩) (by assumption) ?rest7
        case hi7 => (simp only [List.getElem?_toArray, List.getElem?_cons_succ, List.getElem?_cons_zero]; rfl)
        case hw7 => rfl
        case hy7 => (intro w hSw; (try dsimp only at hSw); go_simp; (try with_reducible rfl))
        case' rest7 => simp only [Act.put, List.setIfInBounds_toArray, List.set_cons_zero, List.set_cons_succ]
        refine wpAnyH_take (i := 7) (oi := ?oi8) (v := ?v8) ?hi8 (by kernel_rfl) (by kernel_rfl) (by kernel_rfl) (fun _ _ _ h => h) (Or.inl ⟨?hw8, ?hy8⟩) (by assumption) ?rest8
        case hi8 => (simp only [List.getElem?_toArray, List.getElem?_cons_succ, List.getElem?_cons_zero]; rfl)
        case hw8 => rfl
        case hy8 => (intro w hSw; (try dsimp only at hSw); go_simp; (try with_reducible rfl))
        case' rest8 => simp only [Act.put, List.setIfInBounds_toArray, List.set_cons_zero, List.set_cons_succ]
        refine wpAnyH_take (i := 8) (oi := ?oi9) (v := ?v9) ?hi9 (by kernel_rfl) (by kernel_rfl) (by kernel_rfl) (fun _ _ _ h => h) (Or.inl ⟨?hw9, ?hy9⟩) (by assumption) ?rest9
        case hi9 => (simp only [List.getElem?_toArray, List.getElem?_cons_succ, List.getElem?_cons_zero]; rfl)
        case hw9 => rfl
        case hy9 => (intro w hSw; (try dsimp only at hSw); go_simp; (try with_reducible rfl))
        case' rest9 => simp only [Act.put, List.setIfInBounds_toArray, List.set_cons_zero, List.set_cons_succ]
        refine wpAnyH_take (i := 9) (oi := ?oi10) (v := ?v10) ?hi10 (by kernel_rfl) (by kernel_rfl) (by kernel_rfl) (fun _ _ _ h => h) (Or.inl ⟨?hw10, ?hy10⟩) (by assumption) ?rest10
        case hi10 => (simp only [List.getElem?_toArray, List.getElem?_cons_succ, List.getElem?_cons_zero]; rfl)
        case hw10 => rfl
        case hy10 => (intro w hSw; (try dsimp only at hSw); go_simp; (try with_reducible rfl))
        case' rest10 => simp only [Act.put, List.setIfInBounds_toArray, List.set_cons_zero, List.set_cons_succ]
        refine wpAnyH_take (i := 10) (oi := ?oi11) (v := ?v11) ?hi11 (by kernel_rfl) (by kernel_rfl) (by kernel_rfl) (fun _ _ _ h => h) (Or.inl ⟨?hw11, ?hy11⟩) (by assumption) ?rest11
        case hi11 => (simp only [List.getElem?_toArray, List.getElem?_cons_succ, List.getElem?_cons_zero]; rfl)
        case hw11 => rfl
        case hy11 => (intro w hSw; (try dsimp only at hSw); go_simp; (try with_reducible rfl))
        case' rest11 => simp only [Act.put, List.setIfInBounds_toArray, List.set_cons_zero, List.set_cons_succ]
        refine wpAnyH_ready (rs := [11]) (by kernel_rfl) (by simp) ?_
        refine AllReadyH.cons (o := ?o12) ?ho12 (fun K9 hK9 => ?st12) ?more12
        case ho12 => (simp only [List.getElem?_toArray, List.getElem?_cons_succ, List.getElem?_cons_zero]; rfl)
        case more12 => exact AllReadyH.nil
        go_simp
        go_at_call 31
        refine (hA _ (S0.to0 ⟨by rfl, by rfl, by rfl, by rfl⟩)).mono ?_
        rintro e w7 ⟨rfl, St, un, n, s, hv, hs, hK, HB⟩
        try go_wp2_with fail
        refine hK9.out _ _ ?_ (fun hHeld => ?_)
        · exact ⟨(hK _ hs).2.1 _ m0, (hK _ hs).2.1 _ m1, (hK _ hs).2.1 _ m2, (hK _ hs).2.1 _ m3, (hK _ hs).2.1 _ m4, (hK _ hs).2.1 _ m5, (hK _ hs).2.1 _ m8, (hK _ hs).2.1 _ m7, (hK _ hs).1.1, (hK _ hs).1.2.1, (hK _ hs).1.2.2⟩
        clear hK9 K9
        try simp only [Act.put, List.setIfInBounds_toArray, List.set_cons_zero, List.set_cons_succ]
        refine wpAnyH_take (i := 12) (oi := ?oi13) (v := ?v13) ?hi13 (by kernel_rfl) (by kernel_rfl) (by kernel_rfl) (fun _ _ _ h => h) (Or.inl ⟨?hw13, ?hy13⟩) (by assumption) ?rest13
        case hi13 => (simp only [List.getElem?_toArray, List.getElem?_cons_succ, List.getElem?_cons_zero]; rfl)
        case hw13 => rfl
        case hy13 => (intro w hSw; (try dsimp only at hSw); go_simp; (try with_reducible rfl))
        case' rest13 => simp only [Act.put, List.setIfInBounds_toArray, List.set_cons_zero, List.set_cons_succ]
        refine wpAnyH_take (i := 13) (oi := ?oi14) (v := ?v14) ?hi14 (by kernel_rfl) (by kernel_rfl) (by kernel_rfl) (fun _ _ _ h => h) (Or.inl ⟨?hw14, ?hy14⟩) (by assumption) ?rest14
        case hi14 => (simp only [List.getElem?_toArray, List.getElem?_cons_succ, List.getElem?_cons_zero]; rfl)
        case hw14 => rfl
        case hy14 => (intro w hSw; (try dsimp only at hSw); go_simp; (try with_reducible rfl))
        case' rest14 => simp only [Act.put, List.setIfInBounds_toArray, List.set_cons_zero, List.set_cons_succ]
        refine wpAnyH_take (i := 14) (oi := ?oi15) (v := ?v15) ?hi15 (by kernel_rfl) (by kernel_rfl) (by kernel_rfl) (fun _ _ _ h => h) (Or.inl ⟨?hw15, ?hy15⟩) (by assumption) ?rest15
        case hi15 => (simp only [List.getElem?_toArray, List.getElem?_cons_succ, List.getElem?_cons_zero]; rfl)
        case hw15 => rfl
        case hy15 => (intro w hSw; (try dsimp only at hSw); go_simp; (try with_reducible rfl))
        case' rest15 => simp only [Act.put, List.setIfInBounds_toArray, List.set_cons_zero, List.set_cons_succ]
        refine wpAnyH_take (i := 15) (oi := ?oi16) (v := ?v16) ?hi16 (by kernel_rfl) (by kernel_rfl) (by kernel_rfl) (fun _ _ _ h => h) (Or.inl ⟨?hw16, ?hy16⟩) (by assumption) ?rest16
        case hi16 => (simp only [List.getElem?_toArray, List.getElem?_cons_succ, List.getElem?_cons_zero]; rfl)
        case hw16 => rfl
        case hy16 => (intro w hSw; (try dsimp only at hSw); go_simp; (try with_reducible rfl))
        case' rest16 => simp only [Act.put, List.setIfInBounds_toArray, List.set_cons_zero, List.set_cons_succ]
        refine wpAnyH_take (i := 16) (oi := ?oi17) (v := ?v17) ?hi17 (by kernel_rfl) (by kernel_rfl) (by kernel_rfl) (fun _ _ _ h => h) (Or.inl ⟨?hw17, ?hy17⟩) (by assumption) ?rest17
        case hi17 => (simp only [List.getElem?_toArray, List.getElem?_cons_succ, List.getElem?_cons_zero]; rfl)
        case hw17 => rfl
        case hy17 => (intro w hSw; (try dsimp only at hSw); go_simp; (try with_reducible rfl))
        case' rest17 => simp only [Act.put, List.setIfInBounds_toArray, List.set_cons_zero, List.set_cons_succ]
        refine wpAnyH_take (i := 17) (oi := ?oi18) (v := ?v18) ?hi18 (by kernel_rfl) (by kernel_rfl) (by kernel_rfl) (fun _ _ _ h => h) (Or.inl ⟨?hw18, ?hy18⟩) (by assumption) ?rest18
        case hi18 => (simp only [List.getElem?_toArray, List.getElem?_cons_succ, List.getElem?_cons_zero]; rfl)
        case hw18 => rfl
        case hy18 => (intro w hSw; (try dsimp only at hSw); go_simp; (try with_reducible rfl))
        case' rest18 => simp only [Act.put, List.setIfInBounds_toArray, List.set_cons_zero, List.set_cons_succ]
        refine wpAnyH_take (i := 19) (oi := ?oi19) (v := ?v19) ?hi19 (by kernel_rfl) (by kernel_rfl) (by kernel_rfl) (fun _ _ _ h => h) (Or.inl ⟨?hw19, ?hy19⟩) (by assumption) ?rest19
        case hi19 => (simp only [List.getElem?_toArray, List.getElem?_cons_succ, List.getElem?_cons_zero]; rfl)
        case hw19 => rfl
        case hy19 => (intro w hSw; (try dsimp only at hSw); go_simp; (try with_reducible rfl))
        case' rest19 => simp only [Act.put, List.setIfInBounds_toArray, List.set_cons_zero, List.set_cons_succ]
        refine wpAnyH_take (i := 20) (oi := ?oi20) (v := ?v20) ?hi20 (by kernel_rfl) (by kernel_rfl) (by kernel_rfl) (fun _ _ _ h => h) (Or.inl ⟨?hw20, ?hy20⟩) (by assumption) ?rest20
        case hi20 => (simp only [List.getElem?_toArray, List.getElem?_cons_succ, List.getElem?_cons_zero]; rfl)
        case hw20 => rfl
        case hy20 => (intro w hSw; (try dsimp only at hSw); go_simp; (try with_reducible rfl))
        case' rest20 => simp only [Act.put, List.setIfInBounds_toArray, List.set_cons_zero, List.set_cons_succ]
        refine wpAnyH_take (i := 21) (oi := ?oi21) (v := ?v21) ?hi21 (by kernel_rfl) (by kernel_rfl) (by kernel_rfl) (fun _ _ _ h => h) (Or.inl ⟨?hw21, ?hy21⟩) (by assumption) ?rest21
        case hi21 => (simp only [List.getElem?_toArray, List.getElem?_cons_succ, List.getElem?_cons_zero]; rfl)
        case hw21 => rfl
        case hy21 => (intro w hSw; (try dsimp only at hSw); go_simp; (try with_reducible rfl))
        case' rest21 => simp only [Act.put, List.setIfInBounds_toArray, List.set_cons_zero, List.set_cons_succ]
        refine wpAnyH_take (i := 22) (oi := ?oi22) (v := ?v22) ?hi22 (by kernel_rfl) (by kernel_rfl) (by kernel_rfl) (fun _ _ _ h => h) (Or.inl ⟨?hw22, ?hy22⟩) (by assumption) ?rest22
        case hi22 => (simp only [List.getElem?_toArray, List.getElem?_cons_succ, List.getElem?_cons_zero]; rfl)
        case hw22 => rfl
        case hy22 => (intro w hSw; (try dsimp only at hSw); go_simp; (try with_reducible rfl))
        case' rest22 => simp only [Act.put, List.setIfInBounds_toArray, List.set_cons_zero, List.set_cons_succ]
        refine wpAnyH_ready (rs := [18]) (by kernel_rfl) (by simp) ?_
        refine AllReadyH.cons (o := ?o23) ?ho23 (fun K9 hK9 => ?st23) ?more23
        case ho23 => (simp only [List.getElem?_toArray, List.getElem?_cons_succ, List.getElem?_cons_zero]; rfl)
        case more23 => exact AllReadyH.nil
        go_simp
        go_at_call 32
        refine (hK _ hs).2.2.1.mono ?_
        rintro e w8 ⟨rfl, hs9⟩
        clear hs
        have hs := hs9
        clear hs9
        try go_wp2_with fail
        refine hK9.out _ _ ?_ (fun hHeld => ?_)
        · exact ⟨(hK _ hs).2.1 _ m0, (hK _ hs).2.1 _ m1, (hK _ hs).2.1 _ m2, (hK _ hs).2.1 _ m3, (hK _ hs).2.1 _ m4, (hK _ hs).2.1 _ m5, (hK _ hs).2.1 _ m8, (hK _ hs).2.1 _ m7, (hK _ hs).1.1, (hK _ hs).1.2.1, (hK _ hs).1.2.2⟩
        clear hK9 K9
        try simp only [Act.put, List.setIfInBounds_toArray, List.set_cons_zero, List.set_cons_succ]
        refine wpAnyH_ready (rs := [23]) (by kernel_rfl) (by simp) ?_
        refine AllReadyH.cons (o := ?o24) ?ho24 (fun K9 hK9 => ?st24) ?more24
        case ho24 => (simp only [List.getElem?_toArray, List.getElem?_cons_succ, List.getElem?_cons_zero]; rfl)
        case more24 => exact AllReadyH.nil
        go_simp
        go_at_call 33
        refine (hK _ hs).2.2.2.1.mono ?_
        rintro e w9 ⟨rfl, hs9⟩
        clear hs
        have hs := hs9
        clear hs9
        try go_wp2_with fail
        refine hK9.out _ _ ?_ (fun hHeld => ?_)
        · exact ⟨(hK _ hs).2.1 _ m0, (hK _ hs).2.1 _ m1, (hK _ hs).2.1 _ m2, (hK _ hs).2.1 _ m3, (hK _ hs).2.1 _ m4, (hK _ hs).2.1 _ m5, (hK _ hs).2.1 _ m8, (hK _ hs).2.1 _ m7, (hK _ hs).1.1, (hK _ hs).1.2.1, (hK _ hs).1.2.2⟩
        clear hK9 K9
        try simp only [Act.put, List.setIfInBounds_toArray, List.set_cons_zero, List.set_cons_succ]
        refine wpAnyH_take (i := 24) (oi := ?oi25) (v := ?v25) ?hi25 (by kernel_rfl) (by kernel_rfl) (by kernel_rfl) (fun _ _ _ h => h) (Or.inl ⟨?hw25, ?hy25⟩) (by assumption) ?rest25
        case hi25 => (simp only [List.getElem?_toArray, List.getElem?_cons_succ, List.getElem?_cons_zero]; rfl)
        case hw25 => rfl
        case hy25 => (intro w hSw; (try dsimp only at hSw); go_simp; (try with_reducible rfl))
        case' rest25 => simp only [Act.put, List.setIfInBounds_toArray, List.set_cons_zero, List.set_cons_succ]
        refine wpAnyH_take (i := 25) (oi := ?oi26) (v := ?v26) ?hi26 (by kernel_rfl) (by kernel_rfl) (by kernel_rfl) (fun _ _ _ h => h) (Or.inl ⟨?hw26, ?hy26⟩) (by assumption) ?rest26
        case hi26 => (simp only [List.getElem?_toArray, List.getElem?_cons_succ, List.getElem?_cons_zero]; rfl)
        case hw26 => rfl
        case hy26 => (intro w hSw; (try dsimp only at hSw); go_simp; (try with_reducible rfl))
        case' rest26 => simp only [Act.put, List.setIfInBounds_toArray, List.set_cons_zero, List.set_cons_succ]
        refine wpAnyH_take (i := 26) (oi := ?oi27) (v := ?v27) ?hi27 (by kernel_rfl) (by kernel_rfl) (by kernel_rfl) (fun _ _ _ h => h) (Or.inl ⟨?hw27, ?hy27⟩) (by assumption) ?rest27
        case hi27 => (simp only [List.getElem?_toArray, List.getElem?_cons_succ, List.getElem?_cons_zero]; rfl)
        case hw27 => rfl
        case hy27 => (intro w hSw; (try dsimp only at hSw); go_simp; (try with_reducible rfl))
        case' rest27 => simp only [Act.put, List.setIfInBounds_toArray, List.set_cons_zero, List.set_cons_succ]
        refine wpAnyH_take (i := 27) (oi := ?oi28) (v := ?v28) ?hi28 (by kernel_rfl) (by kernel_rfl) (by kernel_rfl) (fun _ _ _ h => h) (Or.inl ⟨?hw28, ?hy28⟩) (by assumption) ?rest28
        case hi28 => (simp only [List.getElem?_toArray, List.getElem?_cons_succ, List.getElem?_cons_zero]; rfl)
        case hw28 => rfl
        case hy28 => (intro w hSw; (try dsimp only at hSw); go_simp; (try with_reducible rfl))
        case' rest28 => simp only [Act.put, List.setIfInBounds_toArray, List.set_cons_zero, List.set_cons_succ]
        refine wpAnyH_take (i := 28) (oi := ?oi29) (v := ?v29) ?hi29 (by kernel_rfl) (by kernel_rfl) (by kernel_rfl) (fun _ _ _ h => h) (Or.inl ⟨?hw29, ?hy29⟩) (by assumption) ?rest29
        case hi29 => (simp only [List.getElem?_toArray, List.getElem?_cons_succ, List.getElem?_cons_zero]; rfl)
        case hw29 => rfl
        case hy29 => (intro w hSw; (try dsimp only at hSw); go_simp; (try with_reducible rfl))
        case' rest29 => simp only [Act.put, List.setIfInBounds_toArray, List.set_cons_zero, List.set_cons_succ]
        refine wpAnyH_take (i := 29) (oi := ?oi30) (v := ?v30) ?hi30 (by kernel_rfl) (by kernel_rfl) (by kernel_rfl) (fun _ _ _ h => h) (Or.inl ⟨?hw30, ?hy30⟩) (by assumption) ?rest30
        case hi30 => (simp only [List.getElem?_toArray, List.getElem?_cons_succ, List.getElem?_cons_zero]; rfl)
        case hw30 => rfl
        case hy30 => (intro w hSw; (try dsimp only at hSw); go_simp; (try with_reducible rfl))
        case' rest30 => simp only [Act.put, List.setIfInBounds_toArray, List.set_cons_zero, List.set_cons_succ]
        refine wpAnyH_take (i := 30) (oi := ?oi31) (v := ?v31) ?hi31 (by kernel_rfl) (by kernel_rfl) (by kernel_rfl) (fun _ _ _ h => h) (Or.inl ⟨?hw31, ?hy31⟩) (by assumption) ?rest31
        case hi31 => (simp only [List.getElem?_toArray, List.getElem?_cons_succ, List.getElem?_cons_zero]; rfl)
        case hw31 => rfl
        case hy31 => (intro w hSw; (try dsimp only at hSw); go_simp; (try with_reducible rfl))
        case' rest31 => simp only [Act.put, List.setIfInBounds_toArray, List.set_cons_zero, List.set_cons_succ]
        refine wpAnyH_take (i := 31) (oi := ?oi32) (v := ?v32) ?hi32 (by kernel_rfl) (by kernel_rfl) (by kernel_rfl) (fun _ _ _ h => h) (Or.inl ⟨?hw32, ?hy32⟩) (by assumption) ?rest32
        case hi32 => (simp only [List.getElem?_toArray, List.getElem?_cons_succ, List.getElem?_cons_zero]; rfl)
        case hw32 => rfl
        case hy32 => (intro w hSw; (try dsimp only at hSw); go_simp; (try with_reducible rfl))
        case' rest32 => simp only [Act.put, List.setIfInBounds_toArray, List.set_cons_zero, List.set_cons_succ]
        refine wpAnyH_take (i := 32) (oi := ?oi33) (v := ?v33) ?hi33 (by kernel_rfl) (by kernel_rfl) (by kernel_rfl) (fun _ _ _ h => h) (Or.inl ⟨?hw33, ?hy33⟩) (by assumption) ?rest33
        case hi33 => (simp only [List.getElem?_toArray, List.getElem?_cons_succ, List.getElem?_cons_zero]; rfl)
        case hw33 => rfl
        case hy33 => (intro w hSw; (try dsimp only at hSw); go_simp; (try with_reducible rfl))
        case' rest33 => simp only [Act.put, List.setIfInBounds_toArray, List.set_cons_zero, List.set_cons_succ]
        refine wpAnyH_take (i := 33) (oi := ?oi34) (v := ?v34) ?hi34 (by kernel_rfl) (by kernel_rfl) (by kernel_rfl) (fun _ _ _ h => h) (Or.inl ⟨?hw34, ?hy34⟩) (by assumption) ?rest34
        case hi34 => (simp only [List.getElem?_toArray, List.getElem?_cons_succ, List.getElem?_cons_zero]; rfl)
        case hw34 => rfl
        case hy34 => (intro w hSw; (try dsimp only at hSw); go_simp; (try with_reducible rfl))
        case' rest34 => simp only [Act.put, List.setIfInBounds_toArray, List.set_cons_zero, List.set_cons_succ]
        refine wpAnyH_take (i := 35) (oi := ?oi35) (v := ?v35) ?hi35 (by kernel_rfl) (by kernel_rfl) (by kernel_rfl) (fun _ _ _ h => h) (Or.inl ⟨?hw35, ?hy35⟩) (by assumption) ?rest35
        case hi35 => (simp only [List.getElem?_toArray, List.getElem?_cons_succ, List.getElem?_cons_zero]; rfl)
        case hw35 => rfl
        case hy35 => (intro w hSw; (try dsimp only at hSw); go_simp; (try with_reducible rfl))
        case' rest35 => simp only [Act.put, List.setIfInBounds_toArray, List.set_cons_zero, List.set_cons_succ]
        refine wpAnyH_take (i := 36) (oi := ?oi36) (v := ?v36) ?hi36 (by kernel_rfl) (by kernel_rfl) (by kernel_rfl) (fun _ _ _ h => h) (Or.inl ⟨?hw36, ?hy36⟩) (by assumption) ?rest36
        case hi36 => (simp only [List.getElem?_toArray, List.getElem?_cons_succ, List.getElem?_cons_zero]; rfl)
        case hw36 => rfl
        case hy36 => (intro w hSw; (try dsimp only at hSw); go_simp; (try with_reducible rfl))
        case' rest36 => simp only [Act.put, List.setIfInBounds_toArray, List.set_cons_zero, List.set_cons_succ]
        refine wpAnyH_take (i := 37) (oi := ?oi37) (v := ?v37) ?hi37 (by kernel_rfl) (by kernel_rfl) (by kernel_rfl) (fun _ _ _ h => h) (Or.inl ⟨?hw37, ?hy37⟩) (by assumption) ?rest37
        case hi37 => (simp only [List.getElem?_toArray, List.getElem?_cons_succ, List.getElem?_cons_zero]; rfl)
        case hw37 => rfl
        case hy37 => (intro w hSw; (try dsimp only at hSw); go_simp; (try with_reducible rfl))
        case' rest37 => simp only [Act.put, List.setIfInBounds_toArray, List.set_cons_zero, List.set_cons_succ]
        refine wpAnyH_take (i := 38) (oi := ?oi38) (v := ?v38) ?hi38 (by kernel_rfl) (by kernel_rfl) (by kernel_rfl) (fun _ _ _ h => h) (Or.inl ⟨?hw38, ?hy38⟩) (by assumption) ?rest38
        case hi38 => (simp only [List.getElem?_toArray, List.getElem?_cons_succ, List.getElem?_cons_zero]; rfl)
        case hw38 => rfl
        case hy38 => (intro w hSw; (try dsimp only at hSw); go_simp; (try with_reducible rfl))
        case' rest38 => simp only [Act.put, List.setIfInBounds_toArray, List.set_cons_zero, List.set_cons_succ]
        refine wpAnyH_take (i := 39) (oi := ?oi39) (v := ?v39) ?hi39 (by kernel_rfl) (by kernel_rfl) (by kernel_rfl) (fun _ _ _ h => h) (Or.inl ⟨?hw39, ?hy39⟩) (by assumption) ?rest39
        case hi39 => (simp only [List.getElem?_toArray, List.getElem?_cons_succ, List.getElem?_cons_zero]; rfl)
        case hw39 => rfl
        case hy39 => (intro w hSw; (try dsimp only at hSw); go_simp; (try with_reducible rfl))
        case' rest39 => simp only [Act.put, List.setIfInBounds_toArray, List.set_cons_zero, List.set_cons_succ]
        refine wpAnyH_take (i := 40) (oi := ?oi40) (v := ?v40) ?hi40 (by kernel_rfl) (by kernel_rfl) (by kernel_rfl) (fun _ _ _ h => h) (Or.inl ⟨?hw40, ?hy40⟩) (by assumption) ?rest40
        case hi40 => (simp only [List.getElem?_toArray, List.getElem?_cons_succ, List.getElem?_cons_zero]; rfl)
        case hw40 => rfl
        case hy40 => (intro w hSw; (try dsimp only at hSw); go_simp; (try with_reducible rfl))
        case' rest40 => simp only [Act.put, List.setIfInBounds_toArray, List.set_cons_zero, List.set_cons_succ]
        refine wpAnyH_ready (rs := [34]) (by kernel_rfl) (by simp) ?_
        refine AllReadyH.cons (o := ?o41) ?ho41 (fun K9 hK9 => ?st41) ?more41
        case ho41 => (simp only [List.getElem?_toArray, List.getElem?_cons_succ, List.getElem?_cons_zero]; rfl)
        case more41 => exact AllReadyH.nil
        go_simp
        go_at_call 34
        refine (hK _ hs).2.2.2.2.1.mono ?_
        rintro e w10 ⟨rfl, hs9⟩
        clear hs
        have hs := hs9
        clear hs9
        try go_wp2_with fail
        refine hK9.out _ _ ?_ (fun hHeld => ?_)
        · exact ⟨(hK _ hs).2.1 _ m0, (hK _ hs).2.1 _ m1, (hK _ hs).2.1 _ m2, (hK _ hs).2.1 _ m3, (hK _ hs).2.1 _ m4, (hK _ hs).2.1 _ m5, (hK _ hs).2.1 _ m8, (hK _ hs).2.1 _ m7, (hK _ hs).1.1, (hK _ hs).1.2.1, (hK _ hs).1.2.2⟩
        clear hK9 K9
        try simp only [Act.put, List.setIfInBounds_toArray, List.set_cons_zero, List.set_cons_succ]
        refine wpAnyH_ready (rs := [41]) (by kernel_rfl) (by simp) ?_
        refine AllReadyH.cons (o := ?o42) ?ho42 (fun K9 hK9 => ?st42) ?more42
        case ho42 => (simp only [List.getElem?_toArray, List.getElem?_cons_succ, List.getElem?_cons_zero]; rfl)
        case more42 => exact AllReadyH.nil
        go_simp
        go_at_call 35
        refine (hK _ hs).2.2.2.2.2.1.mono ?_
        rintro e w11 ⟨rfl, hs9⟩
        clear hs
        have hs := hs9
        clear hs9
        have hE := (hK _ hs).2.2.2.2.2.2.2.2.1
        have hM := (hK _ hs).2.2.2.2.2.2.2.2.2
        try go_wp2_with fail
        refine hK9.out _ _ ?_ (fun hHeld => ?_)
        · exact ⟨(hK _ hs).2.1 _ m0, (hK _ hs).2.1 _ m1, (hK _ hs).2.1 _ m2, (hK _ hs).2.1 _ m3, (hK _ hs).2.1 _ m4, (hK _ hs).2.1 _ m5, (hK _ hs).2.1 _ m8, (hK _ hs).2.1 _ m7, (hK _ hs).1.1, (hK _ hs).1.2.1, (hK _ hs).1.2.2⟩
        clear hK9 K9
        try simp only [Act.put, List.setIfInBounds_toArray, List.set_cons_zero, List.set_cons_succ]
        refine wpAnyH_take (i := 42) (oi := ?oi43) (v := ?v43) ?hi43 (by kernel_rfl) (by kernel_rfl) (by kernel_rfl) (fun _ _ _ h => h) (Or.inl ⟨?hw43, ?hy43⟩) (by assumption) ?rest43
        case hi43 => (simp only [List.getElem?_toArray, List.getElem?_cons_succ, List.getElem?_cons_zero]; rfl)
        case hw43 => rfl
        case hy43 => (intro w hSw; (try dsimp only at hSw); go_simp; (try with_reducible rfl))
        case' rest43 => simp only [Act.put, List.setIfInBounds_toArray, List.set_cons_zero, List.set_cons_succ]
        refine wpAnyH_take (i := 43) (oi := ?oi44) (v := ?v44) ?hi44 (by kernel_rfl) (by kernel_rfl) (by kernel_rfl) (fun _ _ _ h => h) (Or.inl ⟨?hw44, ?hy44⟩) (by assumption) ?rest44
        case hi44 => (simp only [List.getElem?_toArray, List.getElem?_cons_succ, List.getElem?_cons_zero]; rfl)
        case hw44 => rfl
        case hy44 => (intro w hSw; (try dsimp only at hSw); go_simp; (try with_reducible rfl))
        case' rest44 => simp only [Act.put, List.setIfInBounds_toArray, List.set_cons_zero, List.set_cons_succ]
        refine wpAnyH_take (i := 44) (oi := ?oi45) (v := ?v45) ?hi45 (by kernel_rfl) (by kernel_rfl) (by kernel_rfl) (fun _ _ _ h => h) (Or.inl ⟨?hw45, ?hy45⟩) (by assumption) ?rest45
        case hi45 => (simp only [List.getElem?_toArray, List.getElem?_cons_succ, List.getElem?_cons_zero]; rfl)
        case hw45 => rfl
        case hy45 => (intro w hSw; (try dsimp only at hSw); go_simp; (try with_reducible rfl))
        case' rest45 => simp only [Act.put, List.setIfInBounds_toArray, List.set_cons_zero, List.set_cons_succ]
        refine wpAnyH_take (i := 45) (oi := ?oi46) (v := ?v46) ?hi46 (by kernel_rfl) (by kernel_rfl) (by kernel_rfl) (fun _ _ _ h => h) (Or.inl ⟨?hw46, ?hy46⟩) (by assumption) ?rest46
        case hi46 => (simp only [List.getElem?_toArray, List.getElem?_cons_succ, List.getElem?_cons_zero]; rfl)
        case hw46 => rfl
        case hy46 => (intro w hSw; (try dsimp only at hSw); go_simp; (try with_reducible rfl))
        case' rest46 => simp only [Act.put, List.setIfInBounds_toArray, List.set_cons_zero, List.set_cons_succ]
        refine wpAnyH_take (i := 47) (oi := ?oi47) (v := ?v47) ?hi47 (by kernel_rfl) (by kernel_rfl) (by kernel_rfl) (fun _ _ _ h => h) (Or.inl ⟨?hw47, ?hy47⟩) (by assumption) ?rest47
        case hi47 => (simp only [List.getElem?_toArray, List.getElem?_cons_succ, List.getElem?_cons_zero]; rfl)
        case hw47 => rfl
        case hy47 => (intro w hSw; (try dsimp only at hSw); go_simp; (try with_reducible rfl))
        case' rest47 => simp only [Act.put, List.setIfInBounds_toArray, List.set_cons_zero, List.set_cons_succ]
        refine wpAnyH_take (i := 48) (oi := ?oi48) (v := ?v48) ?hi48 (by kernel_rfl) (by kernel_rfl) (by kernel_rfl) (fun _ _ _ h => h) (Or.inl ⟨?hw48, ?hy48⟩) (by assumption) ?rest48
        case hi48 => (simp only [List.getElem?_toArray, List.getElem?_cons_succ, List.getElem?_cons_zero]; rfl)
        case hw48 => rfl
        case hy48 => (intro w hSw; (try dsimp only at hSw); go_simp; (try with_reducible rfl))
        case' rest48 => simp only [Act.put, List.setIfInBounds_toArray, List.set_cons_zero, List.set_cons_succ]
        refine wpAnyH_take (i := 49) (oi := ?oi49) (v := ?v49) ?hi49 (by kernel_rfl) (by kernel_rfl) (by kernel_rfl) (fun _ _ _ h => h) (Or.inl ⟨?hw49, ?hy49⟩) (by assumption) ?rest49
        case hi49 => (simp only [List.getElem?_toArray, List.getElem?_cons_succ, List.getElem?_cons_zero]; rfl)
        case hw49 => rfl
        case hy49 => (intro w hSw; (try dsimp only at hSw); go_simp; (try with_reducible rfl))
        case' rest49 => simp only [Act.put, List.setIfInBounds_toArray, List.set_cons_zero, List.set_cons_succ]
        refine wpAnyH_take (i := 50) (oi := ?oi50) (v := ?v50) ?hi50 (by kernel_rfl) (by kernel_rfl) (by kernel_rfl) (fun _ _ _ h => h) (Or.inl ⟨?hw50, ?hy50⟩) (by assumption) ?rest50
        case hi50 => (simp only [List.getElem?_toArray, List.getElem?_cons_succ, List.getElem?_cons_zero]; rfl)
        case hw50 => rfl
        case hy50 => (intro w hSw; (try dsimp only at hSw); go_simp; (try with_reducible rfl))
        case' rest50 => simp only [Act.put, List.setIfInBounds_toArray, List.set_cons_zero, List.set_cons_succ]
        refine wpAnyH_ready (rs := [46]) (by kernel_rfl) (by simp) ?_
        refine AllReadyH.cons (o := ?o51) ?ho51 (fun K9 hK9 => ?st51) ?more51
        case ho51 => (simp only [List.getElem?_toArray, List.getElem?_cons_succ, List.getElem?_cons_zero]; rfl)
        case more51 => exact AllReadyH.nil
        go_simp
        go_at_call 36
        refine (hK _ hs).2.2.2.2.2.2.1.mono ?_
        rintro e w12 ⟨rfl, hw9⟩
        subst w12
        try go_wp2_with fail
        refine hK9.out _ _ ?_ (fun hHeld => ?_)
        · exact ⟨(hK _ hs).2.1 _ m0, (hK _ hs).2.1 _ m1, (hK _ hs).2.1 _ m2, (hK _ hs).2.1 _ m3, (hK _ hs).2.1 _ m4, (hK _ hs).2.1 _ m5, (hK _ hs).2.1 _ m8, (hK _ hs).2.1 _ m7, (hK _ hs).1.1, (hK _ hs).1.2.1, (hK _ hs).1.2.2⟩
        clear hK9 K9
        try simp only [Act.put, List.setIfInBounds_toArray, List.set_cons_zero, List.set_cons_succ]
        refine wpAnyH_ready (rs := [51]) (by kernel_rfl) (by simp) ?_
        refine AllReadyH.cons (o := ?o52) ?ho52 (fun K9 hK9 => ?st52) ?more52
        case ho52 => (simp only [List.getElem?_toArray, List.getElem?_cons_succ, List.getElem?_cons_zero]; rfl)
        case more52 => exact AllReadyH.nil
        go_simp
        refine hK9.out _ _ ?_ (fun hHeld => ?_)
        · exact ⟨(hK _ hs).2.1 _ m0, (hK _ hs).2.1 _ m1, (hK _ hs).2.1 _ m2, (hK _ hs).2.1 _ m3, (hK _ hs).2.1 _ m4, (hK _ hs).2.1 _ m5, (hK _ hs).2.1 _ m8, (hK _ hs).2.1 _ m7, (hK _ hs).1.1, (hK _ hs).1.2.1, (hK _ hs).1.2.2⟩
        clear hK9 K9
        try simp only [Act.put, List.setIfInBounds_toArray, List.set_cons_zero, List.set_cons_succ]
        refine wpAnyH_take (i := 52) (oi := ?oi53) (v := ?v53) ?hi53 (by kernel_rfl) (by kernel_rfl) (by kernel_rfl) (fun _ _ _ h => h) (Or.inl ⟨?hw53, ?hy53⟩) (by assumption) ?rest53
        case hi53 => (simp only [List.getElem?_toArray, List.getElem?_cons_succ, List.getElem?_cons_zero]; rfl)
        case hw53 => rfl
        case hy53 => (intro w hSw; (try dsimp only at hSw); go_simp; (try with_reducible rfl))
        case' rest53 => simp only [Act.put, List.setIfInBounds_toArray, List.set_cons_zero, List.set_cons_succ]
        refine wpAnyH_take (i := 53) (oi := ?oi54) (v := ?v54) ?hi54 (by kernel_rfl) (by kernel_rfl) (by kernel_rfl) (fun _ _ _ h => h) (Or.inl ⟨?hw54, ?hy54⟩) (by assumption) ?rest54
        case hi54 => (simp only [List.getElem?_toArray, List.getElem?_cons_succ, List.getElem?_cons_zero]; rfl)
        case hw54 => rfl
        case hy54 => (intro w hSw; (try dsimp only at hSw); go_simp; (try with_reducible rfl))
        case' rest54 => simp only [Act.put, List.setIfInBounds_toArray, List.set_cons_zero, List.set_cons_succ]
        refine wpAnyH_take (i := 54) (oi := ?oi55) (v := ?v55) ?hi55 (by kernel_rfl) (by kernel_rfl) (by kernel_rfl) (fun _ _ _ h => h) (Or.inl ⟨?hw55, ?hy55⟩) (by assumption) ?rest55
        case hi55 => (simp only [List.getElem?_toArray, List.getElem?_cons_succ, List.getElem?_cons_zero]; rfl)
        case hw55 => rfl
        case hy55 => (intro w hSw; (try dsimp only at hSw); go_simp; (try with_reducible rfl))
        case' rest55 => simp only [Act.put, List.setIfInBounds_toArray, List.set_cons_zero, List.set_cons_succ]
        refine wpAnyH_take (i := 55) (oi := ?oi56) (v := ?v56) ?hi56 (by kernel_rfl) (by kernel_rfl) (by kernel_rfl) (fun _ _ _ h => h) (Or.inl ⟨?hw56, ?hy56⟩) (by assumption) ?rest56
        case hi56 => (simp only [List.getElem?_toArray, List.getElem?_cons_succ, List.getElem?_cons_zero]; rfl)
        case hw56 => rfl
        case hy56 => (intro w hSw; (try dsimp only at hSw); go_simp; (try with_reducible rfl))
        case' rest56 => simp only [Act.put, List.setIfInBounds_toArray, List.set_cons_zero, List.set_cons_succ]
        refine wpAnyH_take (i := 57) (oi := ?oi57) (v := ?v57) ?hi57 (by kernel_rfl) (by kernel_rfl) (by kernel_rfl) (fun _ _ _ h => h) (Or.inl ⟨?hw57, ?hy57⟩) (by assumption) ?rest57
        case hi57 => (simp only [List.getElem?_toArray, List.getElem?_cons_succ, List.getElem?_cons_zero]; rfl)
        case hw57 => rfl
        case hy57 => (intro w hSw; (try dsimp only at hSw); go_simp; (try with_reducible rfl))
        case' rest57 => simp only [Act.put, List.setIfInBounds_toArray, List.set_cons_zero, List.set_cons_succ]
        refine wpAnyH_take (i := 58) (oi := ?oi58) (v := ?v58) ?hi58 (by kernel_rfl) (by kernel_rfl) (by kernel_rfl) (fun _ _ _ h => h) (Or.inl ⟨?hw58, ?hy58⟩) (by assumption) ?rest58
        case hi58 => (simp only [List.getElem?_toArray, List.getElem?_cons_succ, List.getElem?_cons_zero]; rfl)
        case hw58 => rfl
        case hy58 => (intro w hSw; (try dsimp only at hSw); go_simp; (try with_reducible rfl))
        case' rest58 => simp only [Act.put, List.setIfInBounds_toArray, List.set_cons_zero, List.set_cons_succ]
        refine wpAnyH_take (i := 59) (oi := ?oi59) (v := ?v59) ?hi59 (by kernel_rfl) (by kernel_rfl) (by kernel_rfl) (fun _ _ _ h => h) (Or.inl ⟨?hw59, ?hy59⟩) (by assumption) ?rest59
        case hi59 => (simp only [List.getElem?_toArray, List.getElem?_cons_succ, List.getElem?_cons_zero]; rfl)
        case hw59 => rfl
        case hy59 => (intro w hSw; (try dsimp only at hSw); go_simp; (try with_reducible rfl))
        case' rest59 => simp only [Act.put, List.setIfInBounds_toArray, List.set_cons_zero, List.set_cons_succ]
        refine wpAnyH_take (i := 60) (oi := ?oi60) (v := ?v60) ?hi60 (by kernel_rfl) (by kernel_rfl) (by kernel_rfl) (fun _ _ _ h => h) (Or.inl ⟨?hw60, ?hy60⟩) (by assumption) ?rest60
        case hi60 => (simp only [List.getElem?_toArray, List.getElem?_cons_succ, List.getElem?_cons_zero]; rfl)
        case hw60 => rfl
        case hy60 => (intro w hSw; (try dsimp only at hSw); go_simp; (try with_reducible rfl))
        case' rest60 => simp only [Act.put, List.setIfInBounds_toArray, List.set_cons_zero, List.set_cons_succ]
        refine wpAnyH_take (i := 61) (oi := ?oi61) (v := ?v61) ?hi61 (by kernel_rfl) (by kernel_rfl) (by kernel_rfl) (fun _ _ _ h => h) (Or.inl ⟨?hw61, ?hy61⟩) (by assumption) ?rest61
        case hi61 => (simp only [List.getElem?_toArray, List.getElem?_cons_succ, List.getElem?_cons_zero]; rfl)
        case hw61 => rfl
        case hy61 => (intro w hSw; (try dsimp only at hSw); go_simp; (try with_reducible rfl))
        case' rest61 => simp only [Act.put, List.setIfInBounds_toArray, List.set_cons_zero, List.set_cons_succ]
        refine wpAnyH_take (i := 62) (oi := ?oi62) (v := ?v62) ?hi62 (by kernel_rfl) (by kernel_rfl) (by kernel_rfl) (fun _ _ _ h => h) (Or.inl ⟨?hw62, ?hy62⟩) (by assumption) ?rest62
        case hi62 => (simp only [List.getElem?_toArray, List.getElem?_cons_succ, List.getElem?_cons_zero]; rfl)
        case hw62 => rfl
        case hy62 => (intro w hSw; (try dsimp only at hSw); go_simp; (try with_reducible rfl))
        case' rest62 => simp only [Act.put, List.setIfInBounds_toArray, List.set_cons_zero, List.set_cons_succ]
        refine wpAnyH_take (i := 63) (oi := ?oi63) (v := ?v63) ?hi63 (by kernel_rfl) (by kernel_rfl) (by kernel_rfl) (fun _ _ _ h => h) (Or.inl ⟨?hw63, ?hy63⟩) (by assumption) ?rest63
        case hi63 => (simp only [List.getElem?_toArray, List.getElem?_cons_succ, List.getElem?_cons_zero]; rfl)
        case hw63 => rfl
        case hy63 => (intro w hSw; (try dsimp only at hSw); go_simp; (try with_reducible rfl))
        case' rest63 => simp only [Act.put, List.setIfInBounds_toArray, List.set_cons_zero, List.set_cons_succ]
        refine wpAnyH_ready (rs := [56]) (by kernel_rfl) (by simp) ?_
        refine AllReadyH.cons (o := ?o64) ?ho64 (fun K9 hK9 => ?st64) ?more64
        case ho64 => (simp only [List.getElem?_toArray, List.getElem?_cons_succ, List.getElem?_cons_zero]; rfl)
        case more64 => exact AllReadyH.nil
        go_simp
        go_at_call 13
        refine (hK _ hs).2.2.2.2.2.2.2.1.mono ?_
        rintro e w13 ⟨rfl, hw9⟩
        subst w13
        try go_wp2_with fail
        refine hK9.out _ _ ?_ (fun hHeld => ?_)
        · exact ⟨(hK _ hs).2.1 _ m0, (hK _ hs).2.1 _ m1, (hK _ hs).2.1 _ m2, (hK _ hs).2.1 _ m3, (hK _ hs).2.1 _ m4, (hK _ hs).2.1 _ m5, (hK _ hs).2.1 _ m8, (hK _ hs).2.1 _ m7, (hK _ hs).1.1, (hK _ hs).1.2.1, (hK _ hs).1.2.2⟩
        clear hK9 K9
        try simp only [Act.put, List.setIfInBounds_toArray, List.set_cons_zero, List.set_cons_succ]
        refine wpAnyH_ready (rs := [64]) (by kernel_rfl) (by simp) ?_
        refine AllReadyH.cons (o := ?o65) ?ho65 (fun K9 hK9 => ?st65) ?more65
        case ho65 => (simp only [List.getElem?_toArray, List.getElem?_cons_succ, List.getElem?_cons_zero]; rfl)
        case more65 => exact AllReadyH.nil
        go_simp
        refine hK9.out _ _ ?_ (fun hHeld => ?_)
        · exact ⟨(hK _ hs).2.1 _ m0, (hK _ hs).2.1 _ m1, (hK _ hs).2.1 _ m2, (hK _ hs).2.1 _ m3, (hK _ hs).2.1 _ m4, (hK _ hs).2.1 _ m5, (hK _ hs).2.1 _ m8, (hK _ hs).2.1 _ m7, (hK _ hs).1.1, (hK _ hs).1.2.1, (hK _ hs).1.2.2⟩
        clear hK9 K9
        try simp only [Act.put, List.setIfInBounds_toArray, List.set_cons_zero, List.set_cons_succ]
        refine wpAnyH_take (i := 65) (oi := ?oi66) (v := ?v66) ?hi66 (by kernel_rfl) (by kernel_rfl) (by kernel_rfl) (fun _ _ _ h => h) (Or.inl ⟨?hw66, ?hy66⟩) (by assumption) ?rest66
        case hi66 => (simp only [List.getElem?_toArray, List.getElem?_cons_succ, List.getElem?_cons_zero]; rfl)
        case hw66 => rfl
        case hy66 => (intro w hSw; (try dsimp only at hSw); go_simp; (try with_reducible rfl))
        case' rest66 => simp only [Act.put, List.setIfInBounds_toArray, List.set_cons_zero, List.set_cons_succ]
        refine wpAnyH_take (i := 66) (oi := ?oi67) (v := ?v67) ?hi67 (by kernel_rfl) (by kernel_rfl) (by kernel_rfl) (fun _ _ _ h => h) (Or.inl ⟨?hw67, ?hy67⟩) (by assumption) ?rest67
        case hi67 => (simp only [List.getElem?_toArray, List.getElem?_cons_succ, List.getElem?_cons_zero]; rfl)
        case hw67 => rfl
        case hy67 => (intro w hSw; (try dsimp only at hSw); go_simp; (try with_reducible rfl))
        case' rest67 => simp only [Act.put, List.setIfInBounds_toArray, List.set_cons_zero, List.set_cons_succ]
        refine wpAnyH_done (by kernel_rfl) ?_ _
        refine NoPanic.normal ?_
        -- END dreg
        obtain ⟨D', Ts', hx', hl', hBL⟩ := HB
        have SB := hBL _ hs
        have hI := SB.inv
        clear hBL hK hA hE hM q0 q1 q2 hHeld z0 z1 z2 z3 z4 z5 z7 z8 S0
        have z0 := SB.cell _ m0
        have z4 := SB.cell _ m4
        have q0 := SB.links.1
        simp only at z0 z4
        clear hs
        go_upto_region 23 with fail
        by_cases hW12 : W = 12
        · subst hW12
          as_aux_lemma =>
          have hU := fun (V9 : World) (h : BL w C0 V9 m f r f2 r2 ek D' bs Ts' (3 * i + 2) D' bs2 Ts' (.slice (some ⟨g1, 0, none⟩) N0 cap1) (.slice (some ⟨g2, 0, none⟩) N0 cap2) bs bs2) => h.unlinkP (by omega) U (by omega)
          have hU2 := fun (V9 : World) (h : BL w C0 V9 m f r f2 r2 ek { D' with T := unlinkN D'.T U } bs Ts' (3 * i + 2 + 1) D' bs2 Ts' (.slice (some ⟨g1, 0, none⟩) N0 cap1) (.slice (some ⟨g2, 0, none⟩) N0 cap2) bs bs2) => h.unlinkR hI (by omega) U (by omega)
          go_region_held3 (fun w' => w'.cell? ⟨J, 0, none⟩ = some (.int .i64 12) ∧ w'.cell? ⟨J, 4, none⟩ = some (tx U) ∧ w'.cell? ⟨f2, 0, none⟩ = some (wp r2)) (first | exact ⟨z0, z4, q0⟩ | exact ⟨SB.cell _ m0, SB.cell _ m4, SB.links.1⟩) (first
            | (go_at_call 22; refine (hU _ (SB.to0 ⟨by rfl, by rfl, by rfl, by rfl⟩)).mono ?_; rintro e w14 ⟨rfl, SB⟩)
            | (go_at_call 37; refine (hU2 _ SB).mono ?_; rintro e w15 ⟨rfl, SB⟩)
            | (go_at_call 28; refine (bareV _ _ SB.er).mono ?_; rintro e w16 ⟨rfl, b16⟩; have SB := SB.below b16))
          all_goals
            go_wp2_with fail
            go_roundg (gk - 1)
            case measure => omega
            case rel => exact ⟨i + 1, by omega, by go_num, PD.of SB (by omega) (show D'.nx ≤ _ by omega) (by omega) (by omega)⟩
        · have hd : (W == 12) = false := by simp [hW12]
          have hd2 : decide (W = 12) = false := by simp [hW12]
          as_aux_lemma =>
          go_quiet (fail)
          have SC := SB.to0 (W := w11.drewN nq) ⟨rfl, rfl, rfl, rfl⟩
          go_wp2_with fail
          go_roundg (gk - 1)
          case measure => omega
          case rel => exact ⟨i + 1, by omega, by go_num, PD.of SC (by omega) (by omega) (by omega) (by omega)⟩
    · as_aux_lemma =>
        have hbel := S.bel
        go_wp2_with fail
        go_ret
        exact ⟨rfl, hbel⟩
end Go.Proofs.YtjkneekfijibiabGreatDoor

/- Files, their tables, the list of pointers to these, and cells that stay; each call with all that stays. -/
import Derived.Test.YtjkneekfijibiabGreatDoorSRow
import Derived.Test.YtjkneekfijibiabGreatDoorCFd
import Derived.Test.YtjkneekfijibiabGreatDoorRShares
namespace Go.Proofs.YtjkneekfijibiabGreatDoor
open Go.RowKit Go.Maps Go.Lib Go.Sort

/-- C: cells that stay (block, place, value); the list v holds cs. -/
structure CL (w0 : World) (C : List (Nat × Nat × Value)) (w : World) (m : Int) (f r : Nat) (D : DS) (bs : List Nat) (Ts : List Ns) (k : Nat) (v : Value) (cs : List Nat) : Prop where
  st : ∃ A, KD w m f r D bs Ts k A ∧ (∀ i, A i → w0.heap.size ≤ i) ∧ (∀ i, v.ownBlock = some i → ¬ A i) ∧ ∀ c ∈ C, ¬ A c.1
  bel : Below w0.heap.size w0 w
  r1 : w.ownsRow w0.heap.size 64 1 v cs.length (cs.map wp)
  cell : ∀ c ∈ C, w.cell? ⟨c.1, c.2.1, none⟩ = some c.2.2
  c1 : ∀ c ∈ C, v.ownBlock = some c.1 → c.2.1 < cs.length
  mlt : 2 < w0.heap.size
  elt : 0 < w0.heap.size

section
variable {w0 w w' W : World} {C C' : List (Nat × Nat × Value)} {m : Int} {f r k k' j b : Nat} {D D' : DS} {bs bs' cs : List Nat} {Ts Ts' : List Ns} {v v' : Value} {A A' : Nat → Prop}
theorem CL.len (h : CL w0 C w m f r D bs Ts k v cs) : bs.length = Ts.length := by
  obtain ⟨A, hb, _⟩ := h.st; exact hb.len
theorem CL.inv (h : CL w0 C w m f r D bs Ts k v cs) : Inv D Ts k := by
  obtain ⟨A, hb, _⟩ := h.st; exact hb.inv
theorem CL.more (h : CL w0 C w m f r D bs Ts k v cs) (hk : k ≤ k') : CL w0 C w m f r D bs Ts k' v cs := by
  obtain ⟨A, hb, h1, h2, h4⟩ := h.st
  exact ⟨⟨A, hb.more hk, h1, h2, h4⟩, h.bel, h.r1, h.cell, h.c1, h.mlt, h.elt⟩
theorem CL.sub (h : CL w0 C w m f r D bs Ts k v cs) (hC : ∀ c ∈ C', c ∈ C) : CL w0 C' w m f r D bs Ts k v cs := by
  obtain ⟨A, hb, h1, h2, h4⟩ := h.st
  exact ⟨⟨A, hb, h1, h2, fun c hc => h4 c (hC c hc)⟩, h.bel, h.r1, fun c hc => h.cell c (hC c hc), fun c hc => h.c1 c (hC c hc), h.mlt, h.elt⟩
/-- A step that keeps all but A. -/
theorem CL.of (h : CL w0 C w m f r D bs Ts k v cs) (hA : ∀ i, A i → w0.heap.size ≤ i) (hv : ∀ i, v.ownBlock = some i → ¬ A i) (hC : ∀ c ∈ C, ¬ A c.1) (hb : KD w' m f r D' bs' Ts' k' A') (st : Stp w w' A A') : CL w0 C w' m f r D' bs' Ts' k' v cs := by
  have hs := h.bel.size
  have hlt1 : ∀ i, v.ownBlock = some i → i < w.heap.size := fun i hi => by obtain ⟨_, c, hc⟩ := orow_block h.r1 hi; exact lt_of_heap hc
  have hltC : ∀ c ∈ C, c.1 < w.heap.size := fun c hc => World.block_lt_of_cell? w _ (h.cell c hc)
  have off : ∀ i, i < w.heap.size → ¬ A i → ¬ A' i := fun i hi hn ha => by
    rcases st.own i ha with z | z
    · exact hn z
    · omega
  refine ⟨⟨A', hb, fun i hi => ?_, fun i hi => off i (hlt1 i hi) (hv i hi), fun c hc => off _ (hltC c hc) (hC c hc)⟩, ⟨st.wt.os.trans h.bel.os, st.wt.tape.trans h.bel.tape, st.wt.output.trans h.bel.output, Nat.le_trans hs st.wt.size, fun i hi => ?_⟩, orow_keep h.r1 (fun g hg hl => st.wt.block g hl (hv g hg)), fun c hc => ?_, h.c1, h.mlt, h.elt⟩
  · rcases st.own i hi with z | z
    · exact hA i z
    · omega
  · rw [st.wt.block i (by omega) (fun z => by have := hA i z; omega)]; exact h.bel.block i hi
  · rw [World.cell?_of_block (w := w) (a := ⟨c.1, c.2.1, none⟩) (st.wt.block _ (hltC c hc) (hC c hc))]; exact h.cell c hc
theorem CL.call (h : CL w0 C w m f r D bs Ts k v cs) {fn : FuncId} {args : Array Value} {Q : Ending → DS → List Nat → List Ns → Prop}
    (hc : ∀ A, KD w m f r D bs Ts k A → Calls Tryz.prog fn args w fun y w' => ∃ D' bs' Ts' A', Q y D' bs' Ts' ∧ KD w' m f r D' bs' Ts' k' A' ∧ Stp w w' A A') :
    Calls Tryz.prog fn args w fun y w' => ∃ D' bs' Ts', Q y D' bs' Ts' ∧ CL w0 C w' m f r D' bs' Ts' k' v cs := by
  obtain ⟨A, hb, h1, h2, h4⟩ := h.st
  refine (hc A hb).mono ?_
  rintro y w' ⟨D', bs', Ts', A', hq, hb', st⟩
  exact ⟨D', bs', Ts', hq, h.of h1 h2 h4 hb' st⟩
theorem CL.below (h : CL w0 C w m f r D bs Ts k v cs) (hb : Below w.heap.size w w') : CL w0 C w' m f r D bs Ts k v cs := by
  obtain ⟨A, b, h1, h2, h4⟩ := h.st
  exact h.of h1 h2 h4 (b.below hb) ⟨⟨hb.os, hb.tape, hb.output, hb.size, fun i hi _ => hb.block i hi⟩, fun i hi => .inl hi⟩
theorem CL.to0 (h : CL w0 C w m f r D bs Ts k v cs) (hs : Sam w W) : CL w0 C W m f r D bs Ts k v cs := h.below (hs.below _)
/-- Cells of no one's. -/
theorem CL.with (h : CL w0 C w m f r D bs Ts k v cs) (N : List (Nat × Nat × Value)) (hN : ∀ c ∈ N, w.cell? ⟨c.1, c.2.1, none⟩ = some c.2.2) (hA : ∀ A, KD w m f r D bs Ts k A → (∀ i, A i → w0.heap.size ≤ i) → (∀ i, v.ownBlock = some i → ¬ A i) → ∀ c ∈ N, ¬ A c.1) (hv : ∀ c ∈ N, v.ownBlock = some c.1 → c.2.1 < cs.length) : CL w0 (N ++ C) w m f r D bs Ts k v cs := by
  obtain ⟨A, hb, h1, h2, h4⟩ := h.st
  refine ⟨⟨A, hb, h1, h2, fun c hc => ?_⟩, h.bel, h.r1, fun c hc => ?_, fun c hc hv' => ?_, h.mlt, h.elt⟩
  · rcases List.mem_append.1 hc with hc | hc
    · exact hA A hb h1 h2 c hc
    · exact h4 c hc
  · rcases List.mem_append.1 hc with hc | hc
    · exact hN c hc
    · exact h.cell c hc
  · rcases List.mem_append.1 hc with hc | hc
    · exact hv c hc hv'
    · exact h.c1 c hc hv'
/-- New cells, behind a step that turns nothing. -/
theorem CL.news (h : CL w0 C w m f r D bs Ts k v cs) (hb : Below w.heap.size w w') (N : List (Nat × Nat × Value)) (hN : ∀ c ∈ N, w'.cell? ⟨c.1, c.2.1, none⟩ = some c.2.2) (hB : ∀ c ∈ N, w.heap.size ≤ c.1) : CL w0 (N ++ C) w' m f r D bs Ts k v cs := by
  obtain ⟨A, hk, h1, h2, h4⟩ := h.st
  have h' := h.below hb
  have hlt1 : ∀ i, v.ownBlock = some i → i < w.heap.size := fun i hi => by obtain ⟨_, c, hc⟩ := orow_block h.r1 hi; exact lt_of_heap hc
  refine ⟨⟨A, hk.below hb, h1, h2, fun c hc ha => ?_⟩, h'.bel, h'.r1, fun c hc => ?_, fun c hc hv' => ?_, h.mlt, h.elt⟩
  · rcases List.mem_append.1 hc with hc | hc
    · have := hB c hc; have := hk.lt _ ha; omega
    · exact h4 c hc ha
  · rcases List.mem_append.1 hc with hc | hc
    · exact hN c hc
    · exact h'.cell c hc
  · rcases List.mem_append.1 hc with hc | hc
    · have := hB c hc; have := hlt1 _ hv'; omega
    · exact h.c1 c hc hv'
theorem CL.to1 (h : CL w0 C w m f r D bs Ts k v cs) (x : Value) (T : TypeId) (hs : Sam (w.alloc (.cells #[x] T)) W) : CL w0 ((w.heap.size, 0, x) :: C) W m f r D bs Ts k v cs := by
  have b : Below w.heap.size w W := ((Below.refl _ w).alloc (Nat.le_refl _) (.cells #[x] T)).trans (hs.below _)
  refine h.news b [(w.heap.size, 0, x)] (fun c hc => ?_) (fun c hc => ?_)
  · rw [List.mem_singleton.1 hc]
    show W.cell? ⟨w.heap.size, 0, none⟩ = some x
    have : W.heap[w.heap.size]? = some (.cells #[x] T) := by
      rw [hs.heap]
      show (w.heap.push _)[w.heap.size]? = _
      rw [Array.getElem?_push, if_pos rfl]
    rw [cell_of_row _ _ _ _ _ _ this]; rfl
  · rw [List.mem_singleton.1 hc]; exact Nat.le_refl _
/-- A cell of the list itself. -/
theorem CL.at (h : CL w0 C w m f r D bs Ts k v cs) {g : Nat} (hv : v.ownBlock = some g) {j : Nat} (hj : j < cs.length) : w.cell? ⟨g, j, none⟩ = some (wp cs[j]) := by
  obtain ⟨g', cap, e, _, _, hcl⟩ := orow_read h.r1 (by omega)
  have e1 : g' = g := by rw [e] at hv; cases hv; rfl
  subst e1
  rw [hcl j hj, List.getElem?_map, List.getElem?_eq_getElem hj]; rfl
theorem CL.in1 (h : CL w0 C w m f r D bs Ts k v cs) {g : Nat} (hv : v.ownBlock = some g) {j : Nat} (hj : j < cs.length) : CL w0 ((g, j, wp cs[j]) :: C) w m f r D bs Ts k v cs :=
  h.with [(g, j, wp cs[j])] (fun c hc => by rw [List.mem_singleton.1 hc]; exact h.at hv hj) (fun A _ _ h2 c hc => by rw [List.mem_singleton.1 hc]; exact h2 _ hv) (fun c hc _ => by rw [List.mem_singleton.1 hc]; exact hj)
/-- One more in the list. -/
theorem CL.push (h : CL w0 C w m f r D bs Ts k v cs) (hg : w.grownBy w' v.ownBlock) (hr : w'.ownsRow w0.heap.size 64 1 v' (cs.length + 1) (cs.map wp ++ [wp b])) (hv : v'.ownBlock = v.ownBlock ∨ v'.ownBlock = some w.heap.size) (hk : ∀ g j, v.ownBlock = some g → j < cs.length → w'.cell? ⟨g, j, none⟩ = w.cell? ⟨g, j, none⟩) : CL w0 C w' m f r D bs Ts k v' (cs ++ [b]) := by
  obtain ⟨A, hb, h1, h2, h4⟩ := h.st
  have kp : ∀ i, i < w.heap.size → v.ownBlock ≠ some i → w'.heap[i]? = w.heap[i]? := fun i hi hn => hg.block i hi (fun e => hn e.symm)
  have hbs : ∀ i, v.ownBlock = some i → w0.heap.size ≤ i := fun i hi => (orow_block h.r1 hi).1
  have hsz := h.bel.size
  have low : ∀ i, i < w0.heap.size → w'.heap[i]? = w.heap[i]? := fun i hi => kp i (by omega) (fun e => by have := hbs i e; omega)
  have hltC : ∀ c ∈ C, c.1 < w.heap.size := fun c hc => World.block_lt_of_cell? w _ (h.cell c hc)
  refine ⟨⟨A, hb.keep (fun i hi => kp i (hb.lt i hi) (fun e => h2 i e hi)) hg.size ((World.cell?_of_block (w := w) (a := ⟨_, 0, none⟩) (low _ h.mlt)).trans hb.ml) ((World.cell?_of_block (w := w) (a := ⟨_, 0, none⟩) (low _ h.elt)).trans hb.er), h1, fun i hi ha => ?_, h4⟩, ⟨hg.os.trans h.bel.os, hg.tape.trans h.bel.tape, hg.output.trans h.bel.output, Nat.le_trans hsz hg.size, fun i hi => (low i hi).trans (h.bel.block i hi)⟩, ?_, fun c hc => ?_, fun c hc hv' => ?_, h.mlt, h.elt⟩
  · rcases hv with e | e
    · exact h2 i (e ▸ hi) ha
    · rw [e] at hi; cases hi; have := hb.lt _ ha; omega
  · rw [List.length_append, List.map_append]; exact hr
  · by_cases e : v.ownBlock = some c.1
    · rw [hk _ _ e (h.c1 c hc e)]; exact h.cell c hc
    · rw [World.cell?_of_block (w := w) (a := ⟨c.1, c.2.1, none⟩) (kp _ (hltC c hc) e)]; exact h.cell c hc
  · rw [List.length_append]
    rcases hv with e | e
    · have := h.c1 c hc (e ▸ hv'); omega
    · rw [e] at hv'; have := hltC c hc; have := Option.some.inj hv'; omega
/-- append's own equation. -/
theorem CL.append (h : CL w0 C w m f r D bs Ts k v cs) {q c : Nat} (hq : (q, 0, wp b) ∈ C) (hl : cs.length ≤ 100) : ∃ v' w', (∀ ty, (Builtin.append_ #[70, 70] ty #[v, .slice (some ⟨q, 0, none⟩) 1 c]).run Tryz.prog w = .ok v' w') ∧ CL w0 C w' m f r D bs Ts k v' (cs ++ [b]) := by
  obtain ⟨i0, hi, hz0, hz1, hz2⟩ := info_parts (P := Tryz.prog) (e := 64) (z := .pointer none) (size := 1) (bytes := 8) (by kernel_rfl)
  obtain ⟨v', w', hrun, r1, r2, r3, r4⟩ := append_stays (P := Tryz.prog) w w0.heap.size 70 0 64 i0 (.pointer none) 8 Tryz.underlying70 hi hz0 hz1 hz2 rfl v cs.length _ h.r1 ⟨q, 0, none⟩ c (wp b) (h.cell _ hq) rfl (by unfold maxLen; omega) (by omega) h.bel.size
  exact ⟨v', w', fun ty => by rw [← hrun]; rfl, h.push r2 r1 r3 r4⟩
/-- The calls. -/
theorem CL.used (h : CL w0 C w m f r D bs Ts k v cs) (hj : j < bs.length) (hjT : j < Ts.length) : Calls Tryz.prog 32 #[wp bs[j]] w fun y w' => y = .returned (.int .i64 (usedN Ts[j] : Int)) ∧ CL w0 C w' m f r D bs Ts k v cs := by
  obtain ⟨A, hb, _⟩ := h.st
  refine (hb.used hj).mono ?_
  rintro y w' ⟨rfl, b1⟩
  exact ⟨rfl, h.below b1⟩
theorem CL.num (h : CL w0 C w m f r D bs Ts k v cs) : ∃ n, IsN D.E n := by
  obtain ⟨A, hb, _⟩ := h.st
  exact hb.numE
theorem CL.open (h : CL w0 C w m f r D bs Ts k v cs) {n : Nat} (hn : IsN D.E n) : Calls Tryz.prog 36 #[wp f] w fun y w' => y = .returned (.int .i64 (n : Int)) ∧ w' = w := by
  obtain ⟨A, hb, _⟩ := h.st
  exact hb.openIs hn
theorem CL.nodes (h : CL w0 C w m f r D bs Ts k v cs) {s : Nat} (hs : IsNum D.T s) : Calls Tryz.prog 13 #[wp r] w fun y w' => y = .returned (.int .i64 (s : Int)) ∧ w' = w := by
  obtain ⟨A, hb, _⟩ := h.st
  exact hb.nodes hs
theorem CL.fork (h : CL w0 C w m f r D bs Ts k v cs) (hf : Ts.length < 8) (hj : j < bs.length) (hjT : j < Ts.length) :
    Calls Tryz.prog 29 #[wp f, wp bs[j]] w fun y w' => ∃ b, y = .returned (wp b) ∧ CL w0 C w' m f r (forkD D Ts[j]) (bs ++ [b]) (Ts ++ [Ts[j]]) k v cs := by
  refine (h.call (k' := k) (Q := fun y D' bs' Ts' => ∃ b, y = .returned (wp b) ∧ D' = forkD D Ts[j] ∧ bs' = bs ++ [b] ∧ Ts' = Ts ++ [Ts[j]]) (fun A hb => (hb.fork hf hj).mono ?_)).mono ?_
  · rintro y w' ⟨A', rfl, h', st⟩
    exact ⟨_, _, _, A', ⟨_, rfl, rfl, rfl, rfl⟩, h', st⟩
  · rintro y w' ⟨D', bs', Ts', ⟨b, rfl, rfl, rfl, rfl⟩, h'⟩
    exact ⟨b, rfl, h'⟩
theorem CL.fd (h : CL w0 C w m f r D bs Ts k v cs) (fl : FlD D) (hk : k ≤ 800) (hn : D.nx < 800) (hj : j < bs.length) (hjT : j < Ts.length) (a t9 X Y : Int) (p : List UInt8) (hp : p.length ≤ 100) :
    Calls Tryz.prog 39 #[wp f, wp bs[j], .agg #[.int .i64 a, .int .i64 t9, .int .i64 X, .int .i64 Y, tx p]] w fun y w' => ∃ c D' N', y = .returned (uev c) ∧ Aft D Ts[j] c D' N' ∧ CL w0 C w' m f r D' bs (Ts.set j N') (k + 2) v cs := by
  refine (h.call (k' := k + 2) (Q := fun y D' bs' Ts' => ∃ c N', y = .returned (uev c) ∧ Aft D Ts[j] c D' N' ∧ bs' = bs ∧ Ts' = Ts.set j N') (fun A hb => (fd_any a hb fl hk hn hj hjT t9 X Y p hp).mono ?_)).mono ?_
  · rintro y w' ⟨c, D', N', A', rfl, h1, h', st⟩
    exact ⟨_, _, _, A', ⟨c, N', rfl, h1, rfl, rfl⟩, h', st⟩
  · rintro y w' ⟨D', bs', Ts', ⟨c, N', rfl, h1, rfl, rfl⟩, h'⟩
    exact ⟨c, D', N', rfl, h1, h'⟩
theorem CL.clear (h : CL w0 C w m f r D bs Ts k v cs) (hk : k ≤ 900) (hj : j < bs.length) (hjT : j < Ts.length) :
    Calls Tryz.prog 41 #[wp f, wp bs[j]] w fun y w' => y = .returned (.tuple #[]) ∧ CL w0 C w' m f r (freeS true D Ts[j] 8).1 bs (Ts.set j (freeS true D Ts[j] 8).2) k v cs := by
  refine (h.call (k' := k) (Q := fun y D' bs' Ts' => y = .returned (.tuple #[]) ∧ D' = (freeS true D Ts[j] 8).1 ∧ bs' = bs ∧ Ts' = Ts.set j (freeS true D Ts[j] 8).2) (fun A hb => (hb.clear hk hj).mono ?_)).mono ?_
  · rintro y w' ⟨D', N', A', ⟨rfl, rfl, rfl⟩, h', st⟩
    exact ⟨_, _, _, A', ⟨rfl, rfl, rfl, rfl⟩, h', st⟩
  · rintro y w' ⟨D', bs', Ts', ⟨rfl, rfl, rfl, rfl⟩, h'⟩
    exact ⟨rfl, h'⟩
theorem CL.unlink (h : CL w0 C w m f r D bs Ts k v cs) (hk : k ≤ 900) (p : List UInt8) (hp : p.length < 100000) :
    Calls Tryz.prog 22 #[wp r, tx p] w fun y w' => y = .returned (uev (unlinkE D.T p)) ∧ CL w0 C w' m f r { D with T := unlinkN D.T p } bs Ts (k + 1) v cs := by
  refine (h.call (k' := k + 1) (Q := fun y D' bs' Ts' => y = .returned (uev (unlinkE D.T p)) ∧ D' = { D with T := unlinkN D.T p } ∧ bs' = bs ∧ Ts' = Ts) (fun A hb => (hb.unlink hk p hp).mono ?_)).mono ?_
  · rintro y w' ⟨A', rfl, h', st⟩
    exact ⟨_, _, _, A', ⟨rfl, rfl, rfl, rfl⟩, h', st⟩
  · rintro y w' ⟨D', bs', Ts', ⟨rfl, rfl, rfl, rfl⟩, h'⟩
    exact ⟨rfl, h'⟩
/-- All names of the root, in cells that stay. -/
theorem CL.list (h : CL w0 C w m f r D bs Ts k v cs) (fl : FlD D) (hk : k ≤ 900) :
    Calls Tryz.prog 40 #[wp r, .string ⟨#[47]⟩] w fun y w' => ∃ ad cap L, y = .returned (.tuple #[.slice ad L.length cap, .nilIface]) ∧ L.Nodup ∧ L.length ≤ k ∧ Lft D L 0 ∧ (L = [] ∨ ∃ g, ad = some ⟨g, 0, none⟩ ∧ L.length ≤ cap) ∧ CL w0 ((List.range L.length).map (fun i => ((ad.getD ⟨0, 0, none⟩).block, i, tx (L.getD i []))) ++ C) w' m f r D bs Ts k v cs := by
  obtain ⟨A, hb, _⟩ := h.st
  obtain ⟨g, n, h1, hr, _⟩ := hb.st
  obtain ⟨O, p, _⟩ := h1.tree
  have hT := hb.inv.core.lv
  obtain ⟨C0, h0⟩ := hT.root
  have hf : findT D.T [47] = (0, 0) := by
    unfold findT; rw [namesOf_root]; rfl
  have hCl := hb.inv.core.sm.1 0 C0 h0
  have hnd := hT.nodup 0 C0 h0
  subst hr
  refine (p.list_ok hT [47] (by simp) m hb.ml (C := C0) (by rw [hf]) (by rw [hf]; exact h0) (by omega)).mono ?_
  rintro y w' ⟨v9, rfl, t, b1⟩
  obtain ⟨L, hL⟩ : ∃ L, listT C0 = L := ⟨_, rfl⟩
  have hLl : L.length ≤ k := by rw [← hL, listT_len]; omega
  have hLn : L.Nodup := by rw [← hL]; exact listT_nodup hnd
  have hLf : Lft D L 0 := ⟨fl, C0, h0, fun s => by rw [List.drop_zero, ← hL, listT_mem]; exact list_mem hnd s⟩
  rw [hL] at t
  rcases t.2 with ⟨e, e0⟩ | ⟨g', cap, cur, e, hN, hg, hc1, hc2, hc3, htk⟩
  · have hL0 : L = [] := List.length_eq_zero_iff.1 e0
    subst hL0
    refine ⟨none, 0, [], by rw [e]; rfl, List.nodup_nil, by simp, hLf, .inl rfl, h.below b1⟩
  · refine ⟨some ⟨g', 0, none⟩, cap, L, by rw [e], hLn, hLl, hLf, .inr ⟨g', rfl, hc1⟩, h.news b1 _ (fun c hc => ?_) (fun c hc => ?_)⟩
    · obtain ⟨i, hi, rfl⟩ := List.mem_map.1 hc
      have hi := List.mem_range.1 hi
      show w'.cell? ⟨g', i, none⟩ = some (tx (L.getD i []))
      rw [cell_of_row w' g' i _ _ _ hg, ← Array.getElem?_toList]
      have : cur.toList[i]? = (L.map encStr)[i]? := by
        rw [← htk, Nat.mul_one, List.getElem?_take, if_pos hi]
      rw [this, List.getElem?_map, List.getElem?_eq_getElem hi, List.getD_eq_getElem?_getD, List.getElem?_eq_getElem hi]
      rfl
    · obtain ⟨i, _, rfl⟩ := List.mem_map.1 hc
      exact hN
/-- From the first: one table, a list of it. -/
theorem KW.lists (h : KW w0 w m f r D [] [] k) (hml : 2 < w0.heap.size) (hel : 0 < w0.heap.size) : CL w0 [] ((w.alloc (.cells (nv zeroN).toArray 69)).alloc (.cells #[wp w.heap.size] 64)) m f r D [w.heap.size] [zeroN] k (.slice (some ⟨w.heap.size + 1, 0, none⟩) 1 1) [w.heap.size] := by
  obtain ⟨A, h1, hA, hb⟩ := h
  obtain ⟨wA, hwA⟩ : ∃ wA, w.alloc (.cells (nv zeroN).toArray 69) = wA := ⟨_, rfl⟩
  obtain ⟨wB, hwB⟩ : ∃ wB, wA.alloc (.cells #[wp w.heap.size] 64) = wB := ⟨_, rfl⟩
  have sA : wA.heap.size = w.heap.size + 1 := by rw [← hwA]; show (w.heap.push _).size = _; rw [Array.size_push]
  have bA : Below w.heap.size w wA := by rw [← hwA]; exact (Below.refl _ w).alloc (Nat.le_refl _) _
  have bB : Below wA.heap.size wA wB := by rw [← hwB]; exact (Below.refl _ wA).alloc (Nat.le_refl _) _
  have k1 := h1.table (by simp)
  rw [hwA] at k1
  have hB : wB.heap[w.heap.size + 1]? = some (.cells #[wp w.heap.size] 64) := by
    rw [← hwB]; show (wA.heap.push _)[w.heap.size + 1]? = _
    rw [Array.getElem?_push, if_pos sA.symm]
  have b0 := hb.size
  rw [hwA, hwB]
  refine ⟨⟨_, k1.below bB, fun i hi => ?_, fun i hi ha => ?_, fun c hc => (by cases hc)⟩, (hb.trans (bA.mono b0)).trans (bB.mono (by omega)), ⟨rfl, .inr ⟨w.heap.size + 1, 1, #[wp w.heap.size], rfl, by omega, hB, Nat.le_refl _, by decide, rfl, rfl⟩⟩, fun c hc => (by cases hc), fun c hc => (by cases hc), hml, hel⟩
  · rcases hi with z | z
    · exact hA i z
    · omega
  · have hi : w.heap.size + 1 = i := Option.some.inj hi
    rcases ha with z | z
    · have := h1.lt i z; omega
    · omega
end
end Go.Proofs.YtjkneekfijibiabGreatDoor

namespace Go.Proofs.YtjkneekfijibiabGreatDoor
open Go.RowKit Go.Maps Go.Lib Go.Sort

/-- One item. -/
structure CItem where
  what : Int
  tab : Int
  n : Int
  a : Int
  s : List UInt8
/-- The items lie in the argument's array. -/
def CScript (w : World) (ad : Option Addr) (len : Nat) (q : Nat → CItem) : Prop :=
  len = 0 ∨ ∃ blk off, ad = some ⟨blk, off, none⟩ ∧ blk < w.heap.size ∧ ∀ i, i < len →
    w.cell? ⟨blk, off + i * 5, none⟩ = some (.int .i64 (q i).what) ∧ w.cell? ⟨blk, off + i * 5 + 1, none⟩ = some (.int .i64 (q i).tab) ∧ w.cell? ⟨blk, off + i * 5 + 2, none⟩ = some (.int .i64 (q i).n) ∧ w.cell? ⟨blk, off + i * 5 + 3, none⟩ = some (.int .i64 (q i).a) ∧ w.cell? ⟨blk, off + i * 5 + 4, none⟩ = some (tx (q i).s)

set_option maxRecDepth 100000 in
set_option maxHeartbeats 1000000 in
theorem closes_long (ad : Option Addr) (len cap : Nat) (w : World) (h : 40 < len) :
    Calls Tryz.prog 7 #[.slice ad len cap] w fun e w' => e = .returned (.bool true) ∧ Below w.heap.size w w' := by
  have h1 : (40 : Int) < (len : Int) := by omega
  go_enter Tryz.func7, Tryz.ntmps7
  go_wp2_with fail
  go_ret
  exact ⟨rfl, Below.refl _ _⟩

theorem named (x : Nat) : ∃ y, x = y := ⟨x, rfl⟩
/-- Between two items. -/
def PC (w : World) (m : Int) (f r : Nat) (i : Nat) (v : Value) (wr : World) : Prop :=
  ∃ D bs Ts, CL w [] wr m f r D bs Ts (3 * i) v bs ∧ D.nx ≤ 3 * i ∧ FlD D ∧ 1 ≤ Ts.length ∧ Ts.length ≤ 5 ∧ ∀ n, IsN D.E n → n ≤ 40
theorem PC.of {w wr : World} {m : Int} {f r : Nat} {i k : Nat} {v : Value} {C : List (Nat × Nat × Value)} {D : DS} {bs : List Nat} {Ts : List Ns} (h : CL w C wr m f r D bs Ts k v bs) (hk : k ≤ 3 * i) (hn : D.nx ≤ 3 * i) (fl : FlD D) (h1 : 1 ≤ Ts.length) (h8 : Ts.length ≤ 5) (hf : ∀ n, IsN D.E n → n ≤ 40) : PC w m f r i v wr :=
  ⟨D, bs, Ts, (h.more hk).sub (fun c hc => (by cases hc)), hn, fl, h1, h8, hf⟩
theorem flat_null : FlD (noneD nullT) := by
  refine ⟨fun k C e => ?_, fun C e => ?_, fun n b x e => ?_, fun d n e => (by cases e)⟩
  · exact (nullT_node e).1
  · obtain ⟨_, e9⟩ := nullT_node (show nullT 0 = some (.dir C) from e)
    cases e9
    intro x hx; cases hx
  · obtain ⟨_, e9⟩ := nullT_node (show nullT n = some (.file b x) from e); cases e9
theorem PC.first {w wr : World} {m : Int} {f r : Nat} (h : KW w wr m f r (noneD nullT) [] [] 0) (hml : 2 < w.heap.size) (hel : 0 < w.heap.size) : PC w m f r 0 (.slice (some ⟨wr.heap.size + 1, 0, none⟩) 1 1) ((wr.alloc (.cells (nv zeroN).toArray 69)).alloc (.cells #[wp wr.heap.size] 64)) :=
  PC.of (h.lists hml hel) (by omega) (show (0 : Int) ≤ _ by omega) flat_null (by simp) (by simp) (fun n hn => by
    have := hn.one (IsN.nil (F := (noneD nullT).E) (fun _ => rfl)); omega)
theorem filesC_ne (b : Nat) (w : World) : (binOp BinOp.eql 60 (wp b) (.pointer none)).run Tryz.prog w = .ok (.bool false) w := by kernel_rfl
theorem tableC_ne (b : Nat) (w : World) : (binOp BinOp.eql 64 (wp b) (.pointer none)).run Tryz.prog w = .ok (.bool false) w := by kernel_rfl

section
variable {w0 w w' : World} {C : List (Nat × Nat × Value)} {m : Int} {f r k j b : Nat} {D : DS} {bs cs : List Nat} {Ts : List Ns} {v : Value}
theorem CL.bounds (h : CL w0 C w m f r D bs Ts k v cs) {n : Nat} (hn : IsN D.E n) (hf : n ≤ 40) (hj : j < Ts.length) : ¬ (sumU Ts : Int) < (n : Int) ∧ ¬ (40 : Int) < (n : Int) ∧ ¬ (8 : Int) < (usedN Ts[j] : Int) := by
  have h1 := h.inv.open_le hn
  have h2 := used_le Ts[j]
  have h3 := h.inv.len hj
  exact ⟨by omega, by omega, by omega⟩
/-- Cells of the argument's. -/
theorem CL.arg (h : CL w0 C w m f r D bs Ts k v cs) {blk : Nat} (hb : blk < w0.heap.size) (N : List (Nat × Value)) (hN : ∀ c ∈ N, w0.cell? ⟨blk, c.1, none⟩ = some c.2) : CL w0 (N.map (fun c => (blk, c.1, c.2)) ++ C) w m f r D bs Ts k v cs := by
  refine h.with _ (fun c hc => ?_) (fun A _ h1 _ c hc ha => ?_) (fun c hc hv => ?_)
  · obtain ⟨x, hx, rfl⟩ := List.mem_map.1 hc
    show w.cell? ⟨blk, x.1, none⟩ = some x.2
    rw [h.bel.cell (p := ⟨blk, x.1, none⟩) hb]; exact hN x hx
  · obtain ⟨x, _, rfl⟩ := List.mem_map.1 hc
    have := h1 _ ha; simp only at this; omega
  · obtain ⟨x, _, rfl⟩ := List.mem_map.1 hc
    have := (orow_block h.r1 hv).1; simp only at this; omega
theorem CL.usedAs (h : CL w0 C w m f r D bs Ts k v cs) {N : Ns} (hb : bs[j]? = some b) (hN : Ts[j]? = some N) : Calls Tryz.prog 32 #[wp b] w fun y w' => y = .returned (.int .i64 (usedN N : Int)) ∧ CL w0 C w' m f r D bs Ts k v cs := by
  obtain ⟨h1, rfl⟩ := List.getElem?_eq_some_iff.1 hb
  obtain ⟨h2, rfl⟩ := List.getElem?_eq_some_iff.1 hN
  exact h.used h1 h2
theorem CL.sum (h : CL w0 C w m f r D bs Ts k v cs) (hj : j < Ts.length) (h5 : Ts.length ≤ 5) : wrap64 ((sumU (Ts.take j) : Int) + (usedN Ts[j] : Int)) = ((sumU (Ts.take (j + 1)) : Nat) : Int) := by
  have h1 := sumU_le (Ts.take (j + 1)) (fun N hN => (h.inv.tab N (List.mem_of_mem_take hN)).1)
  have h2 := sumU_take Ts hj
  rw [List.length_take] at h1
  unfold wrap64
  omega
end

/-- append, by its own equation. -/
theorem wpList_append_run {P : Program} {ops : Array Oper} {rest : List Oper} {o : Oper} {a : Act} {w : World} {Q : Exit → Act → World → Prop} (hgd : o.guard = none) (s x : Operand) (t : TypeId)
    (ho : o.op = .call { callee := .builtin .append, args := #[s, x], argTypes := #[t, t] }) (v y v' : Value) (w' : World) (hs : a.eval s = v) (hx : a.eval x = y)
    (hr : ∀ ty, (Builtin.append_ #[t, t] ty #[v, y]).run P w = .ok v' w') (h : wpList P ops Q rest (a.put o.dst v') w') : wpList P ops Q (o :: rest) a w := by
  refine wpList_plain hgd fun K hK => ?_
  unfold Oper.wp execOp
  simp only [ho, resolve, invoke, builtin, Sem.run_bind, Sem.run_pure, Result.andThen_ok, List.map_toArray, List.map_cons, List.map_nil, hs, hx, hr]
  exact hK _ _ h

set_option maxRecDepth 100000 in
set_option maxHeartbeats 16000000 in
theorem closes_short (ad : Option Addr) (len cap : Nat) (q : Nat → CItem) (w : World) (h1 : len ≤ 40) (hsc : CScript w ad len q) (m : Int) (hm : w.cell? ⟨2, 0, none⟩ = some (.int .i64 m)) (hg : w.cell? ⟨0, 0, none⟩ = some errT) :
    Calls Tryz.prog 7 #[.slice ad len cap] w fun e w' => e = .returned (.bool true) ∧ Below w.heap.size w w' := by
  have h1' : ¬ (40 : Int) < (len : Int) := by omega
  have hml : 2 < w.heap.size := World.block_lt_of_cell? w _ hm
  have hel : 0 < w.heap.size := World.block_lt_of_cell? w _ hg
  have hO := opened_ok w hm hg
  have hK := fun (V : World) (b : Below w.heap.size w V) => KW.first V (m := m) (by rw [b.cell (p := ⟨2, 0, none⟩) hml]; exact hm) (by rw [b.cell (p := ⟨0, 0, none⟩) hel]; exact hg)
  have hne := filesC_ne
  clear hm hg
  go_enter Tryz.func7, Tryz.ntmps7
  go_upto_region 5 with (go_at_call 38; refine hO.mono ?_; rintro e w1 ⟨rfl, b1⟩)
  have hN := hK w1 b1
  clear hK hO
  go_upto_region 7 with (first
    | (go_at_call 9; refine hN.mono ?_; rintro e w2 ⟨r, rfl, b2, hD⟩)
    | (go_at_call 27; refine hD.mono ?_; rintro e w3 ⟨f, rfl, k3⟩))
  have k4 := k3.base b1
  clear hN hD k3 b2
  go_upto_region 9 with fail
  have HL : Aside (PC w m f r 0 (.slice (some ⟨w3.heap.size + 1, 0, none⟩) 1 1) ((w3.alloc (.cells (nv zeroN).toArray 69)).alloc (.cells #[wp w3.heap.size] 64))) := PC.first k4 hml hel
  clear k4 b1 hne hml hel
  go_wp2_with fail
  go_loopg [6, 7] len (fun k s6 s7 wr => ∃ (i : Nat), i + k = len ∧ s7 = .int .i64 (i : Int) ∧ PC w m f r i s6 wr)
  case atStart => exact ⟨0, by omega, rfl, HL.out⟩
  case round =>
    clear HL
    obtain ⟨i, hi, rfl, D, bs, Ts, S, hx, fl, hl1, hl5, hfew⟩ := hrel
    have hlb := S.len
    obtain ⟨N0, hN0⟩ : ∃ N0, bs.length = N0 := ⟨_, rfl⟩
    obtain ⟨g1, cap1, rfl, hc1, hg1, _⟩ := orow_read S.r1 (by omega)
    rw [hN0] at S ⊢
    clear hg1
    by_cases hlt : (i : Int) < (len : Int)
    · rcases hsc with h0 | ⟨blk, off, rfl, hbl, hss⟩
      · exfalso; omega
      obtain ⟨c0, c1, c2, c3, c4⟩ := hss i (by omega)
      generalize (q i).what = W at *
      generalize (q i).tab = K at *
      generalize (q i).n = X at *
      generalize (q i).a = Y at *
      generalize (q i).s = U at *
      have S1 := S.arg hbl [(off + i * 5, .int .i64 W), (off + i * 5 + 1, .int .i64 K), (off + i * 5 + 2, .int .i64 X), (off + i * 5 + 3, .int .i64 Y), (off + i * 5 + 4, tx U)] (fun c hc => by
        simp only [List.mem_cons, List.not_mem_nil, or_false] at hc
        rcases hc with rfl | rfl | rfl | rfl | rfl <;> assumption)
      clear c0 c1 c2 c3 c4 hss hbl
      have d0 := S1.cell (blk, off + i * 5, .int .i64 W) (by simp)
      have d1 := S1.cell (blk, off + i * 5 + 1, .int .i64 K) (by simp)
      have d4 := S1.cell (blk, off + i * 5 + 4, tx U) (by simp)
      simp only at d0 d1 d4
      by_cases hlong : (100 : Int) < (U.length : Int)
      · as_aux_lemma =>
          have hbel := S.bel
          clear S S1
          go_wp2_with fail
          go_ret
          exact ⟨rfl, hbel⟩
      have hP := ppick_any wr K N0 (by omega) (by omega)
      go_upto_region 16 with (go_at_call 17; refine hP.mono ?_; rintro e w5 ⟨j, rfl, hjN, hw5⟩; subst w5)
      clear hP S
      have hjb : j < bs.length := by omega
      have hjT : j < Ts.length := by omega
      have S0 := S1.in1 (g := g1) rfl hjb
      clear S1
      obtain ⟨b1, hb1⟩ : ∃ b1, bs[j] = b1 := ⟨_, rfl⟩
      rw [hb1] at S0
      obtain ⟨C0, hC0⟩ : ∃ C0 : List (Nat × Nat × Value), (g1, j, wp b1) :: (List.map (fun c => (blk, c.1, c.2)) [(off + i * 5, Value.int .i64 W), (off + i * 5 + 1, .int .i64 K), (off + i * 5 + 2, .int .i64 X), (off + i * 5 + 3, .int .i64 Y), (off + i * 5 + 4, tx U)] ++ []) = C0 := ⟨_, rfl⟩
      rw [hC0] at S0
      have m0 : (blk, off + i * 5, .int .i64 W) ∈ C0 := by rw [← hC0]; simp
      have m1 : (blk, off + i * 5 + 1, .int .i64 K) ∈ C0 := by rw [← hC0]; simp
      have m2 : (blk, off + i * 5 + 2, .int .i64 X) ∈ C0 := by rw [← hC0]; simp
      have m3 : (blk, off + i * 5 + 3, .int .i64 Y) ∈ C0 := by rw [← hC0]; simp
      have m4 : (blk, off + i * 5 + 4, tx U) ∈ C0 := by rw [← hC0]; simp
      have m5 : (g1, j, wp b1) ∈ C0 := by rw [← hC0]; simp
      clear hC0 d1 d4
      have z5 := S0.cell _ m5
      simp only at z5
      by_cases hW : W = 9
      · subst hW
        by_cases h5 : (N0 : Int) < 5
        · as_aux_lemma =>
          obtain ⟨n, hn⟩ := S0.num
          have hO := S0.open hn
          have hF := S0.fork (by omega) hjb hjT
          rw [hb1] at hF
          have htn := tableC_ne
          go_upto_region 20 with (first
            | (go_at_call 36; refine hO.mono ?_; rintro e w6 ⟨rfl, hw6⟩; subst w6)
            | (go_at_call 29; refine hF.mono ?_; rintro e w7 ⟨b, rfl, SS⟩))
          have hT3 := fork_TE Ts[j] D
          have hnn : IsN (forkD D Ts[j]).E n := by rw [hT3.2.1]; exact hn
          obtain ⟨u, hu⟩ := named (usedN Ts[j])
          have hU : ∀ (V : World) (z : Value), (z = wp b ∨ z = wp b1) → CL w C0 V m f r (forkD D Ts[j]) (bs ++ [b]) (Ts ++ [Ts[j]]) (3 * i) (.slice (some ⟨g1, 0, none⟩) N0 cap1) bs → Calls Tryz.prog 32 #[z] V fun y w' => y = .returned (.int .i64 (u : Int)) ∧ CL w C0 w' m f r (forkD D Ts[j]) (bs ++ [b]) (Ts ++ [Ts[j]]) (3 * i) (.slice (some ⟨g1, 0, none⟩) N0 cap1) bs := by
            rintro V z (rfl | rfl) h
            · rw [← hu]
              exact h.usedAs (j := bs.length) (by simp) (by rw [hlb]; simp)
            · rw [← hu]
              exact h.usedAs (j := j) (by rw [List.getElem?_append_left hjb, List.getElem?_eq_getElem hjb, hb1]) (by rw [List.getElem?_append_left hjT, List.getElem?_eq_getElem hjT])
          have hOp : ∀ (V : World), CL w C0 V m f r (forkD D Ts[j]) (bs ++ [b]) (Ts ++ [Ts[j]]) (3 * i) (.slice (some ⟨g1, 0, none⟩) N0 cap1) bs → Calls Tryz.prog 36 #[wp f] V fun y w' => y = .returned (.int .i64 (n : Int)) ∧ w' = V := fun V h => h.open hnn
          have y5 := SS.cell _ m5
          simp only at y5
          have hlq : bs.length ≤ 100 := by omega
          clear hO hF z5 d0 S0 hn hnn hu
          go_region_held3 (fun w' => w'.cell? ⟨g1, j, none⟩ = some (wp b1)) (first | exact y5 | exact SS.cell (g1, j, wp b1) m5 | exact (SS.to0 ⟨by rfl, by rfl, by rfl, by rfl⟩).cell (g1, j, wp b1) m5) (first
            | (go_at_call 32; refine (hU _ _ (by first | exact .inl rfl | exact .inr rfl) (SS.to0 ⟨by rfl, by rfl, by rfl, by rfl⟩)).mono ?_; rintro e wU ⟨rfl, SS⟩)
            | (go_at_call 36; refine (hOp _ (SS.to0 ⟨by rfl, by rfl, by rfl, by rfl⟩)).mono ?_; rintro e wO ⟨rfl, hwO⟩; subst hwO))
          all_goals
            obtain ⟨v8, w8, hrun, SZ⟩ := (SS.to1 (wp b) 64 (W := wO.alloc (.cells #[wp b] 64)) ⟨rfl, rfl, rfl, rfl⟩).append (q := wO.heap.size) (c := 1) (b := b) (by simp) hlq
            clear SS hU hOp y5
            go_wp2_with (at_builtin; refine wpList_append_run rfl _ _ 70 rfl _ _ v8 w8 rfl rfl hrun ?_)
            go_roundg (gk - 1)
            case measure => omega
            case rel => exact ⟨i + 1, by omega, by go_num, PC.of SZ (by omega) (by rw [hT3.2.2]; omega) (fl.fork _) (by simp) (by simp; omega) (fun n hn => by rw [hT3.2.1] at hn; exact hfew n hn)⟩
        · as_aux_lemma =>
          go_wp2_with fail
          go_roundg (gk - 1)
          case measure => omega
          case rel => exact ⟨i + 1, by omega, by go_num, PC.of S0 (by omega) (by omega) fl hl1 hl5 hfew⟩
      · as_aux_lemma =>
        have hW9 : (W == 9) = false := by simp [hW]
        obtain ⟨n, hn⟩ := S0.num
        obtain ⟨u, hu⟩ := named (usedN Ts[j])
        have hU := S0.usedAs (j := j) (b := b1) (N := Ts[j]) (by rw [List.getElem?_eq_getElem hjb, hb1]) (List.getElem?_eq_getElem hjT)
        rw [hu] at hU
        have hOp : ∀ (V : World), CL w C0 V m f r D bs Ts (3 * i) (.slice (some ⟨g1, 0, none⟩) N0 cap1) bs → Calls Tryz.prog 36 #[wp f] V fun y w' => y = .returned (.int .i64 (n : Int)) ∧ w' = V := fun V h => h.open hn
        go_upto_region 24 with (first
          | (go_at_call 32; refine hU.mono ?_; rintro e w6 ⟨rfl, SU⟩; have hO := hOp _ SU)
          | (go_at_call 36; refine hO.mono ?_; rintro e w7 ⟨rfl, hw7⟩; subst w7))
        clear hU hOp hO S0 z5 d0
        have y0 := SU.cell _ m0
        have y1 := SU.cell _ m1
        have y2 := SU.cell _ m2
        have y3 := SU.cell _ m3
        have y4 := SU.cell _ m4
        have y5 := SU.cell _ m5
        simp only at y0 y1 y2 y3 y4 y5
        have hFd := fun (V : World) (h : CL w C0 V m f r D bs Ts (3 * i) (.slice (some ⟨g1, 0, none⟩) N0 cap1) bs) => h.fd fl (by omega) (by omega) hjb hjT W K X Y U (by omega)
        simp only [hb1] at hFd
        go_region_held3 (fun w' => w'.cell? ⟨blk, off + i * 5, none⟩ = some (.int .i64 W) ∧ w'.cell? ⟨blk, off + i * 5 + 1, none⟩ = some (.int .i64 K) ∧ w'.cell? ⟨blk, off + i * 5 + 2, none⟩ = some (.int .i64 X) ∧ w'.cell? ⟨blk, off + i * 5 + 3, none⟩ = some (.int .i64 Y) ∧ w'.cell? ⟨blk, off + i * 5 + 4, none⟩ = some (tx U) ∧ w'.cell? ⟨g1, j, none⟩ = some (wp b1)) (first | exact ⟨y0, y1, y2, y3, y4, y5⟩ | exact ⟨SS.cell _ m0, SS.cell _ m1, SS.cell _ m2, SS.cell _ m3, SS.cell _ m4, SS.cell _ m5⟩) (first | (go_at_call 39; refine (hFd _ (SU.to0 ⟨by rfl, by rfl, by rfl, by rfl⟩)).mono ?_; rintro e w8 ⟨c, D', N', rfl, aft, SS⟩))
        clear y0 y1 y2 y3 y4 y5 hFd SU
        obtain ⟨Ts', hTs⟩ : ∃ Ts', Ts.set j N' = Ts' := ⟨_, rfl⟩
        have hTl : Ts'.length = N0 := by rw [← hTs, List.length_set]; omega
        have hTj : Ts'[j]? = some N' := by rw [← hTs, List.getElem?_set_self hjT]
        rw [hTs] at SS
        clear hTs
        obtain ⟨n2, hn2⟩ := SS.num
        obtain ⟨u2, hu2⟩ := named (usedN N')
        have hU2 : ∀ (V : World), CL w C0 V m f r D' bs Ts' (3 * i + 2) (.slice (some ⟨g1, 0, none⟩) N0 cap1) bs → Calls Tryz.prog 32 #[wp b1] V fun y w' => y = .returned (.int .i64 (u2 : Int)) ∧ CL w C0 w' m f r D' bs Ts' (3 * i + 2) (.slice (some ⟨g1, 0, none⟩) N0 cap1) bs := fun V h => by
          rw [← hu2]
          exact h.usedAs (j := j) (by rw [List.getElem?_eq_getElem hjb, hb1]) hTj
        have hO2 : ∀ (V : World), CL w C0 V m f r D' bs Ts' (3 * i + 2) (.slice (some ⟨g1, 0, none⟩) N0 cap1) bs → Calls Tryz.prog 36 #[wp f] V fun y w' => y = .returned (.int .i64 (n2 : Int)) ∧ w' = V := fun V h => h.open hn2
        have hc5 : ∀ (V : World), CL w C0 V m f r D' bs Ts' (3 * i + 2) (.slice (some ⟨g1, 0, none⟩) N0 cap1) bs → V.cell? ⟨g1, j, none⟩ = some (wp b1) := fun V h => h.cell _ m5
        have hf2 : ∀ z, IsN D'.E z → z ≤ 40 := fun z hz => aft.few n z hn (hfew n hn) hz
        have hbd := SS.bounds hn2 (hf2 n2 hn2) (j := j) (by omega)
        rw [show usedN Ts'[j] = u2 by rw [← hu2, (List.getElem?_eq_some_iff.1 hTj).2]] at hbd
        have hno := aft.no
        have hPC : ∀ (V : World), CL w C0 V m f r D' bs Ts' (3 * i + 2) (.slice (some ⟨g1, 0, none⟩) N0 cap1) bs → PC w m f r (i + 1) (.slice (some ⟨g1, 0, none⟩) N0 cap1) V := fun V h => PC.of h (by omega) (by have := aft.nx; omega) aft.fl (by omega) (by omega) hf2
        have hcc := hc5 _ SS
        have hu1 := hU2 _ SS
        rcases Decidable.em (c = 0) with hc | hc
        case' inl =>
          subst hc
          rw [uev_zero]
          go_upto_region 27 with fail
        case' inr =>
          have he2 : u2 = u := by rw [← hu2, ← hu]; exact (hno hc).1
          have hen : n2 = n := (hn2.congr (G := D.E) (fun x => ((hno hc).2 x).symm)).one hn
          subst he2 hen
          rw [uev_ne hc]
          go_upto_region 27 with (first
            | (go_at_call 32; refine hu1.mono ?_; rintro e w9 ⟨rfl, SS⟩; have hu3 := hO2 _ SS)
            | (go_at_call 36; refine hu3.mono ?_; rintro e w10 ⟨rfl, hw10⟩; subst w10))
        all_goals
          clear hcc hu1 hno
          obtain ⟨G, hG⟩ : ∃ G, gk = G := ⟨_, rfl⟩
          go_wp2_with fail
          go_loopg [14, 15] N0 (fun k s14 s15 wv => ∃ (p : Nat), p + k = N0 ∧ s14 = .int .i64 (sumU (Ts'.take p) : Int) ∧ s15 = .int .i64 (p : Int) ∧ CL w C0 wv m f r D' bs Ts' (3 * i + 2) (.slice (some ⟨g1, 0, none⟩) N0 cap1) bs)
          case atStart => exact ⟨0, by omega, rfl, rfl, SS⟩
          case round =>
            clear SS
            obtain ⟨p, hp, rfl, rfl, SP⟩ := hrel
            by_cases hpl : (p : Int) < (N0 : Int)
            · have hpb : p < bs.length := by omega
              have hpT : p < Ts'.length := by omega
              have hUp := SP.used hpb hpT
              have hat := SP.at (g := g1) rfl hpb
              have hsm := SP.sum hpT (by omega)
              generalize bs[p] = b9 at *
              generalize usedN Ts'[p] = u9 at *
              generalize sumU (List.take p Ts') = s9 at *
              clear SP hbd
              go_wp2_with (go_at_call 32; refine hUp.mono ?_; rintro e wq ⟨rfl, SQ⟩)
              go_roundg (gk - 1)
              case measure => omega
              case rel => exact ⟨p + 1, by omega, by first | rfl | (rw [← hsm]; rfl) | rw [hsm], by go_num, SQ⟩
            · rw [List.take_of_length_le (show Ts'.length ≤ p by omega)]
              obtain ⟨q1, q2, q3⟩ := hbd
              have hcc := hc5 _ SP
              have ho1 := hO2 _ SP
              have hu1 := hU2 _ SP
              generalize sumU Ts' = s9 at *
              go_wp2_with (first
                | (go_at_call 36; refine ho1.mono ?_; rintro e w11 ⟨rfl, hw11⟩; subst w11)
                | (go_at_call 32; refine hu1.mono ?_; rintro e w12 ⟨rfl, SQ⟩))
              go_roundg (G - 1)
              case measure => omega
              case rel => exact ⟨i + 1, by omega, by go_num, hPC _ SQ⟩
    · as_aux_lemma =>
      clear hsc
      have hLs := S.list fl (by omega)
      go_upto_region 37 with (go_at_call 40; refine hLs.mono ?_; rintro e w5 ⟨ad9, cap9, L, rfl, hnd, hL9, hlf, hsh, SL⟩)
      clear hLs S
      go_wp2_with fail
      go_loopg [17] L.length (fun k s17 wr => ∃ (p : Nat), p + k = L.length ∧ s17 = .int .i64 (p : Int) ∧ ∃ D', CL w ((List.range L.length).map (fun i => ((ad9.getD ⟨0, 0, none⟩).block, i, tx (L.getD i []))) ++ []) wr m f r D' bs Ts (3 * i + p) (.slice (some ⟨g1, 0, none⟩) N0 cap1) bs ∧ Lft D' L p)
      case atStart => exact ⟨0, by omega, rfl, D, SL, hlf⟩
      case round =>
        clear SL hlf
        obtain ⟨p, hp, rfl, D2, SP, hlf⟩ := hrel
        by_cases hpl : (p : Int) < (L.length : Int)
        · have hpL : p < L.length := by omega
          rcases hsh with h0 | ⟨g9, rfl, hc9⟩
          · rw [h0] at hpL; simp at hpL
          obtain ⟨hE, hnext, hl12⟩ := hlf.step SP.inv.core.lv hnd hpL
          have hcl := SP.cell (g9, p, tx L[p]) (by
            refine List.mem_append_left _ (List.mem_map.2 ⟨p, List.mem_range.2 hpL, ?_⟩)
            rw [List.getD_eq_getElem?_getD, List.getElem?_eq_getElem hpL]; rfl)
          simp only at hcl
          have hUn := SP.unlink (by omega) (47 :: L[p]) (by simp; omega)
          rw [hE, uev_zero] at hUn
          have hcat : ((⟨#[47]⟩ : ByteArray) ++ ⟨L[p].toArray⟩) = ⟨(47 :: L[p]).toArray⟩ := wtext_cat [47] L[p]
          generalize L[p] = B at *
          have hbig : ¬ 9223372036854775807 < 1 + B.length := by omega
          clear hlf
          go_wp2_with (go_at_call 22; refine hUn.mono ?_; rintro e w7 ⟨rfl, SQ⟩)
          go_roundg (gk - 1)
          case measure => omega
          case rel => exact ⟨p + 1, by omega, by go_num, _, SQ, hnext⟩
        · obtain ⟨fl2, hr2⟩ := hlf.none (by omega)
          have SC := SP.sub (C' := []) (fun c hc => by cases hc)
          clear hlf SP
          go_wp2_with fail
          go_loopg [18] N0 (fun k s18 wr => ∃ (t : Nat), t + k = N0 ∧ s18 = .int .i64 (t : Int) ∧ ∃ D' Ts', CL w [] wr m f r D' bs Ts' (3 * i + p) (.slice (some ⟨g1, 0, none⟩) N0 cap1) bs ∧ FlD D' ∧ D'.T 0 = some (.dir []) ∧ ∀ y (hy : y < Ts'.length), y < t → usedN Ts'[y] = 0)
          case atStart => exact ⟨0, by omega, rfl, D2, Ts, SC, fl2, hr2, fun y _ h => by omega⟩
          case round =>
            clear SC
            obtain ⟨t, ht, rfl, D3, Ts3, SC, fl3, hr3, hz3⟩ := hrel
            have hlb3 := SC.len
            by_cases htl : (t : Int) < (N0 : Int)
            · have htb : t < bs.length := by omega
              have htT : t < Ts3.length := by omega
              have hCl := SC.clear (by omega) htb htT
              obtain ⟨f4, r4⟩ := free_flat fl3 SC.inv (by omega) htT true hr3 8 (by omega)
              have h8 := SC.inv.len htT
              have hat := SC.at (g := g1) rfl htb
              have z4 := free_none D3 h8
              have hUs : ∀ (V : World), CL w [] V m f r (freeS true D3 Ts3[t] 8).1 bs (Ts3.set t (freeS true D3 Ts3[t] 8).2) (3 * i + p) (.slice (some ⟨g1, 0, none⟩) N0 cap1) bs → Calls Tryz.prog 32 #[wp bs[t]] V fun y w' => y = .returned (.int .i64 0) ∧ CL w [] w' m f r (freeS true D3 Ts3[t] 8).1 bs (Ts3.set t (freeS true D3 Ts3[t] 8).2) (3 * i + p) (.slice (some ⟨g1, 0, none⟩) N0 cap1) bs := fun V h => by
                have := h.usedAs (j := t) (b := bs[t]) (N := (freeS true D3 Ts3[t] 8).2) (List.getElem?_eq_getElem htb) (by rw [List.getElem?_set_self htT])
                rw [z4] at this
                exact this
              have hzn : ∀ y (hy : y < (Ts3.set t (freeS true D3 Ts3[t] 8).2).length), y < t + 1 → usedN (Ts3.set t (freeS true D3 Ts3[t] 8).2)[y] = 0 := fun y hy h => by
                rw [List.getElem_set]
                split
                · exact z4
                · rw [List.length_set] at hy
                  exact hz3 y hy (by omega)
              generalize (freeS true D3 Ts3[t] 8).1 = D4 at *
              generalize Ts3.set t (freeS true D3 Ts3[t] 8).2 = Ts4 at *
              have hat2 : ∀ (V : World), CL w [] V m f r D4 bs Ts4 (3 * i + p) (.slice (some ⟨g1, 0, none⟩) N0 cap1) bs → V.cell? ⟨g1, t, none⟩ = some (wp bs[t]) := fun V h => h.at (g := g1) rfl htb
              generalize bs[t] = b9 at *
              clear SC z4 h8 hz3
              go_wp2_with (first
                | (go_at_call 41; refine hCl.mono ?_; rintro e w7 ⟨rfl, SQ⟩; have hat3 := hat2 _ SQ; have hU3 := hUs _ SQ)
                | (go_at_call 32; refine hU3.mono ?_; rintro e w8 ⟨rfl, SR⟩))
              go_roundg (gk - 1)
              case measure => omega
              case rel => exact ⟨t + 1, by omega, by go_num, D4, Ts4, SR, f4, r4, hzn⟩
            · obtain ⟨hE0, hT1⟩ := all_gone SC.inv fl3 hr3 (sumU_zero (fun y hy => hz3 y hy (by omega)))
              have hbel := SC.bel
              have hOp := SC.open hE0
              have hNd := SC.nodes hT1
              clear SC
              go_wp2_with (first
                | (go_at_call 36; refine hOp.mono ?_; rintro e w7 ⟨rfl, hw7⟩; subst w7)
                | (go_at_call 13; refine hNd.mono ?_; rintro e w8 ⟨rfl, hw8⟩; subst w8))
              go_ret
              exact ⟨rfl, hbel⟩
end Go.Proofs.YtjkneekfijibiabGreatDoor

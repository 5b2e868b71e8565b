/- Files, their tables, the list of pointers to these, and cells that stay; each call with all that stays. -/
import Derived.Test.YtjkneekfijibiabGreatDoorKOne
import Derived.Test.YtjkneekfijibiabGreatDoorCFd
import Derived.Test.YtjkneekfijibiabGreatDoorQFile
namespace Go.Proofs.YtjkneekfijibiabGreatDoor
open Go.RowKit Go.Maps Go.Lib Go.Sort

/-- C: cells that stay (block, place, value); the list v holds cs. -/
structure CL (w0 : World) (C : List (Nat × Nat × Value)) (w : World) (m : Int) (f r : Nat) (D : DS) (bs : List Nat) (Ts : List Ns) (k : Nat) (v : Value) (cs : List Nat) : Prop where
  st : ∃ A, KD w m f r D bs Ts k A ∧ (∀ i, A i → w0.heap.size ≤ i) ∧ (∀ i, v.ownBlock = some i → ¬ A i) ∧ ∀ c ∈ C, ¬ A c.1
  bel : Below w0.heap.size w0 w
  r1 : w.ownsRow w0.heap.size 64 1 v cs.length (cs.map wp)
  cell : ∀ c ∈ C, w.cell? ⟨c.1, c.2.1, none⟩ = some c.2.2
  c1 : ∀ c ∈ C, v.ownBlock = some c.1 → c.2.1 < cs.length
  mlt : 2 < w0.heap.size
  elt : 0 < w0.heap.size

section
variable {w0 w w' W : World} {C C' : List (Nat × Nat × Value)} {m : Int} {f r k k' j b : Nat} {D D' : DS} {bs bs' cs : List Nat} {Ts Ts' : List Ns} {v v' : Value} {A A' : Nat → Prop}
theorem CL.len (h : CL w0 C w m f r D bs Ts k v cs) : bs.length = Ts.length := by
  obtain ⟨A, hb, _⟩ := h.st; exact hb.len
theorem CL.inv (h : CL w0 C w m f r D bs Ts k v cs) : Inv D Ts k := by
  obtain ⟨A, hb, _⟩ := h.st; exact hb.inv
theorem CL.more (h : CL w0 C w m f r D bs Ts k v cs) (hk : k ≤ k') : CL w0 C w m f r D bs Ts k' v cs := by
  obtain ⟨A, hb, h1, h2, h4⟩ := h.st
  exact ⟨⟨A, hb.more hk, h1, h2, h4⟩, h.bel, h.r1, h.cell, h.c1, h.mlt, h.elt⟩
theorem CL.sub (h : CL w0 C w m f r D bs Ts k v cs) (hC : ∀ c ∈ C', c ∈ C) : CL w0 C' w m f r D bs Ts k v cs := by
  obtain ⟨A, hb, h1, h2, h4⟩ := h.st
  exact ⟨⟨A, hb, h1, h2, fun c hc => h4 c (hC c hc)⟩, h.bel, h.r1, fun c hc => h.cell c (hC c hc), fun c hc => h.c1 c (hC c hc), h.mlt, h.elt⟩
/-- A step that keeps all but A. -/
theorem CL.of (h : CL w0 C w m f r D bs Ts k v cs) (hA : ∀ i, A i → w0.heap.size ≤ i) (hv : ∀ i, v.ownBlock = some i → ¬ A i) (hC : ∀ c ∈ C, ¬ A c.1) (hb : KD w' m f r D' bs' Ts' k' A') (st : Stp w w' A A') : CL w0 C w' m f r D' bs' Ts' k' v cs := by
  have hs := h.bel.size
  have hlt1 : ∀ i, v.ownBlock = some i → i < w.heap.size := fun i hi => by obtain ⟨_, c, hc⟩ := orow_block h.r1 hi; exact lt_of_heap hc
  have hltC : ∀ c ∈ C, c.1 < w.heap.size := fun c hc => World.block_lt_of_cell? w _ (h.cell c hc)
  have off : ∀ i, i < w.heap.size → ¬ A i → ¬ A' i := fun i hi hn ha => by
    rcases st.own i ha with z | z
    · exact hn z
    · omega
  refine ⟨⟨A', hb, fun i hi => ?_, fun i hi => off i (hlt1 i hi) (hv i hi), fun c hc => off _ (hltC c hc) (hC c hc)⟩, ⟨st.wt.os.trans h.bel.os, st.wt.tape.trans h.bel.tape, st.wt.output.trans h.bel.output, Nat.le_trans hs st.wt.size, fun i hi => ?_⟩, orow_keep h.r1 (fun g hg hl => st.wt.block g hl (hv g hg)), fun c hc => ?_, h.c1, h.mlt, h.elt⟩
  · rcases st.own i hi with z | z
    · exact hA i z
    · omega
  · rw [st.wt.block i (by omega) (fun z => by have := hA i z; omega)]; exact h.bel.block i hi
  · rw [World.cell?_of_block (w := w) (a := ⟨c.1, c.2.1, none⟩) (st.wt.block _ (hltC c hc) (hC c hc))]; exact h.cell c hc
theorem CL.call (h : CL w0 C w m f r D bs Ts k v cs) {fn : FuncId} {args : Array Value} {Q : Ending → DS → List Nat → List Ns → Prop}
    (hc : ∀ A, KD w m f r D bs Ts k A → Calls Tryz.prog fn args w fun y w' => ∃ D' bs' Ts' A', Q y D' bs' Ts' ∧ KD w' m f r D' bs' Ts' k' A' ∧ Stp w w' A A') :
    Calls Tryz.prog fn args w fun y w' => ∃ D' bs' Ts', Q y D' bs' Ts' ∧ CL w0 C w' m f r D' bs' Ts' k' v cs := by
  obtain ⟨A, hb, h1, h2, h4⟩ := h.st
  refine (hc A hb).mono ?_
  rintro y w' ⟨D', bs', Ts', A', hq, hb', st⟩
  exact ⟨D', bs', Ts', hq, h.of h1 h2 h4 hb' st⟩
theorem CL.below (h : CL w0 C w m f r D bs Ts k v cs) (hb : Below w.heap.size w w') : CL w0 C w' m f r D bs Ts k v cs := by
  obtain ⟨A, b, h1, h2, h4⟩ := h.st
  exact h.of h1 h2 h4 (b.below hb) ⟨⟨hb.os, hb.tape, hb.output, hb.size, fun i hi _ => hb.block i hi⟩, fun i hi => .inl hi⟩
theorem CL.to0 (h : CL w0 C w m f r D bs Ts k v cs) (hs : Sam w W) : CL w0 C W m f r D bs Ts k v cs := h.below (hs.below _)
/-- Cells of no one's. -/
theorem CL.with (h : CL w0 C w m f r D bs Ts k v cs) (N : List (Nat × Nat × Value)) (hN : ∀ c ∈ N, w.cell? ⟨c.1, c.2.1, none⟩ = some c.2.2) (hA : ∀ A, KD w m f r D bs Ts k A → (∀ i, A i → w0.heap.size ≤ i) → (∀ i, v.ownBlock = some i → ¬ A i) → ∀ c ∈ N, ¬ A c.1) (hv : ∀ c ∈ N, v.ownBlock = some c.1 → c.2.1 < cs.length) : CL w0 (N ++ C) w m f r D bs Ts k v cs := by
  obtain ⟨A, hb, h1, h2, h4⟩ := h.st
  refine ⟨⟨A, hb, h1, h2, fun c hc => ?_⟩, h.bel, h.r1, fun c hc => ?_, fun c hc hv' => ?_, h.mlt, h.elt⟩
  · rcases List.mem_append.1 hc with hc | hc
    · exact hA A hb h1 h2 c hc
    · exact h4 c hc
  · rcases List.mem_append.1 hc with hc | hc
    · exact hN c hc
    · exact h.cell c hc
  · rcases List.mem_append.1 hc with hc | hc
    · exact hv c hc hv'
    · exact h.c1 c hc hv'
/-- New cells, behind a step that turns nothing. -/
theorem CL.news (h : CL w0 C w m f r D bs Ts k v cs) (hb : Below w.heap.size w w') (N : List (Nat × Nat × Value)) (hN : ∀ c ∈ N, w'.cell? ⟨c.1, c.2.1, none⟩ = some c.2.2) (hB : ∀ c ∈ N, w.heap.size ≤ c.1) : CL w0 (N ++ C) w' m f r D bs Ts k v cs := by
  obtain ⟨A, hk, h1, h2, h4⟩ := h.st
  have h' := h.below hb
  have hlt1 : ∀ i, v.ownBlock = some i → i < w.heap.size := fun i hi => by obtain ⟨_, c, hc⟩ := orow_block h.r1 hi; exact lt_of_heap hc
  refine ⟨⟨A, hk.below hb, h1, h2, fun c hc ha => ?_⟩, h'.bel, h'.r1, fun c hc => ?_, fun c hc hv' => ?_, h.mlt, h.elt⟩
  · rcases List.mem_append.1 hc with hc | hc
    · have := hB c hc; have := hk.lt _ ha; omega
    · exact h4 c hc ha
  · rcases List.mem_append.1 hc with hc | hc
    · exact hN c hc
    · exact h'.cell c hc
  · rcases List.mem_append.1 hc with hc | hc
    · have := hB c hc; have := hlt1 _ hv'; omega
    · exact h.c1 c hc hv'
theorem CL.to1 (h : CL w0 C w m f r D bs Ts k v cs) (x : Value) (T : TypeId) (hs : Sam (w.alloc (.cells #[x] T)) W) : CL w0 ((w.heap.size, 0, x) :: C) W m f r D bs Ts k v cs := by
  have b : Below w.heap.size w W := ((Below.refl _ w).alloc (Nat.le_refl _) (.cells #[x] T)).trans (hs.below _)
  refine h.news b [(w.heap.size, 0, x)] (fun c hc => ?_) (fun c hc => ?_)
  · rw [List.mem_singleton.1 hc]
    show W.cell? ⟨w.heap.size, 0, none⟩ = some x
    have : W.heap[w.heap.size]? = some (.cells #[x] T) := by
      rw [hs.heap]
      show (w.heap.push _)[w.heap.size]? = _
      rw [Array.getElem?_push, if_pos rfl]
    rw [cell_of_row _ _ _ _ _ _ this]; rfl
  · rw [List.mem_singleton.1 hc]; exact Nat.le_refl _
/-- A cell of the list itself. -/
theorem CL.at (h : CL w0 C w m f r D bs Ts k v cs) {g : Nat} (hv : v.ownBlock = some g) {j : Nat} (hj : j < cs.length) : w.cell? ⟨g, j, none⟩ = some (wp cs[j]) := by
  obtain ⟨g', cap, e, _, _, hcl⟩ := orow_read h.r1 (by omega)
  have e1 : g' = g := by rw [e] at hv; cases hv; rfl
  subst e1
  rw [hcl j hj, List.getElem?_map, List.getElem?_eq_getElem hj]; rfl
theorem CL.in1 (h : CL w0 C w m f r D bs Ts k v cs) {g : Nat} (hv : v.ownBlock = some g) {j : Nat} (hj : j < cs.length) : CL w0 ((g, j, wp cs[j]) :: C) w m f r D bs Ts k v cs :=
  h.with [(g, j, wp cs[j])] (fun c hc => by rw [List.mem_singleton.1 hc]; exact h.at hv hj) (fun A _ _ h2 c hc => by rw [List.mem_singleton.1 hc]; exact h2 _ hv) (fun c hc _ => by rw [List.mem_singleton.1 hc]; exact hj)
/-- One more in the list. -/
theorem CL.push (h : CL w0 C w m f r D bs Ts k v cs) (hg : w.grownBy w' v.ownBlock) (hr : w'.ownsRow w0.heap.size 64 1 v' (cs.length + 1) (cs.map wp ++ [wp b])) (hv : v'.ownBlock = v.ownBlock ∨ v'.ownBlock = some w.heap.size) (hk : ∀ g j, v.ownBlock = some g → j < cs.length → w'.cell? ⟨g, j, none⟩ = w.cell? ⟨g, j, none⟩) : CL w0 C w' m f r D bs Ts k v' (cs ++ [b]) := by
  obtain ⟨A, hb, h1, h2, h4⟩ := h.st
  have kp : ∀ i, i < w.heap.size → v.ownBlock ≠ some i → w'.heap[i]? = w.heap[i]? := fun i hi hn => hg.block i hi (fun e => hn e.symm)
  have hbs : ∀ i, v.ownBlock = some i → w0.heap.size ≤ i := fun i hi => (orow_block h.r1 hi).1
  have hsz := h.bel.size
  have low : ∀ i, i < w0.heap.size → w'.heap[i]? = w.heap[i]? := fun i hi => kp i (by omega) (fun e => by have := hbs i e; omega)
  have hltC : ∀ c ∈ C, c.1 < w.heap.size := fun c hc => World.block_lt_of_cell? w _ (h.cell c hc)
  refine ⟨⟨A, hb.keep (fun i hi => kp i (hb.lt i hi) (fun e => h2 i e hi)) hg.size ((World.cell?_of_block (w := w) (a := ⟨_, 0, none⟩) (low _ h.mlt)).trans hb.ml) ((World.cell?_of_block (w := w) (a := ⟨_, 0, none⟩) (low _ h.elt)).trans hb.er), h1, fun i hi ha => ?_, h4⟩, ⟨hg.os.trans h.bel.os, hg.tape.trans h.bel.tape, hg.output.trans h.bel.output, Nat.le_trans hsz hg.size, fun i hi => (low i hi).trans (h.bel.block i hi)⟩, ?_, fun c hc => ?_, fun c hc hv' => ?_, h.mlt, h.elt⟩
  · rcases hv with e | e
    · exact h2 i (e ▸ hi) ha
    · rw [e] at hi; cases hi; have := hb.lt _ ha; omega
  · rw [List.length_append, List.map_append]; exact hr
  · by_cases e : v.ownBlock = some c.1
    · rw [hk _ _ e (h.c1 c hc e)]; exact h.cell c hc
    · rw [World.cell?_of_block (w := w) (a := ⟨c.1, c.2.1, none⟩) (kp _ (hltC c hc) e)]; exact h.cell c hc
  · rw [List.length_append]
    rcases hv with e | e
    · have := h.c1 c hc (e ▸ hv'); omega
    · rw [e] at hv'; have := hltC c hc; have := Option.some.inj hv'; omega
/-- append's own equation. -/
theorem CL.append (h : CL w0 C w m f r D bs Ts k v cs) {q c : Nat} (hq : (q, 0, wp b) ∈ C) (hl : cs.length ≤ 100) : ∃ v' w', (∀ ty, (Builtin.append_ #[70, 70] ty #[v, .slice (some ⟨q, 0, none⟩) 1 c]).run Tryz.prog w = .ok v' w') ∧ CL w0 C w' m f r D bs Ts k v' (cs ++ [b]) := by
  obtain ⟨i0, hi, hz0, hz1, hz2⟩ := info_parts (P := Tryz.prog) (e := 64) (z := .pointer none) (size := 1) (bytes := 8) (by kernel_rfl)
  obtain ⟨v', w', hrun, r1, r2, r3, r4⟩ := append_stays (P := Tryz.prog) w w0.heap.size 70 0 64 i0 (.pointer none) 8 Tryz.underlying70 hi hz0 hz1 hz2 rfl v cs.length _ h.r1 ⟨q, 0, none⟩ c (wp b) (h.cell _ hq) rfl (by unfold maxLen; omega) (by omega) h.bel.size
  exact ⟨v', w', fun ty => by rw [← hrun]; rfl, h.push r2 r1 r3 r4⟩
/-- The calls. -/
theorem CL.used (h : CL w0 C w m f r D bs Ts k v cs) (hj : j < bs.length) (hjT : j < Ts.length) : Calls Tryz.prog 32 #[wp bs[j]] w fun y w' => y = .returned (.int .i64 (usedN Ts[j] : Int)) ∧ CL w0 C w' m f r D bs Ts k v cs := by
  obtain ⟨A, hb, _⟩ := h.st
  refine (hb.used hj).mono ?_
  rintro y w' ⟨rfl, b1⟩
  exact ⟨rfl, h.below b1⟩
theorem CL.num (h : CL w0 C w m f r D bs Ts k v cs) : ∃ n, IsN D.E n := by
  obtain ⟨A, hb, _⟩ := h.st
  exact hb.numE
theorem CL.open (h : CL w0 C w m f r D bs Ts k v cs) {n : Nat} (hn : IsN D.E n) : Calls Tryz.prog 36 #[wp f] w fun y w' => y = .returned (.int .i64 (n : Int)) ∧ w' = w := by
  obtain ⟨A, hb, _⟩ := h.st
  exact hb.openIs hn
theorem CL.nodes (h : CL w0 C w m f r D bs Ts k v cs) {s : Nat} (hs : IsNum D.T s) : Calls Tryz.prog 13 #[wp r] w fun y w' => y = .returned (.int .i64 (s : Int)) ∧ w' = w := by
  obtain ⟨A, hb, _⟩ := h.st
  exact hb.nodes hs
theorem CL.fork (h : CL w0 C w m f r D bs Ts k v cs) (hf : Ts.length < 8) (hj : j < bs.length) (hjT : j < Ts.length) :
    Calls Tryz.prog 29 #[wp f, wp bs[j]] w fun y w' => ∃ b, y = .returned (wp b) ∧ CL w0 C w' m f r (forkD D Ts[j]) (bs ++ [b]) (Ts ++ [Ts[j]]) k v cs := by
  refine (h.call (k' := k) (Q := fun y D' bs' Ts' => ∃ b, y = .returned (wp b) ∧ D' = forkD D Ts[j] ∧ bs' = bs ++ [b] ∧ Ts' = Ts ++ [Ts[j]]) (fun A hb => (hb.fork hf hj).mono ?_)).mono ?_
  · rintro y w' ⟨A', rfl, h', st⟩
    exact ⟨_, _, _, A', ⟨_, rfl, rfl, rfl, rfl⟩, h', st⟩
  · rintro y w' ⟨D', bs', Ts', ⟨b, rfl, rfl, rfl, rfl⟩, h'⟩
    exact ⟨b, rfl, h'⟩
theorem CL.fd (h : CL w0 C w m f r D bs Ts k v cs) (fl : FlD D) (hk : k ≤ 800) (hn : D.nx < 800) (hj : j < bs.length) (hjT : j < Ts.length) (a t9 X Y : Int) (p : List UInt8) (hp : p.length ≤ 100) :
    Calls Tryz.prog 39 #[wp f, wp bs[j], .agg #[.int .i64 a, .int .i64 t9, .int .i64 X, .int .i64 Y, tx p]] w fun y w' => ∃ c D' N', y = .returned (uev c) ∧ Aft D Ts[j] c D' N' ∧ CL w0 C w' m f r D' bs (Ts.set j N') (k + 2) v cs := by
  refine (h.call (k' := k + 2) (Q := fun y D' bs' Ts' => ∃ c N', y = .returned (uev c) ∧ Aft D Ts[j] c D' N' ∧ bs' = bs ∧ Ts' = Ts.set j N') (fun A hb => (fd_any a hb fl hk hn hj hjT t9 X Y p hp).mono ?_)).mono ?_
  · rintro y w' ⟨c, D', N', A', rfl, h1, h', st⟩
    exact ⟨_, _, _, A', ⟨c, N', rfl, h1, rfl, rfl⟩, h', st⟩
  · rintro y w' ⟨D', bs', Ts', ⟨c, N', rfl, h1, rfl, rfl⟩, h'⟩
    exact ⟨c, D', N', rfl, h1, h'⟩
theorem CL.clear (h : CL w0 C w m f r D bs Ts k v cs) (hk : k ≤ 900) (hj : j < bs.length) (hjT : j < Ts.length) :
    Calls Tryz.prog 41 #[wp f, wp bs[j]] w fun y w' => y = .returned (.tuple #[]) ∧ CL w0 C w' m f r (freeS true D Ts[j] 8).1 bs (Ts.set j (freeS true D Ts[j] 8).2) k v cs := by
  refine (h.call (k' := k) (Q := fun y D' bs' Ts' => y = .returned (.tuple #[]) ∧ D' = (freeS true D Ts[j] 8).1 ∧ bs' = bs ∧ Ts' = Ts.set j (freeS true D Ts[j] 8).2) (fun A hb => (hb.clear hk hj).mono ?_)).mono ?_
  · rintro y w' ⟨D', N', A', ⟨rfl, rfl, rfl⟩, h', st⟩
    exact ⟨_, _, _, A', ⟨rfl, rfl, rfl, rfl⟩, h', st⟩
  · rintro y w' ⟨D', bs', Ts', ⟨rfl, rfl, rfl, rfl⟩, h'⟩
    exact ⟨rfl, h'⟩
theorem CL.unlink (h : CL w0 C w m f r D bs Ts k v cs) (hk : k ≤ 900) (p : List UInt8) (hp : p.length < 100000) :
    Calls Tryz.prog 22 #[wp r, tx p] w fun y w' => y = .returned (uev (unlinkE D.T p)) ∧ CL w0 C w' m f r { D with T := unlinkN D.T p } bs Ts (k + 1) v cs := by
  refine (h.call (k' := k + 1) (Q := fun y D' bs' Ts' => y = .returned (uev (unlinkE D.T p)) ∧ D' = { D with T := unlinkN D.T p } ∧ bs' = bs ∧ Ts' = Ts) (fun A hb => (hb.unlink hk p hp).mono ?_)).mono ?_
  · rintro y w' ⟨A', rfl, h', st⟩
    exact ⟨_, _, _, A', ⟨rfl, rfl, rfl, rfl⟩, h', st⟩
  · rintro y w' ⟨D', bs', Ts', ⟨rfl, rfl, rfl, rfl⟩, h'⟩
    exact ⟨rfl, h'⟩
/-- All names of the root, in cells that stay. -/
theorem CL.list (h : CL w0 C w m f r D bs Ts k v cs) (fl : FlD D) (hk : k ≤ 900) :
    Calls Tryz.prog 40 #[wp r, .string ⟨#[47]⟩] w fun y w' => ∃ ad cap L, y = .returned (.tuple #[.slice ad L.length cap, .nilIface]) ∧ L.Nodup ∧ L.length ≤ k ∧ Lft D L 0 ∧ (L = [] ∨ ∃ g, ad = some ⟨g, 0, none⟩ ∧ L.length ≤ cap) ∧ CL w0 ((List.range L.length).map (fun i => ((ad.getD ⟨0, 0, none⟩).block, i, tx (L.getD i []))) ++ C) w' m f r D bs Ts k v cs := by
  obtain ⟨A, hb, _⟩ := h.st
  obtain ⟨g, n, h1, hr, _⟩ := hb.st
  obtain ⟨O, p, _⟩ := h1.tree
  have hT := hb.inv.core.lv
  obtain ⟨C0, h0⟩ := hT.root
  have hf : findT D.T [47] = (0, 0) := by
    unfold findT; rw [namesOf_root]; rfl
  have hCl := hb.inv.core.sm.1 0 C0 h0
  have hnd := hT.nodup 0 C0 h0
  subst hr
  refine (p.list_ok hT [47] (by simp) m hb.ml (C := C0) (by rw [hf]) (by rw [hf]; exact h0) (by omega)).mono ?_
  rintro y w' ⟨v9, rfl, t, b1⟩
  obtain ⟨L, hL⟩ : ∃ L, listT C0 = L := ⟨_, rfl⟩
  have hLl : L.length ≤ k := by rw [← hL, listT_len]; omega
  have hLn : L.Nodup := by rw [← hL]; exact listT_nodup hnd
  have hLf : Lft D L 0 := ⟨fl, C0, h0, fun s => by rw [List.drop_zero, ← hL, listT_mem]; exact list_mem hnd s⟩
  rw [hL] at t
  rcases t.2 with ⟨e, e0⟩ | ⟨g', cap, cur, e, hN, hg, hc1, hc2, hc3, htk⟩
  · have hL0 : L = [] := List.length_eq_zero_iff.1 e0
    subst hL0
    refine ⟨none, 0, [], by rw [e]; rfl, List.nodup_nil, by simp, hLf, .inl rfl, h.below b1⟩
  · refine ⟨some ⟨g', 0, none⟩, cap, L, by rw [e], hLn, hLl, hLf, .inr ⟨g', rfl, hc1⟩, h.news b1 _ (fun c hc => ?_) (fun c hc => ?_)⟩
    · obtain ⟨i, hi, rfl⟩ := List.mem_map.1 hc
      have hi := List.mem_range.1 hi
      show w'.cell? ⟨g', i, none⟩ = some (tx (L.getD i []))
      rw [cell_of_row w' g' i _ _ _ hg, ← Array.getElem?_toList]
      have : cur.toList[i]? = (L.map encStr)[i]? := by
        rw [← htk, Nat.mul_one, List.getElem?_take, if_pos hi]
      rw [this, List.getElem?_map, List.getElem?_eq_getElem hi, List.getD_eq_getElem?_getD, List.getElem?_eq_getElem hi]
      rfl
    · obtain ⟨i, _, rfl⟩ := List.mem_map.1 hc
      exact hN
/-- From the first: one table, a list of it. -/
theorem KW.lists (h : KW w0 w m f r D [] [] k) (hml : 2 < w0.heap.size) (hel : 0 < w0.heap.size) : CL w0 [] ((w.alloc (.cells (nv zeroN).toArray 69)).alloc (.cells #[wp w.heap.size] 64)) m f r D [w.heap.size] [zeroN] k (.slice (some ⟨w.heap.size + 1, 0, none⟩) 1 1) [w.heap.size] := by
  obtain ⟨A, h1, hA, hb⟩ := h
  obtain ⟨wA, hwA⟩ : ∃ wA, w.alloc (.cells (nv zeroN).toArray 69) = wA := ⟨_, rfl⟩
  obtain ⟨wB, hwB⟩ : ∃ wB, wA.alloc (.cells #[wp w.heap.size] 64) = wB := ⟨_, rfl⟩
  have sA : wA.heap.size = w.heap.size + 1 := by rw [← hwA]; show (w.heap.push _).size = _; rw [Array.size_push]
  have bA : Below w.heap.size w wA := by rw [← hwA]; exact (Below.refl _ w).alloc (Nat.le_refl _) _
  have bB : Below wA.heap.size wA wB := by rw [← hwB]; exact (Below.refl _ wA).alloc (Nat.le_refl _) _
  have k1 := h1.table (by simp)
  rw [hwA] at k1
  have hB : wB.heap[w.heap.size + 1]? = some (.cells #[wp w.heap.size] 64) := by
    rw [← hwB]; show (wA.heap.push _)[w.heap.size + 1]? = _
    rw [Array.getElem?_push, if_pos sA.symm]
  have b0 := hb.size
  rw [hwA, hwB]
  refine ⟨⟨_, k1.below bB, fun i hi => ?_, fun i hi ha => ?_, fun c hc => (by cases hc)⟩, (hb.trans (bA.mono b0)).trans (bB.mono (by omega)), ⟨rfl, .inr ⟨w.heap.size + 1, 1, #[wp w.heap.size], rfl, by omega, hB, Nat.le_refl _, by decide, rfl, rfl⟩⟩, fun c hc => (by cases hc), fun c hc => (by cases hc), hml, hel⟩
  · rcases hi with z | z
    · exact hA i z
    · omega
  · have hi : w.heap.size + 1 = i := Option.some.inj hi
    rcases ha with z | z
    · have := h1.lt i z; omega
    · omega
end
end Go.Proofs.YtjkneekfijibiabGreatDoor

namespace Go.Proofs.YtjkneekfijibiabGreatDoor
open Go.RowKit Go.Maps

abbrev nmX : List (Nm × Int) := [([120], 1)]
abbrev pX : List UInt8 := [47, 120]
/-- One ENTRY: the file's bytes, how often it is held, numbers, the place. -/
def dA (b : List UInt8) (x : Nat) (c p : Int) : DS := ⟨tC nmX b x, fun i => if i = 1 then some ⟨1, 3, 1, 0, p⟩ else none, fun i => if i = 1 then some c else none, fun _ => none, 1⟩
/-- Two. -/
def dB (b : List UInt8) (x : Nat) (c p q : Int) : DS := ⟨tC nmX b x, fun i => if i = 2 then some ⟨1, 1, 1, 0, q⟩ else if i = 1 then some ⟨1, 3, 1, 0, p⟩ else none, fun i => if i = 2 then some 1 else if i = 1 then some c else none, fun _ => none, 2⟩
abbrev n1 : Ns := [(1, false), (0, false), (0, false), (0, false), (0, false), (0, false), (0, false), (0, false)]
abbrev n2 : Ns := [(1, false), (1, false), (0, false), (0, false), (0, false), (0, false), (0, false), (0, false)]
abbrev n3 : Ns := [(1, false), (1, false), (2, false), (0, false), (0, false), (0, false), (0, false), (0, false)]
abbrev n4 : Ns := [(0, false), (1, false), (0, false), (0, false), (0, false), (0, false), (0, false), (0, false)]
theorem pX_names : namesOf pX = some [[120]] := by decide
theorem over_end (b x : List UInt8) : overT b b.length x = b ++ x := by
  unfold overT padT
  simp
section
variable {b s u : List UInt8} {x : Nat} {c p q : Int}
theorem null_miss : findT nullT pX = (0, 7) := root_miss (T := nullT) (C := []) rfl pX_names rfl
theorem null_make : makeE nullT 1 pX = 0 := by
  unfold makeE
  rw [root_place (T := nullT) (C := []) rfl pX_names]
  rfl
theorem null_made : makeN nullT pX false 1 = tC nmX [] 0 := by
  obtain ⟨nm, h1, _, h3⟩ := make_null null_make
  rw [pX_names] at h1
  cases h1
  exact h3
theorem tX_find : findT (tC nmX b x) pX = (1, 0) := root_find (T := tC nmX b x) tC_0 pX_names rfl
theorem none_num : IsNum (noneD nullT).T 1 := null_num
theorem dA_T : (dA b x c p).T = tC nmX b x := rfl
/-- File, made. -/
theorem sc_file {k c' : Int} {D' : DS} {N' : Ns} (h : FileO (noneD nullT) (List.replicate 8 (0, false)) 0 1 pX 3 true k c' D' N') : k = 0 ∧ c' = 0 ∧ D' = dA [] 1 1 0 ∧ N' = n1 := by
  have h' : FileO (noneD nullT) (List.replicate 8 (0, false)) 0 1 pX 3 true (leastN (List.replicate 8 (0, false))) 0 (addD { noneD nullT with T := holdN (makeN (noneD nullT).T pX false 1) 1 1 } ⟨1, 3, 1, 0, 0⟩) (addN (noneD nullT) (List.replicate 8 (0, false))) :=
    .made ⟨by omega, by omega⟩ ⟨by decide, by omega⟩ (by show (findT nullT pX).2 = 7; rw [null_miss]) rfl null_make 1 null_free
  obtain ⟨rfl, rfl, rfl, rfl⟩ := h.one h'
  refine ⟨rfl, rfl, ?_, rfl⟩
  show addD { noneD nullT with T := holdN (makeN nullT pX false 1) 1 1 } ⟨1, 3, 1, 0, 0⟩ = _
  rw [null_made, hold_one.2]
  unfold addD dA noneD
  simp only [DS.mk.injEq]
  exact ⟨trivial, by funext i; simp, by funext i; simp, trivial, by omega⟩
/-- File, opened once more. -/
theorem sc_again {n s9 : Nat} {k c' : Int} {D' : DS} {N' : Ns} (hn : n < 40) (h : FileO (dA b x c p) n2 n s9 pX 1 false k c' D' N') : k = 2 ∧ c' = 0 ∧ D' = dB b (x + 1) c p 0 ∧ N' = n3 := by
  have h' : FileO (dA b x c p) n2 n s9 pX 1 false (leastN n2) 0 (addD { dA b x c p with T := holdN (dA b x c p).T (findT (dA b x c p).T pX).1 1 } ⟨1, 1, (findT (dA b x c p).T pX).1, 0, 0⟩) (addN (dA b x c p) n2) :=
    .opened ⟨by omega, by omega⟩ ⟨by decide, hn⟩ (by rw [dA_T, tX_find]) (by rw [dA_T, tX_find]; exact hold_one.1)
  obtain ⟨rfl, rfl, rfl, rfl⟩ := h.one h'
  refine ⟨rfl, rfl, ?_, rfl⟩
  rw [dA_T, tX_find, hold_one.2]
  unfold addD dA dB
  simp only [DS.mk.injEq]
  exact ⟨trivial, by funext i; simp, by funext i; simp, trivial, by omega⟩
theorem sc_dup : dupK n1 0 = 1 ∧ dupE n1 0 = 0 ∧ dupD (dA b x 1 p) n1 0 = dA b x 2 p ∧ dupN n1 0 = n2 := by
  refine ⟨by decide, by decide, ?_, by decide⟩
  unfold dupD
  rw [if_pos (by decide)]
  unfold dA
  simp only [DS.mk.injEq, true_and, and_true]
  funext i
  show (if i = 1 then some (((if i = 1 then some (1 : Int) else none).getD 0) + 1) else if i = 1 then some 1 else none) = if i = 1 then some 2 else none
  by_cases e : i = 1
  · simp [e]
  · simp [e]
theorem sc_inc (c : Int) : incR (dA b x c p) 1 = dA b x (c + 1) p := by
  have hc : (dA b x c p).R 1 = some c := rfl
  rw [incR_eq hc]
  unfold dA
  simp only [DS.mk.injEq, true_and, and_true]
  funext i
  by_cases e : i = 1
  · simp [e]
  · simp [e]
theorem sc_fork : forkD (dA b x 2 p) n2 = dA b x 4 p := by
  show incR (incR (dA b x 2 p) 1) 1 = _
  rw [sc_inc, sc_inc]
  rfl
theorem writeE_ok (h0 : 0 ≤ p) (h1 : p + s.length ≤ 200) : writeE (tC nmX b x) 1 p s = 0 := by
  unfold writeE
  have hf : fileT (tC nmX b x) 1 = 0 := rfl
  rw [if_neg (fun h => h hf), if_neg (by omega), if_neg (by omega)]
theorem writeN_end (h1 : b.length + s.length ≤ 200) : writeN (tC nmX b x) 1 (b.length : Int) s = tC nmX (b ++ s) x := by
  unfold writeN
  rw [writeE_ok (by omega) (by omega)]
  by_cases e : s = []
  · subst e; simp
  · rw [if_neg (by simp [e]), tC_1]
    simp only
    rw [tC_set1, show ((b.length : Int)).toNat = b.length by omega, over_end]
theorem few_much (h0 : 0 ≤ p) (h1 : p + s.length ≤ 100) : ¬ tooMuch s 100 p := fun h => by have := h.2; omega
/-- Write, at the end. -/
theorem sc_write {N : Ns} {i : Nat} (hi : i < 8) (hiL : i < N.length) (hN : N[i].1 = 1) (h1 : b.length + s.length ≤ 100) : writeO (dA b x c b.length) N i s 100 = ((s.length : Int), 0, dA (b ++ s) x c ((b ++ s).length : Nat)) := by
  have he : (dA b x c b.length).E N[i].1 = some ⟨1, 3, 1, 0, b.length⟩ := by rw [hN]; rfl
  rw [writeO_file hi hiL (by omega) he rfl (by simp) (few_much (by simp only; omega) (by simp only; omega)) (writeE_ok (by simp only; omega) (by simp only; omega))]
  simp only [Prod.mk.injEq, true_and]
  rw [hN]
  unfold dA
  simp only [DS.mk.injEq, and_true]
  refine ⟨writeN_end (by omega), ?_⟩
  funext j
  by_cases e : j = 1
  · simp [e]
  · simp [e]
theorem sc_write_no {N : Ns} {i : Nat} (hi : i < 8) (hiL : i < N.length) (hN : N[i].1 = 2) : writeO (dB b x c p q) N i s 100 = (0, 13, dB b x c p q) := by
  have he : (dB b x c p q).E N[i].1 = some ⟨1, 1, 1, 0, q⟩ := by rw [hN]; rfl
  exact writeO_false hi hiL (by omega) he rfl
theorem read_tC (h0 : 0 ≤ p) : readS (tC nmX b x) 1 p 100 = (b.drop p.toNat).take 100 ∧ readE (tC nmX b x) 1 p 100 = 0 := by
  have hf : fileT (tC nmX b x) 1 = 0 := rfl
  refine ⟨?_, ?_⟩
  · unfold readS; rw [tC_1]; simp only; rw [if_neg (by omega)]; rfl
  · unfold readE; rw [if_neg (fun h => h hf), if_neg (by omega)]
/-- Read, by the elder ENTRY. -/
theorem sc_read1 {N : Ns} {i : Nat} (hi : i < 8) (hiL : i < N.length) (hN : N[i].1 = 1) (h0 : 0 ≤ p) : readO (dB b x c p q) N i 100 = ((b.drop p.toNat).take 100, 0, dB b x c (p + ((b.drop p.toNat).take 100).length) q) := by
  have he : (dB b x c p q).E N[i].1 = some ⟨1, 3, 1, 0, p⟩ := by rw [hN]; rfl
  rw [readO_file hi hiL (by omega) he rfl (by simp)]
  simp only
  rw [show (dB b x c p q).T = tC nmX b x from rfl, (read_tC h0).1, (read_tC h0).2, hN]
  simp only [Prod.mk.injEq, true_and]
  unfold dB
  simp only [DS.mk.injEq, true_and, and_true]
  funext j
  by_cases e : j = 1
  · simp [e]
  · simp [e]
theorem sc_read2 {N : Ns} {i : Nat} (hi : i < 8) (hiL : i < N.length) (hN : N[i].1 = 2) (h0 : 0 ≤ q) : readO (dB b x c p q) N i 100 = ((b.drop q.toNat).take 100, 0, dB b x c p (q + ((b.drop q.toNat).take 100).length)) := by
  have he : (dB b x c p q).E N[i].1 = some ⟨1, 1, 1, 0, q⟩ := by rw [hN]; rfl
  rw [readO_file hi hiL (by omega) he rfl (by simp)]
  simp only
  rw [show (dB b x c p q).T = tC nmX b x from rfl, (read_tC h0).1, (read_tC h0).2, hN]
  simp only [Prod.mk.injEq, true_and]
  unfold dB
  simp only [DS.mk.injEq, true_and, and_true]
  funext j
  by_cases e : j = 2
  · simp [e]
  · simp [e]
theorem sc_seekA (a : Int) (h : 0 ≤ a ∧ a ≤ 200) : seekE (dA b x c p) n2 1 a = 0 ∧ seekD (dA b x c p) n2 1 a = dA b x c a := by
  have h1 : seekE (dA b x c p) n2 1 a = 0 := by
    unfold seekE
    rw [if_pos (by decide)]
    show (if (1 : Int) ≠ 1 then (6 : Int) else if 0 ≤ a ∧ a ≤ 200 then 0 else 2) = 0
    rw [if_neg (by simp), if_pos h]
  refine ⟨h1, ?_⟩
  unfold seekD
  rw [if_pos h1]
  show ({ dA b x c p with E := fun i => if i = 1 then some ⟨1, 3, 1, 0, a⟩ else (dA b x c p).E i } : DS) = _
  unfold dA
  simp only [DS.mk.injEq, true_and, and_true]
  funext j
  by_cases e : j = 1
  · simp [e]
  · simp [e]
theorem sc_seekB (a : Int) (h : 0 ≤ a ∧ a ≤ 200) : seekE (dB b x c p q) n2 0 a = 0 ∧ seekD (dB b x c p q) n2 0 a = dB b x c a q := by
  have h1 : seekE (dB b x c p q) n2 0 a = 0 := by
    unfold seekE
    rw [if_pos (by decide)]
    show (if (1 : Int) ≠ 1 then (6 : Int) else if 0 ≤ a ∧ a ≤ 200 then 0 else 2) = 0
    rw [if_neg (by simp), if_pos h]
  refine ⟨h1, ?_⟩
  unfold seekD
  rw [if_pos h1]
  show ({ dB b x c p q with E := fun i => if i = 1 then some ⟨1, 3, 1, 0, a⟩ else (dB b x c p q).E i } : DS) = _
  unfold dB
  simp only [DS.mk.injEq, true_and, and_true]
  funext j
  by_cases e : j = 1
  · simp [e]
  · simp [e]
theorem sc_close : closeD (dB b x 4 p q) n2 0 = dB b x 3 p q ∧ closeN n2 0 = n4 := by
  refine ⟨?_, by decide⟩
  unfold closeD
  rw [if_pos (by decide)]
  show closeK (dB b x 4 p q) 1 = _
  unfold closeK
  rw [show (dB b x 4 p q).E 1 = some ⟨1, 3, 1, 0, p⟩ from rfl, show (dB b x 4 p q).R 1 = some 4 from rfl]
  simp only
  rw [if_pos (by omega)]
  unfold dB
  simp only [DS.mk.injEq, true_and, and_true]
  funext j
  by_cases e : j = 1
  · simp [e]
  · simp [e]
end
end Go.Proofs.YtjkneekfijibiabGreatDoor

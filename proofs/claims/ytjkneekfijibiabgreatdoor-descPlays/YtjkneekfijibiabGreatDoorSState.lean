/- The program's files and the document's, beside each other, with their tables; an item beside both. -/
import Derived.Test.YtjkneekfijibiabGreatDoorRAll3
import Derived.Test.YtjkneekfijibiabGreatDoorTubes
import Derived.Test.YtjkneekfijibiabGreatDoorBare
import Derived.Maps.AppendAt
namespace Go.Proofs.YtjkneekfijibiabGreatDoor
open Go.RowKit Go.Maps

theorem bareV (c : Int) (w : World) (hg : w.cell? ⟨0, 0, none⟩ = some errT) : Calls Tryz.prog 28 #[uev c, .int .i64 c] w fun e w' => e = .returned (.bool true) ∧ Below w.heap.size w w' := by
  by_cases h : c = 0
  · subst h; exact bare_nil w
  · rw [uev_ne h]; exact bare_eno c w hg
/-- Both sides: the program's f, r, bs; the document's f2, r2, bs2; A: what is theirs. -/
structure BD (w : World) (m : Int) (f r f2 r2 : Nat) (ek : Nat × Nat) (D : DS) (bs : List Nat) (Ts : List Ns) (k : Nat) (D2 : DS) (bs2 : List Nat) (Ts2 : List Ns) (A : Nat → Prop) : Prop where
  both : ∃ A1 A2, KD w m f r D bs Ts k A1 ∧ RD w f2 r2 ek D2 bs2 Ts2 A2 ∧ (∀ i, A1 i → ¬ A2 i) ∧ (∀ i, A1 i → A i) ∧ ∀ i, A2 i → A i
  lt : ∀ i, A i → i < w.heap.size
  mn : ¬ A 2
  en : ¬ A 0
section
variable {w w' w1 w2 : World} {m : Int} {f r f2 r2 k k' j : Nat} {D D' D2 : DS} {bs bs2 bs' : List Nat} {Ts Ts2 Ts' : List Ns} {A A' : Nat → Prop} {ek : Nat × Nat}
theorem BD.ml (h : BD w m f r f2 r2 ek D bs Ts k D2 bs2 Ts2 A) : w.cell? ⟨2, 0, none⟩ = some (.int .i64 m) := by
  obtain ⟨A1, A2, h1, _⟩ := h.both; exact h1.ml
theorem BD.er (h : BD w m f r f2 r2 ek D bs Ts k D2 bs2 Ts2 A) : w.cell? ⟨0, 0, none⟩ = some errT := by
  obtain ⟨A1, A2, h1, _⟩ := h.both; exact h1.er
theorem BD.inv (h : BD w m f r f2 r2 ek D bs Ts k D2 bs2 Ts2 A) : Inv D Ts k := by
  obtain ⟨A1, A2, h1, _⟩ := h.both; exact h1.inv
theorem BD.len (h : BD w m f r f2 r2 ek D bs Ts k D2 bs2 Ts2 A) : bs.length = Ts.length ∧ bs2.length = Ts2.length := by
  obtain ⟨A1, A2, h1, h2, _⟩ := h.both; exact ⟨h1.len, h2.len⟩
theorem BD.below (h : BD w m f r f2 r2 ek D bs Ts k D2 bs2 Ts2 A) (hb : Below w.heap.size w w') : BD w' m f r f2 r2 ek D bs Ts k D2 bs2 Ts2 A := by
  obtain ⟨A1, A2, h1, h2, h3, h4, h5⟩ := h.both
  exact ⟨⟨A1, A2, h1.below hb, h2.below hb, h3, h4, h5⟩, fun i hi => Nat.lt_of_lt_of_le (h.lt i hi) hb.size, h.mn, h.en⟩
/-- A call of the program's. -/
theorem BD.callP (h : BD w m f r f2 r2 ek D bs Ts k D2 bs2 Ts2 A) {fn : FuncId} {args : Array Value} {Q : Ending → DS → List Nat → List Ns → Prop}
    (hc : ∀ A1, KD w m f r D bs Ts k A1 → Calls Tryz.prog fn args w fun y w' => ∃ D' bs' Ts' A1', Q y D' bs' Ts' ∧ KD w' m f r D' bs' Ts' k' A1' ∧ Stp w w' A1 A1') :
    Calls Tryz.prog fn args w fun y w' => ∃ D' bs' Ts' A', Q y D' bs' Ts' ∧ BD w' m f r f2 r2 ek D' bs' Ts' k' D2 bs2 Ts2 A' ∧ Stp w w' A A' := by
  obtain ⟨A1, A2, h1, h2, h3, h4, h5⟩ := h.both
  refine (hc A1 h1).mono ?_
  rintro y w' ⟨D', bs', Ts', A1', hq, h1', st⟩
  have hst : Stp w w' A (fun i => A i ∨ (w.heap.size ≤ i ∧ i < w'.heap.size)) := ⟨st.wt.mono h4, fun i hi => by
    rcases hi with hi | hi
    · exact .inl hi
    · exact .inr hi.1⟩
  have ht : ∀ i, A2 i → ¬ A1 i ∧ i < w.heap.size := fun i hi => ⟨fun ho => h3 i ho hi, h.lt i (h5 i hi)⟩
  refine ⟨D', bs', Ts', _, hq, ⟨⟨A1', A2, h1', h2.keep (fun i hi => st.keep ht i hi) st.wt.size, fun i hi hi2 => (st.apart ht i hi2).1 hi, fun i hi => ?_, fun i hi => .inl (h5 i hi)⟩, fun i hi => ?_, (hst.cellKept h.ml h.mn).2, (hst.cellKept h.er h.en).2⟩, hst⟩
  · rcases st.own i hi with e | e
    · exact .inl (h4 i e)
    · exact .inr ⟨e, h1'.lt i hi⟩
  · rcases hi with hi | hi
    · exact Nat.lt_of_lt_of_le (h.lt i hi) st.wt.size
    · exact hi.2
/-- A call of the document's. -/
theorem BD.callR (h : BD w m f r f2 r2 ek D bs Ts k D2 bs2 Ts2 A) {fn : FuncId} {args : Array Value} {Q : Ending → DS → List Nat → List Ns → Prop}
    (hc : ∀ A2, RD w f2 r2 ek D2 bs2 Ts2 A2 → Calls Tryz.prog fn args w fun y w' => ∃ D' bs' Ts' A2', Q y D' bs' Ts' ∧ RD w' f2 r2 ek D' bs' Ts' A2' ∧ Stp w w' A2 A2') :
    Calls Tryz.prog fn args w fun y w' => ∃ D' bs' Ts' A', Q y D' bs' Ts' ∧ BD w' m f r f2 r2 ek D bs Ts k D' bs' Ts' A' ∧ Stp w w' A A' := by
  obtain ⟨A1, A2, h1, h2, h3, h4, h5⟩ := h.both
  refine (hc A2 h2).mono ?_
  rintro y w' ⟨D', bs', Ts', A2', hq, h2', st⟩
  have hst : Stp w w' A (fun i => A i ∨ (w.heap.size ≤ i ∧ i < w'.heap.size)) := ⟨st.wt.mono h5, fun i hi => by
    rcases hi with hi | hi
    · exact .inl hi
    · exact .inr hi.1⟩
  have ht : ∀ i, A1 i → ¬ A2 i ∧ i < w.heap.size := fun i hi => ⟨h3 i hi, h.lt i (h4 i hi)⟩
  refine ⟨D', bs', Ts', _, hq, ⟨⟨A1, A2', h1.keep (fun i hi => st.keep ht i hi) st.wt.size (hst.cellKept h.ml h.mn).1 (hst.cellKept h.er h.en).1, h2', fun i hi hi2 => (st.apart ht i hi).1 hi2, fun i hi => .inl (h4 i hi), fun i hi => ?_⟩, fun i hi => ?_, (hst.cellKept h.ml h.mn).2, (hst.cellKept h.er h.en).2⟩, hst⟩
  · rcases st.own i hi with e | e
    · exact .inl (h5 i e)
    · exact .inr ⟨e, h2'.lt i hi⟩
  · rcases hi with hi | hi
    · exact Nat.lt_of_lt_of_le (h.lt i hi) st.wt.size
    · exact hi.2
/-- A block beside both. -/
structure ND (w : World) (J : Nat) (xs : Array Value) (m : Int) (f r f2 r2 : Nat) (ek : Nat × Nat) (D : DS) (bs : List Nat) (Ts : List Ns) (k : Nat) (D2 : DS) (bs2 : List Nat) (Ts2 : List Ns) (A : Nat → Prop) : Prop where
  bd : BD w m f r f2 r2 ek D bs Ts k D2 bs2 Ts2 A
  blk : w.heap[J]? = some (.cells xs 78)
  off : ¬ A J
theorem ND.new (h : BD w m f r f2 r2 ek D bs Ts k D2 bs2 Ts2 A) (xs : Array Value) : ND (w.alloc (.cells xs 78)) w.heap.size xs m f r f2 r2 ek D bs Ts k D2 bs2 Ts2 A := by
  refine ⟨h.below ((Below.refl _ _).alloc (Nat.le_refl _) _), ?_, fun z => by have := h.lt _ z; omega⟩
  show (w.heap.push _)[w.heap.size]? = _
  rw [Array.getElem?_push, if_pos rfl]
theorem ND.cell {J : Nat} {xs : Array Value} (h : ND w J xs m f r f2 r2 ek D bs Ts k D2 bs2 Ts2 A) (o : Nat) : w.cell? ⟨J, o, none⟩ = xs[o]? := by
  rw [cell_of_row _ _ _ _ _ _ h.blk]
theorem ND.below {J : Nat} {xs : Array Value} (h : ND w J xs m f r f2 r2 ek D bs Ts k D2 bs2 Ts2 A) (hb : Below w.heap.size w w') : ND w' J xs m f r f2 r2 ek D bs Ts k D2 bs2 Ts2 A :=
  ⟨h.bd.below hb, (hb.block J (Array.getElem?_eq_some_iff.1 h.blk).1).trans h.blk, h.off⟩
theorem ND.step {J : Nat} {xs : Array Value} {D' D2' : DS} {bs' bs2' : List Nat} {Ts' Ts2' : List Ns} (h : ND w J xs m f r f2 r2 ek D bs Ts k D2 bs2 Ts2 A) (h' : BD w' m f r f2 r2 ek D' bs' Ts' k' D2' bs2' Ts2' A') (st : Stp w w' A A') : ND w' J xs m f r f2 r2 ek D' bs' Ts' k' D2' bs2' Ts2' A' := by
  have hJ : J < w.heap.size := (Array.getElem?_eq_some_iff.1 h.blk).1
  obtain ⟨h1, h2⟩ := st.apart (P := fun i => i = J) (fun i e => by subst e; exact ⟨h.off, hJ⟩) J rfl
  exact ⟨h', (st.keep (P := fun i => i = J) (fun i e => by subst e; exact ⟨h.off, hJ⟩) J rfl).trans h.blk, h1⟩
/-- The program's call of one table. -/
theorem ND.P {J : Nat} {xs : Array Value} (h : ND w J xs m f r f2 r2 ek D bs Ts k D2 bs2 Ts2 A) {fn : FuncId} {args : Array Value} {Q : Ending → DS → Ns → Prop}
    (hc : ∀ A1, KD w m f r D bs Ts k A1 → Calls Tryz.prog fn args w fun y w' => ∃ D' N' A1', Q y D' N' ∧ KD w' m f r D' bs (Ts.set j N') k' A1' ∧ Stp w w' A1 A1') :
    Calls Tryz.prog fn args w fun y w' => ∃ D' N' A', Q y D' N' ∧ ND w' J xs m f r f2 r2 ek D' bs (Ts.set j N') k' D2 bs2 Ts2 A' ∧ Stp w w' A A' := by
  refine (h.bd.callP (k' := k') (Q := fun y D' bs' Ts' => ∃ N', Q y D' N' ∧ bs' = bs ∧ Ts' = Ts.set j N') (fun A1 h1 => (hc A1 h1).mono ?_)).mono ?_
  · rintro y w' ⟨D', N', A1', hq, h1', st⟩
    exact ⟨D', bs, _, A1', ⟨N', hq, rfl, rfl⟩, h1', st⟩
  · rintro y w' ⟨D', bs', Ts', A', ⟨N', hq, rfl, rfl⟩, h', st⟩
    exact ⟨D', N', A', hq, h.step h' st, st⟩
theorem ND.R {J : Nat} {xs : Array Value} (h : ND w J xs m f r f2 r2 ek D bs Ts k D2 bs2 Ts2 A) {fn : FuncId} {args : Array Value} {Q : Ending → DS → Ns → Prop}
    (hc : ∀ A2, RD w f2 r2 ek D2 bs2 Ts2 A2 → Calls Tryz.prog fn args w fun y w' => ∃ D' N' A2', Q y D' N' ∧ RD w' f2 r2 ek D' bs2 (Ts2.set j N') A2' ∧ Stp w w' A2 A2') :
    Calls Tryz.prog fn args w fun y w' => ∃ D' N' A', Q y D' N' ∧ ND w' J xs m f r f2 r2 ek D bs Ts k D' bs2 (Ts2.set j N') A' ∧ Stp w w' A A' := by
  refine (h.bd.callR (Q := fun y D' bs' Ts' => ∃ N', Q y D' N' ∧ bs' = bs2 ∧ Ts' = Ts2.set j N') (fun A2 h2 => (hc A2 h2).mono ?_)).mono ?_
  · rintro y w' ⟨D', N', A2', hq, h2', st⟩
    exact ⟨D', bs2, _, A2', ⟨N', hq, rfl, rfl⟩, h2', st⟩
  · rintro y w' ⟨D', bs', Ts', A', ⟨N', hq, rfl, rfl⟩, h', st⟩
    exact ⟨D', N', A', hq, h.step h' st, st⟩
/-- What an item leaves. -/
def Nxd (w : World) (m : Int) (f r f2 r2 : Nat) (ek : Nat × Nat) (D : DS) (bs bs2 : List Nat) (_Ts : List Ns) (k : Nat) (A : Nat → Prop) (w' : World) : Prop :=
  ∃ D' Ts' A', BD w' m f r f2 r2 ek D' bs Ts' (k + 2) D' bs2 Ts' A' ∧ Stp w w' A A' ∧ D'.nx ≤ D.nx + 3
theorem PipeO.one {N : Ns} {n : Nat} {x y c x' y' c' : Int} {E E' : DS} {L L' : Ns} (h : PipeO D N n x y c E L) (h' : PipeO D N n x' y' c' E' L') : x = x' ∧ y = y' ∧ c = c' ∧ E = E' ∧ L = L' := by
  rcases h with ⟨a, rfl, rfl, rfl, rfl, rfl⟩ | ⟨a, rfl, rfl, rfl, rfl, rfl⟩
  · rcases h' with ⟨b, rfl, rfl, rfl, rfl, rfl⟩ | ⟨b, _⟩
    · exact ⟨rfl, rfl, rfl, rfl, rfl⟩
    · exact absurd a b
  · rcases h' with ⟨b, _⟩ | ⟨b, rfl, rfl, rfl, rfl, rfl⟩
    · exact absurd b a
    · exact ⟨rfl, rfl, rfl, rfl, rfl⟩
theorem BD.more {k9 : Nat} (h : BD w m f r f2 r2 ek D bs Ts k D2 bs2 Ts2 A) (hk : k ≤ k9) : BD w m f r f2 r2 ek D bs Ts k9 D2 bs2 Ts2 A := by
  obtain ⟨A1, A2, h1, h2, h3, h4, h5⟩ := h.both
  exact ⟨⟨A1, A2, ⟨h1.st, h1.len, h1.nd, h1.bsA, h1.inv.more hk, h1.lt, h1.ml, h1.mn, h1.er, h1.en⟩, h2, h3, h4, h5⟩, h.lt, h.mn, h.en⟩
end
end Go.Proofs.YtjkneekfijibiabGreatDoor

namespace Go.Proofs.YtjkneekfijibiabGreatDoor
open Go.RowKit Go.Maps

abbrev zeroN : Ns := List.replicate 8 (0, false)
/-- Files and tables, all newer than w0. -/
def KW (w0 w : World) (m : Int) (f r : Nat) (D : DS) (bs : List Nat) (Ts : List Ns) (k : Nat) : Prop := ∃ A, KD w m f r D bs Ts k A ∧ (∀ i, A i → w0.heap.size ≤ i) ∧ Below w0.heap.size w0 w
section
variable {w w' w2 w0 w1 : World} {f r b n k k' j : Nat} {D D' : DS} {g g' : QG} {bs : List Nat} {Ts Ts' : List Ns} {M N N' : Ns} {d m : Int} {A A' : Nat → Prop}
theorem KW.step (hA : ∀ i, A i → w0.heap.size ≤ i) (hb : Below w0.heap.size w0 w) (h' : KD w' m f r D' bs Ts' k' A') (st : Stp w w' A A') : KW w0 w' m f r D' bs Ts' k' := by
  refine ⟨A', h', fun i hi => ?_, ⟨st.wt.os.trans hb.os, st.wt.tape.trans hb.tape, st.wt.output.trans hb.output, Nat.le_trans hb.size st.wt.size, fun i hi => ?_⟩⟩
  · rcases st.own i hi with z | z
    · exact hA i z
    · exact Nat.le_trans hb.size z
  · rw [st.wt.block i (Nat.lt_of_lt_of_le hi hb.size) (fun z => by have := hA i z; omega)]
    exact hb.block i hi
theorem KW.below (h : KW w0 w m f r D bs Ts k) (hb : Below w.heap.size w w') : KW w0 w' m f r D bs Ts k := by
  obtain ⟨A, h1, h2, h3⟩ := h
  exact ⟨A, h1.below hb, h2, h3.trans (hb.mono h3.size)⟩
/-- Nothing is open. -/
theorem Inv.none {T : Wd} {k : Nat} (hT : TrLv T) (hs : Sm k T) : Inv (noneD T) [] k :=
  ⟨⟨noneD_given T, hT, hs, fun d e h => (by cases h), fun d _ => by simp [noneD, cntS], fun d _ => by simp [noneD, cntS]⟩, fun N hN => (by cases hN), by simp⟩
theorem sm_null : Sm 0 nullT := ⟨fun i C e => by
  obtain ⟨_, e9⟩ := nullT_node e; cases e9; simp, fun i b x e => by
  obtain ⟨_, e9⟩ := nullT_node e; cases e9⟩
theorem KW.first (w : World) (hm : w.cell? ⟨2, 0, none⟩ = some (.int .i64 m)) (he : w.cell? ⟨0, 0, none⟩ = some errT) :
    Calls Tryz.prog 9 #[] w fun y w' => ∃ r, y = .returned (wp r) ∧ Below w.heap.size w w' ∧ Calls Tryz.prog 27 #[wp r] w' fun y w2 => ∃ f, y = .returned (.tuple #[wp f, .nilIface]) ∧ KW w w2 m f r (noneD nullT) [] [] 0 := by
  refine (new_ok w).mono ?_
  rintro y w1 ⟨r, O, rfl, p1, b1, hO⟩
  refine ⟨r, rfl, b1, (QNew.ok p1).mono ?_⟩
  rintro y w2 ⟨f, g, rfl, q, hk, hr, b2⟩
  have bb := b1.trans (b2.mono b1.size)
  have hA : ∀ i, (g.kap i).isSome = true → w.heap.size ≤ i := fun i hi => by
    by_cases e1 : i < w1.heap.size
    · exact hO i ((hk i e1).1 hi)
    · have := b1.size; omega
  have hml := World.block_lt_of_cell? w _ hm
  have hel := World.block_lt_of_cell? w _ he
  refine ⟨f, rfl, fun i => (g.kap i).isSome = true, ⟨⟨g, 0, q, hr, fun j h => (by simp at h), fun i hi => hi⟩, rfl, List.nodup_nil, fun b hb => (by cases hb), Inv.none nullT_lv sm_null, fun i hi => q.lt i hi, cell_below hm bb, fun z => ?_, cell_below he bb, fun z => ?_⟩, hA, bb⟩
  · have := hA _ z
    simp only at hml
    omega
  · have := hA _ z
    simp only at hel
    omega
/-- A table more. -/
theorem cntN_zero {d : Int} (hd : 0 < d) : cntN d zeroN = 0 := by
  unfold cntN
  rw [List.length_eq_zero_iff, List.filter_eq_nil_iff]
  intro x hx
  rw [List.eq_of_mem_replicate hx]
  simp; omega
theorem KD.table (h1 : KD w m f r D bs Ts k A) (hf : Ts.length < 8) : KD (w.alloc (.cells (nv zeroN).toArray 69)) m f r D (bs ++ [w.heap.size]) (Ts ++ [zeroN]) k (fun i => A i ∨ i = w.heap.size) := by
  have bA : Below w.heap.size w (w.alloc (.cells (nv zeroN).toArray 69)) := (Below.refl _ w).alloc (Nat.le_refl _) _
  have hsz : (w.alloc (.cells (nv zeroN).toArray 69)).heap.size = w.heap.size + 1 := by show (w.heap.push _).size = _; rw [Array.size_push]
  have hn : (w.alloc (.cells (nv zeroN).toArray 69)).heap[w.heap.size]? = some (.cells (nv zeroN).toArray 69) := by
    show (w.heap.push _)[w.heap.size]? = _
    rw [Array.getElem?_push, if_pos rfl]
  obtain ⟨g, n, q, hr, ht, hk⟩ := h1.st
  have h2 := h1.below bA
  have hml := World.block_lt_of_cell? _ _ h1.ml
  have hel := World.block_lt_of_cell? _ _ h1.er
  simp only at hml hel
  have hz : QTb (w.alloc (.cells (nv zeroN).toArray 69)) w.heap.size g zeroN zeroN := by
    refine ⟨⟨hn, rfl, fun x hx => ?_⟩, kap_new q, rfl, fun i h1 h2 => ?_⟩
    · rw [List.eq_of_mem_replicate hx]; simp
    · have e1 : (zeroN)[i] = (0, false) := List.eq_of_mem_replicate (List.getElem_mem h1)
      exact ⟨rfl, .inl ⟨congrArg Prod.fst e1, congrArg Prod.fst e1⟩⟩
  refine ⟨⟨g, n, q.below bA, hr, fun x hx hx' => ?_, fun i hi => .inl (hk i hi)⟩, by rw [List.length_append, List.length_append, h1.len]; rfl, ?_, fun b hb => ?_, ⟨h1.inv.core.congr (fun d hd => ?_), fun N hN => ?_, by rw [List.length_append]; simp; omega⟩, fun i hi => ?_, h2.ml, fun z => ?_, h2.er, fun z => ?_⟩
  · by_cases e1 : x < bs.length
    · have e2 : x < Ts.length := by rw [← h1.len]; exact e1
      rw [List.getElem_append_left e1, List.getElem_append_left e2]
      obtain ⟨Mx, tx⟩ := ht x e1 e2
      exact ⟨Mx, tx.below bA⟩
    · have e3 : x = bs.length := by rw [List.length_append] at hx; simp at hx; omega
      have e4 := h1.len
      subst e3
      rw [List.getElem_concat_length rfl]
      have : (Ts ++ [zeroN])[bs.length]'hx' = zeroN := by
        rw [List.getElem_append_right (by omega)]
        simp
      rw [this]
      exact ⟨zeroN, hz⟩
  · rw [List.nodup_append]
    exact ⟨h1.nd, by simp, fun a ha b hb e => by rw [List.mem_singleton.1 hb] at e; have := h1.lt a (h1.bsA a ha); omega⟩
  · rcases List.mem_append.1 hb with z | z
    · exact .inl (h1.bsA b z)
    · exact .inr (List.mem_singleton.1 z)
  · have := cntN_zero hd
    simp only [cntS, List.map_append, List.sum_append, List.map_cons, List.map_nil, List.sum_cons, List.sum_nil]
    omega
  · rcases List.mem_append.1 hN with z | z
    · exact h1.inv.tab N z
    · rw [List.mem_singleton.1 z]
      exact ⟨rfl, fun x hx => by rw [List.eq_of_mem_replicate hx]; simp⟩
  · rw [hsz]
    rcases hi with z | z
    · have := h1.lt i z; omega
    · omega
  · rcases z with z | z
    · exact h1.mn z
    · omega
  · rcases z with z | z
    · exact h1.en z
    · omega
theorem KW.table (h : KW w0 w m f r D bs Ts k) (hf : Ts.length < 8) : KW w0 (w.alloc (.cells (nv zeroN).toArray 69)) m f r D (bs ++ [w.heap.size]) (Ts ++ [zeroN]) k := by
  obtain ⟨A, h1, hA, hb⟩ := h
  have bA : Below w.heap.size w (w.alloc (.cells (nv zeroN).toArray 69)) := (Below.refl _ w).alloc (Nat.le_refl _) _
  refine ⟨_, h1.table hf, fun i hi => ?_, hb.trans (bA.mono hb.size)⟩
  rcases hi with z | z
  · exact hA i z
  · have := hb.size; omega
end
end Go.Proofs.YtjkneekfijibiabGreatDoor

namespace Go.Proofs.YtjkneekfijibiabGreatDoor
open Go.RowKit Go.Maps Go.Lib Go.Sort

theorem orow_keep {w w' : World} {base : Nat} {T : TypeId} {v : Value} {n : Nat} {xs : List Value} (h : w.ownsRow base T 1 v n xs) (hk : ∀ g, v.ownBlock = some g → g < w.heap.size → w'.heap[g]? = w.heap[g]?) : w'.ownsRow base T 1 v n xs := by
  refine ⟨h.1, ?_⟩
  rcases h.2 with h0 | ⟨g, cap, cur, e, hN, hg, rest⟩
  · exact .inl h0
  · exact .inr ⟨g, cap, cur, e, hN, (hk g (by rw [e]; rfl) (lt_of_heap hg)).trans hg, rest⟩
theorem orow_block {w : World} {base : Nat} {T : TypeId} {v : Value} {n : Nat} {xs : List Value} (h : w.ownsRow base T 1 v n xs) {g : Nat} (hv : v.ownBlock = some g) : base ≤ g ∧ ∃ cur, w.heap[g]? = some (.cells cur T) := by
  rcases h.2 with ⟨rfl, _⟩ | ⟨g', cap, cur, e, hN, hg, _⟩
  · cases hv
  · rw [e] at hv; cases hv; exact ⟨hN, cur, hg⟩
theorem orow_read {w : World} {base : Nat} {T : TypeId} {v : Value} {n : Nat} {xs : List Value} (h : w.ownsRow base T 1 v n xs) (hp : 0 < n) : ∃ g cap, v = .slice (some ⟨g, 0, none⟩) n cap ∧ n ≤ cap ∧ g < w.heap.size ∧ ∀ j, j < n → w.cell? ⟨g, j, none⟩ = xs[j]? := by
  rcases h.2 with ⟨_, h0⟩ | ⟨g, cap, cur, e, hN, hg, h1, h2, h3, h4⟩
  · omega
  · refine ⟨g, cap, e, h1, lt_of_heap hg, fun j hj => ?_⟩
    rw [cell_of_row w g j _ _ _ hg, ← Array.getElem?_toList, ← h4, Nat.mul_one, List.getElem?_take, if_pos hj]

/-- append: its own law, and: the cells that were there stay, also where the list has moved. -/
theorem append_stays {P : Program} (w : World) (base : Nat) (t ty e : TypeId) (i : TypeInfo) (z : Value) (bytes : Nat) (ht : P.underlying t = some (.slice e)) (hi : P.info? e = some i) (hz : i.zero = some z)
    (hsize : i.size = 1) (hby : i.bytes = bytes) (hzs : z.cells.size = 1)
    (v : Value) (n : Nat) (xs : List Value) (hown : w.ownsRow base e 1 v n xs)
    (a : Addr) (c : Nat) (u : Value) (hnews : w.cell? a = some u) (h1 : u.oneCell' = true)
    (h63 : n + 1 ≤ maxLen) (hbytes : (n + 1) * bytes ≤ 140737488355328) (hbase : base ≤ w.heap.size) :
    ∃ v' w', (Builtin.append_ #[t, t] ty #[v, .slice (some a) 1 c]).run P w = .ok v' w' ∧ w'.ownsRow base e 1 v' (n + 1) (xs ++ [u]) ∧ w.grownBy w' v.ownBlock ∧ (v'.ownBlock = v.ownBlock ∨ v'.ownBlock = some w.heap.size) ∧ ∀ g j, v.ownBlock = some g → j < n → w'.cell? ⟨g, j, none⟩ = w.cell? ⟨g, j, none⟩ := by
  have hn : ∀ j x, [u][j]? = some x → w.cell? (a.add j) = some x := by
    intro j x hx
    cases j with
    | zero => simp at hx; subst hx; rw [show a.add 0 = a by simp [Addr.add]]; exact hnews
    | succ j => simp at hx
  have h1' : ∀ x ∈ [u], x.oneCell' = true := by intro x hx; rw [List.mem_singleton.1 hx]; exact h1
  obtain ⟨v', w', hr, o, g, _, b⟩ := run_append_own_at (P := P) w base t ty e i z 1 bytes ht hi hz hsize hby hzs (by decide) v n xs hown a 1 c [u] rfl hn h1' h63 hbytes hbase
  refine ⟨v', w', hr, o, g, b, fun g0 j hv hj => ?_⟩
  obtain ⟨g1, cap, hv1, hc1, hg1, hcl⟩ := orow_read hown (by omega)
  have e0 : g1 = g0 := by rw [hv1] at hv; cases hv; rfl
  subst e0
  by_cases hb : v'.ownBlock = v.ownBlock
  · obtain ⟨g2, cap2, hv2, _, _, hcl2⟩ := orow_read o (by omega)
    have e2 : g2 = g1 := by
      rw [hv2, hv] at hb
      exact Option.some.inj hb
    subst e2
    rw [hcl j hj, hcl2 j (by omega), List.getElem?_append_left (by have := hown.1; omega)]
  · subst hby
    have hsize' := hsize
    rcases hown.2 with ⟨hv0, _⟩ | ⟨g', cap', cur, hv3, hbg, hg, hnc, hcm, hcs, htake⟩
    · rw [hv0] at hv; cases hv
    · have e3 : g' = g1 := by rw [hv3] at hv; cases hv; rfl
      subst e3
      by_cases hroom : n + 1 ≤ cap'
      · exfalso
        have hr2 := run_append_room (P := P) w t ty e i ht hi g' n cap' cur hg a 1 c [u] (by rw [hsize']; rfl) hn h1' hroom (by rw [hcs, hsize']; simp; omega)
        rw [hv3] at hr
        rw [hr2] at hr
        cases hr
        exact hb (by rw [hv3]; rfl)
      · have hr2 := run_append_grow (P := P) w t ty e i z ht hi hz ⟨g', 0, none⟩ n cap' xs (by rw [hsize']; exact hown.1) (hown.cells (g := g') (by rw [hv3]; rfl)) a 1 c [u] (by rw [hsize']; rfl) hn (by omega) (by simp only [maxLen] at h63; omega) (growslice_fits (by omega) hbytes)
        rw [hv3] at hr
        rw [hr2] at hr
        cases hr
        exact World.cell?_alloc_lt _ _ ⟨g', j, none⟩ hg1

/-- The same heap. -/
structure Sam (w W : World) : Prop where
  heap : W.heap = w.heap
  os : W.os = w.os
  tape : W.tape = w.tape
  output : W.output = w.output
theorem Sam.below {w W : World} (h : Sam w W) (s : Nat) : Below s w W := ⟨h.os, h.tape, h.output, by rw [h.heap]; exact Nat.le_refl _, fun i _ => by rw [h.heap]⟩
end Go.Proofs.YtjkneekfijibiabGreatDoor

namespace Go.Proofs.YtjkneekfijibiabGreatDoor
open Go.RowKit Go.Maps Go.Lib Go.Sort

/-- Both sides; C: cells that stay (block, place, value); the lists v1, v2 hold cs, ds. -/
structure BL (w0 : World) (C : List (Nat × Nat × Value)) (w : World) (m : Int) (f r f2 r2 : Nat) (ek : Nat × Nat) (D : DS) (bs : List Nat) (Ts : List Ns) (k : Nat) (D2 : DS) (bs2 : List Nat) (Ts2 : List Ns) (v1 v2 : Value) (cs ds : List Nat) : Prop where
  st : ∃ A, BD w m f r f2 r2 ek D bs Ts k D2 bs2 Ts2 A ∧ (∀ i, A i → w0.heap.size ≤ i) ∧ (∀ i, v1.ownBlock = some i → ¬ A i) ∧ (∀ i, v2.ownBlock = some i → ¬ A i) ∧ ∀ c ∈ C, ¬ A c.1
  bel : Below w0.heap.size w0 w
  r1 : w.ownsRow w0.heap.size 64 1 v1 cs.length (cs.map wp)
  r2 : w.ownsRow w0.heap.size 71 1 v2 ds.length (ds.map wp)
  cell : ∀ c ∈ C, w.cell? ⟨c.1, c.2.1, none⟩ = some c.2.2
  c1 : ∀ c ∈ C, v1.ownBlock = some c.1 → c.2.1 < cs.length
  c2 : ∀ c ∈ C, v2.ownBlock = some c.1 → c.2.1 < ds.length
  mlt : 2 < w0.heap.size
  elt : 0 < w0.heap.size

section
variable {w0 w w' W : World} {C C' : List (Nat × Nat × Value)} {m : Int} {f r f2 r2 k k' j : Nat} {D D' D2 D2' : DS} {bs bs2 bs' bs2' cs ds : List Nat} {Ts Ts2 Ts' Ts2' : List Ns} {v1 v2 v' : Value} {A A' : Nat → Prop} {ek : Nat × Nat}

theorem BD.keep (h : BD w m f r f2 r2 ek D bs Ts k D2 bs2 Ts2 A) (hk : ∀ i, A i → w'.heap[i]? = w.heap[i]?) (hs : w.heap.size ≤ w'.heap.size) (hm : w'.heap[2]? = w.heap[2]?) (he : w'.heap[0]? = w.heap[0]?) : BD w' m f r f2 r2 ek D bs Ts k D2 bs2 Ts2 A := by
  obtain ⟨A1, A2, h1, h2, h3, h4, h5⟩ := h.both
  exact ⟨⟨A1, A2, h1.keep (fun i hi => hk i (h4 i hi)) hs ((World.cell?_of_block (w := w) (a := ⟨_, 0, none⟩) hm).trans h1.ml) ((World.cell?_of_block (w := w) (a := ⟨_, 0, none⟩) he).trans h1.er), h2.keep (fun i hi => hk i (h5 i hi)) hs, h3, h4, h5⟩, fun i hi => Nat.lt_of_lt_of_le (h.lt i hi) hs, h.mn, h.en⟩

theorem BL.len (h : BL w0 C w m f r f2 r2 ek D bs Ts k D2 bs2 Ts2 v1 v2 cs ds) : bs.length = Ts.length ∧ bs2.length = Ts2.length := by
  obtain ⟨A, hb, _⟩ := h.st; exact hb.len
theorem BL.inv (h : BL w0 C w m f r f2 r2 ek D bs Ts k D2 bs2 Ts2 v1 v2 cs ds) : Inv D Ts k := by
  obtain ⟨A, hb, _⟩ := h.st; exact hb.inv
theorem BL.er (h : BL w0 C w m f r f2 r2 ek D bs Ts k D2 bs2 Ts2 v1 v2 cs ds) : w.cell? ⟨0, 0, none⟩ = some errT := by
  obtain ⟨A, hb, _⟩ := h.st; exact hb.er
theorem BL.ml (h : BL w0 C w m f r f2 r2 ek D bs Ts k D2 bs2 Ts2 v1 v2 cs ds) : w.cell? ⟨2, 0, none⟩ = some (.int .i64 m) := by
  obtain ⟨A, hb, _⟩ := h.st; exact hb.ml
theorem BL.more (h : BL w0 C w m f r f2 r2 ek D bs Ts k D2 bs2 Ts2 v1 v2 cs ds) (hk : k ≤ k') : BL w0 C w m f r f2 r2 ek D bs Ts k' D2 bs2 Ts2 v1 v2 cs ds := by
  obtain ⟨A, hb, h1, h2, h3, h4⟩ := h.st
  exact ⟨⟨A, hb.more hk, h1, h2, h3, h4⟩, h.bel, h.r1, h.r2, h.cell, h.c1, h.c2, h.mlt, h.elt⟩
theorem BL.sub (h : BL w0 C w m f r f2 r2 ek D bs Ts k D2 bs2 Ts2 v1 v2 cs ds) (hC : ∀ c ∈ C', c ∈ C) : BL w0 C' w m f r f2 r2 ek D bs Ts k D2 bs2 Ts2 v1 v2 cs ds := by
  obtain ⟨A, hb, h1, h2, h3, h4⟩ := h.st
  exact ⟨⟨A, hb, h1, h2, h3, fun c hc => h4 c (hC c hc)⟩, h.bel, h.r1, h.r2, fun c hc => h.cell c (hC c hc), fun c hc => h.c1 c (hC c hc), fun c hc => h.c2 c (hC c hc), h.mlt, h.elt⟩
/-- A step that keeps all but A. -/
theorem BL.of (h : BL w0 C w m f r f2 r2 ek D bs Ts k D2 bs2 Ts2 v1 v2 cs ds) (hA : ∀ i, A i → w0.heap.size ≤ i) (hv1 : ∀ i, v1.ownBlock = some i → ¬ A i) (hv2 : ∀ i, v2.ownBlock = some i → ¬ A i) (hC : ∀ c ∈ C, ¬ A c.1) (hb : BD w' m f r f2 r2 ek D' bs' Ts' k' D2' bs2' Ts2' A') (st : Stp w w' A A') : BL w0 C w' m f r f2 r2 ek D' bs' Ts' k' D2' bs2' Ts2' v1 v2 cs ds := by
  have hs := h.bel.size
  have hlt1 : ∀ i, v1.ownBlock = some i → i < w.heap.size := fun i hi => by obtain ⟨_, c, hc⟩ := orow_block h.r1 hi; exact lt_of_heap hc
  have hlt2 : ∀ i, v2.ownBlock = some i → i < w.heap.size := fun i hi => by obtain ⟨_, c, hc⟩ := orow_block h.r2 hi; exact lt_of_heap hc
  have hltC : ∀ c ∈ C, c.1 < w.heap.size := fun c hc => World.block_lt_of_cell? w _ (h.cell c hc)
  have off : ∀ i, i < w.heap.size → ¬ A i → ¬ A' i := fun i hi hn ha => by
    rcases st.own i ha with z | z
    · exact hn z
    · omega
  refine ⟨⟨A', hb, fun i hi => ?_, fun i hi => off i (hlt1 i hi) (hv1 i hi), fun i hi => off i (hlt2 i hi) (hv2 i hi), fun c hc => off _ (hltC c hc) (hC c hc)⟩, ⟨st.wt.os.trans h.bel.os, st.wt.tape.trans h.bel.tape, st.wt.output.trans h.bel.output, Nat.le_trans hs st.wt.size, fun i hi => ?_⟩, orow_keep h.r1 (fun g hg hl => st.wt.block g hl (hv1 g hg)), orow_keep h.r2 (fun g hg hl => st.wt.block g hl (hv2 g hg)), fun c hc => ?_, h.c1, h.c2, h.mlt, h.elt⟩
  · rcases st.own i hi with z | z
    · exact hA i z
    · omega
  · rw [st.wt.block i (by omega) (fun z => by have := hA i z; omega)]; exact h.bel.block i hi
  · rw [World.cell?_of_block (w := w) (a := ⟨c.1, c.2.1, none⟩) (st.wt.block _ (hltC c hc) (hC c hc))]; exact h.cell c hc
theorem BL.call (h : BL w0 C w m f r f2 r2 ek D bs Ts k D2 bs2 Ts2 v1 v2 cs ds) {fn : FuncId} {args : Array Value} {Q : Ending → DS → List Nat → List Ns → DS → List Nat → List Ns → Prop}
    (hc : ∀ A, BD w m f r f2 r2 ek D bs Ts k D2 bs2 Ts2 A → Calls Tryz.prog fn args w fun y w' => ∃ D' bs' Ts' D2' bs2' Ts2' A', Q y D' bs' Ts' D2' bs2' Ts2' ∧ BD w' m f r f2 r2 ek D' bs' Ts' k' D2' bs2' Ts2' A' ∧ Stp w w' A A') :
    Calls Tryz.prog fn args w fun y w' => ∃ D' bs' Ts' D2' bs2' Ts2', Q y D' bs' Ts' D2' bs2' Ts2' ∧ BL w0 C w' m f r f2 r2 ek D' bs' Ts' k' D2' bs2' Ts2' v1 v2 cs ds := by
  obtain ⟨A, hb, h1, h2, h3, h4⟩ := h.st
  refine (hc A hb).mono ?_
  rintro y w' ⟨D', bs', Ts', D2', bs2', Ts2', A', hq, hb', st⟩
  exact ⟨D', bs', Ts', D2', bs2', Ts2', hq, h.of h1 h2 h3 h4 hb' st⟩
theorem BL.below (h : BL w0 C w m f r f2 r2 ek D bs Ts k D2 bs2 Ts2 v1 v2 cs ds) (hb : Below w.heap.size w w') : BL w0 C w' m f r f2 r2 ek D bs Ts k D2 bs2 Ts2 v1 v2 cs ds := by
  obtain ⟨A, b, h1, h2, h3, h4⟩ := h.st
  exact h.of h1 h2 h3 h4 (b.below hb) ⟨⟨hb.os, hb.tape, hb.output, hb.size, fun i hi _ => hb.block i hi⟩, fun i hi => .inl hi⟩
theorem BL.to0 (h : BL w0 C w m f r f2 r2 ek D bs Ts k D2 bs2 Ts2 v1 v2 cs ds) (hs : Sam w W) : BL w0 C W m f r f2 r2 ek D bs Ts k D2 bs2 Ts2 v1 v2 cs ds := h.below (hs.below _)
/-- New cells. -/
theorem BL.to1 (h : BL w0 C w m f r f2 r2 ek D bs Ts k D2 bs2 Ts2 v1 v2 cs ds) (x : Value) (T : TypeId) (hs : Sam (w.alloc (.cells #[x] T)) W) : BL w0 ((w.heap.size, 0, x) :: C) W m f r f2 r2 ek D bs Ts k D2 bs2 Ts2 v1 v2 cs ds := by
  have b : Below w.heap.size w W := ((Below.refl _ w).alloc (Nat.le_refl _) (.cells #[x] T)).trans (hs.below _)
  have h' := h.below b
  obtain ⟨A, hb, h1, h2, h3, h4⟩ := h.st
  have hb' := h'
  obtain ⟨A9, _⟩ := h'.st
  have hlt1 : ∀ i, v1.ownBlock = some i → i < w.heap.size := fun i hi => by obtain ⟨_, c, hc⟩ := orow_block h.r1 hi; exact lt_of_heap hc
  have hlt2 : ∀ i, v2.ownBlock = some i → i < w.heap.size := fun i hi => by obtain ⟨_, c, hc⟩ := orow_block h.r2 hi; exact lt_of_heap hc
  refine ⟨⟨A, hb.below b, h1, h2, h3, fun c hc ha => ?_⟩, h'.bel, h'.r1, h'.r2, fun c hc => ?_, fun c hc hv => ?_, fun c hc hv => ?_, h.mlt, h.elt⟩
  · rcases List.mem_cons.1 hc with rfl | hc
    · have := hb.lt _ ha; simp at this
    · exact h4 c hc ha
  · rcases List.mem_cons.1 hc with rfl | hc
    · show W.cell? ⟨w.heap.size, 0, none⟩ = some x
      have : W.heap[w.heap.size]? = some (.cells #[x] T) := by
        rw [hs.heap]
        show (w.heap.push _)[w.heap.size]? = _
        rw [Array.getElem?_push, if_pos rfl]
      rw [cell_of_row _ _ _ _ _ _ this]; rfl
    · exact h'.cell c hc
  · rcases List.mem_cons.1 hc with rfl | hc
    · have := hlt1 _ hv; simp at this
    · exact h.c1 c hc hv
  · rcases List.mem_cons.1 hc with rfl | hc
    · have := hlt2 _ hv; simp at this
    · exact h.c2 c hc hv
theorem BL.to2 (h : BL w0 C w m f r f2 r2 ek D bs Ts k D2 bs2 Ts2 v1 v2 cs ds) (x y : Value) (T U : TypeId) (hs : Sam ((w.alloc (.cells #[x] T)).alloc (.cells #[y] U)) W) : BL w0 ((w.heap.size + 1, 0, y) :: (w.heap.size, 0, x) :: C) W m f r f2 r2 ek D bs Ts k D2 bs2 Ts2 v1 v2 cs ds := by
  have h1 := h.to1 x T ⟨rfl, rfl, rfl, rfl⟩
  have h2 := h1.to1 y U hs
  rw [show (w.alloc (.cells #[x] T)).heap.size = w.heap.size + 1 by show (w.heap.push _).size = _; rw [Array.size_push]] at h2
  exact h2
/-- Cells of the lists themselves. -/
theorem BL.in1 (h : BL w0 C w m f r f2 r2 ek D bs Ts k D2 bs2 Ts2 v1 v2 cs ds) {g : Nat} (hv : v1.ownBlock = some g) {j : Nat} (hj : j < cs.length) : BL w0 ((g, j, wp cs[j]) :: C) w m f r f2 r2 ek D bs Ts k D2 bs2 Ts2 v1 v2 cs ds := by
  obtain ⟨A, hb, h1, h2, h3, h4⟩ := h.st
  have hne : v2.ownBlock ≠ some g := fun e => by
    obtain ⟨_, a, ha⟩ := orow_block h.r1 hv
    obtain ⟨_, b, hb⟩ := orow_block h.r2 e
    rw [ha] at hb; simp at hb
  obtain ⟨g', cap, e, _, _, hcl⟩ := orow_read h.r1 (by omega)
  have e1 : g' = g := by rw [e] at hv; cases hv; rfl
  subst e1
  refine ⟨⟨A, hb, h1, h2, h3, fun c hc => ?_⟩, h.bel, h.r1, h.r2, fun c hc => ?_, fun c hc hv' => ?_, fun c hc hv' => ?_, h.mlt, h.elt⟩
  · rcases List.mem_cons.1 hc with rfl | hc
    · exact h2 _ hv
    · exact h4 c hc
  · rcases List.mem_cons.1 hc with rfl | hc
    · show w.cell? ⟨g', j, none⟩ = some (wp cs[j])
      rw [hcl j hj, List.getElem?_map, List.getElem?_eq_getElem hj]; rfl
    · exact h.cell c hc
  · rcases List.mem_cons.1 hc with rfl | hc
    · exact hj
    · exact h.c1 c hc hv'
  · rcases List.mem_cons.1 hc with rfl | hc
    · exact absurd hv' hne
    · exact h.c2 c hc hv'
theorem BL.in2 (h : BL w0 C w m f r f2 r2 ek D bs Ts k D2 bs2 Ts2 v1 v2 cs ds) {g : Nat} (hv : v2.ownBlock = some g) {j : Nat} (hj : j < ds.length) : BL w0 ((g, j, wp ds[j]) :: C) w m f r f2 r2 ek D bs Ts k D2 bs2 Ts2 v1 v2 cs ds := by
  obtain ⟨A, hb, h1, h2, h3, h4⟩ := h.st
  have hne : v1.ownBlock ≠ some g := fun e => by
    obtain ⟨_, a, ha⟩ := orow_block h.r2 hv
    obtain ⟨_, b, hb⟩ := orow_block h.r1 e
    rw [ha] at hb; simp at hb
  obtain ⟨g', cap, e, _, _, hcl⟩ := orow_read h.r2 (by omega)
  have e1 : g' = g := by rw [e] at hv; cases hv; rfl
  subst e1
  refine ⟨⟨A, hb, h1, h2, h3, fun c hc => ?_⟩, h.bel, h.r1, h.r2, fun c hc => ?_, fun c hc hv' => ?_, fun c hc hv' => ?_, h.mlt, h.elt⟩
  · rcases List.mem_cons.1 hc with rfl | hc
    · exact h3 _ hv
    · exact h4 c hc
  · rcases List.mem_cons.1 hc with rfl | hc
    · show w.cell? ⟨g', j, none⟩ = some (wp ds[j])
      rw [hcl j hj, List.getElem?_map, List.getElem?_eq_getElem hj]; rfl
    · exact h.cell c hc
  · rcases List.mem_cons.1 hc with rfl | hc
    · exact absurd hv' hne
    · exact h.c1 c hc hv'
  · rcases List.mem_cons.1 hc with rfl | hc
    · exact hj
    · exact h.c2 c hc hv'
end
end Go.Proofs.YtjkneekfijibiabGreatDoor

/- The greatest number that was given: what each call makes of it. -/
import Derived.Test.YtjkneekfijibiabGreatDoorRAll3
import Derived.Test.YtjkneekfijibiabGreatDoorSRow
import Derived.Test.YtjkneekfijibiabGreatDoorBare
import Derived.Deep.RegionHeld3
namespace Go.Proofs.YtjkneekfijibiabGreatDoor
open Go.RowKit Go.Maps

section
variable {D : DS}
theorem nx_close (D : DS) (d : Int) : (closeK D d).nx = D.nx := by
  unfold closeK
  split
  · split
    · rfl
    · split <;> rfl
  · rfl
theorem nx_free (all : Bool) (D : DS) (N : Ns) : ∀ i, (freeS all D N i).1.nx = D.nx
  | 0 => rfl
  | i + 1 => by
    rw [freeS]
    split
    · simp only; rw [nx_close]; exact nx_free all D N i
    · exact nx_free all D N i
theorem nx_file {N : Ns} {n s : Nat} {p : List UInt8} {pr : Int} {mk : Bool} {x c : Int} {D' : DS} {N' : Ns} (h : FileO D N n s p pr mk x c D' N') : D'.nx ≤ D.nx + 3 := by
  cases h <;> (try simp only [addD]) <;> omega
theorem nx_pipe {N : Ns} {n : Nat} {x y c : Int} {D' : DS} {N' : Ns} (h : PipeO D N n x y c D' N') : D'.nx ≤ D.nx + 3 := by
  rcases h with ⟨_, _, _, _, rfl, _⟩ | ⟨_, _, _, _, rfl, _⟩
  · omega
  · simp only [pipeD, pipeD1, pipeD0, addD]; omega
theorem nx_dup (D : DS) (N : Ns) (x : Int) : (dupD D N x).nx = D.nx := by unfold dupD; split <;> rfl
theorem nx_dup2 (D : DS) (N : Ns) (x y : Int) : (dup2D D N x y).nx = D.nx := by
  unfold dup2D
  split
  · split
    · rfl
    · rw [nx_close]; rfl
  · rfl
theorem nx_closeD (D : DS) (N : Ns) (x : Int) : (closeD D N x).nx = D.nx := by
  unfold closeD
  split
  · rw [nx_close]
  · rfl
theorem nx_seek (D : DS) (N : Ns) (x a : Int) : (seekD D N x a).nx = D.nx := by
  unfold seekD
  split
  · split <;> rfl
  · rfl
theorem nx_read (D : DS) (N : Ns) (x a : Int) : (readO D N x a).2.2.nx = D.nx := by
  unfold readO
  split
  · split
    · rfl
    · split
      · rfl
      · split
        · rfl
        · split <;> rfl
  · rfl
theorem nx_write (D : DS) (N : Ns) (x : Int) (s : List UInt8) (a : Int) : (writeO D N x s a).2.2.nx = D.nx := by
  unfold writeO
  split
  · split
    · rfl
    · split
      · rfl
      · split
        · split
          · rfl
          · split <;> rfl
        · split <;> rfl
  · rfl
end
end Go.Proofs.YtjkneekfijibiabGreatDoor

namespace Go.Proofs.YtjkneekfijibiabGreatDoor
open Go.RowKit Go.Maps

theorem bareV (c : Int) (w : World) (hg : w.cell? ⟨0, 0, none⟩ = some errT) : Calls Tryz.prog 28 #[uev c, .int .i64 c] w fun e w' => e = .returned (.bool true) ∧ Below w.heap.size w w' := by
  by_cases h : c = 0
  · subst h; exact bare_nil w
  · rw [uev_ne h]; exact bare_eno c w hg
/-- Both sides: the program's f, r, bs; the document's f2, r2, bs2; A: what is theirs. -/
structure BD (w : World) (m : Int) (f r f2 r2 : Nat) (ek : Nat × Nat) (D : DS) (bs : List Nat) (Ts : List Ns) (k : Nat) (D2 : DS) (bs2 : List Nat) (Ts2 : List Ns) (A : Nat → Prop) : Prop where
  both : ∃ A1 A2, KD w m f r D bs Ts k A1 ∧ RD w f2 r2 ek D2 bs2 Ts2 A2 ∧ (∀ i, A1 i → ¬ A2 i) ∧ (∀ i, A1 i → A i) ∧ ∀ i, A2 i → A i
  lt : ∀ i, A i → i < w.heap.size
  mn : ¬ A 2
  en : ¬ A 0
section
variable {w w' w1 w2 : World} {m : Int} {f r f2 r2 k k' j : Nat} {D D' D2 : DS} {bs bs2 bs' : List Nat} {Ts Ts2 Ts' : List Ns} {A A' : Nat → Prop} {ek : Nat × Nat}
theorem BD.ml (h : BD w m f r f2 r2 ek D bs Ts k D2 bs2 Ts2 A) : w.cell? ⟨2, 0, none⟩ = some (.int .i64 m) := by
  obtain ⟨A1, A2, h1, _⟩ := h.both; exact h1.ml
theorem BD.er (h : BD w m f r f2 r2 ek D bs Ts k D2 bs2 Ts2 A) : w.cell? ⟨0, 0, none⟩ = some errT := by
  obtain ⟨A1, A2, h1, _⟩ := h.both; exact h1.er
theorem BD.inv (h : BD w m f r f2 r2 ek D bs Ts k D2 bs2 Ts2 A) : Inv D Ts k := by
  obtain ⟨A1, A2, h1, _⟩ := h.both; exact h1.inv
theorem BD.len (h : BD w m f r f2 r2 ek D bs Ts k D2 bs2 Ts2 A) : bs.length = Ts.length ∧ bs2.length = Ts2.length := by
  obtain ⟨A1, A2, h1, h2, _⟩ := h.both; exact ⟨h1.len, h2.len⟩
theorem BD.below (h : BD w m f r f2 r2 ek D bs Ts k D2 bs2 Ts2 A) (hb : Below w.heap.size w w') : BD w' m f r f2 r2 ek D bs Ts k D2 bs2 Ts2 A := by
  obtain ⟨A1, A2, h1, h2, h3, h4, h5⟩ := h.both
  exact ⟨⟨A1, A2, h1.below hb, h2.below hb, h3, h4, h5⟩, fun i hi => Nat.lt_of_lt_of_le (h.lt i hi) hb.size, h.mn, h.en⟩
/-- A call of the program's. -/
theorem BD.callP (h : BD w m f r f2 r2 ek D bs Ts k D2 bs2 Ts2 A) {fn : FuncId} {args : Array Value} {Q : Ending → DS → List Nat → List Ns → Prop}
    (hc : ∀ A1, KD w m f r D bs Ts k A1 → Calls Tryz.prog fn args w fun y w' => ∃ D' bs' Ts' A1', Q y D' bs' Ts' ∧ KD w' m f r D' bs' Ts' k' A1' ∧ Stp w w' A1 A1') :
    Calls Tryz.prog fn args w fun y w' => ∃ D' bs' Ts' A', Q y D' bs' Ts' ∧ BD w' m f r f2 r2 ek D' bs' Ts' k' D2 bs2 Ts2 A' ∧ Stp w w' A A' := by
  obtain ⟨A1, A2, h1, h2, h3, h4, h5⟩ := h.both
  refine (hc A1 h1).mono ?_
  rintro y w' ⟨D', bs', Ts', A1', hq, h1', st⟩
  have hst : Stp w w' A (fun i => A i ∨ (w.heap.size ≤ i ∧ i < w'.heap.size)) := ⟨st.wt.mono h4, fun i hi => by
    rcases hi with hi | hi
    · exact .inl hi
    · exact .inr hi.1⟩
  have ht : ∀ i, A2 i → ¬ A1 i ∧ i < w.heap.size := fun i hi => ⟨fun ho => h3 i ho hi, h.lt i (h5 i hi)⟩
  refine ⟨D', bs', Ts', _, hq, ⟨⟨A1', A2, h1', h2.keep (fun i hi => st.keep ht i hi) st.wt.size, fun i hi hi2 => (st.apart ht i hi2).1 hi, fun i hi => ?_, fun i hi => .inl (h5 i hi)⟩, fun i hi => ?_, (hst.cellKept h.ml h.mn).2, (hst.cellKept h.er h.en).2⟩, hst⟩
  · rcases st.own i hi with e | e
    · exact .inl (h4 i e)
    · exact .inr ⟨e, h1'.lt i hi⟩
  · rcases hi with hi | hi
    · exact Nat.lt_of_lt_of_le (h.lt i hi) st.wt.size
    · exact hi.2
/-- A call of the document's. -/
theorem BD.callR (h : BD w m f r f2 r2 ek D bs Ts k D2 bs2 Ts2 A) {fn : FuncId} {args : Array Value} {Q : Ending → DS → List Nat → List Ns → Prop}
    (hc : ∀ A2, RD w f2 r2 ek D2 bs2 Ts2 A2 → Calls Tryz.prog fn args w fun y w' => ∃ D' bs' Ts' A2', Q y D' bs' Ts' ∧ RD w' f2 r2 ek D' bs' Ts' A2' ∧ Stp w w' A2 A2') :
    Calls Tryz.prog fn args w fun y w' => ∃ D' bs' Ts' A', Q y D' bs' Ts' ∧ BD w' m f r f2 r2 ek D bs Ts k D' bs' Ts' A' ∧ Stp w w' A A' := by
  obtain ⟨A1, A2, h1, h2, h3, h4, h5⟩ := h.both
  refine (hc A2 h2).mono ?_
  rintro y w' ⟨D', bs', Ts', A2', hq, h2', st⟩
  have hst : Stp w w' A (fun i => A i ∨ (w.heap.size ≤ i ∧ i < w'.heap.size)) := ⟨st.wt.mono h5, fun i hi => by
    rcases hi with hi | hi
    · exact .inl hi
    · exact .inr hi.1⟩
  have ht : ∀ i, A1 i → ¬ A2 i ∧ i < w.heap.size := fun i hi => ⟨h3 i hi, h.lt i (h4 i hi)⟩
  refine ⟨D', bs', Ts', _, hq, ⟨⟨A1, A2', h1.keep (fun i hi => st.keep ht i hi) st.wt.size (hst.cellKept h.ml h.mn).1 (hst.cellKept h.er h.en).1, h2', fun i hi hi2 => (st.apart ht i hi).1 hi2, fun i hi => .inl (h4 i hi), fun i hi => ?_⟩, fun i hi => ?_, (hst.cellKept h.ml h.mn).2, (hst.cellKept h.er h.en).2⟩, hst⟩
  · rcases st.own i hi with e | e
    · exact .inl (h5 i e)
    · exact .inr ⟨e, h2'.lt i hi⟩
  · rcases hi with hi | hi
    · exact Nat.lt_of_lt_of_le (h.lt i hi) st.wt.size
    · exact hi.2
/-- A block beside both. -/
structure ND (w : World) (J : Nat) (xs : Array Value) (m : Int) (f r f2 r2 : Nat) (ek : Nat × Nat) (D : DS) (bs : List Nat) (Ts : List Ns) (k : Nat) (D2 : DS) (bs2 : List Nat) (Ts2 : List Ns) (A : Nat → Prop) : Prop where
  bd : BD w m f r f2 r2 ek D bs Ts k D2 bs2 Ts2 A
  blk : w.heap[J]? = some (.cells xs 78)
  off : ¬ A J
theorem ND.new (h : BD w m f r f2 r2 ek D bs Ts k D2 bs2 Ts2 A) (xs : Array Value) : ND (w.alloc (.cells xs 78)) w.heap.size xs m f r f2 r2 ek D bs Ts k D2 bs2 Ts2 A := by
  refine ⟨h.below ((Below.refl _ _).alloc (Nat.le_refl _) _), ?_, fun z => by have := h.lt _ z; omega⟩
  show (w.heap.push _)[w.heap.size]? = _
  rw [Array.getElem?_push, if_pos rfl]
theorem ND.cell {J : Nat} {xs : Array Value} (h : ND w J xs m f r f2 r2 ek D bs Ts k D2 bs2 Ts2 A) (o : Nat) : w.cell? ⟨J, o, none⟩ = xs[o]? := by
  rw [cell_of_row _ _ _ _ _ _ h.blk]
theorem ND.below {J : Nat} {xs : Array Value} (h : ND w J xs m f r f2 r2 ek D bs Ts k D2 bs2 Ts2 A) (hb : Below w.heap.size w w') : ND w' J xs m f r f2 r2 ek D bs Ts k D2 bs2 Ts2 A :=
  ⟨h.bd.below hb, (hb.block J (Array.getElem?_eq_some_iff.1 h.blk).1).trans h.blk, h.off⟩
theorem ND.step {J : Nat} {xs : Array Value} {D' D2' : DS} {bs' bs2' : List Nat} {Ts' Ts2' : List Ns} (h : ND w J xs m f r f2 r2 ek D bs Ts k D2 bs2 Ts2 A) (h' : BD w' m f r f2 r2 ek D' bs' Ts' k' D2' bs2' Ts2' A') (st : Stp w w' A A') : ND w' J xs m f r f2 r2 ek D' bs' Ts' k' D2' bs2' Ts2' A' := by
  have hJ : J < w.heap.size := (Array.getElem?_eq_some_iff.1 h.blk).1
  obtain ⟨h1, h2⟩ := st.apart (P := fun i => i = J) (fun i e => by subst e; exact ⟨h.off, hJ⟩) J rfl
  exact ⟨h', (st.keep (P := fun i => i = J) (fun i e => by subst e; exact ⟨h.off, hJ⟩) J rfl).trans h.blk, h1⟩
/-- The program's call of one table. -/
theorem ND.P {J : Nat} {xs : Array Value} (h : ND w J xs m f r f2 r2 ek D bs Ts k D2 bs2 Ts2 A) {fn : FuncId} {args : Array Value} {Q : Ending → DS → Ns → Prop}
    (hc : ∀ A1, KD w m f r D bs Ts k A1 → Calls Tryz.prog fn args w fun y w' => ∃ D' N' A1', Q y D' N' ∧ KD w' m f r D' bs (Ts.set j N') k' A1' ∧ Stp w w' A1 A1') :
    Calls Tryz.prog fn args w fun y w' => ∃ D' N' A', Q y D' N' ∧ ND w' J xs m f r f2 r2 ek D' bs (Ts.set j N') k' D2 bs2 Ts2 A' ∧ Stp w w' A A' := by
  refine (h.bd.callP (k' := k') (Q := fun y D' bs' Ts' => ∃ N', Q y D' N' ∧ bs' = bs ∧ Ts' = Ts.set j N') (fun A1 h1 => (hc A1 h1).mono ?_)).mono ?_
  · rintro y w' ⟨D', N', A1', hq, h1', st⟩
    exact ⟨D', bs, _, A1', ⟨N', hq, rfl, rfl⟩, h1', st⟩
  · rintro y w' ⟨D', bs', Ts', A', ⟨N', hq, rfl, rfl⟩, h', st⟩
    exact ⟨D', N', A', hq, h.step h' st, st⟩
theorem ND.R {J : Nat} {xs : Array Value} (h : ND w J xs m f r f2 r2 ek D bs Ts k D2 bs2 Ts2 A) {fn : FuncId} {args : Array Value} {Q : Ending → DS → Ns → Prop}
    (hc : ∀ A2, RD w f2 r2 ek D2 bs2 Ts2 A2 → Calls Tryz.prog fn args w fun y w' => ∃ D' N' A2', Q y D' N' ∧ RD w' f2 r2 ek D' bs2 (Ts2.set j N') A2' ∧ Stp w w' A2 A2') :
    Calls Tryz.prog fn args w fun y w' => ∃ D' N' A', Q y D' N' ∧ ND w' J xs m f r f2 r2 ek D bs Ts k D' bs2 (Ts2.set j N') A' ∧ Stp w w' A A' := by
  refine (h.bd.callR (Q := fun y D' bs' Ts' => ∃ N', Q y D' N' ∧ bs' = bs2 ∧ Ts' = Ts2.set j N') (fun A2 h2 => (hc A2 h2).mono ?_)).mono ?_
  · rintro y w' ⟨D', N', A2', hq, h2', st⟩
    exact ⟨D', bs2, _, A2', ⟨N', hq, rfl, rfl⟩, h2', st⟩
  · rintro y w' ⟨D', bs', Ts', A', ⟨N', hq, rfl, rfl⟩, h', st⟩
    exact ⟨D', N', A', hq, h.step h' st, st⟩
/-- What an item leaves. -/
def Nxd (w : World) (m : Int) (f r f2 r2 : Nat) (ek : Nat × Nat) (D : DS) (bs bs2 : List Nat) (_Ts : List Ns) (k : Nat) (A : Nat → Prop) (w' : World) : Prop :=
  ∃ D' Ts' A', BD w' m f r f2 r2 ek D' bs Ts' (k + 2) D' bs2 Ts' A' ∧ Stp w w' A A' ∧ D'.nx ≤ D.nx + 3
theorem PipeO.one {N : Ns} {n : Nat} {x y c x' y' c' : Int} {E E' : DS} {L L' : Ns} (h : PipeO D N n x y c E L) (h' : PipeO D N n x' y' c' E' L') : x = x' ∧ y = y' ∧ c = c' ∧ E = E' ∧ L = L' := by
  rcases h with ⟨a, rfl, rfl, rfl, rfl, rfl⟩ | ⟨a, rfl, rfl, rfl, rfl, rfl⟩
  · rcases h' with ⟨b, rfl, rfl, rfl, rfl, rfl⟩ | ⟨b, _⟩
    · exact ⟨rfl, rfl, rfl, rfl, rfl⟩
    · exact absurd a b
  · rcases h' with ⟨b, _⟩ | ⟨b, rfl, rfl, rfl, rfl, rfl⟩
    · exact absurd b a
    · exact ⟨rfl, rfl, rfl, rfl, rfl⟩
theorem BD.more {k9 : Nat} (h : BD w m f r f2 r2 ek D bs Ts k D2 bs2 Ts2 A) (hk : k ≤ k9) : BD w m f r f2 r2 ek D bs Ts k9 D2 bs2 Ts2 A := by
  obtain ⟨A1, A2, h1, h2, h3, h4, h5⟩ := h.both
  exact ⟨⟨A1, A2, ⟨h1.st, h1.len, h1.nd, h1.bsA, h1.inv.more hk, h1.lt, h1.ml, h1.mn, h1.er, h1.en⟩, h2, h3, h4, h5⟩, h.lt, h.mn, h.en⟩
end
end Go.Proofs.YtjkneekfijibiabGreatDoor

namespace Go.Proofs.YtjkneekfijibiabGreatDoor
open Go.RowKit Go.Maps

section
variable {w w' : World} {m : Int} {f r f2 r2 k j : Nat} {D : DS} {bs bs2 : List Nat} {Ts : List Ns} {A : Nat → Prop} {ek : Nat × Nat}
theorem Stp.as {w wA wB : World} {A A' : Nat → Prop} (h : Stp w wA A A') (e : wB.heap = wA.heap) (e1 : wB.os = wA.os) (e2 : wB.tape = wA.tape) (e3 : wB.output = wA.output) : Stp w wB A A' :=
  ⟨⟨e1.trans h.wt.os, e2.trans h.wt.tape, e3.trans h.wt.output, by rw [e]; exact h.wt.size, fun i hi hn => by rw [e]; exact h.wt.block i hi hn⟩, h.own⟩
set_option maxRecDepth 100000 in
set_option maxHeartbeats 8000000 in
theorem fds_2 (h : BD w m f r f2 r2 ek D bs Ts k D bs2 Ts A) (_hk : k ≤ 800) (_hn : D.nx < 800) (hj : j < bs.length) (hj2 : j < bs2.length) (hjT : j < Ts.length) (t9 X Y : Int) (p : List UInt8) (_hp : p.length ≤ 250) (yes : Bool) (_hY : Y < 9223372036854775808) :
    Calls Tryz.prog 31 #[wp f, wp f2, wp bs[j], wp bs2[j], .agg #[.int .i64 2, .int .i64 t9, .int .i64 X, .int .i64 Y, tx p, .bool yes]] w fun e w' => e = .returned (.bool true) ∧ Nxd w m f r f2 r2 ek D bs bs2 Ts k A w' := by
  obtain ⟨J, hJ⟩ : ∃ J, w.heap.size = J := ⟨_, rfl⟩
  obtain ⟨xs, hxs⟩ : ∃ xs : Array Value, #[.int .i64 2, .int .i64 t9, .int .i64 X, .int .i64 Y, tx p, .bool yes] = xs := ⟨_, rfl⟩
  have I := h.inv
  have h0 := ND.new h xs
  have st0 : Stp w (w.alloc (.cells xs 78)) A A := .below ((Below.refl _ _).alloc (Nat.le_refl _) _)
  rw [hJ] at h0
  have hcells : ∀ {w1 : World} {D1 D3 : DS} {T1 T3 : List Ns} {k1 : Nat} {A1 : Nat → Prop}, ND w1 J xs m f r f2 r2 ek D1 bs T1 k1 D3 bs2 T3 A1 → w1.cell? ⟨J, 2, none⟩ = some (.int .i64 X) ∧ w1.cell? ⟨J, 3, none⟩ = some (.int .i64 Y) ∧ w1.cell? ⟨J, 4, none⟩ = some (tx p) ∧ w1.cell? ⟨J, 5, none⟩ = some (.bool yes) := fun hb => ⟨(hb.cell 2).trans (by rw [← hxs]; rfl), (hb.cell 3).trans (by rw [← hxs]; rfl), (hb.cell 4).trans (by rw [← hxs]; rfl), (hb.cell 5).trans (by rw [← hxs]; rfl)⟩
  have hc0 : (w.alloc (.cells xs 78)).cell? ⟨J, 0, none⟩ = some (.int .i64 2) := (h0.cell 0).trans (by rw [← hxs]; rfl)
  obtain ⟨z2, z3, z4, z5⟩ := hcells h0
  go_enter Tryz.func31, Tryz.ntmps31
  go_upto_region 1 with fail
  generalize w.alloc (.cells xs 78) = wA at *
  clear hxs hJ
  have hP := h0.P (j := j) (k' := k) (Q := fun y D' N' => y = .returned (.tuple #[.int .i64 (dupK Ts[j] X), uev (dupE Ts[j] X)]) ∧ D' = dupD D Ts[j] X ∧ N' = dupN Ts[j] X) (fun A1 h1 => h1.dup hj X)
  have hD := fun W A1 D1 N1 (n1 : ND W J xs m f r f2 r2 ek D1 bs (Ts.set j N1) (k) D bs2 Ts A1) => n1.R (j := j) (Q := fun y D' N' => y = .returned (.tuple #[.int .i64 (dupK Ts[j] X), .int .i64 (dupE Ts[j] X)]) ∧ D' = dupD D Ts[j] X ∧ N' = dupN Ts[j] X) (fun A2 h2 => h2.dup I hj2 X)
  go_wp2_with (first
    | (go_at_call 43; refine hP.mono ?_; rintro e w1 ⟨D1, N1, A1, ⟨rfl, hD1, hN1⟩, n1, st1⟩; obtain ⟨y2, y3, y4, y5⟩ := hcells n1; have hD1' := hD w1 A1 D1 N1 n1; have HE1 : Aside (_ ∧ _) := ⟨hD1, hN1⟩; clear hD1 hN1)
    | (go_at_call 82; refine hD1'.mono ?_; rintro e w2 ⟨D2, N2, A2, ⟨rfl, hD2, hN2⟩, n2, st2⟩; have HE2 : Aside (_ ∧ _) := ⟨hD2, hN2⟩; clear hD2 hN2; have hB := bareV (dupE Ts[j] X) w2 n2.bd.er)
    | (go_at_call 28; refine hB.mono ?_; rintro e w3 ⟨rfl, b3⟩))
  go_ret
  obtain ⟨rfl, rfl⟩ := HE1.out
  obtain ⟨rfl, rfl⟩ := HE2.out
  exact ⟨rfl, _, _, A2, (n2.bd.below b3).more (by omega), (st0.trans (st1.trans st2)).trans (.below b3), by rw [nx_dup]; omega⟩
set_option maxRecDepth 100000 in
set_option maxHeartbeats 8000000 in
theorem fds_3 (h : BD w m f r f2 r2 ek D bs Ts k D bs2 Ts A) (hk : k ≤ 800) (_hn : D.nx < 800) (hj : j < bs.length) (hj2 : j < bs2.length) (hjT : j < Ts.length) (t9 X Y : Int) (p : List UInt8) (_hp : p.length ≤ 250) (yes : Bool) (_hY : Y < 9223372036854775808) :
    Calls Tryz.prog 31 #[wp f, wp f2, wp bs[j], wp bs2[j], .agg #[.int .i64 3, .int .i64 t9, .int .i64 X, .int .i64 Y, tx p, .bool yes]] w fun e w' => e = .returned (.bool true) ∧ Nxd w m f r f2 r2 ek D bs bs2 Ts k A w' := by
  obtain ⟨J, hJ⟩ : ∃ J, w.heap.size = J := ⟨_, rfl⟩
  obtain ⟨xs, hxs⟩ : ∃ xs : Array Value, #[.int .i64 3, .int .i64 t9, .int .i64 X, .int .i64 Y, tx p, .bool yes] = xs := ⟨_, rfl⟩
  have I := h.inv
  have h0 := ND.new h xs
  have st0 : Stp w (w.alloc (.cells xs 78)) A A := .below ((Below.refl _ _).alloc (Nat.le_refl _) _)
  rw [hJ] at h0
  have hcells : ∀ {w1 : World} {D1 D3 : DS} {T1 T3 : List Ns} {k1 : Nat} {A1 : Nat → Prop}, ND w1 J xs m f r f2 r2 ek D1 bs T1 k1 D3 bs2 T3 A1 → w1.cell? ⟨J, 2, none⟩ = some (.int .i64 X) ∧ w1.cell? ⟨J, 3, none⟩ = some (.int .i64 Y) ∧ w1.cell? ⟨J, 4, none⟩ = some (tx p) ∧ w1.cell? ⟨J, 5, none⟩ = some (.bool yes) := fun hb => ⟨(hb.cell 2).trans (by rw [← hxs]; rfl), (hb.cell 3).trans (by rw [← hxs]; rfl), (hb.cell 4).trans (by rw [← hxs]; rfl), (hb.cell 5).trans (by rw [← hxs]; rfl)⟩
  have hc0 : (w.alloc (.cells xs 78)).cell? ⟨J, 0, none⟩ = some (.int .i64 3) := (h0.cell 0).trans (by rw [← hxs]; rfl)
  obtain ⟨z2, z3, z4, z5⟩ := hcells h0
  go_enter Tryz.func31, Tryz.ntmps31
  go_upto_region 1 with fail
  generalize w.alloc (.cells xs 78) = wA at *
  clear hxs hJ
  have hP := fun W (n0 : ND W J xs m f r f2 r2 ek D bs Ts k D bs2 Ts A) => n0.P (j := j) (k' := k) (Q := fun y D' N' => y = .returned (uev (dup2E Ts[j] X Y)) ∧ D' = dup2D D Ts[j] X Y ∧ N' = dup2N Ts[j] X Y) (fun A1 h1 => h1.dup2 (by omega) hj X Y)
  have hD := fun W A1 D1 N1 (n1 : ND W J xs m f r f2 r2 ek D1 bs (Ts.set j N1) (k) D bs2 Ts A1) => n1.R (j := j) (Q := fun y D' N' => y = .returned (.int .i64 (dup2E Ts[j] X Y)) ∧ D' = dup2D D Ts[j] X Y ∧ N' = dup2N Ts[j] X Y) (fun A2 h2 => h2.dup2 I (by omega) hj2 X Y)
  go_upto_region 16 with fail
  go_region_held3 (fun w' => w'.cell? ⟨J, 2, none⟩ = some (.int .i64 X) ∧ w'.cell? ⟨J, 3, none⟩ = some (.int .i64 Y)) (first | exact ⟨y2, y3⟩ | exact ⟨z2, z3⟩) (first
    | (go_at_call 83; refine (hP _ ?_).mono ?_; (first | exact h0 | exact h0.below ⟨rfl, rfl, rfl, Nat.le_refl _, fun _ _ => rfl⟩); rintro e w1 ⟨D1, N1, A1, ⟨rfl, hD1, hN1⟩, n1, st1⟩; obtain ⟨y2, y3, y4, y5⟩ := hcells n1; have HE1 : Aside (_ ∧ _) := ⟨hD1, hN1⟩; clear hD1 hN1)
    | (go_at_call 84; refine (hD _ A1 D1 N1 (by exact n1)).mono ?_; rintro e w2 ⟨D2, N2, A2, ⟨rfl, hD2, hN2⟩, n2, st2⟩; obtain ⟨y2, y3, y4, y5⟩ := hcells n2; have HE2 : Aside (_ ∧ _) := ⟨hD2, hN2⟩; clear hD2 hN2; have hB := bareV (dup2E Ts[j] X Y) w2 n2.bd.er))
  all_goals
    clear hP hD
    go_wp2_with (go_at_call 28; refine hB.mono ?_; clear hB; rintro e w3 ⟨rfl, b3⟩)
    go_ret
    obtain ⟨rfl, rfl⟩ := HE1.out
    obtain ⟨rfl, rfl⟩ := HE2.out
    exact ⟨rfl, _, _, A2, (n2.bd.below b3).more (by omega), ((st0.as (wB := wA.drew) rfl rfl rfl rfl).trans (st1.trans st2)).trans (.below b3), by rw [nx_dup2]; omega⟩
set_option maxRecDepth 100000 in
set_option maxHeartbeats 8000000 in
theorem fds_4 (h : BD w m f r f2 r2 ek D bs Ts k D bs2 Ts A) (_hk : k ≤ 800) (hn : D.nx < 800) (hj : j < bs.length) (hj2 : j < bs2.length) (hjT : j < Ts.length) (t9 X Y : Int) (p : List UInt8) (_hp : p.length ≤ 250) (yes : Bool) (_hY : Y < 9223372036854775808) :
    Calls Tryz.prog 31 #[wp f, wp f2, wp bs[j], wp bs2[j], .agg #[.int .i64 4, .int .i64 t9, .int .i64 X, .int .i64 Y, tx p, .bool yes]] w fun e w' => e = .returned (.bool true) ∧ Nxd w m f r f2 r2 ek D bs bs2 Ts k A w' := by
  obtain ⟨J, hJ⟩ : ∃ J, w.heap.size = J := ⟨_, rfl⟩
  obtain ⟨xs, hxs⟩ : ∃ xs : Array Value, #[.int .i64 4, .int .i64 t9, .int .i64 X, .int .i64 Y, tx p, .bool yes] = xs := ⟨_, rfl⟩
  have I := h.inv
  have h0 := ND.new h xs
  have st0 : Stp w (w.alloc (.cells xs 78)) A A := .below ((Below.refl _ _).alloc (Nat.le_refl _) _)
  rw [hJ] at h0
  have hcells : ∀ {w1 : World} {D1 D3 : DS} {T1 T3 : List Ns} {k1 : Nat} {A1 : Nat → Prop}, ND w1 J xs m f r f2 r2 ek D1 bs T1 k1 D3 bs2 T3 A1 → w1.cell? ⟨J, 2, none⟩ = some (.int .i64 X) ∧ w1.cell? ⟨J, 3, none⟩ = some (.int .i64 Y) ∧ w1.cell? ⟨J, 4, none⟩ = some (tx p) ∧ w1.cell? ⟨J, 5, none⟩ = some (.bool yes) := fun hb => ⟨(hb.cell 2).trans (by rw [← hxs]; rfl), (hb.cell 3).trans (by rw [← hxs]; rfl), (hb.cell 4).trans (by rw [← hxs]; rfl), (hb.cell 5).trans (by rw [← hxs]; rfl)⟩
  have hc0 : (w.alloc (.cells xs 78)).cell? ⟨J, 0, none⟩ = some (.int .i64 4) := (h0.cell 0).trans (by rw [← hxs]; rfl)
  obtain ⟨z2, z3, z4, z5⟩ := hcells h0
  go_enter Tryz.func31, Tryz.ntmps31
  go_upto_region 1 with fail
  generalize w.alloc (.cells xs 78) = wA at *
  clear hxs hJ
  have hP := fun W (n0 : ND W J xs m f r f2 r2 ek D bs Ts k D bs2 Ts A) => n0.P (j := j) (k' := k) (Q := fun y D' N' => y = .returned (uev (if hasN Ts[j] X = true then 0 else 7)) ∧ D' = D ∧ N' = markN Ts[j] X yes) (fun A1 h1 => h1.mark hj X yes)
  have hD := fun W A1 D1 N1 (n1 : ND W J xs m f r f2 r2 ek D1 bs (Ts.set j N1) (k) D bs2 Ts A1) => n1.R (j := j) (Q := fun y D' N' => y = .returned (.int .i64 (if hasN Ts[j] X = true then 0 else 7)) ∧ D' = D ∧ N' = markN Ts[j] X yes) (fun A2 h2 => h2.mark hj2 X yes)
  generalize (if hasN Ts[j] X = true then (0 : Int) else 7) = c9 at *
  go_upto_region 18 with fail
  go_region_held3 (fun w' => w'.cell? ⟨J, 2, none⟩ = some (.int .i64 X) ∧ w'.cell? ⟨J, 5, none⟩ = some (.bool yes)) (first | exact ⟨y2, y5⟩ | exact ⟨z2, z5⟩) (first
    | (go_at_call 85; refine (hP _ ?_).mono ?_; (first | exact h0 | exact h0.below ⟨rfl, rfl, rfl, Nat.le_refl _, fun _ _ => rfl⟩); rintro e w1 ⟨D1, N1, A1, ⟨rfl, hD1, hN1⟩, n1, st1⟩; obtain ⟨y2, y3, y4, y5⟩ := hcells n1; have HE1 : Aside (_ ∧ _) := ⟨hD1, hN1⟩; clear hD1 hN1)
    | (go_at_call 86; refine (hD _ A1 D1 N1 (by exact n1)).mono ?_; rintro e w2 ⟨D2, N2, A2, ⟨rfl, hD2, hN2⟩, n2, st2⟩; obtain ⟨y2, y3, y4, y5⟩ := hcells n2; have HE2 : Aside (_ ∧ _) := ⟨hD2, hN2⟩; clear hD2 hN2; have hB := bareV c9 w2 n2.bd.er))
  all_goals
    clear hP hD
    go_wp2_with (go_at_call 28; refine hB.mono ?_; clear hB; rintro e w3 ⟨rfl, b3⟩)
    go_ret
    obtain ⟨rfl, rfl⟩ := HE1.out
    obtain ⟨rfl, rfl⟩ := HE2.out
    exact ⟨rfl, _, _, A2, (n2.bd.below b3).more (by omega), ((st0.as (wB := wA.drew) rfl rfl rfl rfl).trans (st1.trans st2)).trans (.below b3), by omega⟩
set_option maxRecDepth 100000 in
set_option maxHeartbeats 8000000 in
theorem fds_5 (h : BD w m f r f2 r2 ek D bs Ts k D bs2 Ts A) (hk : k ≤ 800) (_hn : D.nx < 800) (hj : j < bs.length) (hj2 : j < bs2.length) (hjT : j < Ts.length) (t9 X Y : Int) (p : List UInt8) (_hp : p.length ≤ 250) (yes : Bool) (_hY : Y < 9223372036854775808) :
    Calls Tryz.prog 31 #[wp f, wp f2, wp bs[j], wp bs2[j], .agg #[.int .i64 5, .int .i64 t9, .int .i64 X, .int .i64 Y, tx p, .bool yes]] w fun e w' => e = .returned (.bool true) ∧ Nxd w m f r f2 r2 ek D bs bs2 Ts k A w' := by
  obtain ⟨J, hJ⟩ : ∃ J, w.heap.size = J := ⟨_, rfl⟩
  obtain ⟨xs, hxs⟩ : ∃ xs : Array Value, #[.int .i64 5, .int .i64 t9, .int .i64 X, .int .i64 Y, tx p, .bool yes] = xs := ⟨_, rfl⟩
  have I := h.inv
  have h0 := ND.new h xs
  have st0 : Stp w (w.alloc (.cells xs 78)) A A := .below ((Below.refl _ _).alloc (Nat.le_refl _) _)
  rw [hJ] at h0
  have hcells : ∀ {w1 : World} {D1 D3 : DS} {T1 T3 : List Ns} {k1 : Nat} {A1 : Nat → Prop}, ND w1 J xs m f r f2 r2 ek D1 bs T1 k1 D3 bs2 T3 A1 → w1.cell? ⟨J, 2, none⟩ = some (.int .i64 X) ∧ w1.cell? ⟨J, 3, none⟩ = some (.int .i64 Y) ∧ w1.cell? ⟨J, 4, none⟩ = some (tx p) ∧ w1.cell? ⟨J, 5, none⟩ = some (.bool yes) := fun hb => ⟨(hb.cell 2).trans (by rw [← hxs]; rfl), (hb.cell 3).trans (by rw [← hxs]; rfl), (hb.cell 4).trans (by rw [← hxs]; rfl), (hb.cell 5).trans (by rw [← hxs]; rfl)⟩
  have hc0 : (w.alloc (.cells xs 78)).cell? ⟨J, 0, none⟩ = some (.int .i64 5) := (h0.cell 0).trans (by rw [← hxs]; rfl)
  obtain ⟨z2, z3, z4, z5⟩ := hcells h0
  go_enter Tryz.func31, Tryz.ntmps31
  go_upto_region 1 with fail
  generalize w.alloc (.cells xs 78) = wA at *
  clear hxs hJ
  have hP := fun W (n0 : ND W J xs m f r f2 r2 ek D bs Ts k D bs2 Ts A) => n0.P (j := j) (k' := k) (Q := fun y D' N' => y = .returned (uev (if hasN Ts[j] X = true then 0 else 7)) ∧ D' = closeD D Ts[j] X ∧ N' = closeN Ts[j] X) (fun A1 h1 => h1.close (by omega) hj X)
  have hD := fun W A1 D1 N1 (n1 : ND W J xs m f r f2 r2 ek D1 bs (Ts.set j N1) (k) D bs2 Ts A1) => n1.R (j := j) (Q := fun y D' N' => y = .returned (.int .i64 (if hasN Ts[j] X = true then 0 else 7)) ∧ D' = closeD D Ts[j] X ∧ N' = closeN Ts[j] X) (fun A2 h2 => h2.close I (by omega) hj2 X)
  generalize (if hasN Ts[j] X = true then (0 : Int) else 7) = c9 at *
  go_upto_region 20 with fail
  go_region_held3 (fun w' => w'.cell? ⟨J, 2, none⟩ = some (.int .i64 X)) (first | exact y2 | exact z2) (first
    | (go_at_call 47; refine (hP _ ?_).mono ?_; (first | exact h0 | exact h0.below ⟨rfl, rfl, rfl, Nat.le_refl _, fun _ _ => rfl⟩); rintro e w1 ⟨D1, N1, A1, ⟨rfl, hD1, hN1⟩, n1, st1⟩; obtain ⟨y2, y3, y4, y5⟩ := hcells n1; have HE1 : Aside (_ ∧ _) := ⟨hD1, hN1⟩; clear hD1 hN1)
    | (go_at_call 87; refine (hD _ A1 D1 N1 (by exact n1)).mono ?_; rintro e w2 ⟨D2, N2, A2, ⟨rfl, hD2, hN2⟩, n2, st2⟩; obtain ⟨y2, y3, y4, y5⟩ := hcells n2; have HE2 : Aside (_ ∧ _) := ⟨hD2, hN2⟩; clear hD2 hN2; have hB := bareV c9 w2 n2.bd.er))
  all_goals
    clear hP hD
    go_wp2_with (go_at_call 28; refine hB.mono ?_; clear hB; rintro e w3 ⟨rfl, b3⟩)
    go_ret
    obtain ⟨rfl, rfl⟩ := HE1.out
    obtain ⟨rfl, rfl⟩ := HE2.out
    exact ⟨rfl, _, _, A2, (n2.bd.below b3).more (by omega), ((st0.as (wB := wA.drew) rfl rfl rfl rfl).trans (st1.trans st2)).trans (.below b3), by rw [nx_closeD]; omega⟩
set_option maxRecDepth 100000 in
set_option maxHeartbeats 8000000 in
theorem fds_6 (h : BD w m f r f2 r2 ek D bs Ts k D bs2 Ts A) (_hk : k ≤ 800) (_hn : D.nx < 800) (hj : j < bs.length) (hj2 : j < bs2.length) (hjT : j < Ts.length) (t9 X Y : Int) (p : List UInt8) (_hp : p.length ≤ 250) (yes : Bool) (_hY : Y < 9223372036854775808) :
    Calls Tryz.prog 31 #[wp f, wp f2, wp bs[j], wp bs2[j], .agg #[.int .i64 6, .int .i64 t9, .int .i64 X, .int .i64 Y, tx p, .bool yes]] w fun e w' => e = .returned (.bool true) ∧ Nxd w m f r f2 r2 ek D bs bs2 Ts k A w' := by
  obtain ⟨J, hJ⟩ : ∃ J, w.heap.size = J := ⟨_, rfl⟩
  obtain ⟨xs, hxs⟩ : ∃ xs : Array Value, #[.int .i64 6, .int .i64 t9, .int .i64 X, .int .i64 Y, tx p, .bool yes] = xs := ⟨_, rfl⟩
  have I := h.inv
  have h0 := ND.new h xs
  have st0 : Stp w (w.alloc (.cells xs 78)) A A := .below ((Below.refl _ _).alloc (Nat.le_refl _) _)
  rw [hJ] at h0
  have hcells : ∀ {w1 : World} {D1 D3 : DS} {T1 T3 : List Ns} {k1 : Nat} {A1 : Nat → Prop}, ND w1 J xs m f r f2 r2 ek D1 bs T1 k1 D3 bs2 T3 A1 → w1.cell? ⟨J, 2, none⟩ = some (.int .i64 X) ∧ w1.cell? ⟨J, 3, none⟩ = some (.int .i64 Y) ∧ w1.cell? ⟨J, 4, none⟩ = some (tx p) ∧ w1.cell? ⟨J, 5, none⟩ = some (.bool yes) := fun hb => ⟨(hb.cell 2).trans (by rw [← hxs]; rfl), (hb.cell 3).trans (by rw [← hxs]; rfl), (hb.cell 4).trans (by rw [← hxs]; rfl), (hb.cell 5).trans (by rw [← hxs]; rfl)⟩
  have hc0 : (w.alloc (.cells xs 78)).cell? ⟨J, 0, none⟩ = some (.int .i64 6) := (h0.cell 0).trans (by rw [← hxs]; rfl)
  obtain ⟨z2, z3, z4, z5⟩ := hcells h0
  go_enter Tryz.func31, Tryz.ntmps31
  go_upto_region 1 with fail
  generalize w.alloc (.cells xs 78) = wA at *
  clear hxs hJ
  have hP := h0.P (j := j) (k' := k) (Q := fun y D' N' => y = .returned (.tuple #[tx (readO D Ts[j] X Y).1, uev ((readO D Ts[j] X Y).2.1)]) ∧ D' = (readO D Ts[j] X Y).2.2 ∧ N' = Ts[j]) (fun A1 h1 => h1.read hj X Y)
  have hD := fun W A1 D1 N1 (n1 : ND W J xs m f r f2 r2 ek D1 bs (Ts.set j N1) (k) D bs2 Ts A1) => n1.R (j := j) (Q := fun y D' N' => y = .returned (.tuple #[tx (readO D Ts[j] X Y).1, .int .i64 ((readO D Ts[j] X Y).2.1)]) ∧ D' = (readO D Ts[j] X Y).2.2 ∧ N' = Ts[j]) (fun A2 h2 => h2.read I hj2 X Y)
  go_wp2_with (first
    | (go_at_call 45; refine hP.mono ?_; rintro e w1 ⟨D1, N1, A1, ⟨rfl, hD1, hN1⟩, n1, st1⟩; obtain ⟨y2, y3, y4, y5⟩ := hcells n1; have hD1' := hD w1 A1 D1 N1 n1; have HE1 : Aside (_ ∧ _) := ⟨hD1, hN1⟩; clear hD1 hN1)
    | (go_at_call 88; refine hD1'.mono ?_; rintro e w2 ⟨D2, N2, A2, ⟨rfl, hD2, hN2⟩, n2, st2⟩; have HE2 : Aside (_ ∧ _) := ⟨hD2, hN2⟩; clear hD2 hN2; have hB := bareV (readO D Ts[j] X Y).2.1 w2 n2.bd.er)
    | (go_at_call 28; refine hB.mono ?_; rintro e w3 ⟨rfl, b3⟩))
  go_ret
  obtain ⟨rfl, rfl⟩ := HE1.out
  obtain ⟨rfl, rfl⟩ := HE2.out
  exact ⟨rfl, _, _, A2, (n2.bd.below b3).more (by omega), (st0.trans (st1.trans st2)).trans (.below b3), by rw [nx_read]; omega⟩
set_option maxRecDepth 100000 in
set_option maxHeartbeats 8000000 in
theorem fds_7 (h : BD w m f r f2 r2 ek D bs Ts k D bs2 Ts A) (_hk : k ≤ 800) (_hn : D.nx < 800) (hj : j < bs.length) (hj2 : j < bs2.length) (hjT : j < Ts.length) (t9 X Y : Int) (p : List UInt8) (hp : p.length ≤ 250) (yes : Bool) (hY : Y < 9223372036854775808) :
    Calls Tryz.prog 31 #[wp f, wp f2, wp bs[j], wp bs2[j], .agg #[.int .i64 7, .int .i64 t9, .int .i64 X, .int .i64 Y, tx p, .bool yes]] w fun e w' => e = .returned (.bool true) ∧ Nxd w m f r f2 r2 ek D bs bs2 Ts k A w' := by
  obtain ⟨J, hJ⟩ : ∃ J, w.heap.size = J := ⟨_, rfl⟩
  obtain ⟨xs, hxs⟩ : ∃ xs : Array Value, #[.int .i64 7, .int .i64 t9, .int .i64 X, .int .i64 Y, tx p, .bool yes] = xs := ⟨_, rfl⟩
  have I := h.inv
  have h0 := ND.new h xs
  have st0 : Stp w (w.alloc (.cells xs 78)) A A := .below ((Below.refl _ _).alloc (Nat.le_refl _) _)
  rw [hJ] at h0
  have hcells : ∀ {w1 : World} {D1 D3 : DS} {T1 T3 : List Ns} {k1 : Nat} {A1 : Nat → Prop}, ND w1 J xs m f r f2 r2 ek D1 bs T1 k1 D3 bs2 T3 A1 → w1.cell? ⟨J, 2, none⟩ = some (.int .i64 X) ∧ w1.cell? ⟨J, 3, none⟩ = some (.int .i64 Y) ∧ w1.cell? ⟨J, 4, none⟩ = some (tx p) ∧ w1.cell? ⟨J, 5, none⟩ = some (.bool yes) := fun hb => ⟨(hb.cell 2).trans (by rw [← hxs]; rfl), (hb.cell 3).trans (by rw [← hxs]; rfl), (hb.cell 4).trans (by rw [← hxs]; rfl), (hb.cell 5).trans (by rw [← hxs]; rfl)⟩
  have hc0 : (w.alloc (.cells xs 78)).cell? ⟨J, 0, none⟩ = some (.int .i64 7) := (h0.cell 0).trans (by rw [← hxs]; rfl)
  obtain ⟨z2, z3, z4, z5⟩ := hcells h0
  go_enter Tryz.func31, Tryz.ntmps31
  go_upto_region 1 with fail
  generalize w.alloc (.cells xs 78) = wA at *
  clear hxs hJ
  have hP := h0.P (j := j) (k' := k + 1) (Q := fun y D' N' => y = .returned (.tuple #[.int .i64 (writeO D Ts[j] X p Y).1, uev ((writeO D Ts[j] X p Y).2.1)]) ∧ D' = (writeO D Ts[j] X p Y).2.2 ∧ N' = Ts[j]) (fun A1 h1 => h1.write hj X p (by omega) Y)
  have hD := fun W A1 D1 N1 (n1 : ND W J xs m f r f2 r2 ek D1 bs (Ts.set j N1) (k + 1) D bs2 Ts A1) => n1.R (j := j) (Q := fun y D' N' => y = .returned (.tuple #[.int .i64 (writeO D Ts[j] X p Y).1, .int .i64 ((writeO D Ts[j] X p Y).2.1)]) ∧ D' = (writeO D Ts[j] X p Y).2.2 ∧ N' = Ts[j]) (fun A2 h2 => h2.write I hj2 X p (by omega) Y hY)
  go_wp2_with (first
    | (go_at_call 44; refine hP.mono ?_; rintro e w1 ⟨D1, N1, A1, ⟨rfl, hD1, hN1⟩, n1, st1⟩; obtain ⟨y2, y3, y4, y5⟩ := hcells n1; have hD1' := hD w1 A1 D1 N1 n1; have HE1 : Aside (_ ∧ _) := ⟨hD1, hN1⟩; clear hD1 hN1)
    | (go_at_call 89; refine hD1'.mono ?_; rintro e w2 ⟨D2, N2, A2, ⟨rfl, hD2, hN2⟩, n2, st2⟩; have HE2 : Aside (_ ∧ _) := ⟨hD2, hN2⟩; clear hD2 hN2; have hB := bareV (writeO D Ts[j] X p Y).2.1 w2 n2.bd.er)
    | (go_at_call 28; refine hB.mono ?_; rintro e w3 ⟨rfl, b3⟩))
  go_ret
  obtain ⟨rfl, rfl⟩ := HE1.out
  obtain ⟨rfl, rfl⟩ := HE2.out
  exact ⟨rfl, _, _, A2, (n2.bd.below b3).more (by omega), (st0.trans (st1.trans st2)).trans (.below b3), by rw [nx_write]; omega⟩
set_option maxRecDepth 100000 in
set_option maxHeartbeats 8000000 in
theorem fds_8 (h : BD w m f r f2 r2 ek D bs Ts k D bs2 Ts A) (_hk : k ≤ 800) (_hn : D.nx < 800) (hj : j < bs.length) (hj2 : j < bs2.length) (hjT : j < Ts.length) (t9 X Y : Int) (p : List UInt8) (_hp : p.length ≤ 250) (yes : Bool) (_hY : Y < 9223372036854775808) :
    Calls Tryz.prog 31 #[wp f, wp f2, wp bs[j], wp bs2[j], .agg #[.int .i64 8, .int .i64 t9, .int .i64 X, .int .i64 Y, tx p, .bool yes]] w fun e w' => e = .returned (.bool true) ∧ Nxd w m f r f2 r2 ek D bs bs2 Ts k A w' := by
  obtain ⟨J, hJ⟩ : ∃ J, w.heap.size = J := ⟨_, rfl⟩
  obtain ⟨xs, hxs⟩ : ∃ xs : Array Value, #[.int .i64 8, .int .i64 t9, .int .i64 X, .int .i64 Y, tx p, .bool yes] = xs := ⟨_, rfl⟩
  have I := h.inv
  have h0 := ND.new h xs
  have st0 : Stp w (w.alloc (.cells xs 78)) A A := .below ((Below.refl _ _).alloc (Nat.le_refl _) _)
  rw [hJ] at h0
  have hcells : ∀ {w1 : World} {D1 D3 : DS} {T1 T3 : List Ns} {k1 : Nat} {A1 : Nat → Prop}, ND w1 J xs m f r f2 r2 ek D1 bs T1 k1 D3 bs2 T3 A1 → w1.cell? ⟨J, 2, none⟩ = some (.int .i64 X) ∧ w1.cell? ⟨J, 3, none⟩ = some (.int .i64 Y) ∧ w1.cell? ⟨J, 4, none⟩ = some (tx p) ∧ w1.cell? ⟨J, 5, none⟩ = some (.bool yes) := fun hb => ⟨(hb.cell 2).trans (by rw [← hxs]; rfl), (hb.cell 3).trans (by rw [← hxs]; rfl), (hb.cell 4).trans (by rw [← hxs]; rfl), (hb.cell 5).trans (by rw [← hxs]; rfl)⟩
  have hc0 : (w.alloc (.cells xs 78)).cell? ⟨J, 0, none⟩ = some (.int .i64 8) := (h0.cell 0).trans (by rw [← hxs]; rfl)
  obtain ⟨z2, z3, z4, z5⟩ := hcells h0
  go_enter Tryz.func31, Tryz.ntmps31
  go_upto_region 1 with fail
  generalize w.alloc (.cells xs 78) = wA at *
  clear hxs hJ
  have hP := fun W (n0 : ND W J xs m f r f2 r2 ek D bs Ts k D bs2 Ts A) => n0.P (j := j) (k' := k) (Q := fun y D' N' => y = .returned (uev (seekE D Ts[j] X Y)) ∧ D' = seekD D Ts[j] X Y ∧ N' = Ts[j]) (fun A1 h1 => h1.seek hj X Y)
  have hD := fun W A1 D1 N1 (n1 : ND W J xs m f r f2 r2 ek D1 bs (Ts.set j N1) (k) D bs2 Ts A1) => n1.R (j := j) (Q := fun y D' N' => y = .returned (.int .i64 (seekE D Ts[j] X Y)) ∧ D' = seekD D Ts[j] X Y ∧ N' = Ts[j]) (fun A2 h2 => h2.seek I hj2 X Y)
  go_upto_region 28 with fail
  go_region_held3 (fun w' => w'.cell? ⟨J, 2, none⟩ = some (.int .i64 X) ∧ w'.cell? ⟨J, 3, none⟩ = some (.int .i64 Y)) (first | exact ⟨y2, y3⟩ | exact ⟨z2, z3⟩) (first
    | (go_at_call 46; refine (hP _ ?_).mono ?_; (first | exact h0 | exact h0.below ⟨rfl, rfl, rfl, Nat.le_refl _, fun _ _ => rfl⟩); rintro e w1 ⟨D1, N1, A1, ⟨rfl, hD1, hN1⟩, n1, st1⟩; obtain ⟨y2, y3, y4, y5⟩ := hcells n1; have HE1 : Aside (_ ∧ _) := ⟨hD1, hN1⟩; clear hD1 hN1)
    | (go_at_call 90; refine (hD _ A1 D1 N1 (by exact n1)).mono ?_; rintro e w2 ⟨D2, N2, A2, ⟨rfl, hD2, hN2⟩, n2, st2⟩; obtain ⟨y2, y3, y4, y5⟩ := hcells n2; have HE2 : Aside (_ ∧ _) := ⟨hD2, hN2⟩; clear hD2 hN2; have hB := bareV (seekE D Ts[j] X Y) w2 n2.bd.er))
  all_goals
    clear hP hD
    go_wp2_with (go_at_call 28; refine hB.mono ?_; clear hB; rintro e w3 ⟨rfl, b3⟩)
    go_ret
    obtain ⟨rfl, rfl⟩ := HE1.out
    obtain ⟨rfl, rfl⟩ := HE2.out
    exact ⟨rfl, _, _, A2, (n2.bd.below b3).more (by omega), ((st0.as (wB := wA.drew) rfl rfl rfl rfl).trans (st1.trans st2)).trans (.below b3), by rw [nx_seek]; omega⟩
set_option maxRecDepth 100000 in
set_option maxHeartbeats 8000000 in
theorem fds_10 (h : BD w m f r f2 r2 ek D bs Ts k D bs2 Ts A) (hk : k ≤ 800) (_hn : D.nx < 800) (hj : j < bs.length) (hj2 : j < bs2.length) (hjT : j < Ts.length) (t9 X Y : Int) (p : List UInt8) (_hp : p.length ≤ 250) (yes : Bool) (_hY : Y < 9223372036854775808) :
    Calls Tryz.prog 31 #[wp f, wp f2, wp bs[j], wp bs2[j], .agg #[.int .i64 10, .int .i64 t9, .int .i64 X, .int .i64 Y, tx p, .bool yes]] w fun e w' => e = .returned (.bool true) ∧ Nxd w m f r f2 r2 ek D bs bs2 Ts k A w' := by
  obtain ⟨J, hJ⟩ : ∃ J, w.heap.size = J := ⟨_, rfl⟩
  obtain ⟨xs, hxs⟩ : ∃ xs : Array Value, #[.int .i64 10, .int .i64 t9, .int .i64 X, .int .i64 Y, tx p, .bool yes] = xs := ⟨_, rfl⟩
  have I := h.inv
  have h0 := ND.new h xs
  have st0 : Stp w (w.alloc (.cells xs 78)) A A := .below ((Below.refl _ _).alloc (Nat.le_refl _) _)
  rw [hJ] at h0
  have hcells : ∀ {w1 : World} {D1 D3 : DS} {T1 T3 : List Ns} {k1 : Nat} {A1 : Nat → Prop}, ND w1 J xs m f r f2 r2 ek D1 bs T1 k1 D3 bs2 T3 A1 → w1.cell? ⟨J, 2, none⟩ = some (.int .i64 X) ∧ w1.cell? ⟨J, 3, none⟩ = some (.int .i64 Y) ∧ w1.cell? ⟨J, 4, none⟩ = some (tx p) ∧ w1.cell? ⟨J, 5, none⟩ = some (.bool yes) := fun hb => ⟨(hb.cell 2).trans (by rw [← hxs]; rfl), (hb.cell 3).trans (by rw [← hxs]; rfl), (hb.cell 4).trans (by rw [← hxs]; rfl), (hb.cell 5).trans (by rw [← hxs]; rfl)⟩
  have hc0 : (w.alloc (.cells xs 78)).cell? ⟨J, 0, none⟩ = some (.int .i64 10) := (h0.cell 0).trans (by rw [← hxs]; rfl)
  obtain ⟨z2, z3, z4, z5⟩ := hcells h0
  go_enter Tryz.func31, Tryz.ntmps31
  go_upto_region 1 with fail
  generalize w.alloc (.cells xs 78) = wA at *
  clear hxs hJ
  have hP := h0.P (j := j) (k' := k) (Q := fun y D' N' => y = .returned (.tuple #[]) ∧ D' = (freeS false D Ts[j] 8).1 ∧ N' = (freeS false D Ts[j] 8).2) (fun A1 h1 => h1.exec (by omega) hj)
  have hD := fun W A1 D1 N1 (n1 : ND W J xs m f r f2 r2 ek D1 bs (Ts.set j N1) (k) D bs2 Ts A1) => n1.R (j := j) (Q := fun y D' N' => y = .returned (.tuple #[]) ∧ D' = (freeS false D Ts[j] 8).1 ∧ N' = (freeS false D Ts[j] 8).2) (fun A2 h2 => h2.free I (by omega) hj2 false)
  go_wp2_with (first
    | (go_at_call 91; refine hP.mono ?_; rintro e w1 ⟨D1, N1, A1, ⟨rfl, hD1, hN1⟩, n1, st1⟩; obtain ⟨y2, y3, y4, y5⟩ := hcells n1; have hD1' := hD w1 A1 D1 N1 n1; have HE1 : Aside (_ ∧ _) := ⟨hD1, hN1⟩; clear hD1 hN1)
    | (go_at_call 92; refine hD1'.mono ?_; rintro e w2 ⟨D2, N2, A2, ⟨rfl, hD2, hN2⟩, n2, st2⟩; have HE2 : Aside (_ ∧ _) := ⟨hD2, hN2⟩; clear hD2 hN2; have hB := bareV 0 w2 n2.bd.er)
    | (go_at_call 28; refine hB.mono ?_; rintro e w3 ⟨rfl, b3⟩))
  go_ret
  obtain ⟨rfl, rfl⟩ := HE1.out
  obtain ⟨rfl, rfl⟩ := HE2.out
  exact ⟨rfl, _, _, A2, (n2.bd.below b3).more (by omega), (st0.trans (st1.trans st2)).trans (.below b3), by rw [nx_free]; omega⟩
set_option maxRecDepth 100000 in
set_option maxHeartbeats 8000000 in
theorem fds_11 (h : BD w m f r f2 r2 ek D bs Ts k D bs2 Ts A) (hk : k ≤ 800) (_hn : D.nx < 800) (hj : j < bs.length) (hj2 : j < bs2.length) (hjT : j < Ts.length) (t9 X Y : Int) (p : List UInt8) (_hp : p.length ≤ 250) (yes : Bool) (_hY : Y < 9223372036854775808) :
    Calls Tryz.prog 31 #[wp f, wp f2, wp bs[j], wp bs2[j], .agg #[.int .i64 11, .int .i64 t9, .int .i64 X, .int .i64 Y, tx p, .bool yes]] w fun e w' => e = .returned (.bool true) ∧ Nxd w m f r f2 r2 ek D bs bs2 Ts k A w' := by
  obtain ⟨J, hJ⟩ : ∃ J, w.heap.size = J := ⟨_, rfl⟩
  obtain ⟨xs, hxs⟩ : ∃ xs : Array Value, #[.int .i64 11, .int .i64 t9, .int .i64 X, .int .i64 Y, tx p, .bool yes] = xs := ⟨_, rfl⟩
  have I := h.inv
  have h0 := ND.new h xs
  have st0 : Stp w (w.alloc (.cells xs 78)) A A := .below ((Below.refl _ _).alloc (Nat.le_refl _) _)
  rw [hJ] at h0
  have hcells : ∀ {w1 : World} {D1 D3 : DS} {T1 T3 : List Ns} {k1 : Nat} {A1 : Nat → Prop}, ND w1 J xs m f r f2 r2 ek D1 bs T1 k1 D3 bs2 T3 A1 → w1.cell? ⟨J, 2, none⟩ = some (.int .i64 X) ∧ w1.cell? ⟨J, 3, none⟩ = some (.int .i64 Y) ∧ w1.cell? ⟨J, 4, none⟩ = some (tx p) ∧ w1.cell? ⟨J, 5, none⟩ = some (.bool yes) := fun hb => ⟨(hb.cell 2).trans (by rw [← hxs]; rfl), (hb.cell 3).trans (by rw [← hxs]; rfl), (hb.cell 4).trans (by rw [← hxs]; rfl), (hb.cell 5).trans (by rw [← hxs]; rfl)⟩
  have hc0 : (w.alloc (.cells xs 78)).cell? ⟨J, 0, none⟩ = some (.int .i64 11) := (h0.cell 0).trans (by rw [← hxs]; rfl)
  obtain ⟨z2, z3, z4, z5⟩ := hcells h0
  go_enter Tryz.func31, Tryz.ntmps31
  go_upto_region 1 with fail
  generalize w.alloc (.cells xs 78) = wA at *
  clear hxs hJ
  have hP := h0.P (j := j) (k' := k) (Q := fun y D' N' => y = .returned (.tuple #[]) ∧ D' = (freeS true D Ts[j] 8).1 ∧ N' = (freeS true D Ts[j] 8).2) (fun A1 h1 => h1.clear (by omega) hj)
  have hD := fun W A1 D1 N1 (n1 : ND W J xs m f r f2 r2 ek D1 bs (Ts.set j N1) (k) D bs2 Ts A1) => n1.R (j := j) (Q := fun y D' N' => y = .returned (.tuple #[]) ∧ D' = (freeS true D Ts[j] 8).1 ∧ N' = (freeS true D Ts[j] 8).2) (fun A2 h2 => h2.free I (by omega) hj2 true)
  go_wp2_with (first
    | (go_at_call 41; refine hP.mono ?_; rintro e w1 ⟨D1, N1, A1, ⟨rfl, hD1, hN1⟩, n1, st1⟩; obtain ⟨y2, y3, y4, y5⟩ := hcells n1; have hD1' := hD w1 A1 D1 N1 n1; have HE1 : Aside (_ ∧ _) := ⟨hD1, hN1⟩; clear hD1 hN1)
    | (go_at_call 92; refine hD1'.mono ?_; rintro e w2 ⟨D2, N2, A2, ⟨rfl, hD2, hN2⟩, n2, st2⟩; have HE2 : Aside (_ ∧ _) := ⟨hD2, hN2⟩; clear hD2 hN2; have hB := bareV 0 w2 n2.bd.er)
    | (go_at_call 28; refine hB.mono ?_; rintro e w3 ⟨rfl, b3⟩))
  go_ret
  obtain ⟨rfl, rfl⟩ := HE1.out
  obtain ⟨rfl, rfl⟩ := HE2.out
  exact ⟨rfl, _, _, A2, (n2.bd.below b3).more (by omega), (st0.trans (st1.trans st2)).trans (.below b3), by rw [nx_free]; omega⟩
set_option maxRecDepth 100000 in
set_option maxHeartbeats 8000000 in
theorem fds_0 (h : BD w m f r f2 r2 ek D bs Ts k D bs2 Ts A) (hk : k ≤ 800) (hn : D.nx < 800) (hj : j < bs.length) (hj2 : j < bs2.length) (hjT : j < Ts.length) (t9 X Y : Int) (p : List UInt8) (hp : p.length ≤ 250) (yes : Bool) (_hY : Y < 9223372036854775808) :
    Calls Tryz.prog 31 #[wp f, wp f2, wp bs[j], wp bs2[j], .agg #[.int .i64 0, .int .i64 t9, .int .i64 X, .int .i64 Y, tx p, .bool yes]] w fun e w' => e = .returned (.bool true) ∧ Nxd w m f r f2 r2 ek D bs bs2 Ts k A w' := by
  obtain ⟨J, hJ⟩ : ∃ J, w.heap.size = J := ⟨_, rfl⟩
  obtain ⟨xs, hxs⟩ : ∃ xs : Array Value, #[.int .i64 0, .int .i64 t9, .int .i64 X, .int .i64 Y, tx p, .bool yes] = xs := ⟨_, rfl⟩
  have I := h.inv
  have h0 := ND.new h xs
  have st0 : Stp w (w.alloc (.cells xs 78)) A A := .below ((Below.refl _ _).alloc (Nat.le_refl _) _)
  rw [hJ] at h0
  have hcells : ∀ {w1 : World} {D1 D3 : DS} {T1 T3 : List Ns} {k1 : Nat} {A1 : Nat → Prop}, ND w1 J xs m f r f2 r2 ek D1 bs T1 k1 D3 bs2 T3 A1 → w1.cell? ⟨J, 2, none⟩ = some (.int .i64 X) ∧ w1.cell? ⟨J, 3, none⟩ = some (.int .i64 Y) ∧ w1.cell? ⟨J, 4, none⟩ = some (tx p) ∧ w1.cell? ⟨J, 5, none⟩ = some (.bool yes) := fun hb => ⟨(hb.cell 2).trans (by rw [← hxs]; rfl), (hb.cell 3).trans (by rw [← hxs]; rfl), (hb.cell 4).trans (by rw [← hxs]; rfl), (hb.cell 5).trans (by rw [← hxs]; rfl)⟩
  have hc0 : (w.alloc (.cells xs 78)).cell? ⟨J, 0, none⟩ = some (.int .i64 0) := (h0.cell 0).trans (by rw [← hxs]; rfl)
  obtain ⟨z2, z3, z4, z5⟩ := hcells h0
  go_enter Tryz.func31, Tryz.ntmps31
  go_upto_region 1 with fail
  generalize w.alloc (.cells xs 78) = wA at *
  clear hxs hJ
  obtain ⟨n9, hn9⟩ : ∃ n, IsN D.E n := by
    obtain ⟨A1, A2, h1, _⟩ := h.both
    exact h1.numE
  obtain ⟨s9, hs9⟩ : ∃ s, IsNum D.T s := by
    obtain ⟨A1, A2, h1, _⟩ := h.both
    exact h1.numT
  have hP := h0.P (j := j) (k' := k + 2) (Q := fun y D' N' => ∃ x c, y = .returned (.tuple #[.int .i64 x, uev c]) ∧ FileO D Ts[j] n9 s9 p X yes x c D' N') (fun A1 h1 => h1.file (by omega) (by omega) hj hn9 hs9 p (by omega) X yes)
  have hD := fun W A1 D1 N1 (n1 : ND W J xs m f r f2 r2 ek D1 bs (Ts.set j N1) (k + 2) D bs2 Ts A1) => n1.R (j := j) (Q := fun y D' N' => ∃ x c, y = .returned (.tuple #[.int .i64 x, .int .i64 c]) ∧ FileO D Ts[j] n9 s9 p X yes x c D' N') (fun A2 h2 => h2.file I (by omega) n1.bd.ml hj2 hn9 hs9 p (by omega) X yes)
  go_wp2_with (first
    | (go_at_call 42; refine hP.mono ?_; rintro e w1 ⟨D1, N1, A1, ⟨x1, c1, rfl, hF1⟩, n1, st1⟩; obtain ⟨y2, y3, y4, y5⟩ := hcells n1; have hD1' := hD w1 A1 D1 N1 n1; have HE1 : Aside _ := hF1; clear hF1)
    | (go_at_call 79; refine hD1'.mono ?_; rintro e w2 ⟨D2, N2, A2, ⟨x2, c2, rfl, hF2⟩, n2, st2⟩; obtain ⟨hx, hc, hDD, hNN⟩ := HE1.out.one hF2; subst hx; subst hc; subst hDD; subst hNN; clear hF2; have hB := bareV c1 w2 n2.bd.er)
    | (go_at_call 28; refine hB.mono ?_; rintro e w3 ⟨rfl, b3⟩))
  go_ret
  exact ⟨rfl, _, _, A2, n2.bd.below b3, (st0.trans (st1.trans st2)).trans (.below b3), nx_file HE1.out⟩
set_option maxRecDepth 100000 in
set_option maxHeartbeats 8000000 in
theorem fds_1 (h : BD w m f r f2 r2 ek D bs Ts k D bs2 Ts A) (_hk : k ≤ 800) (hn : D.nx < 800) (hj : j < bs.length) (hj2 : j < bs2.length) (hjT : j < Ts.length) (t9 X Y : Int) (p : List UInt8) (_hp : p.length ≤ 250) (yes : Bool) (_hY : Y < 9223372036854775808) :
    Calls Tryz.prog 31 #[wp f, wp f2, wp bs[j], wp bs2[j], .agg #[.int .i64 1, .int .i64 t9, .int .i64 X, .int .i64 Y, tx p, .bool yes]] w fun e w' => e = .returned (.bool true) ∧ Nxd w m f r f2 r2 ek D bs bs2 Ts k A w' := by
  obtain ⟨J, hJ⟩ : ∃ J, w.heap.size = J := ⟨_, rfl⟩
  obtain ⟨xs, hxs⟩ : ∃ xs : Array Value, #[.int .i64 1, .int .i64 t9, .int .i64 X, .int .i64 Y, tx p, .bool yes] = xs := ⟨_, rfl⟩
  have I := h.inv
  have h0 := ND.new h xs
  have st0 : Stp w (w.alloc (.cells xs 78)) A A := .below ((Below.refl _ _).alloc (Nat.le_refl _) _)
  rw [hJ] at h0
  have hcells : ∀ {w1 : World} {D1 D3 : DS} {T1 T3 : List Ns} {k1 : Nat} {A1 : Nat → Prop}, ND w1 J xs m f r f2 r2 ek D1 bs T1 k1 D3 bs2 T3 A1 → w1.cell? ⟨J, 2, none⟩ = some (.int .i64 X) ∧ w1.cell? ⟨J, 3, none⟩ = some (.int .i64 Y) ∧ w1.cell? ⟨J, 4, none⟩ = some (tx p) ∧ w1.cell? ⟨J, 5, none⟩ = some (.bool yes) := fun hb => ⟨(hb.cell 2).trans (by rw [← hxs]; rfl), (hb.cell 3).trans (by rw [← hxs]; rfl), (hb.cell 4).trans (by rw [← hxs]; rfl), (hb.cell 5).trans (by rw [← hxs]; rfl)⟩
  have hc0 : (w.alloc (.cells xs 78)).cell? ⟨J, 0, none⟩ = some (.int .i64 1) := (h0.cell 0).trans (by rw [← hxs]; rfl)
  obtain ⟨z2, z3, z4, z5⟩ := hcells h0
  go_enter Tryz.func31, Tryz.ntmps31
  go_upto_region 1 with fail
  generalize w.alloc (.cells xs 78) = wA at *
  clear hxs hJ
  obtain ⟨n9, hn9⟩ : ∃ n, IsN D.E n := by
    obtain ⟨A1, A2, h1, _⟩ := h.both
    exact h1.numE
  have hP := h0.P (j := j) (k' := k) (Q := fun z D' N' => ∃ x y c, z = .returned (.tuple #[.int .i64 x, .int .i64 y, uev c]) ∧ PipeO D Ts[j] n9 x y c D' N') (fun A1 h1 => h1.pipe (by omega) hj hn9)
  have hD := fun W A1 D1 N1 (n1 : ND W J xs m f r f2 r2 ek D1 bs (Ts.set j N1) k D bs2 Ts A1) => n1.R (j := j) (Q := fun z D' N' => ∃ x y c, z = .returned (.tuple #[.int .i64 x, .int .i64 y, .int .i64 c]) ∧ PipeO D Ts[j] n9 x y c D' N') (fun A2 h2 => h2.pipe I (by omega) hj2 hn9)
  go_wp2_with (first
    | (go_at_call 80; refine hP.mono ?_; rintro e w1 ⟨D1, N1, A1, ⟨x1, y1, c1, rfl, hF1⟩, n1, st1⟩; have hD1' := hD w1 A1 D1 N1 n1; have HE1 : Aside (PipeO D Ts[j] n9 x1 y1 c1 D1 N1) := hF1; clear hF1)
    | (go_at_call 81; refine hD1'.mono ?_; rintro e w2 ⟨D2, N2, A2, ⟨x2, y2, c2, rfl, hF2⟩, n2, st2⟩; obtain ⟨hx, hy, hc, hDD, hNN⟩ := PipeO.one HE1.out hF2; subst hx; subst hy; subst hc; subst hDD; subst hNN; clear hF2; have hB := bareV c1 w2 n2.bd.er)
    | (go_at_call 28; refine hB.mono ?_; rintro e w3 ⟨rfl, b3⟩))
  go_ret
  exact ⟨rfl, _, _, A2, (n2.bd.below b3).more (by omega), (st0.trans (st1.trans st2)).trans (.below b3), nx_pipe HE1.out⟩
set_option maxRecDepth 100000 in
set_option maxHeartbeats 8000000 in
theorem fds_none (v : Int) (hv : ¬ (0 ≤ v ∧ v ≤ 8) ∧ v ≠ 10 ∧ v ≠ 11) (h : BD w m f r f2 r2 ek D bs Ts k D bs2 Ts A) (_hk : k ≤ 800) (_hn : D.nx < 800) (hj : j < bs.length) (hj2 : j < bs2.length) (_hjT : j < Ts.length) (t9 X Y : Int) (p : List UInt8) (_hp : p.length ≤ 250) (yes : Bool) (_hY : Y < 9223372036854775808) :
    Calls Tryz.prog 31 #[wp f, wp f2, wp bs[j], wp bs2[j], .agg #[.int .i64 v, .int .i64 t9, .int .i64 X, .int .i64 Y, tx p, .bool yes]] w fun e w' => e = .returned (.bool true) ∧ Nxd w m f r f2 r2 ek D bs bs2 Ts k A w' := by
  obtain ⟨J, hJ⟩ : ∃ J, w.heap.size = J := ⟨_, rfl⟩
  obtain ⟨xs, hxs⟩ : ∃ xs : Array Value, #[.int .i64 v, .int .i64 t9, .int .i64 X, .int .i64 Y, tx p, .bool yes] = xs := ⟨_, rfl⟩
  have I := h.inv
  have h0 := ND.new h xs
  have st0 : Stp w (w.alloc (.cells xs 78)) A A := .below ((Below.refl _ _).alloc (Nat.le_refl _) _)
  rw [hJ] at h0
  have hcells : ∀ {w1 : World} {D1 D3 : DS} {T1 T3 : List Ns} {k1 : Nat} {A1 : Nat → Prop}, ND w1 J xs m f r f2 r2 ek D1 bs T1 k1 D3 bs2 T3 A1 → w1.cell? ⟨J, 2, none⟩ = some (.int .i64 X) ∧ w1.cell? ⟨J, 3, none⟩ = some (.int .i64 Y) ∧ w1.cell? ⟨J, 4, none⟩ = some (tx p) ∧ w1.cell? ⟨J, 5, none⟩ = some (.bool yes) := fun hb => ⟨(hb.cell 2).trans (by rw [← hxs]; rfl), (hb.cell 3).trans (by rw [← hxs]; rfl), (hb.cell 4).trans (by rw [← hxs]; rfl), (hb.cell 5).trans (by rw [← hxs]; rfl)⟩
  have hc0 : (w.alloc (.cells xs 78)).cell? ⟨J, 0, none⟩ = some (.int .i64 v) := (h0.cell 0).trans (by rw [← hxs]; rfl)
  obtain ⟨z2, z3, z4, z5⟩ := hcells h0
  have v0 : (v == 0) = false := by simp; omega
  have v1 : (v == 1) = false := by simp; omega
  have v2 : (v == 2) = false := by simp; omega
  have v3 : (v == 3) = false := by simp; omega
  have v4 : (v == 4) = false := by simp; omega
  have v5 : (v == 5) = false := by simp; omega
  have v6 : (v == 6) = false := by simp; omega
  have v7 : (v == 7) = false := by simp; omega
  have v8 : (v == 8) = false := by simp; omega
  have v10 : (v == 10) = false := by simp; omega
  have v11 : (v == 11) = false := by simp; omega
  clear hv
  go_enter Tryz.func31, Tryz.ntmps31
  go_upto_region 1 with fail
  generalize w.alloc (.cells xs 78) = wA at *
  clear hxs hJ
  have hB := bareV 0 wA h0.bd.er
  go_wp2_with (go_at_call 28; refine hB.mono ?_; rintro e w3 ⟨rfl, b3⟩)
  go_ret
  exact ⟨rfl, D, Ts, A, (h0.bd.below b3).more (by omega), st0.trans (.below b3), by omega⟩
end
end Go.Proofs.YtjkneekfijibiabGreatDoor

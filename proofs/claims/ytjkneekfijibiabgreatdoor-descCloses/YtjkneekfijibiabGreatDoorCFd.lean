/- No more is open than numbers have; names taken away one by one; what is left when nothing is open. -/
import Derived.Test.YtjkneekfijibiabGreatDoorDFlat2
import Derived.Test.YtjkneekfijibiabGreatDoorXSm
import Derived.Test.YtjkneekfijibiabGreatDoorSRow
import Derived.Test.YtjkneekfijibiabGreatDoorPick
import Derived.Deep.RegionHeld3
import Derived.BigQuiet
namespace Go.Proofs.YtjkneekfijibiabGreatDoor
open Go.RowKit Go.Maps

def sumU (Ts : List Ns) : Nat := (Ts.map usedN).sum
def flat1 (N : Ns) : List Int := (N.filter (fun x => decide (0 < x.1))).map (·.1)
theorem flat1_len (N : Ns) : (flat1 N).length = usedN N := by unfold flat1 usedN; rw [List.length_map]
theorem flat_len : ∀ Ts : List Ns, (Ts.flatMap flat1).length = sumU Ts
  | [] => rfl
  | N :: Ts => by
    have := flat_len Ts
    unfold sumU at this ⊢
    rw [List.flatMap_cons, List.length_append, flat1_len, this, List.map_cons, List.sum_cons]
theorem cntN_mem {d : Int} {N : Ns} (hd : 0 < d) (h : 0 < cntN d N) : d ∈ flat1 N := by
  unfold cntN at h
  obtain ⟨x, hx⟩ := List.exists_mem_of_length_pos h
  rw [List.mem_filter] at hx
  have e : x.1 = d := by simpa using hx.2
  exact List.mem_map.2 ⟨x, List.mem_filter.2 ⟨hx.1, by simp; omega⟩, e⟩
theorem cntS_mem {d : Int} (hd : 0 < d) : ∀ {Ts : List Ns}, 0 < cntS d Ts → d ∈ Ts.flatMap flat1
  | [], h => by simp [cntS] at h
  | N :: Ts, h => by
    rw [List.flatMap_cons, List.mem_append]
    simp only [cntS, List.map_cons, List.sum_cons] at h
    by_cases e : 0 < cntN d N
    · exact .inl (cntN_mem hd e)
    · exact .inr (cntS_mem hd (by unfold cntS; omega))
section
variable {D : DS} {Ts : List Ns} {k n j : Nat} {C : List (Nm × Int)}
/-- No more is open than numbers have. -/
theorem Inv.open_le (I : Inv D Ts k) (hN : IsN D.E n) : n ≤ sumU Ts := by
  obtain ⟨ks, h1, rfl, h2⟩ := hN
  rw [← flat_len]
  refine int_sub h1 (fun x hx => ?_)
  have hs := (h2 x).1 hx
  have h0 := (I.core.giv.e x hs).1
  exact cntS_mem h0 ((I.core.cE x h0).1 hs)
theorem sumU_take (Ts : List Ns) (h : j < Ts.length) : sumU (Ts.take (j + 1)) = sumU (Ts.take j) + usedN Ts[j] := by
  unfold sumU
  rw [List.take_succ_eq_append_getElem h, List.map_append, List.sum_append]
  simp
theorem sumU_le : ∀ (Ts : List Ns), (∀ N ∈ Ts, N.length = 8) → sumU Ts ≤ 8 * Ts.length
  | [], _ => Nat.zero_le _
  | N :: Ts, h => by
    have := sumU_le Ts (fun M hM => h M (List.mem_cons_of_mem _ hM))
    have h1 := used_le N
    have h2 := h N List.mem_cons_self
    unfold sumU at this ⊢
    rw [List.map_cons, List.sum_cons, List.length_cons]
    omega
theorem sumU_zero : ∀ {Ts : List Ns}, (∀ i (h : i < Ts.length), usedN Ts[i] = 0) → sumU Ts = 0
  | [], _ => rfl
  | N :: Ts, h => by
    have := sumU_zero (Ts := Ts) (fun i hi => h (i + 1) (by simpa using hi))
    have h0 := h 0 (by simp)
    unfold sumU at this ⊢
    rw [List.map_cons, List.sum_cons, this]
    exact h0
/-- Names of the root that are left. -/
structure Lft (D : DS) (L : List Nm) (i : Nat) : Prop where
  fl : FlD D
  root : ∃ C, D.T 0 = some (.dir C) ∧ ∀ s, (C.lookup s).isSome = true ↔ s ∈ L.drop i
theorem list_mem (hn : (C.map (·.1)).Nodup) (s : Nm) : (C.lookup s).isSome = true ↔ s ∈ C.map (·.1) := by
  constructor
  · intro h
    obtain ⟨n, hl⟩ := Option.isSome_iff_exists.1 h
    exact List.mem_map.2 ⟨(s, n), lookup_mem hl, rfl⟩
  · intro h
    obtain ⟨⟨a, n⟩, hm, rfl⟩ := List.mem_map.1 h
    rw [mem_lookup hn hm]; rfl
theorem Lft.step {L : List Nm} {i : Nat} (h : Lft D L i) (hT : TrLv D.T) (hL : L.Nodup) (hi : i < L.length) : unlinkE D.T (47 :: L[i]) = 0 ∧ Lft { D with T := unlinkN D.T (47 :: L[i]) } L (i + 1) ∧ L[i].length ≤ 12 := by
  obtain ⟨C, h0, hs⟩ := h.root
  have hd : L.drop i = L[i] :: L.drop (i + 1) := List.drop_eq_getElem_cons hi
  obtain ⟨n, hl⟩ := Option.isSome_iff_exists.1 ((hs L[i]).2 (by rw [hd]; exact List.mem_cons_self))
  have hnm := h.fl.nms C h0 _ (lookup_mem hl)
  have hp := root_place h0 hnm
  obtain ⟨hn0, b, x, hb⟩ := h.fl.child hT h0 hl
  have hE : unlinkE D.T (47 :: L[i]) = 0 := by
    unfold unlinkE
    rw [hp]
    simp only
    rw [if_neg (by simp), hasT_eq h0, hl]
    simp only
    unfold manyT
    rw [hb]
    simp
  refine ⟨hE, ⟨h.fl.unlink hT _, C.filter (fun y => y.1 != L[i]), ?_, fun s => ?_⟩, ?_⟩
  · show unlinkN D.T (47 :: L[i]) 0 = _
    unfold unlinkN
    rw [if_neg (fun z => z hE), hp]
    refine sweep_root ?_
    simp only
    rw [delT_eq h0, setT_same]
  · rw [lookup_del]
    have hnd : L[i] ∉ L.drop (i + 1) := by
      have := hL.sublist (List.drop_sublist i L)
      rw [hd, List.nodup_cons] at this
      exact this.1
    by_cases e : s = L[i]
    · rw [if_pos e, e]; simp [hnd]
    · rw [if_neg e, hs s, hd, List.mem_cons]; simp [e]
  · exact (isName_len (hT.name 0 C _ h0 (lookup_mem hl))).2
theorem Lft.none {L : List Nm} {i : Nat} (h : Lft D L i) (hi : L.length ≤ i) : FlD D ∧ D.T 0 = some (.dir []) := by
  obtain ⟨C, h0, hs⟩ := h.root
  refine ⟨h.fl, ?_⟩
  rw [List.drop_eq_nil_of_le hi] at hs
  cases C with
  | nil => exact h0
  | cons x C =>
    have := (hs x.1).1 (by simp [List.lookup])
    cases this
/-- Nothing is open, no name is left: the root alone is there. -/
theorem all_gone (I : Inv D Ts k) (h : FlD D) (h0 : D.T 0 = some (.dir [])) (hz : sumU Ts = 0) : IsN D.E 0 ∧ IsNum D.T 1 := by
  have hE : ∀ d, D.E d = none := fun d => by
    cases hd : D.E d with
    | none => rfl
    | some e =>
      have hp := (I.core.giv.e d (by rw [hd]; rfl)).1
      have hm := cntS_mem hp ((I.core.cE d hp).1 (by rw [hd]; rfl))
      have := List.length_pos_of_mem hm
      rw [flat_len] at this
      omega
  refine ⟨IsN.nil hE, [0], by simp, rfl, fun x => ?_⟩
  rw [List.mem_singleton]
  constructor
  · rintro rfl; rw [h0]; rfl
  · intro hx
    obtain ⟨nd, hn⟩ := Option.isSome_iff_exists.1 hx
    rcases I.core.lv.lv x nd hn with e | e | e
    · exact e
    · exfalso
      obtain ⟨i, _, hi⟩ := cntTo_pos 64 e
      cases hd : D.T (i : Int) with
      | none => rw [hd] at hi; exact hi rfl
      | some nd9 => cases nd9 with
        | file b y => rw [hd] at hi; exact hi rfl
        | dir C9 =>
          have hz9 := h.dir _ C9 hd
          rw [hz9, h0] at hd
          cases hd
          rw [hz9, h0] at hi
          exact hi rfl
    · exfalso
      cases nd with
      | dir C9 => exact e rfl
      | file b y =>
        have hc := h.cnt x b y hn
        have := hc.one (IsN.nil (F := fe (knE D.E) x) (fun i => by unfold fe knE; rw [hE i]; simp))
        exact e this
end
end Go.Proofs.YtjkneekfijibiabGreatDoor

namespace Go.Proofs.YtjkneekfijibiabGreatDoor
open Go.RowKit Go.Maps

section
variable {w w' : World} {m : Int} {f r k k' j : Nat} {D : DS} {bs : List Nat} {Ts : List Ns} {A : Nat → Prop}
theorem KD.more (h : KD w m f r D bs Ts k A) (hk : k ≤ k') : KD w m f r D bs Ts k' A := ⟨h.st, h.len, h.nd, h.bsA, h.inv.more hk, h.lt, h.ml, h.mn, h.er, h.en⟩
/-- What one of descriptors leaves; N was the table. -/
def FdO (w : World) (m : Int) (f r : Nat) (D : DS) (bs : List Nat) (Ts : List Ns) (k j : Nat) (N : Ns) (A : Nat → Prop) (y : Ending) (w' : World) : Prop :=
  ∃ c D' N' A', y = .returned (uev c) ∧ Aft D N c D' N' ∧ KD w' m f r D' bs (Ts.set j N') (k + 2) A' ∧ Stp w w' A A'
theorem Stp.asw {w wA wB : World} {A A' : Nat → Prop} (h : Stp w wA A A') (e : wB.heap = wA.heap) (e1 : wB.os = wA.os) (e2 : wB.tape = wA.tape) (e3 : wB.output = wA.output) : Stp w wB A A' :=
  ⟨⟨e1.trans h.wt.os, e2.trans h.wt.tape, e3.trans h.wt.output, by rw [e]; exact h.wt.size, fun i hi hn => by rw [e]; exact h.wt.block i hi hn⟩, h.own⟩
theorem fd_cells (w : World) (a b c d e : Value) : ∀ T, (w.alloc (.cells #[a, b, c, d, e] T)).cell? ⟨w.heap.size, 0, none⟩ = some a ∧ (w.alloc (.cells #[a, b, c, d, e] T)).cell? ⟨w.heap.size, 2, none⟩ = some c ∧ (w.alloc (.cells #[a, b, c, d, e] T)).cell? ⟨w.heap.size, 3, none⟩ = some d ∧ (w.alloc (.cells #[a, b, c, d, e] T)).cell? ⟨w.heap.size, 4, none⟩ = some e := fun T => by
  have h := new_five w a b c d e T
  exact ⟨by rw [cell_of_row _ _ _ _ _ _ h]; rfl, by rw [cell_of_row _ _ _ _ _ _ h]; rfl, by rw [cell_of_row _ _ _ _ _ _ h]; rfl, by rw [cell_of_row _ _ _ _ _ _ h]; rfl⟩
set_option maxRecDepth 100000 in
set_option maxHeartbeats 8000000 in
theorem fd_2 (h : KD w m f r D bs Ts k A) (fl : FlD D) (_hk : k ≤ 800) (_hn : D.nx < 800) (hj : j < bs.length) (hjT : j < Ts.length) (t9 X Y : Int) (p : List UInt8) (_hp : p.length ≤ 100) :
    Calls Tryz.prog 39 #[wp f, wp bs[j], .agg #[.int .i64 2, .int .i64 t9, .int .i64 X, .int .i64 Y, tx p]] w (FdO w m f r D bs Ts k j Ts[j] A) := by
  obtain ⟨J, hJ⟩ : ∃ J, w.heap.size = J := ⟨_, rfl⟩
  obtain ⟨xs, hxs⟩ : ∃ xs : Array Value, #[.int .i64 2, .int .i64 t9, .int .i64 X, .int .i64 Y, tx p] = xs := ⟨_, rfl⟩
  have I := h.inv
  have b0 : Below w.heap.size w (w.alloc (.cells xs 93)) := (Below.refl _ _).alloc (Nat.le_refl _) _
  have h0 := h.below b0
  have st0 : Stp w (w.alloc (.cells xs 93)) A A := .below b0
  obtain ⟨z0, z2, z3, z4⟩ := fd_cells w (.int .i64 2) (.int .i64 t9) (.int .i64 X) (.int .i64 Y) (tx p) 93
  rw [hxs, hJ] at z0 z2 z3 z4
  clear b0
  go_enter Tryz.func39, Tryz.ntmps39
  go_upto_region 1 with fail
  generalize w.alloc (.cells xs 93) = wA at *
  clear hxs hJ
  have hP := h0.dup hj X
  go_wp2_with (go_at_call 43; refine hP.mono ?_; rintro e w1 ⟨D1, N1, A1, ⟨rfl, rfl, rfl⟩, n1, st1⟩)
  go_ret
  exact ⟨_, _, _, A1, rfl, Aft.dup fl _ X, (n1.more (by omega)), st0.trans st1⟩
set_option maxRecDepth 100000 in
set_option maxHeartbeats 8000000 in
theorem fd_3 (h : KD w m f r D bs Ts k A) (fl : FlD D) (hk : k ≤ 800) (_hn : D.nx < 800) (hj : j < bs.length) (hjT : j < Ts.length) (t9 X Y : Int) (p : List UInt8) (_hp : p.length ≤ 100) :
    Calls Tryz.prog 39 #[wp f, wp bs[j], .agg #[.int .i64 3, .int .i64 t9, .int .i64 X, .int .i64 Y, tx p]] w (FdO w m f r D bs Ts k j Ts[j] A) := by
  obtain ⟨J, hJ⟩ : ∃ J, w.heap.size = J := ⟨_, rfl⟩
  obtain ⟨xs, hxs⟩ : ∃ xs : Array Value, #[.int .i64 3, .int .i64 t9, .int .i64 X, .int .i64 Y, tx p] = xs := ⟨_, rfl⟩
  have I := h.inv
  have b0 : Below w.heap.size w (w.alloc (.cells xs 93)) := (Below.refl _ _).alloc (Nat.le_refl _) _
  have h0 := h.below b0
  have st0 : Stp w (w.alloc (.cells xs 93)) A A := .below b0
  obtain ⟨z0, z2, z3, z4⟩ := fd_cells w (.int .i64 3) (.int .i64 t9) (.int .i64 X) (.int .i64 Y) (tx p) 93
  rw [hxs, hJ] at z0 z2 z3 z4
  clear b0
  go_enter Tryz.func39, Tryz.ntmps39
  go_upto_region 1 with fail
  generalize w.alloc (.cells xs 93) = wA at *
  clear hxs hJ
  have hP := h0.dup2 (by omega) hj X Y
  go_wp2_with (go_at_call 83; refine hP.mono ?_; rintro e w1 ⟨D1, N1, A1, ⟨rfl, rfl, rfl⟩, n1, st1⟩)
  go_ret
  exact ⟨_, _, _, A1, rfl, Aft.dup2 fl I (by omega) hjT X Y, (n1.more (by omega)), st0.trans st1⟩
set_option maxRecDepth 100000 in
set_option maxHeartbeats 8000000 in
theorem fd_4 (h : KD w m f r D bs Ts k A) (fl : FlD D) (_hk : k ≤ 800) (_hn : D.nx < 800) (hj : j < bs.length) (hjT : j < Ts.length) (t9 X Y : Int) (p : List UInt8) (_hp : p.length ≤ 100) :
    Calls Tryz.prog 39 #[wp f, wp bs[j], .agg #[.int .i64 4, .int .i64 t9, .int .i64 X, .int .i64 Y, tx p]] w (FdO w m f r D bs Ts k j Ts[j] A) := by
  obtain ⟨J, hJ⟩ : ∃ J, w.heap.size = J := ⟨_, rfl⟩
  obtain ⟨xs, hxs⟩ : ∃ xs : Array Value, #[.int .i64 4, .int .i64 t9, .int .i64 X, .int .i64 Y, tx p] = xs := ⟨_, rfl⟩
  have I := h.inv
  have b0 : Below w.heap.size w (w.alloc (.cells xs 93)) := (Below.refl _ _).alloc (Nat.le_refl _) _
  have h0 := h.below b0
  have st0 : Stp w (w.alloc (.cells xs 93)) A A := .below b0
  obtain ⟨z0, z2, z3, z4⟩ := fd_cells w (.int .i64 4) (.int .i64 t9) (.int .i64 X) (.int .i64 Y) (tx p) 93
  rw [hxs, hJ] at z0 z2 z3 z4
  clear b0
  go_enter Tryz.func39, Tryz.ntmps39
  go_upto_region 1 with fail
  generalize w.alloc (.cells xs 93) = wA at *
  clear hxs hJ
  have hP := fun b => h0.mark hj X b
  have hQ := fun b => Aft.mark fl _ (I.len hjT) X b (if hasN Ts[j] X = true then (0 : Int) else 7)
  generalize (if hasN Ts[j] X = true then (0 : Int) else 7) = c9 at *
  go_wp2_with (go_at_call 85; refine (hP _).mono ?_; rintro e w1 ⟨D1, N1, A1, ⟨rfl, rfl, rfl⟩, n1, st1⟩)
  go_ret
  exact ⟨_, _, _, A1, rfl, hQ _, n1.more (by omega), st0.trans st1⟩
set_option maxRecDepth 100000 in
set_option maxHeartbeats 8000000 in
theorem fd_5 (h : KD w m f r D bs Ts k A) (fl : FlD D) (hk : k ≤ 800) (_hn : D.nx < 800) (hj : j < bs.length) (hjT : j < Ts.length) (t9 X Y : Int) (p : List UInt8) (_hp : p.length ≤ 100) :
    Calls Tryz.prog 39 #[wp f, wp bs[j], .agg #[.int .i64 5, .int .i64 t9, .int .i64 X, .int .i64 Y, tx p]] w (FdO w m f r D bs Ts k j Ts[j] A) := by
  obtain ⟨J, hJ⟩ : ∃ J, w.heap.size = J := ⟨_, rfl⟩
  obtain ⟨xs, hxs⟩ : ∃ xs : Array Value, #[.int .i64 5, .int .i64 t9, .int .i64 X, .int .i64 Y, tx p] = xs := ⟨_, rfl⟩
  have I := h.inv
  have b0 : Below w.heap.size w (w.alloc (.cells xs 93)) := (Below.refl _ _).alloc (Nat.le_refl _) _
  have h0 := h.below b0
  have st0 : Stp w (w.alloc (.cells xs 93)) A A := .below b0
  obtain ⟨z0, z2, z3, z4⟩ := fd_cells w (.int .i64 5) (.int .i64 t9) (.int .i64 X) (.int .i64 Y) (tx p) 93
  rw [hxs, hJ] at z0 z2 z3 z4
  clear b0
  go_enter Tryz.func39, Tryz.ntmps39
  go_upto_region 1 with fail
  generalize w.alloc (.cells xs 93) = wA at *
  clear hxs hJ
  have hP := h0.close (by omega) hj X
  have hQ := Aft.closeO fl I hjT X
  generalize (if hasN Ts[j] X = true then (0 : Int) else 7) = c9 at *
  go_wp2_with (go_at_call 47; refine hP.mono ?_; rintro e w1 ⟨D1, N1, A1, ⟨rfl, rfl, rfl⟩, n1, st1⟩)
  go_ret
  exact ⟨_, _, _, A1, rfl, hQ, (n1.more (by omega)), st0.trans st1⟩
set_option maxRecDepth 100000 in
set_option maxHeartbeats 8000000 in
theorem fd_6 (h : KD w m f r D bs Ts k A) (fl : FlD D) (_hk : k ≤ 800) (_hn : D.nx < 800) (hj : j < bs.length) (hjT : j < Ts.length) (t9 X Y : Int) (p : List UInt8) (_hp : p.length ≤ 100) :
    Calls Tryz.prog 39 #[wp f, wp bs[j], .agg #[.int .i64 6, .int .i64 t9, .int .i64 X, .int .i64 Y, tx p]] w (FdO w m f r D bs Ts k j Ts[j] A) := by
  obtain ⟨J, hJ⟩ : ∃ J, w.heap.size = J := ⟨_, rfl⟩
  obtain ⟨xs, hxs⟩ : ∃ xs : Array Value, #[.int .i64 6, .int .i64 t9, .int .i64 X, .int .i64 Y, tx p] = xs := ⟨_, rfl⟩
  have I := h.inv
  have b0 : Below w.heap.size w (w.alloc (.cells xs 93)) := (Below.refl _ _).alloc (Nat.le_refl _) _
  have h0 := h.below b0
  have st0 : Stp w (w.alloc (.cells xs 93)) A A := .below b0
  obtain ⟨z0, z2, z3, z4⟩ := fd_cells w (.int .i64 6) (.int .i64 t9) (.int .i64 X) (.int .i64 Y) (tx p) 93
  rw [hxs, hJ] at z0 z2 z3 z4
  clear b0
  go_enter Tryz.func39, Tryz.ntmps39
  go_upto_region 1 with fail
  generalize w.alloc (.cells xs 93) = wA at *
  clear hxs hJ
  have hP := h0.read hj X Y
  go_wp2_with (go_at_call 45; refine hP.mono ?_; rintro e w1 ⟨D1, N1, A1, ⟨rfl, rfl, rfl⟩, n1, st1⟩)
  go_ret
  exact ⟨_, _, _, A1, rfl, Aft.read fl _ X Y _, (n1.more (by omega)), st0.trans st1⟩
set_option maxRecDepth 100000 in
set_option maxHeartbeats 8000000 in
theorem fd_7 (h : KD w m f r D bs Ts k A) (fl : FlD D) (_hk : k ≤ 800) (_hn : D.nx < 800) (hj : j < bs.length) (hjT : j < Ts.length) (t9 X Y : Int) (p : List UInt8) (hp : p.length ≤ 100) :
    Calls Tryz.prog 39 #[wp f, wp bs[j], .agg #[.int .i64 7, .int .i64 t9, .int .i64 X, .int .i64 Y, tx p]] w (FdO w m f r D bs Ts k j Ts[j] A) := by
  obtain ⟨J, hJ⟩ : ∃ J, w.heap.size = J := ⟨_, rfl⟩
  obtain ⟨xs, hxs⟩ : ∃ xs : Array Value, #[.int .i64 7, .int .i64 t9, .int .i64 X, .int .i64 Y, tx p] = xs := ⟨_, rfl⟩
  have I := h.inv
  have b0 : Below w.heap.size w (w.alloc (.cells xs 93)) := (Below.refl _ _).alloc (Nat.le_refl _) _
  have h0 := h.below b0
  have st0 : Stp w (w.alloc (.cells xs 93)) A A := .below b0
  obtain ⟨z0, z2, z3, z4⟩ := fd_cells w (.int .i64 7) (.int .i64 t9) (.int .i64 X) (.int .i64 Y) (tx p) 93
  rw [hxs, hJ] at z0 z2 z3 z4
  clear b0
  go_enter Tryz.func39, Tryz.ntmps39
  go_upto_region 1 with fail
  generalize w.alloc (.cells xs 93) = wA at *
  clear hxs hJ
  have hP := h0.write hj X p (by omega) 100
  go_wp2_with (go_at_call 44; refine hP.mono ?_; rintro e w1 ⟨D1, N1, A1, ⟨rfl, rfl, rfl⟩, n1, st1⟩)
  go_ret
  exact ⟨_, _, _, A1, rfl, Aft.write fl _ X p 100 _, (n1.more (by omega)), st0.trans st1⟩
set_option maxRecDepth 100000 in
set_option maxHeartbeats 8000000 in
theorem fd_8 (h : KD w m f r D bs Ts k A) (fl : FlD D) (_hk : k ≤ 800) (_hn : D.nx < 800) (hj : j < bs.length) (hjT : j < Ts.length) (t9 X Y : Int) (p : List UInt8) (_hp : p.length ≤ 100) :
    Calls Tryz.prog 39 #[wp f, wp bs[j], .agg #[.int .i64 8, .int .i64 t9, .int .i64 X, .int .i64 Y, tx p]] w (FdO w m f r D bs Ts k j Ts[j] A) := by
  obtain ⟨J, hJ⟩ : ∃ J, w.heap.size = J := ⟨_, rfl⟩
  obtain ⟨xs, hxs⟩ : ∃ xs : Array Value, #[.int .i64 8, .int .i64 t9, .int .i64 X, .int .i64 Y, tx p] = xs := ⟨_, rfl⟩
  have I := h.inv
  have b0 : Below w.heap.size w (w.alloc (.cells xs 93)) := (Below.refl _ _).alloc (Nat.le_refl _) _
  have h0 := h.below b0
  have st0 : Stp w (w.alloc (.cells xs 93)) A A := .below b0
  obtain ⟨z0, z2, z3, z4⟩ := fd_cells w (.int .i64 8) (.int .i64 t9) (.int .i64 X) (.int .i64 Y) (tx p) 93
  rw [hxs, hJ] at z0 z2 z3 z4
  clear b0
  go_enter Tryz.func39, Tryz.ntmps39
  go_upto_region 1 with fail
  generalize w.alloc (.cells xs 93) = wA at *
  clear hxs hJ
  have hP := h0.seek hj X Y
  go_wp2_with (go_at_call 46; refine hP.mono ?_; rintro e w1 ⟨D1, N1, A1, ⟨rfl, rfl, rfl⟩, n1, st1⟩)
  go_ret
  exact ⟨_, _, _, A1, rfl, Aft.seek fl _ X Y _, (n1.more (by omega)), st0.trans st1⟩
set_option maxRecDepth 100000 in
set_option maxHeartbeats 8000000 in
theorem fd_1 (h : KD w m f r D bs Ts k A) (fl : FlD D) (_hk : k ≤ 800) (hn : D.nx < 800) (hj : j < bs.length) (hjT : j < Ts.length) (t9 X Y : Int) (p : List UInt8) (_hp : p.length ≤ 100) :
    Calls Tryz.prog 39 #[wp f, wp bs[j], .agg #[.int .i64 1, .int .i64 t9, .int .i64 X, .int .i64 Y, tx p]] w (FdO w m f r D bs Ts k j Ts[j] A) := by
  obtain ⟨J, hJ⟩ : ∃ J, w.heap.size = J := ⟨_, rfl⟩
  obtain ⟨xs, hxs⟩ : ∃ xs : Array Value, #[.int .i64 1, .int .i64 t9, .int .i64 X, .int .i64 Y, tx p] = xs := ⟨_, rfl⟩
  have I := h.inv
  have b0 : Below w.heap.size w (w.alloc (.cells xs 93)) := (Below.refl _ _).alloc (Nat.le_refl _) _
  have h0 := h.below b0
  have st0 : Stp w (w.alloc (.cells xs 93)) A A := .below b0
  obtain ⟨z0, z2, z3, z4⟩ := fd_cells w (.int .i64 1) (.int .i64 t9) (.int .i64 X) (.int .i64 Y) (tx p) 93
  rw [hxs, hJ] at z0 z2 z3 z4
  clear b0
  go_enter Tryz.func39, Tryz.ntmps39
  go_upto_region 1 with fail
  generalize w.alloc (.cells xs 93) = wA at *
  clear hxs hJ
  obtain ⟨n9, hn9⟩ := h.numE
  have hP := h0.pipe (by omega) hj hn9
  go_wp2_with (go_at_call 80; refine hP.mono ?_; rintro e w1 ⟨D1, N1, A1, ⟨x1, y1, c1, rfl, hF1⟩, n1, st1⟩; have HE1 : Aside _ := hF1; clear hF1)
  go_ret
  exact ⟨_, _, _, A1, rfl, Aft.pipe fl I hjT hn9 HE1.out, n1.more (by omega), st0.trans st1⟩
set_option maxRecDepth 100000 in
set_option maxHeartbeats 8000000 in
theorem fd_0 (h : KD w m f r D bs Ts k A) (fl : FlD D) (hk : k ≤ 800) (hn : D.nx < 800) (hj : j < bs.length) (hjT : j < Ts.length) (t9 X Y : Int) (p : List UInt8) (hp : p.length ≤ 100) :
    Calls Tryz.prog 39 #[wp f, wp bs[j], .agg #[.int .i64 0, .int .i64 t9, .int .i64 X, .int .i64 Y, tx p]] w (FdO w m f r D bs Ts k j Ts[j] A) := by
  obtain ⟨J, hJ⟩ : ∃ J, w.heap.size = J := ⟨_, rfl⟩
  obtain ⟨xs, hxs⟩ : ∃ xs : Array Value, #[.int .i64 0, .int .i64 t9, .int .i64 X, .int .i64 Y, tx p] = xs := ⟨_, rfl⟩
  have I := h.inv
  have hJA : ¬ A J := fun z => by have := h.lt _ z; omega
  have b0 : Below w.heap.size w (w.alloc (.cells xs 93)) := (Below.refl _ _).alloc (Nat.le_refl _) _
  have h0 := h.below b0
  have st0 : Stp w (w.alloc (.cells xs 93)) A A := .below b0
  obtain ⟨z0, z2, z3, z4⟩ := fd_cells w (.int .i64 0) (.int .i64 t9) (.int .i64 X) (.int .i64 Y) (tx p) 93
  rw [hxs, hJ] at z0 z2 z3 z4
  clear b0
  go_enter Tryz.func39, Tryz.ntmps39
  go_upto_region 1 with fail
  generalize w.alloc (.cells xs 93) = wA at *
  clear hxs hJ
  obtain ⟨n9, hn9⟩ := h.numE
  obtain ⟨s9, hs9⟩ := h.numT
  have hPk := fun W => ppick_any W X 3 (by omega) (by omega)
  have hP := fun W (n0 : KD W m f r D bs Ts k A) (pr : Int) => n0.file (by omega) (by omega) hj hn9 hs9 p (by omega) pr true
  go_upto_region 4 with fail
  go_region_held3 (fun w' => w'.cell? ⟨J, 2, none⟩ = some (.int .i64 X) ∧ w'.cell? ⟨J, 4, none⟩ = some (tx p)) (first | exact ⟨y2, y4⟩ | exact ⟨z2, z4⟩) (first
    | (go_at_call 17; refine (hPk _).mono ?_; rintro e w2 ⟨q, rfl, hq, hw2⟩; subst w2)
    | (go_at_call 42; refine (hP _ ?_ _).mono ?_; (first | exact h0 | exact h0.below ⟨rfl, rfl, rfl, Nat.le_refl _, fun _ _ => rfl⟩); rintro e w1 ⟨D1, N1, A1, ⟨x1, c1, rfl, hF1⟩, n1, st1⟩; have y2 := (st1.cellKept (b := J) (o := 2) z2 hJA).1; have y4 := (st1.cellKept (b := J) (o := 4) z4 hJA).1; have HE1 : Aside _ := hF1; clear hF1))
  all_goals
    clear hP hPk
    go_wp2_with fail
    go_ret
    exact ⟨_, _, _, A1, rfl, Aft.file fl I hjT hn9 HE1.out, n1, (st0.asw (wB := wA.drew) rfl rfl rfl rfl).trans st1⟩
set_option maxRecDepth 100000 in
set_option maxHeartbeats 8000000 in
theorem fd_none (v : Int) (hv : ¬ (0 ≤ v ∧ v ≤ 8)) (h : KD w m f r D bs Ts k A) (fl : FlD D) (_hk : k ≤ 800) (_hn : D.nx < 800) (hj : j < bs.length) (hjT : j < Ts.length) (t9 X Y : Int) (p : List UInt8) (_hp : p.length ≤ 100) :
    Calls Tryz.prog 39 #[wp f, wp bs[j], .agg #[.int .i64 v, .int .i64 t9, .int .i64 X, .int .i64 Y, tx p]] w (FdO w m f r D bs Ts k j Ts[j] A) := by
  obtain ⟨J, hJ⟩ : ∃ J, w.heap.size = J := ⟨_, rfl⟩
  obtain ⟨xs, hxs⟩ : ∃ xs : Array Value, #[.int .i64 v, .int .i64 t9, .int .i64 X, .int .i64 Y, tx p] = xs := ⟨_, rfl⟩
  have I := h.inv
  have b0 : Below w.heap.size w (w.alloc (.cells xs 93)) := (Below.refl _ _).alloc (Nat.le_refl _) _
  have h0 := h.below b0
  have st0 : Stp w (w.alloc (.cells xs 93)) A A := .below b0
  obtain ⟨z0, z2, z3, z4⟩ := fd_cells w (.int .i64 v) (.int .i64 t9) (.int .i64 X) (.int .i64 Y) (tx p) 93
  rw [hxs, hJ] at z0 z2 z3 z4
  clear b0
  have e0 : (v == 0) = false := by simp; omega
  have e1 : (v == 1) = false := by simp; omega
  have e2 : (v == 2) = false := by simp; omega
  have e3 : (v == 3) = false := by simp; omega
  have e4 : (v == 4) = false := by simp; omega
  have e5 : (v == 5) = false := by simp; omega
  have e6 : (v == 6) = false := by simp; omega
  have e7 : (v == 7) = false := by simp; omega
  have e8 : (v == 8) = false := by simp; omega
  clear hv
  go_enter Tryz.func39, Tryz.ntmps39
  go_upto_region 1 with fail
  generalize w.alloc (.cells xs 93) = wA at *
  clear hxs hJ
  go_wp2_with fail
  go_ret
  refine ⟨0, D, Ts[j], A, rfl, Aft.same fl _ _, ?_, st0⟩
  rw [List.set_getElem_self]
  exact h0.more (by omega)
theorem fd_any (v : Int) (h : KD w m f r D bs Ts k A) (fl : FlD D) (hk : k ≤ 800) (hn : D.nx < 800) (hj : j < bs.length) (hjT : j < Ts.length) (t9 X Y : Int) (p : List UInt8) (hp : p.length ≤ 100) :
    Calls Tryz.prog 39 #[wp f, wp bs[j], .agg #[.int .i64 v, .int .i64 t9, .int .i64 X, .int .i64 Y, tx p]] w (FdO w m f r D bs Ts k j Ts[j] A) := by
  by_cases h9 : ¬ (0 ≤ v ∧ v ≤ 8)
  · exact fd_none v h9 h fl hk hn hj hjT t9 X Y p hp
  · have hc : v = 0 ∨ v = 1 ∨ v = 2 ∨ v = 3 ∨ v = 4 ∨ v = 5 ∨ v = 6 ∨ v = 7 ∨ v = 8 := by omega
    rcases hc with rfl | rfl | rfl | rfl | rfl | rfl | rfl | rfl | rfl
    · exact fd_0 h fl hk hn hj hjT t9 X Y p hp
    · exact fd_1 h fl hk hn hj hjT t9 X Y p hp
    · exact fd_2 h fl hk hn hj hjT t9 X Y p hp
    · exact fd_3 h fl hk hn hj hjT t9 X Y p hp
    · exact fd_4 h fl hk hn hj hjT t9 X Y p hp
    · exact fd_5 h fl hk hn hj hjT t9 X Y p hp
    · exact fd_6 h fl hk hn hj hjT t9 X Y p hp
    · exact fd_7 h fl hk hn hj hjT t9 X Y p hp
    · exact fd_8 h fl hk hn hj hjT t9 X Y p hp
end
end Go.Proofs.YtjkneekfijibiabGreatDoor

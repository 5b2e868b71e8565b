/- DescCloses: each of descriptors, by its Go text (written by cfd.py). -/
import Derived.Test.YtjkneekfijibiabGreatDoorDFlat3
import Derived.Test.YtjkneekfijibiabGreatDoorQBase
import Derived.Test.YtjkneekfijibiabGreatDoorPick
import Derived.Deep.RegionHeld3
import Derived.BigQuiet
namespace Go.Proofs.YtjkneekfijibiabGreatDoor
open Go.RowKit Go.Maps

section
variable {w w' : World} {m : Int} {f r k k' j : Nat} {D : DS} {bs : List Nat} {Ts : List Ns} {A : Nat → Prop}
theorem KD.more (h : KD w m f r D bs Ts k A) (hk : k ≤ k') : KD w m f r D bs Ts k' A := ⟨h.st, h.len, h.nd, h.bsA, h.inv.more hk, h.lt, h.ml, h.mn, h.er, h.en⟩
/-- What one of descriptors leaves; N was the table. -/
def FdO (w : World) (m : Int) (f r : Nat) (D : DS) (bs : List Nat) (Ts : List Ns) (k j : Nat) (N : Ns) (A : Nat → Prop) (y : Ending) (w' : World) : Prop :=
  ∃ c D' N' A', y = .returned (uev c) ∧ Aft D N c D' N' ∧ KD w' m f r D' bs (Ts.set j N') (k + 2) A' ∧ Stp w w' A A'
theorem Stp.asw {w wA wB : World} {A A' : Nat → Prop} (h : Stp w wA A A') (e : wB.heap = wA.heap) (e1 : wB.os = wA.os) (e2 : wB.tape = wA.tape) (e3 : wB.output = wA.output) : Stp w wB A A' :=
  ⟨⟨e1.trans h.wt.os, e2.trans h.wt.tape, e3.trans h.wt.output, by rw [e]; exact h.wt.size, fun i hi hn => by rw [e]; exact h.wt.block i hi hn⟩, h.own⟩
theorem fd_cells (w : World) (a b c d e : Value) : ∀ T, (w.alloc (.cells #[a, b, c, d, e] T)).cell? ⟨w.heap.size, 0, none⟩ = some a ∧ (w.alloc (.cells #[a, b, c, d, e] T)).cell? ⟨w.heap.size, 2, none⟩ = some c ∧ (w.alloc (.cells #[a, b, c, d, e] T)).cell? ⟨w.heap.size, 3, none⟩ = some d ∧ (w.alloc (.cells #[a, b, c, d, e] T)).cell? ⟨w.heap.size, 4, none⟩ = some e := fun T => by
  have h := new_five w a b c d e T
  exact ⟨by rw [cell_of_row _ _ _ _ _ _ h]; rfl, by rw [cell_of_row _ _ _ _ _ _ h]; rfl, by rw [cell_of_row _ _ _ _ _ _ h]; rfl, by rw [cell_of_row _ _ _ _ _ _ h]; rfl⟩
set_option maxRecDepth 100000 in
set_option maxHeartbeats 8000000 in
theorem fd_2 (h : KD w m f r D bs Ts k A) (fl : FlD D) (_hk : k ≤ 800) (_hn : D.nx < 800) (hj : j < bs.length) (hjT : j < Ts.length) (t9 X Y : Int) (p : List UInt8) (_hp : p.length ≤ 100) :
    Calls Tryz.prog 39 #[wp f, wp bs[j], .agg #[.int .i64 2, .int .i64 t9, .int .i64 X, .int .i64 Y, tx p]] w (FdO w m f r D bs Ts k j Ts[j] A) := by
  obtain ⟨J, hJ⟩ : ∃ J, w.heap.size = J := ⟨_, rfl⟩
  obtain ⟨xs, hxs⟩ : ∃ xs : Array Value, #[.int .i64 2, .int .i64 t9, .int .i64 X, .int .i64 Y, tx p] = xs := ⟨_, rfl⟩
  have I := h.inv
  have b0 : Below w.heap.size w (w.alloc (.cells xs 93)) := (Below.refl _ _).alloc (Nat.le_refl _) _
  have h0 := h.below b0
  have st0 : Stp w (w.alloc (.cells xs 93)) A A := .below b0
  obtain ⟨z0, z2, z3, z4⟩ := fd_cells w (.int .i64 2) (.int .i64 t9) (.int .i64 X) (.int .i64 Y) (tx p) 93
  rw [hxs, hJ] at z0 z2 z3 z4
  clear b0
  go_enter Tryz.func39, Tryz.ntmps39
  go_upto_region 1 with fail
  generalize w.alloc (.cells xs 93) = wA at *
  clear hxs hJ
  have hP := h0.dup hj X
  go_wp2_with (go_at_call 43; refine hP.mono ?_; rintro e w1 ⟨D1, N1, A1, ⟨rfl, rfl, rfl⟩, n1, st1⟩)
  go_ret
  exact ⟨_, _, _, A1, rfl, Aft.dup fl _ X, (n1.more (by omega)), st0.trans st1⟩
set_option maxRecDepth 100000 in
set_option maxHeartbeats 8000000 in
theorem fd_3 (h : KD w m f r D bs Ts k A) (fl : FlD D) (hk : k ≤ 800) (_hn : D.nx < 800) (hj : j < bs.length) (hjT : j < Ts.length) (t9 X Y : Int) (p : List UInt8) (_hp : p.length ≤ 100) :
    Calls Tryz.prog 39 #[wp f, wp bs[j], .agg #[.int .i64 3, .int .i64 t9, .int .i64 X, .int .i64 Y, tx p]] w (FdO w m f r D bs Ts k j Ts[j] A) := by
  obtain ⟨J, hJ⟩ : ∃ J, w.heap.size = J := ⟨_, rfl⟩
  obtain ⟨xs, hxs⟩ : ∃ xs : Array Value, #[.int .i64 3, .int .i64 t9, .int .i64 X, .int .i64 Y, tx p] = xs := ⟨_, rfl⟩
  have I := h.inv
  have b0 : Below w.heap.size w (w.alloc (.cells xs 93)) := (Below.refl _ _).alloc (Nat.le_refl _) _
  have h0 := h.below b0
  have st0 : Stp w (w.alloc (.cells xs 93)) A A := .below b0
  obtain ⟨z0, z2, z3, z4⟩ := fd_cells w (.int .i64 3) (.int .i64 t9) (.int .i64 X) (.int .i64 Y) (tx p) 93
  rw [hxs, hJ] at z0 z2 z3 z4
  clear b0
  go_enter Tryz.func39, Tryz.ntmps39
  go_upto_region 1 with fail
  generalize w.alloc (.cells xs 93) = wA at *
  clear hxs hJ
  have hP := h0.dup2 (by omega) hj X Y
  go_wp2_with (go_at_call 83; refine hP.mono ?_; rintro e w1 ⟨D1, N1, A1, ⟨rfl, rfl, rfl⟩, n1, st1⟩)
  go_ret
  exact ⟨_, _, _, A1, rfl, Aft.dup2 fl I (by omega) hjT X Y, (n1.more (by omega)), st0.trans st1⟩
set_option maxRecDepth 100000 in
set_option maxHeartbeats 8000000 in
theorem fd_4 (h : KD w m f r D bs Ts k A) (fl : FlD D) (_hk : k ≤ 800) (_hn : D.nx < 800) (hj : j < bs.length) (hjT : j < Ts.length) (t9 X Y : Int) (p : List UInt8) (_hp : p.length ≤ 100) :
    Calls Tryz.prog 39 #[wp f, wp bs[j], .agg #[.int .i64 4, .int .i64 t9, .int .i64 X, .int .i64 Y, tx p]] w (FdO w m f r D bs Ts k j Ts[j] A) := by
  obtain ⟨J, hJ⟩ : ∃ J, w.heap.size = J := ⟨_, rfl⟩
  obtain ⟨xs, hxs⟩ : ∃ xs : Array Value, #[.int .i64 4, .int .i64 t9, .int .i64 X, .int .i64 Y, tx p] = xs := ⟨_, rfl⟩
  have I := h.inv
  have b0 : Below w.heap.size w (w.alloc (.cells xs 93)) := (Below.refl _ _).alloc (Nat.le_refl _) _
  have h0 := h.below b0
  have st0 : Stp w (w.alloc (.cells xs 93)) A A := .below b0
  obtain ⟨z0, z2, z3, z4⟩ := fd_cells w (.int .i64 4) (.int .i64 t9) (.int .i64 X) (.int .i64 Y) (tx p) 93
  rw [hxs, hJ] at z0 z2 z3 z4
  clear b0
  go_enter Tryz.func39, Tryz.ntmps39
  go_upto_region 1 with fail
  generalize w.alloc (.cells xs 93) = wA at *
  clear hxs hJ
  have hP := fun b => h0.mark hj X b
  have hQ := fun b => Aft.mark fl _ (I.len hjT) X b (if hasN Ts[j] X = true then (0 : Int) else 7)
  generalize (if hasN Ts[j] X = true then (0 : Int) else 7) = c9 at *
  go_wp2_with (go_at_call 85; refine (hP _).mono ?_; rintro e w1 ⟨D1, N1, A1, ⟨rfl, rfl, rfl⟩, n1, st1⟩)
  go_ret
  exact ⟨_, _, _, A1, rfl, hQ _, n1.more (by omega), st0.trans st1⟩
set_option maxRecDepth 100000 in
set_option maxHeartbeats 8000000 in
theorem fd_5 (h : KD w m f r D bs Ts k A) (fl : FlD D) (hk : k ≤ 800) (_hn : D.nx < 800) (hj : j < bs.length) (hjT : j < Ts.length) (t9 X Y : Int) (p : List UInt8) (_hp : p.length ≤ 100) :
    Calls Tryz.prog 39 #[wp f, wp bs[j], .agg #[.int .i64 5, .int .i64 t9, .int .i64 X, .int .i64 Y, tx p]] w (FdO w m f r D bs Ts k j Ts[j] A) := by
  obtain ⟨J, hJ⟩ : ∃ J, w.heap.size = J := ⟨_, rfl⟩
  obtain ⟨xs, hxs⟩ : ∃ xs : Array Value, #[.int .i64 5, .int .i64 t9, .int .i64 X, .int .i64 Y, tx p] = xs := ⟨_, rfl⟩
  have I := h.inv
  have b0 : Below w.heap.size w (w.alloc (.cells xs 93)) := (Below.refl _ _).alloc (Nat.le_refl _) _
  have h0 := h.below b0
  have st0 : Stp w (w.alloc (.cells xs 93)) A A := .below b0
  obtain ⟨z0, z2, z3, z4⟩ := fd_cells w (.int .i64 5) (.int .i64 t9) (.int .i64 X) (.int .i64 Y) (tx p) 93
  rw [hxs, hJ] at z0 z2 z3 z4
  clear b0
  go_enter Tryz.func39, Tryz.ntmps39
  go_upto_region 1 with fail
  generalize w.alloc (.cells xs 93) = wA at *
  clear hxs hJ
  have hP := h0.close (by omega) hj X
  have hQ := Aft.closeO fl I hjT X
  generalize (if hasN Ts[j] X = true then (0 : Int) else 7) = c9 at *
  go_wp2_with (go_at_call 47; refine hP.mono ?_; rintro e w1 ⟨D1, N1, A1, ⟨rfl, rfl, rfl⟩, n1, st1⟩)
  go_ret
  exact ⟨_, _, _, A1, rfl, hQ, (n1.more (by omega)), st0.trans st1⟩
set_option maxRecDepth 100000 in
set_option maxHeartbeats 8000000 in
theorem fd_6 (h : KD w m f r D bs Ts k A) (fl : FlD D) (_hk : k ≤ 800) (_hn : D.nx < 800) (hj : j < bs.length) (hjT : j < Ts.length) (t9 X Y : Int) (p : List UInt8) (_hp : p.length ≤ 100) :
    Calls Tryz.prog 39 #[wp f, wp bs[j], .agg #[.int .i64 6, .int .i64 t9, .int .i64 X, .int .i64 Y, tx p]] w (FdO w m f r D bs Ts k j Ts[j] A) := by
  obtain ⟨J, hJ⟩ : ∃ J, w.heap.size = J := ⟨_, rfl⟩
  obtain ⟨xs, hxs⟩ : ∃ xs : Array Value, #[.int .i64 6, .int .i64 t9, .int .i64 X, .int .i64 Y, tx p] = xs := ⟨_, rfl⟩
  have I := h.inv
  have b0 : Below w.heap.size w (w.alloc (.cells xs 93)) := (Below.refl _ _).alloc (Nat.le_refl _) _
  have h0 := h.below b0
  have st0 : Stp w (w.alloc (.cells xs 93)) A A := .below b0
  obtain ⟨z0, z2, z3, z4⟩ := fd_cells w (.int .i64 6) (.int .i64 t9) (.int .i64 X) (.int .i64 Y) (tx p) 93
  rw [hxs, hJ] at z0 z2 z3 z4
  clear b0
  go_enter Tryz.func39, Tryz.ntmps39
  go_upto_region 1 with fail
  generalize w.alloc (.cells xs 93) = wA at *
  clear hxs hJ
  have hP := h0.read hj X Y
  go_wp2_with (go_at_call 45; refine hP.mono ?_; rintro e w1 ⟨D1, N1, A1, ⟨rfl, rfl, rfl⟩, n1, st1⟩)
  go_ret
  exact ⟨_, _, _, A1, rfl, Aft.read fl _ X Y _, (n1.more (by omega)), st0.trans st1⟩
set_option maxRecDepth 100000 in
set_option maxHeartbeats 8000000 in
theorem fd_7 (h : KD w m f r D bs Ts k A) (fl : FlD D) (_hk : k ≤ 800) (_hn : D.nx < 800) (hj : j < bs.length) (hjT : j < Ts.length) (t9 X Y : Int) (p : List UInt8) (hp : p.length ≤ 100) :
    Calls Tryz.prog 39 #[wp f, wp bs[j], .agg #[.int .i64 7, .int .i64 t9, .int .i64 X, .int .i64 Y, tx p]] w (FdO w m f r D bs Ts k j Ts[j] A) := by
  obtain ⟨J, hJ⟩ : ∃ J, w.heap.size = J := ⟨_, rfl⟩
  obtain ⟨xs, hxs⟩ : ∃ xs : Array Value, #[.int .i64 7, .int .i64 t9, .int .i64 X, .int .i64 Y, tx p] = xs := ⟨_, rfl⟩
  have I := h.inv
  have b0 : Below w.heap.size w (w.alloc (.cells xs 93)) := (Below.refl _ _).alloc (Nat.le_refl _) _
  have h0 := h.below b0
  have st0 : Stp w (w.alloc (.cells xs 93)) A A := .below b0
  obtain ⟨z0, z2, z3, z4⟩ := fd_cells w (.int .i64 7) (.int .i64 t9) (.int .i64 X) (.int .i64 Y) (tx p) 93
  rw [hxs, hJ] at z0 z2 z3 z4
  clear b0
  go_enter Tryz.func39, Tryz.ntmps39
  go_upto_region 1 with fail
  generalize w.alloc (.cells xs 93) = wA at *
  clear hxs hJ
  have hP := h0.write hj X p (by omega) 100
  go_wp2_with (go_at_call 44; refine hP.mono ?_; rintro e w1 ⟨D1, N1, A1, ⟨rfl, rfl, rfl⟩, n1, st1⟩)
  go_ret
  exact ⟨_, _, _, A1, rfl, Aft.write fl _ X p 100 _, (n1.more (by omega)), st0.trans st1⟩
set_option maxRecDepth 100000 in
set_option maxHeartbeats 8000000 in
theorem fd_8 (h : KD w m f r D bs Ts k A) (fl : FlD D) (_hk : k ≤ 800) (_hn : D.nx < 800) (hj : j < bs.length) (hjT : j < Ts.length) (t9 X Y : Int) (p : List UInt8) (_hp : p.length ≤ 100) :
    Calls Tryz.prog 39 #[wp f, wp bs[j], .agg #[.int .i64 8, .int .i64 t9, .int .i64 X, .int .i64 Y, tx p]] w (FdO w m f r D bs Ts k j Ts[j] A) := by
  obtain ⟨J, hJ⟩ : ∃ J, w.heap.size = J := ⟨_, rfl⟩
  obtain ⟨xs, hxs⟩ : ∃ xs : Array Value, #[.int .i64 8, .int .i64 t9, .int .i64 X, .int .i64 Y, tx p] = xs := ⟨_, rfl⟩
  have I := h.inv
  have b0 : Below w.heap.size w (w.alloc (.cells xs 93)) := (Below.refl _ _).alloc (Nat.le_refl _) _
  have h0 := h.below b0
  have st0 : Stp w (w.alloc (.cells xs 93)) A A := .below b0
  obtain ⟨z0, z2, z3, z4⟩ := fd_cells w (.int .i64 8) (.int .i64 t9) (.int .i64 X) (.int .i64 Y) (tx p) 93
  rw [hxs, hJ] at z0 z2 z3 z4
  clear b0
  go_enter Tryz.func39, Tryz.ntmps39
  go_upto_region 1 with fail
  generalize w.alloc (.cells xs 93) = wA at *
  clear hxs hJ
  have hP := h0.seek hj X Y
  go_wp2_with (go_at_call 46; refine hP.mono ?_; rintro e w1 ⟨D1, N1, A1, ⟨rfl, rfl, rfl⟩, n1, st1⟩)
  go_ret
  exact ⟨_, _, _, A1, rfl, Aft.seek fl _ X Y _, (n1.more (by omega)), st0.trans st1⟩
set_option maxRecDepth 100000 in
set_option maxHeartbeats 8000000 in
theorem fd_1 (h : KD w m f r D bs Ts k A) (fl : FlD D) (_hk : k ≤ 800) (hn : D.nx < 800) (hj : j < bs.length) (hjT : j < Ts.length) (t9 X Y : Int) (p : List UInt8) (_hp : p.length ≤ 100) :
    Calls Tryz.prog 39 #[wp f, wp bs[j], .agg #[.int .i64 1, .int .i64 t9, .int .i64 X, .int .i64 Y, tx p]] w (FdO w m f r D bs Ts k j Ts[j] A) := by
  obtain ⟨J, hJ⟩ : ∃ J, w.heap.size = J := ⟨_, rfl⟩
  obtain ⟨xs, hxs⟩ : ∃ xs : Array Value, #[.int .i64 1, .int .i64 t9, .int .i64 X, .int .i64 Y, tx p] = xs := ⟨_, rfl⟩
  have I := h.inv
  have b0 : Below w.heap.size w (w.alloc (.cells xs 93)) := (Below.refl _ _).alloc (Nat.le_refl _) _
  have h0 := h.below b0
  have st0 : Stp w (w.alloc (.cells xs 93)) A A := .below b0
  obtain ⟨z0, z2, z3, z4⟩ := fd_cells w (.int .i64 1) (.int .i64 t9) (.int .i64 X) (.int .i64 Y) (tx p) 93
  rw [hxs, hJ] at z0 z2 z3 z4
  clear b0
  go_enter Tryz.func39, Tryz.ntmps39
  go_upto_region 1 with fail
  generalize w.alloc (.cells xs 93) = wA at *
  clear hxs hJ
  obtain ⟨n9, hn9⟩ := h.numE
  have hP := h0.pipe (by omega) hj hn9
  go_wp2_with (go_at_call 80; refine hP.mono ?_; rintro e w1 ⟨D1, N1, A1, ⟨x1, y1, c1, rfl, hF1⟩, n1, st1⟩; have HE1 : Aside _ := hF1; clear hF1)
  go_ret
  exact ⟨_, _, _, A1, rfl, Aft.pipe fl I hjT hn9 HE1.out, n1.more (by omega), st0.trans st1⟩
set_option maxRecDepth 100000 in
set_option maxHeartbeats 8000000 in
theorem fd_0 (h : KD w m f r D bs Ts k A) (fl : FlD D) (hk : k ≤ 800) (hn : D.nx < 800) (hj : j < bs.length) (hjT : j < Ts.length) (t9 X Y : Int) (p : List UInt8) (hp : p.length ≤ 100) :
    Calls Tryz.prog 39 #[wp f, wp bs[j], .agg #[.int .i64 0, .int .i64 t9, .int .i64 X, .int .i64 Y, tx p]] w (FdO w m f r D bs Ts k j Ts[j] A) := by
  obtain ⟨J, hJ⟩ : ∃ J, w.heap.size = J := ⟨_, rfl⟩
  obtain ⟨xs, hxs⟩ : ∃ xs : Array Value, #[.int .i64 0, .int .i64 t9, .int .i64 X, .int .i64 Y, tx p] = xs := ⟨_, rfl⟩
  have I := h.inv
  have hJA : ¬ A J := fun z => by have := h.lt _ z; omega
  have b0 : Below w.heap.size w (w.alloc (.cells xs 93)) := (Below.refl _ _).alloc (Nat.le_refl _) _
  have h0 := h.below b0
  have st0 : Stp w (w.alloc (.cells xs 93)) A A := .below b0
  obtain ⟨z0, z2, z3, z4⟩ := fd_cells w (.int .i64 0) (.int .i64 t9) (.int .i64 X) (.int .i64 Y) (tx p) 93
  rw [hxs, hJ] at z0 z2 z3 z4
  clear b0
  go_enter Tryz.func39, Tryz.ntmps39
  go_upto_region 1 with fail
  generalize w.alloc (.cells xs 93) = wA at *
  clear hxs hJ
  obtain ⟨n9, hn9⟩ := h.numE
  obtain ⟨s9, hs9⟩ := h.numT
  have hPk := fun W => ppick_any W X 3 (by omega) (by omega)
  have hP := fun W (n0 : KD W m f r D bs Ts k A) (pr : Int) => n0.file (by omega) (by omega) hj hn9 hs9 p (by omega) pr true
  go_upto_region 4 with fail
  go_region_held3 (fun w' => w'.cell? ⟨J, 2, none⟩ = some (.int .i64 X) ∧ w'.cell? ⟨J, 4, none⟩ = some (tx p)) (first | exact ⟨y2, y4⟩ | exact ⟨z2, z4⟩) (first
    | (go_at_call 17; refine (hPk _).mono ?_; rintro e w2 ⟨q, rfl, hq, hw2⟩; subst w2)
    | (go_at_call 42; refine (hP _ ?_ _).mono ?_; (first | exact h0 | exact h0.below ⟨rfl, rfl, rfl, Nat.le_refl _, fun _ _ => rfl⟩); rintro e w1 ⟨D1, N1, A1, ⟨x1, c1, rfl, hF1⟩, n1, st1⟩; have y2 := (st1.cellKept (b := J) (o := 2) z2 hJA).1; have y4 := (st1.cellKept (b := J) (o := 4) z4 hJA).1; have HE1 : Aside _ := hF1; clear hF1))
  all_goals
    clear hP hPk
    go_wp2_with fail
    go_ret
    exact ⟨_, _, _, A1, rfl, Aft.file fl I hjT hn9 HE1.out, n1, (st0.asw (wB := wA.drew) rfl rfl rfl rfl).trans st1⟩
set_option maxRecDepth 100000 in
set_option maxHeartbeats 8000000 in
theorem fd_none (v : Int) (hv : ¬ (0 ≤ v ∧ v ≤ 8)) (h : KD w m f r D bs Ts k A) (fl : FlD D) (_hk : k ≤ 800) (_hn : D.nx < 800) (hj : j < bs.length) (hjT : j < Ts.length) (t9 X Y : Int) (p : List UInt8) (_hp : p.length ≤ 100) :
    Calls Tryz.prog 39 #[wp f, wp bs[j], .agg #[.int .i64 v, .int .i64 t9, .int .i64 X, .int .i64 Y, tx p]] w (FdO w m f r D bs Ts k j Ts[j] A) := by
  obtain ⟨J, hJ⟩ : ∃ J, w.heap.size = J := ⟨_, rfl⟩
  obtain ⟨xs, hxs⟩ : ∃ xs : Array Value, #[.int .i64 v, .int .i64 t9, .int .i64 X, .int .i64 Y, tx p] = xs := ⟨_, rfl⟩
  have I := h.inv
  have b0 : Below w.heap.size w (w.alloc (.cells xs 93)) := (Below.refl _ _).alloc (Nat.le_refl _) _
  have h0 := h.below b0
  have st0 : Stp w (w.alloc (.cells xs 93)) A A := .below b0
  obtain ⟨z0, z2, z3, z4⟩ := fd_cells w (.int .i64 v) (.int .i64 t9) (.int .i64 X) (.int .i64 Y) (tx p) 93
  rw [hxs, hJ] at z0 z2 z3 z4
  clear b0
  have e0 : (v == 0) = false := by simp; omega
  have e1 : (v == 1) = false := by simp; omega
  have e2 : (v == 2) = false := by simp; omega
  have e3 : (v == 3) = false := by simp; omega
  have e4 : (v == 4) = false := by simp; omega
  have e5 : (v == 5) = false := by simp; omega
  have e6 : (v == 6) = false := by simp; omega
  have e7 : (v == 7) = false := by simp; omega
  have e8 : (v == 8) = false := by simp; omega
  clear hv
  go_enter Tryz.func39, Tryz.ntmps39
  go_upto_region 1 with fail
  generalize w.alloc (.cells xs 93) = wA at *
  clear hxs hJ
  go_wp2_with fail
  go_ret
  refine ⟨0, D, Ts[j], A, rfl, Aft.same fl _ _, ?_, st0⟩
  rw [List.set_getElem_self]
  exact h0.more (by omega)
theorem fd_any (v : Int) (h : KD w m f r D bs Ts k A) (fl : FlD D) (hk : k ≤ 800) (hn : D.nx < 800) (hj : j < bs.length) (hjT : j < Ts.length) (t9 X Y : Int) (p : List UInt8) (hp : p.length ≤ 100) :
    Calls Tryz.prog 39 #[wp f, wp bs[j], .agg #[.int .i64 v, .int .i64 t9, .int .i64 X, .int .i64 Y, tx p]] w (FdO w m f r D bs Ts k j Ts[j] A) := by
  by_cases h9 : ¬ (0 ≤ v ∧ v ≤ 8)
  · exact fd_none v h9 h fl hk hn hj hjT t9 X Y p hp
  · have hc : v = 0 ∨ v = 1 ∨ v = 2 ∨ v = 3 ∨ v = 4 ∨ v = 5 ∨ v = 6 ∨ v = 7 ∨ v = 8 := by omega
    rcases hc with rfl | rfl | rfl | rfl | rfl | rfl | rfl | rfl | rfl
    · exact fd_0 h fl hk hn hj hjT t9 X Y p hp
    · exact fd_1 h fl hk hn hj hjT t9 X Y p hp
    · exact fd_2 h fl hk hn hj hjT t9 X Y p hp
    · exact fd_3 h fl hk hn hj hjT t9 X Y p hp
    · exact fd_4 h fl hk hn hj hjT t9 X Y p hp
    · exact fd_5 h fl hk hn hj hjT t9 X Y p hp
    · exact fd_6 h fl hk hn hj hjT t9 X Y p hp
    · exact fd_7 h fl hk hn hj hjT t9 X Y p hp
    · exact fd_8 h fl hk hn hj hjT t9 X Y p hp
end
end Go.Proofs.YtjkneekfijibiabGreatDoor

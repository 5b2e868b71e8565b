/- TreePlays: each of names, by its Go text. -/
import Derived.Test.YtpibokijbidgdabGreatDoorXNames
import Derived.Deep.RegionHeld3
namespace Go.Proofs.YtpibokijbidgdabGreatDoor
open Go.RowKit Go.Maps

section
variable {w w' : World} {j r r2 : Nat} {xs : Array Value} {T T2 T' : Wd} {A A' : Nat → Prop} {m : Int} {k : Nat}

theorem Stp.like {wA wB : World} (h : Stp w wA A A') (e : wB.heap = wA.heap) (e1 : wB.os = wA.os) (e2 : wB.tape = wA.tape) (e3 : wB.output = wA.output) : Stp w wB A A' :=
  ⟨⟨e1.trans h.wt.os, e2.trans h.wt.tape, e3.trans h.wt.output, by rw [e]; exact h.wt.size, fun i hi hn => by rw [e]; exact h.wt.block i hi hn⟩, h.own⟩

set_option maxRecDepth 100000 in
set_option maxHeartbeats 8000000 in
theorem names_find (h : BT w r r2 T T A m) (hT : TrLv T) (hS : Sm k T) (_ : k ≤ 800) (X Y : Int) (p q : List UInt8) (hp : p.length < 100000) (_ : q.length < 100000) :
    Calls Tryz.prog 8 #[wp r, wp r2, .agg #[.int .i64 0, .int .i64 X, .int .i64 Y, tx p, tx q]] w fun e w' => e = .returned (.bool true) ∧ Nxt w r r2 A m (k + 1) w' := by
  obtain ⟨J, hJ⟩ : ∃ J, w.heap.size = J := ⟨_, rfl⟩
  obtain ⟨xs, hxs⟩ : ∃ xs : Array Value, #[.int .i64 0, .int .i64 X, .int .i64 Y, tx p, tx q] = xs := ⟨_, rfl⟩
  have h0 := NB.new h xs
  have st0 : Stp w (w.alloc (.cells xs 31)) A A := .below ((Below.refl _ _).alloc (Nat.le_refl _) _)
  rw [hJ] at h0
  have hcells : ∀ {w1 : World} {T1 T3 : Wd} {A1 : Nat → Prop}, NB w1 J xs r r2 T1 T3 A1 m → w1.cell? ⟨J, 3, none⟩ = some (tx p) ∧ w1.cell? ⟨J, 4, none⟩ = some (tx q) := fun hb => ⟨(hb.cell 3).trans (by rw [← hxs]; rfl), (hb.cell 4).trans (by rw [← hxs]; rfl)⟩
  have hc0 : (w.alloc (.cells xs 31)).cell? ⟨J, 0, none⟩ = some (.int .i64 0) := (h0.cell 0).trans (by rw [← hxs]; rfl)
  obtain ⟨z3, z4⟩ := hcells h0
  go_enter Tryz.func8, Tryz.ntmps8
  go_upto_region 1 with fail
  generalize w.alloc (.cells xs 31) = wA at *
  clear hxs hJ
  have hP := h0.pFind hT p hp
  have hD := fun W A1 (n1 : NB W J xs r r2 T T A1 m) => n1.dFind hT p hp
  generalize (findT T p).1 = v at *
  generalize (findT T p).2 = c at *
  go_wp2_with (first
    | (go_at_call 17; refine hP.mono ?_; rintro e w1 ⟨rfl, A1, n1, st1⟩; obtain ⟨y3, y4⟩ := hcells n1; have hD1 := hD w1 A1 n1)
    | (go_at_call 24; refine hD1.mono ?_; rintro e w2 ⟨rfl, A2, n2, st2⟩; have hB := bareU c w2 n2.bt.er)
    | (go_at_call 34; refine hB.mono ?_; rintro e w3 ⟨rfl, b3⟩))
  go_ret
  exact ⟨rfl, T, A2, n2.bt.below b3, (st0.trans (st1.trans st2)).trans (.below b3), hT, hS.more (by omega)⟩

set_option maxRecDepth 100000 in
set_option maxHeartbeats 8000000 in
theorem names_mkdir (h : BT w r r2 T T A m) (hT : TrLv T) (hS : Sm k T) (hk : k ≤ 800) (X Y : Int) (p q : List UInt8) (hp : p.length < 100000) (_ : q.length < 100000) :
    Calls Tryz.prog 8 #[wp r, wp r2, .agg #[.int .i64 1, .int .i64 X, .int .i64 Y, tx p, tx q]] w fun e w' => e = .returned (.bool true) ∧ Nxt w r r2 A m (k + 1) w' := by
  obtain ⟨J, hJ⟩ : ∃ J, w.heap.size = J := ⟨_, rfl⟩
  obtain ⟨xs, hxs⟩ : ∃ xs : Array Value, #[.int .i64 1, .int .i64 X, .int .i64 Y, tx p, tx q] = xs := ⟨_, rfl⟩
  have h0 := NB.new h xs
  have st0 : Stp w (w.alloc (.cells xs 31)) A A := .below ((Below.refl _ _).alloc (Nat.le_refl _) _)
  rw [hJ] at h0
  have hcells : ∀ {w1 : World} {T1 T3 : Wd} {A1 : Nat → Prop}, NB w1 J xs r r2 T1 T3 A1 m → w1.cell? ⟨J, 3, none⟩ = some (tx p) ∧ w1.cell? ⟨J, 4, none⟩ = some (tx q) := fun hb => ⟨(hb.cell 3).trans (by rw [← hxs]; rfl), (hb.cell 4).trans (by rw [← hxs]; rfl)⟩
  have hc0 : (w.alloc (.cells xs 31)).cell? ⟨J, 0, none⟩ = some (.int .i64 1) := (h0.cell 0).trans (by rw [← hxs]; rfl)
  obtain ⟨z3, z4⟩ := hcells h0
  go_enter Tryz.func8, Tryz.ntmps8
  go_upto_region 1 with fail
  generalize w.alloc (.cells xs 31) = wA at *
  clear hxs hJ
  obtain ⟨s, hs⟩ := h0.num
  have hP := h0.pMake hs hT hS (by omega) p hp (fun O p' => p'.mkdir_ok hT hs p hp m h0.ml (hS.dirs (by omega)))
  have hD := fun W A1 T1 (n1 : NB W J xs r r2 T1 T A1 m) => n1.dMake hs hT hS (by omega) p true hp
  go_wp2_with (first
    | (go_at_call 25; refine hP.mono ?_; rintro e w1 ⟨c, v, T1, rfl, e1, A1, n1, st1⟩; obtain ⟨y3, y4⟩ := hcells n1; have hD1 := hD w1 A1 T1 n1)
    | (go_at_call 26; refine hD1.mono ?_; rintro e w2 ⟨c2, v2, T3, rfl, e2, A2, n2, st2⟩; obtain ⟨rfl, rfl, rfl⟩ := e1.one e2; have hB := bareU c w2 n2.bt.er)
    | (go_at_call 34; refine hB.mono ?_; rintro e w3 ⟨rfl, b3⟩))
  go_ret
  obtain ⟨hT1, hS1⟩ := e1.lv hT hS
  exact ⟨rfl, T1, A2, n2.bt.below b3, (st0.trans (st1.trans st2)).trans (.below b3), hT1, hS1⟩

set_option maxRecDepth 100000 in
set_option maxHeartbeats 8000000 in
theorem names_create (h : BT w r r2 T T A m) (hT : TrLv T) (hS : Sm k T) (hk : k ≤ 800) (X Y : Int) (p q : List UInt8) (hp : p.length < 100000) (_ : q.length < 100000) :
    Calls Tryz.prog 8 #[wp r, wp r2, .agg #[.int .i64 2, .int .i64 X, .int .i64 Y, tx p, tx q]] w fun e w' => e = .returned (.bool true) ∧ Nxt w r r2 A m (k + 1) w' := by
  obtain ⟨J, hJ⟩ : ∃ J, w.heap.size = J := ⟨_, rfl⟩
  obtain ⟨xs, hxs⟩ : ∃ xs : Array Value, #[.int .i64 2, .int .i64 X, .int .i64 Y, tx p, tx q] = xs := ⟨_, rfl⟩
  have h0 := NB.new h xs
  have st0 : Stp w (w.alloc (.cells xs 31)) A A := .below ((Below.refl _ _).alloc (Nat.le_refl _) _)
  rw [hJ] at h0
  have hcells : ∀ {w1 : World} {T1 T3 : Wd} {A1 : Nat → Prop}, NB w1 J xs r r2 T1 T3 A1 m → w1.cell? ⟨J, 3, none⟩ = some (tx p) ∧ w1.cell? ⟨J, 4, none⟩ = some (tx q) := fun hb => ⟨(hb.cell 3).trans (by rw [← hxs]; rfl), (hb.cell 4).trans (by rw [← hxs]; rfl)⟩
  have hc0 : (w.alloc (.cells xs 31)).cell? ⟨J, 0, none⟩ = some (.int .i64 2) := (h0.cell 0).trans (by rw [← hxs]; rfl)
  obtain ⟨z3, z4⟩ := hcells h0
  go_enter Tryz.func8, Tryz.ntmps8
  go_upto_region 1 with fail
  generalize w.alloc (.cells xs 31) = wA at *
  clear hxs hJ
  obtain ⟨s, hs⟩ := h0.num
  have hP := h0.pMake hs hT hS (by omega) p hp (fun O p' => p'.create_ok hT hs p hp m h0.ml (hS.dirs (by omega)))
  have hD := fun W A1 T1 (n1 : NB W J xs r r2 T1 T A1 m) => n1.dMake hs hT hS (by omega) p false hp
  go_wp2_with (first
    | (go_at_call 12; refine hP.mono ?_; rintro e w1 ⟨c, v, T1, rfl, e1, A1, n1, st1⟩; obtain ⟨y3, y4⟩ := hcells n1; have hD1 := hD w1 A1 T1 n1)
    | (go_at_call 26; refine hD1.mono ?_; rintro e w2 ⟨c2, v2, T3, rfl, e2, A2, n2, st2⟩; obtain ⟨rfl, rfl, rfl⟩ := e1.one e2; have hB := bareU c w2 n2.bt.er)
    | (go_at_call 34; refine hB.mono ?_; rintro e w3 ⟨rfl, b3⟩))
  go_ret
  obtain ⟨hT1, hS1⟩ := e1.lv hT hS
  exact ⟨rfl, T1, A2, n2.bt.below b3, (st0.trans (st1.trans st2)).trans (.below b3), hT1, hS1⟩

set_option maxRecDepth 100000 in
set_option maxHeartbeats 8000000 in
theorem names_link (h : BT w r r2 T T A m) (hT : TrLv T) (hS : Sm k T) (hk : k ≤ 800) (X Y : Int) (p q : List UInt8) (hp : p.length < 100000) (hq : q.length < 100000) :
    Calls Tryz.prog 8 #[wp r, wp r2, .agg #[.int .i64 3, .int .i64 X, .int .i64 Y, tx p, tx q]] w fun e w' => e = .returned (.bool true) ∧ Nxt w r r2 A m (k + 1) w' := by
  obtain ⟨J, hJ⟩ : ∃ J, w.heap.size = J := ⟨_, rfl⟩
  obtain ⟨xs, hxs⟩ : ∃ xs : Array Value, #[.int .i64 3, .int .i64 X, .int .i64 Y, tx p, tx q] = xs := ⟨_, rfl⟩
  have h0 := NB.new h xs
  have st0 : Stp w (w.alloc (.cells xs 31)) A A := .below ((Below.refl _ _).alloc (Nat.le_refl _) _)
  rw [hJ] at h0
  have hcells : ∀ {w1 : World} {T1 T3 : Wd} {A1 : Nat → Prop}, NB w1 J xs r r2 T1 T3 A1 m → w1.cell? ⟨J, 3, none⟩ = some (tx p) ∧ w1.cell? ⟨J, 4, none⟩ = some (tx q) := fun hb => ⟨(hb.cell 3).trans (by rw [← hxs]; rfl), (hb.cell 4).trans (by rw [← hxs]; rfl)⟩
  have hc0 : (w.alloc (.cells xs 31)).cell? ⟨J, 0, none⟩ = some (.int .i64 3) := (h0.cell 0).trans (by rw [← hxs]; rfl)
  obtain ⟨z3, z4⟩ := hcells h0
  go_enter Tryz.func8, Tryz.ntmps8
  go_upto_region 1 with fail
  generalize w.alloc (.cells xs 31) = wA at *
  clear hxs hJ
  have hP := fun W (n1 : NB W J xs r r2 T T A m) => n1.pLink hT hS (by omega) p q hp hq
  have hD := fun W A1 (n1 : NB W J xs r r2 (linkN T p q) T A1 m) => n1.dLink hT hS (by omega) p q hp hq
  have hT1 := hT.link p q
  have hS1 := hS.link p q
  generalize linkE T p q = c at *
  generalize linkN T p q = T1 at *
  go_upto_region 15 with fail
  go_region_held3 (fun w' => w'.cell? ⟨J, 3, none⟩ = some (tx p) ∧ w'.cell? ⟨J, 4, none⟩ = some (tx q)) (first | exact ⟨y3, y4⟩ | exact ⟨z3, z4⟩) (first
    | (go_at_call 16; refine (hP _ ?_).mono ?_; (first | exact h0 | exact h0.below ⟨rfl, rfl, rfl, Nat.le_refl _, fun _ _ => rfl⟩); rintro e w1 ⟨rfl, A1, n1, st1⟩; obtain ⟨y3, y4⟩ := hcells n1)
    | (go_at_call 27; refine (hD _ A1 (by exact n1)).mono ?_; rintro e w2 ⟨rfl, A2, n2, st2⟩; obtain ⟨y3, y4⟩ := hcells n2; have hB := bareU c w2 n2.bt.er))
  all_goals
    go_wp2_with (go_at_call 34; refine hB.mono ?_; rintro e w3 ⟨rfl, b3⟩)
    go_ret
    exact ⟨rfl, T1, A2, n2.bt.below b3, ((st0.like (wB := wA.drew) rfl rfl rfl rfl).trans (st1.trans st2)).trans (.below b3), hT1, hS1⟩

set_option maxRecDepth 100000 in
set_option maxHeartbeats 8000000 in
theorem names_unlink (h : BT w r r2 T T A m) (hT : TrLv T) (hS : Sm k T) (hk : k ≤ 800) (X Y : Int) (p q : List UInt8) (hp : p.length < 100000) (_ : q.length < 100000) :
    Calls Tryz.prog 8 #[wp r, wp r2, .agg #[.int .i64 4, .int .i64 X, .int .i64 Y, tx p, tx q]] w fun e w' => e = .returned (.bool true) ∧ Nxt w r r2 A m (k + 1) w' := by
  obtain ⟨J, hJ⟩ : ∃ J, w.heap.size = J := ⟨_, rfl⟩
  obtain ⟨xs, hxs⟩ : ∃ xs : Array Value, #[.int .i64 4, .int .i64 X, .int .i64 Y, tx p, tx q] = xs := ⟨_, rfl⟩
  have h0 := NB.new h xs
  have st0 : Stp w (w.alloc (.cells xs 31)) A A := .below ((Below.refl _ _).alloc (Nat.le_refl _) _)
  rw [hJ] at h0
  have hcells : ∀ {w1 : World} {T1 T3 : Wd} {A1 : Nat → Prop}, NB w1 J xs r r2 T1 T3 A1 m → w1.cell? ⟨J, 3, none⟩ = some (tx p) ∧ w1.cell? ⟨J, 4, none⟩ = some (tx q) := fun hb => ⟨(hb.cell 3).trans (by rw [← hxs]; rfl), (hb.cell 4).trans (by rw [← hxs]; rfl)⟩
  have hc0 : (w.alloc (.cells xs 31)).cell? ⟨J, 0, none⟩ = some (.int .i64 4) := (h0.cell 0).trans (by rw [← hxs]; rfl)
  obtain ⟨z3, z4⟩ := hcells h0
  go_enter Tryz.func8, Tryz.ntmps8
  go_upto_region 1 with fail
  generalize w.alloc (.cells xs 31) = wA at *
  clear hxs hJ
  have hP := fun W (n1 : NB W J xs r r2 T T A m) => n1.pUnlink hT hS (by omega) p hp
  have hD := fun W A1 (n1 : NB W J xs r r2 (unlinkN T p) T A1 m) => n1.dUnlink hT hS (by omega) p hp
  have hT1 := hT.unlink p
  have hS1 := hS.unlink p
  generalize unlinkE T p = c at *
  generalize unlinkN T p = T1 at *
  go_upto_region 17 with fail
  go_region_held3 (fun w' => w'.cell? ⟨J, 3, none⟩ = some (tx p)) (first | exact y3 | exact z3) (first
    | (go_at_call 19; refine (hP _ ?_).mono ?_; (first | exact h0 | exact h0.below ⟨rfl, rfl, rfl, Nat.le_refl _, fun _ _ => rfl⟩); rintro e w1 ⟨rfl, A1, n1, st1⟩; obtain ⟨y3, y4⟩ := hcells n1)
    | (go_at_call 28; refine (hD _ A1 (by exact n1)).mono ?_; rintro e w2 ⟨rfl, A2, n2, st2⟩; obtain ⟨y3, y4⟩ := hcells n2; have hB := bareU c w2 n2.bt.er))
  all_goals
    go_wp2_with (go_at_call 34; refine hB.mono ?_; rintro e w3 ⟨rfl, b3⟩)
    go_ret
    exact ⟨rfl, T1, A2, n2.bt.below b3, ((st0.like (wB := wA.drew) rfl rfl rfl rfl).trans (st1.trans st2)).trans (.below b3), hT1, hS1⟩

set_option maxRecDepth 100000 in
set_option maxHeartbeats 8000000 in
theorem names_rename (h : BT w r r2 T T A m) (hT : TrLv T) (hS : Sm k T) (hk : k ≤ 800) (X Y : Int) (p q : List UInt8) (hp : p.length < 100000) (hq : q.length < 100000) :
    Calls Tryz.prog 8 #[wp r, wp r2, .agg #[.int .i64 5, .int .i64 X, .int .i64 Y, tx p, tx q]] w fun e w' => e = .returned (.bool true) ∧ Nxt w r r2 A m (k + 1) w' := by
  obtain ⟨J, hJ⟩ : ∃ J, w.heap.size = J := ⟨_, rfl⟩
  obtain ⟨xs, hxs⟩ : ∃ xs : Array Value, #[.int .i64 5, .int .i64 X, .int .i64 Y, tx p, tx q] = xs := ⟨_, rfl⟩
  have h0 := NB.new h xs
  have st0 : Stp w (w.alloc (.cells xs 31)) A A := .below ((Below.refl _ _).alloc (Nat.le_refl _) _)
  rw [hJ] at h0
  have hcells : ∀ {w1 : World} {T1 T3 : Wd} {A1 : Nat → Prop}, NB w1 J xs r r2 T1 T3 A1 m → w1.cell? ⟨J, 3, none⟩ = some (tx p) ∧ w1.cell? ⟨J, 4, none⟩ = some (tx q) := fun hb => ⟨(hb.cell 3).trans (by rw [← hxs]; rfl), (hb.cell 4).trans (by rw [← hxs]; rfl)⟩
  have hc0 : (w.alloc (.cells xs 31)).cell? ⟨J, 0, none⟩ = some (.int .i64 5) := (h0.cell 0).trans (by rw [← hxs]; rfl)
  obtain ⟨z3, z4⟩ := hcells h0
  go_enter Tryz.func8, Tryz.ntmps8
  go_upto_region 1 with fail
  generalize w.alloc (.cells xs 31) = wA at *
  clear hxs hJ
  have hP := fun W (n1 : NB W J xs r r2 T T A m) => n1.pRename hT hS (by omega) p q hp hq
  have hD := fun W A1 (n1 : NB W J xs r r2 (renameN T p q) T A1 m) => n1.dRename hT hS (by omega) p q hp hq
  have hT1 := hT.rename p q
  have hS1 := hS.rename p q
  generalize renameE T p q = c at *
  generalize renameN T p q = T1 at *
  go_upto_region 19 with fail
  go_region_held3 (fun w' => w'.cell? ⟨J, 3, none⟩ = some (tx p) ∧ w'.cell? ⟨J, 4, none⟩ = some (tx q)) (first | exact ⟨y3, y4⟩ | exact ⟨z3, z4⟩) (first
    | (go_at_call 29; refine (hP _ ?_).mono ?_; (first | exact h0 | exact h0.below ⟨rfl, rfl, rfl, Nat.le_refl _, fun _ _ => rfl⟩); rintro e w1 ⟨rfl, A1, n1, st1⟩; obtain ⟨y3, y4⟩ := hcells n1)
    | (go_at_call 30; refine (hD _ A1 (by exact n1)).mono ?_; rintro e w2 ⟨rfl, A2, n2, st2⟩; obtain ⟨y3, y4⟩ := hcells n2; have hB := bareU c w2 n2.bt.er))
  all_goals
    go_wp2_with (go_at_call 34; refine hB.mono ?_; rintro e w3 ⟨rfl, b3⟩)
    go_ret
    exact ⟨rfl, T1, A2, n2.bt.below b3, ((st0.like (wB := wA.drew) rfl rfl rfl rfl).trans (st1.trans st2)).trans (.below b3), hT1, hS1⟩

set_option maxRecDepth 100000 in
set_option maxHeartbeats 8000000 in
theorem names_list (h : BT w r r2 T T A m) (hT : TrLv T) (hS : Sm k T) (hk : k ≤ 800) (X Y : Int) (p q : List UInt8) (hp : p.length < 100000) (_ : q.length < 100000) :
    Calls Tryz.prog 8 #[wp r, wp r2, .agg #[.int .i64 6, .int .i64 X, .int .i64 Y, tx p, tx q]] w fun e w' => e = .returned (.bool true) ∧ Nxt w r r2 A m (k + 1) w' := by
  obtain ⟨J, hJ⟩ : ∃ J, w.heap.size = J := ⟨_, rfl⟩
  obtain ⟨xs, hxs⟩ : ∃ xs : Array Value, #[.int .i64 6, .int .i64 X, .int .i64 Y, tx p, tx q] = xs := ⟨_, rfl⟩
  have h0 := NB.new h xs
  have st0 : Stp w (w.alloc (.cells xs 31)) A A := .below ((Below.refl _ _).alloc (Nat.le_refl _) _)
  rw [hJ] at h0
  have hcells : ∀ {w1 : World} {T1 T3 : Wd} {A1 : Nat → Prop}, NB w1 J xs r r2 T1 T3 A1 m → w1.cell? ⟨J, 3, none⟩ = some (tx p) ∧ w1.cell? ⟨J, 4, none⟩ = some (tx q) := fun hb => ⟨(hb.cell 3).trans (by rw [← hxs]; rfl), (hb.cell 4).trans (by rw [← hxs]; rfl)⟩
  have hc0 : (w.alloc (.cells xs 31)).cell? ⟨J, 0, none⟩ = some (.int .i64 6) := (h0.cell 0).trans (by rw [← hxs]; rfl)
  obtain ⟨z3, z4⟩ := hcells h0
  go_enter Tryz.func8, Tryz.ntmps8
  go_upto_region 1 with fail
  generalize w.alloc (.cells xs 31) = wA at *
  clear hxs hJ
  have hP := h0.pList hT hS (by omega) p hp
  have hD := fun W A1 (n1 : NB W J xs r r2 T T A1 m) => n1.dList hT hS (by omega) p hp
  generalize listE T p = c at *
  go_wp2_with (first
    | (go_at_call 31; refine hP.mono ?_; rintro e w1 ⟨v1, L1, rfl, l1, t1, b1⟩; have n1 := h0.below b1; obtain ⟨y3, y4⟩ := hcells n1; have hD1 := hD w1 A n1)
    | (go_at_call 32; refine hD1.mono ?_; rintro e w2 ⟨v2, L2, rfl, l2, t2, b2⟩; have n2 := n1.below b2; obtain rfl := l1.one l2; have hQ := sameTexts_ok (t1.below b2) t2 l1.len)
    | (go_at_call 33; refine hQ.mono ?_; rintro e w4 ⟨rfl, b4⟩; have n4 := n2.below b4; have hB := bareU c w4 n4.bt.er)
    | (go_at_call 34; refine hB.mono ?_; rintro e w3 ⟨rfl, b3⟩))
  go_ret
  exact ⟨rfl, T, A, n4.bt.below b3, (((st0.trans (.below b1)).trans (.below b2)).trans (.below b4)).trans (.below b3), hT, hS.more (by omega)⟩

set_option maxRecDepth 100000 in
set_option maxHeartbeats 8000000 in
theorem names_other (h : BT w r r2 T T A m) (hT : TrLv T) (hS : Sm k T) (_ : k ≤ 800) {W : Int} (hW : W < 0 ∨ 6 < W) (X Y : Int) (p q : List UInt8) (_ : p.length < 100000) (_ : q.length < 100000) :
    Calls Tryz.prog 8 #[wp r, wp r2, .agg #[.int .i64 W, .int .i64 X, .int .i64 Y, tx p, tx q]] w fun e w' => e = .returned (.bool true) ∧ Nxt w r r2 A m (k + 1) w' := by
  obtain ⟨J, hJ⟩ : ∃ J, w.heap.size = J := ⟨_, rfl⟩
  obtain ⟨xs, hxs⟩ : ∃ xs : Array Value, #[.int .i64 W, .int .i64 X, .int .i64 Y, tx p, tx q] = xs := ⟨_, rfl⟩
  have h0 := NB.new h xs
  have st0 : Stp w (w.alloc (.cells xs 31)) A A := .below ((Below.refl _ _).alloc (Nat.le_refl _) _)
  rw [hJ] at h0
  have hcells : ∀ {w1 : World} {T1 T3 : Wd} {A1 : Nat → Prop}, NB w1 J xs r r2 T1 T3 A1 m → w1.cell? ⟨J, 3, none⟩ = some (tx p) ∧ w1.cell? ⟨J, 4, none⟩ = some (tx q) := fun hb => ⟨(hb.cell 3).trans (by rw [← hxs]; rfl), (hb.cell 4).trans (by rw [← hxs]; rfl)⟩
  have hc0 : (w.alloc (.cells xs 31)).cell? ⟨J, 0, none⟩ = some (.int .i64 W) := (h0.cell 0).trans (by rw [← hxs]; rfl)
  obtain ⟨z3, z4⟩ := hcells h0
  go_enter Tryz.func8, Tryz.ntmps8
  go_upto_region 1 with fail
  generalize w.alloc (.cells xs 31) = wA at *
  clear hxs hJ
  have q0 : (W == 0) = false := by simp; omega
  have q1 : (W == 1) = false := by simp; omega
  have q2 : (W == 2) = false := by simp; omega
  have q3 : (W == 3) = false := by simp; omega
  have q4 : (W == 4) = false := by simp; omega
  have q5 : (W == 5) = false := by simp; omega
  have q6 : (W == 6) = false := by simp; omega
  have hB := bareU 0 wA h0.bt.er
  rw [uev_zero] at hB
  clear hW
  go_wp2_with (go_at_call 34; refine hB.mono ?_; rintro e w3 ⟨rfl, b3⟩)
  go_ret
  exact ⟨rfl, T, A, h0.bt.below b3, st0.trans (.below b3), hT, hS.more (by omega)⟩

theorem names_all (h : BT w r r2 T T A m) (hT : TrLv T) (hS : Sm k T) (hk : k ≤ 800) (W X Y : Int) (p q : List UInt8) (hp : p.length < 100000) (hq : q.length < 100000) :
    Calls Tryz.prog 8 #[wp r, wp r2, .agg #[.int .i64 W, .int .i64 X, .int .i64 Y, tx p, tx q]] w fun e w' => e = .returned (.bool true) ∧ Nxt w r r2 A m (k + 1) w' := by
  by_cases e0 : W = 0
  · subst e0; exact names_find h hT hS hk X Y p q hp hq
  by_cases e1 : W = 1
  · subst e1; exact names_mkdir h hT hS hk X Y p q hp hq
  by_cases e2 : W = 2
  · subst e2; exact names_create h hT hS hk X Y p q hp hq
  by_cases e3 : W = 3
  · subst e3; exact names_link h hT hS hk X Y p q hp hq
  by_cases e4 : W = 4
  · subst e4; exact names_unlink h hT hS hk X Y p q hp hq
  by_cases e5 : W = 5
  · subst e5; exact names_rename h hT hS hk X Y p q hp hq
  by_cases e6 : W = 6
  · subst e6; exact names_list h hT hS hk X Y p q hp hq
  exact names_other h hT hS hk (by omega) X Y p q hp hq
end
end Go.Proofs.YtpibokijbidgdabGreatDoor

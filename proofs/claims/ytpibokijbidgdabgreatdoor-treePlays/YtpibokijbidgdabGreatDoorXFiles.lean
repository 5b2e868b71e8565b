/- TreePlays: each of files, by its Go text. -/
import Derived.Test.YtpibokijbidgdabGreatDoorXNames2
namespace Go.Proofs.YtpibokijbidgdabGreatDoor
open Go.RowKit Go.Maps

/-- What Size tells is what Read of all tells. -/
theorem readE_zero (T : Wd) (n : Int) : readE T n 0 200 = fileT T n := by
  unfold readE
  by_cases h : fileT T n = 0
  · rw [if_neg (fun e => e h), h, if_neg (by omega)]
  · rw [if_pos h]
theorem size_read {T : Wd} {k : Nat} (hS : Sm k T) (n : Int) : ((readS T n 0 200).length : Int) = sizeS T n := by
  unfold readS sizeS
  cases e : T n with
  | none => rfl
  | some nd => cases nd with
    | dir C => rfl
    | file b x =>
      have := (hS.2 n b x e).2
      simp only
      rw [if_neg (by omega), show (0 : Int).toNat = 0 from rfl, List.drop_zero, show (200 : Int).toNat = 200 from rfl, List.take_of_length_le this]
section
variable {w w' : World} {j r r2 : Nat} {xs : Array Value} {T T2 T' : Wd} {A A' : Nat → Prop} {m : Int} {k : Nat}

set_option maxRecDepth 100000 in
set_option maxHeartbeats 8000000 in
theorem files_hold (h : BT w r r2 T T A m) (hT : TrLv T) (hS : Sm k T) (hk : k ≤ 800) (n a : Int) (hw : (Lit.int .i64 n).wf = true) (p q : List UInt8) (_ : p.length < 100000) :
    Calls Tryz.prog 9 #[wp r, wp r2, .agg #[.int .i64 7, .int .i64 n, .int .i64 a, tx p, tx q]] w fun e w' => e = .returned (.bool true) ∧ Nxt w r r2 A m (k + 1) w' := by
  obtain ⟨J, hJ⟩ : ∃ J, w.heap.size = J := ⟨_, rfl⟩
  obtain ⟨xs, hxs⟩ : ∃ xs : Array Value, #[.int .i64 7, .int .i64 n, .int .i64 a, tx p, tx q] = xs := ⟨_, rfl⟩
  have h0 := NB.new h xs
  have st0 : Stp w (w.alloc (.cells xs 31)) A A := .below ((Below.refl _ _).alloc (Nat.le_refl _) _)
  rw [hJ] at h0
  have hcells : ∀ {w1 : World} {T1 T3 : Wd} {A1 : Nat → Prop}, NB w1 J xs r r2 T1 T3 A1 m → w1.cell? ⟨J, 1, none⟩ = some (.int .i64 n) ∧ w1.cell? ⟨J, 2, none⟩ = some (.int .i64 a) ∧ w1.cell? ⟨J, 3, none⟩ = some (tx p) := fun hb => ⟨(hb.cell 1).trans (by rw [← hxs]; rfl), (hb.cell 2).trans (by rw [← hxs]; rfl), (hb.cell 3).trans (by rw [← hxs]; rfl)⟩
  have hc0 : (w.alloc (.cells xs 31)).cell? ⟨J, 0, none⟩ = some (.int .i64 7) := (h0.cell 0).trans (by rw [← hxs]; rfl)
  obtain ⟨z1, z2, z3⟩ := hcells h0
  go_enter Tryz.func9, Tryz.ntmps9
  go_upto_region 1 with fail
  generalize w.alloc (.cells xs 31) = wA at *
  clear hxs hJ
  have hP := fun W (n1 : NB W J xs r r2 T T A m) => n1.pHold hT hS (by omega) n hw
  have hD := fun W A1 (n1 : NB W J xs r r2 (holdN T n 1) T A1 m) => n1.dHold hT hS (by omega) n 1 hw (by omega)
  have hT1 := hT.hold n (.inl rfl) (hS.held (by omega))
  have hS1 := hS.hold n 1 (by omega)
  generalize holdE T n 1 = c at *
  generalize holdN T n 1 = T1 at *
  have hsr := size_read hS1 n
  have hre := readE_zero T1 n
  go_upto_region 5 with fail
  go_region_held3 (fun w' => w'.cell? ⟨J, 1, none⟩ = some (.int .i64 n)) (first | exact y1 | exact z1) (first
    | (go_at_call 35; refine (hP _ ?_).mono ?_; (first | exact h0 | exact h0.below ⟨rfl, rfl, rfl, Nat.le_refl _, fun _ _ => rfl⟩); rintro e w1 ⟨rfl, A1, n1, st1⟩; obtain ⟨y1, y2, y3⟩ := hcells n1)
    | (go_at_call 36; refine (hD _ A1 (by exact n1)).mono ?_; rintro e w2 ⟨rfl, A2, n2, st2⟩; obtain ⟨y1, y2, y3⟩ := hcells n2; have hB := bareU c w2 n2.bt.er))
  all_goals
    clear hP hD
    go_wp2_with (first
      | (go_at_call 34; refine hB.mono ?_; clear hB; rintro e w3 ⟨rfl, b3⟩; have n3 := n2.below b3; obtain ⟨y1, y2, y3⟩ := hcells n3; have hZ := n3.pSize n hw)
      | (go_at_call 22; refine hZ.mono ?_; rintro e w4 ⟨rfl, A4, n4, st4⟩; obtain ⟨y1, y2, y3⟩ := hcells n4; have hR := n4.dRead hT1 n 0 200 hw; rw [hre] at hR)
      | (go_at_call 39; refine hR.mono ?_; rintro e w5 ⟨rfl, A5, n5, st5⟩; have hB2 := bareU (fileT T1 n) w5 n5.bt.er)
      | (go_at_call 34; refine hB2.mono ?_; rintro e w6 ⟨rfl, b6⟩))
    go_ret
    exact ⟨rfl, T1, A5, n5.bt.below b6, (((((st0.like (wB := wA.drew) rfl rfl rfl rfl).trans (st1.trans st2)).trans (.below b3)).trans st4).trans st5).trans (.below b6), hT1, hS1⟩

set_option maxRecDepth 100000 in
set_option maxHeartbeats 8000000 in
theorem files_drop (h : BT w r r2 T T A m) (hT : TrLv T) (hS : Sm k T) (hk : k ≤ 800) (n a : Int) (hw : (Lit.int .i64 n).wf = true) (p q : List UInt8) (_ : p.length < 100000) :
    Calls Tryz.prog 9 #[wp r, wp r2, .agg #[.int .i64 8, .int .i64 n, .int .i64 a, tx p, tx q]] w fun e w' => e = .returned (.bool true) ∧ Nxt w r r2 A m (k + 1) w' := by
  obtain ⟨J, hJ⟩ : ∃ J, w.heap.size = J := ⟨_, rfl⟩
  obtain ⟨xs, hxs⟩ : ∃ xs : Array Value, #[.int .i64 8, .int .i64 n, .int .i64 a, tx p, tx q] = xs := ⟨_, rfl⟩
  have h0 := NB.new h xs
  have st0 : Stp w (w.alloc (.cells xs 31)) A A := .below ((Below.refl _ _).alloc (Nat.le_refl _) _)
  rw [hJ] at h0
  have hcells : ∀ {w1 : World} {T1 T3 : Wd} {A1 : Nat → Prop}, NB w1 J xs r r2 T1 T3 A1 m → w1.cell? ⟨J, 1, none⟩ = some (.int .i64 n) ∧ w1.cell? ⟨J, 2, none⟩ = some (.int .i64 a) ∧ w1.cell? ⟨J, 3, none⟩ = some (tx p) := fun hb => ⟨(hb.cell 1).trans (by rw [← hxs]; rfl), (hb.cell 2).trans (by rw [← hxs]; rfl), (hb.cell 3).trans (by rw [← hxs]; rfl)⟩
  have hc0 : (w.alloc (.cells xs 31)).cell? ⟨J, 0, none⟩ = some (.int .i64 8) := (h0.cell 0).trans (by rw [← hxs]; rfl)
  obtain ⟨z1, z2, z3⟩ := hcells h0
  go_enter Tryz.func9, Tryz.ntmps9
  go_upto_region 1 with fail
  generalize w.alloc (.cells xs 31) = wA at *
  clear hxs hJ
  have hP := fun W (n1 : NB W J xs r r2 T T A m) => n1.pDrop hT n hw
  have hD := fun W A1 (n1 : NB W J xs r r2 (holdN T n (-1)) T A1 m) => n1.dHold hT hS (by omega) n (-1) hw (by omega)
  have hT1 := hT.hold n (.inr rfl) (hS.held (by omega))
  have hS1 := hS.hold n (-1) (by omega)
  generalize holdE T n (-1) = c at *
  generalize holdN T n (-1) = T1 at *
  have hsr := size_read hS1 n
  have hre := readE_zero T1 n
  go_upto_region 7 with fail
  go_region_held3 (fun w' => w'.cell? ⟨J, 1, none⟩ = some (.int .i64 n)) (first | exact y1 | exact z1) (first
    | (go_at_call 37; refine (hP _ ?_).mono ?_; (first | exact h0 | exact h0.below ⟨rfl, rfl, rfl, Nat.le_refl _, fun _ _ => rfl⟩); rintro e w1 ⟨rfl, A1, n1, st1⟩; obtain ⟨y1, y2, y3⟩ := hcells n1)
    | (go_at_call 36; refine (hD _ A1 (by exact n1)).mono ?_; rintro e w2 ⟨rfl, A2, n2, st2⟩; obtain ⟨y1, y2, y3⟩ := hcells n2; have hB := bareU c w2 n2.bt.er))
  all_goals
    clear hP hD
    go_wp2_with (first
      | (go_at_call 34; refine hB.mono ?_; clear hB; rintro e w3 ⟨rfl, b3⟩; have n3 := n2.below b3; obtain ⟨y1, y2, y3⟩ := hcells n3; have hZ := n3.pSize n hw)
      | (go_at_call 22; refine hZ.mono ?_; rintro e w4 ⟨rfl, A4, n4, st4⟩; obtain ⟨y1, y2, y3⟩ := hcells n4; have hR := n4.dRead hT1 n 0 200 hw; rw [hre] at hR)
      | (go_at_call 39; refine hR.mono ?_; rintro e w5 ⟨rfl, A5, n5, st5⟩; have hB2 := bareU (fileT T1 n) w5 n5.bt.er)
      | (go_at_call 34; refine hB2.mono ?_; rintro e w6 ⟨rfl, b6⟩))
    go_ret
    exact ⟨rfl, T1, A5, n5.bt.below b6, (((((st0.like (wB := wA.drew) rfl rfl rfl rfl).trans (st1.trans st2)).trans (.below b3)).trans st4).trans st5).trans (.below b6), hT1, hS1⟩

set_option maxRecDepth 100000 in
set_option maxHeartbeats 8000000 in
theorem files_write (h : BT w r r2 T T A m) (hT : TrLv T) (hS : Sm k T) (_ : k ≤ 800) (n a : Int) (hw : (Lit.int .i64 n).wf = true) (p q : List UInt8) (hp : p.length < 100000) :
    Calls Tryz.prog 9 #[wp r, wp r2, .agg #[.int .i64 9, .int .i64 n, .int .i64 a, tx p, tx q]] w fun e w' => e = .returned (.bool true) ∧ Nxt w r r2 A m (k + 1) w' := by
  obtain ⟨J, hJ⟩ : ∃ J, w.heap.size = J := ⟨_, rfl⟩
  obtain ⟨xs, hxs⟩ : ∃ xs : Array Value, #[.int .i64 9, .int .i64 n, .int .i64 a, tx p, tx q] = xs := ⟨_, rfl⟩
  have h0 := NB.new h xs
  have st0 : Stp w (w.alloc (.cells xs 31)) A A := .below ((Below.refl _ _).alloc (Nat.le_refl _) _)
  rw [hJ] at h0
  have hcells : ∀ {w1 : World} {T1 T3 : Wd} {A1 : Nat → Prop}, NB w1 J xs r r2 T1 T3 A1 m → w1.cell? ⟨J, 1, none⟩ = some (.int .i64 n) ∧ w1.cell? ⟨J, 2, none⟩ = some (.int .i64 a) ∧ w1.cell? ⟨J, 3, none⟩ = some (tx p) := fun hb => ⟨(hb.cell 1).trans (by rw [← hxs]; rfl), (hb.cell 2).trans (by rw [← hxs]; rfl), (hb.cell 3).trans (by rw [← hxs]; rfl)⟩
  have hc0 : (w.alloc (.cells xs 31)).cell? ⟨J, 0, none⟩ = some (.int .i64 9) := (h0.cell 0).trans (by rw [← hxs]; rfl)
  obtain ⟨z1, z2, z3⟩ := hcells h0
  go_enter Tryz.func9, Tryz.ntmps9
  go_upto_region 1 with fail
  generalize w.alloc (.cells xs 31) = wA at *
  clear hxs hJ
  have hP := fun W (n1 : NB W J xs r r2 T T A m) => n1.pWrite hT n a p hw hp
  have hD := fun W A1 (n1 : NB W J xs r r2 (writeN T n a p) T A1 m) => n1.dWrite hT n a p hw hp
  have hT1 := hT.write n a p
  have hS1 := hS.write n a p
  generalize writeE T n a p = c at *
  generalize writeN T n a p = T1 at *
  have hsr := size_read hS1 n
  have hre := readE_zero T1 n
  go_upto_region 9 with fail
  go_region_held3 (fun w' => w'.cell? ⟨J, 1, none⟩ = some (.int .i64 n) ∧ w'.cell? ⟨J, 2, none⟩ = some (.int .i64 a) ∧ w'.cell? ⟨J, 3, none⟩ = some (tx p)) (first | exact ⟨y1, y2, y3⟩ | exact ⟨z1, z2, z3⟩) (first
    | (go_at_call 13; refine (hP _ ?_).mono ?_; (first | exact h0 | exact h0.below ⟨rfl, rfl, rfl, Nat.le_refl _, fun _ _ => rfl⟩); rintro e w1 ⟨rfl, A1, n1, st1⟩; obtain ⟨y1, y2, y3⟩ := hcells n1)
    | (go_at_call 38; refine (hD _ A1 (by exact n1)).mono ?_; rintro e w2 ⟨rfl, A2, n2, st2⟩; obtain ⟨y1, y2, y3⟩ := hcells n2; have hB := bareU c w2 n2.bt.er))
  all_goals
    clear hP hD
    go_wp2_with (first
      | (go_at_call 34; refine hB.mono ?_; clear hB; rintro e w3 ⟨rfl, b3⟩; have n3 := n2.below b3; obtain ⟨y1, y2, y3⟩ := hcells n3; have hZ := n3.pSize n hw)
      | (go_at_call 22; refine hZ.mono ?_; rintro e w4 ⟨rfl, A4, n4, st4⟩; obtain ⟨y1, y2, y3⟩ := hcells n4; have hR := n4.dRead hT1 n 0 200 hw; rw [hre] at hR)
      | (go_at_call 39; refine hR.mono ?_; rintro e w5 ⟨rfl, A5, n5, st5⟩; have hB2 := bareU (fileT T1 n) w5 n5.bt.er)
      | (go_at_call 34; refine hB2.mono ?_; rintro e w6 ⟨rfl, b6⟩))
    go_ret
    exact ⟨rfl, T1, A5, n5.bt.below b6, (((((st0.like (wB := wA.drew) rfl rfl rfl rfl).trans (st1.trans st2)).trans (.below b3)).trans st4).trans st5).trans (.below b6), hT1, hS1⟩

set_option maxRecDepth 100000 in
set_option maxHeartbeats 8000000 in
theorem files_cut (h : BT w r r2 T T A m) (hT : TrLv T) (hS : Sm k T) (_ : k ≤ 800) (n a : Int) (hw : (Lit.int .i64 n).wf = true) (p q : List UInt8) (_ : p.length < 100000) :
    Calls Tryz.prog 9 #[wp r, wp r2, .agg #[.int .i64 11, .int .i64 n, .int .i64 a, tx p, tx q]] w fun e w' => e = .returned (.bool true) ∧ Nxt w r r2 A m (k + 1) w' := by
  obtain ⟨J, hJ⟩ : ∃ J, w.heap.size = J := ⟨_, rfl⟩
  obtain ⟨xs, hxs⟩ : ∃ xs : Array Value, #[.int .i64 11, .int .i64 n, .int .i64 a, tx p, tx q] = xs := ⟨_, rfl⟩
  have h0 := NB.new h xs
  have st0 : Stp w (w.alloc (.cells xs 31)) A A := .below ((Below.refl _ _).alloc (Nat.le_refl _) _)
  rw [hJ] at h0
  have hcells : ∀ {w1 : World} {T1 T3 : Wd} {A1 : Nat → Prop}, NB w1 J xs r r2 T1 T3 A1 m → w1.cell? ⟨J, 1, none⟩ = some (.int .i64 n) ∧ w1.cell? ⟨J, 2, none⟩ = some (.int .i64 a) ∧ w1.cell? ⟨J, 3, none⟩ = some (tx p) := fun hb => ⟨(hb.cell 1).trans (by rw [← hxs]; rfl), (hb.cell 2).trans (by rw [← hxs]; rfl), (hb.cell 3).trans (by rw [← hxs]; rfl)⟩
  have hc0 : (w.alloc (.cells xs 31)).cell? ⟨J, 0, none⟩ = some (.int .i64 11) := (h0.cell 0).trans (by rw [← hxs]; rfl)
  obtain ⟨z1, z2, z3⟩ := hcells h0
  go_enter Tryz.func9, Tryz.ntmps9
  go_upto_region 1 with fail
  generalize w.alloc (.cells xs 31) = wA at *
  clear hxs hJ
  have hP := fun W (n1 : NB W J xs r r2 T T A m) => n1.pCut hT n a hw
  have hD := fun W A1 (n1 : NB W J xs r r2 (cutN T n a) T A1 m) => n1.dCut hT n a hw
  have hT1 := hT.cut n a
  have hS1 := hS.cut n a
  generalize cutE T n a = c at *
  generalize cutN T n a = T1 at *
  have hsr := size_read hS1 n
  have hre := readE_zero T1 n
  go_upto_region 17 with fail
  go_region_held3 (fun w' => w'.cell? ⟨J, 1, none⟩ = some (.int .i64 n) ∧ w'.cell? ⟨J, 2, none⟩ = some (.int .i64 a)) (first | exact ⟨y1, y2⟩ | exact ⟨z1, z2⟩) (first
    | (go_at_call 21; refine (hP _ ?_).mono ?_; (first | exact h0 | exact h0.below ⟨rfl, rfl, rfl, Nat.le_refl _, fun _ _ => rfl⟩); rintro e w1 ⟨rfl, A1, n1, st1⟩; obtain ⟨y1, y2, y3⟩ := hcells n1)
    | (go_at_call 40; refine (hD _ A1 (by exact n1)).mono ?_; rintro e w2 ⟨rfl, A2, n2, st2⟩; obtain ⟨y1, y2, y3⟩ := hcells n2; have hB := bareU c w2 n2.bt.er))
  all_goals
    clear hP hD
    go_wp2_with (first
      | (go_at_call 34; refine hB.mono ?_; clear hB; rintro e w3 ⟨rfl, b3⟩; have n3 := n2.below b3; obtain ⟨y1, y2, y3⟩ := hcells n3; have hZ := n3.pSize n hw)
      | (go_at_call 22; refine hZ.mono ?_; rintro e w4 ⟨rfl, A4, n4, st4⟩; obtain ⟨y1, y2, y3⟩ := hcells n4; have hR := n4.dRead hT1 n 0 200 hw; rw [hre] at hR)
      | (go_at_call 39; refine hR.mono ?_; rintro e w5 ⟨rfl, A5, n5, st5⟩; have hB2 := bareU (fileT T1 n) w5 n5.bt.er)
      | (go_at_call 34; refine hB2.mono ?_; rintro e w6 ⟨rfl, b6⟩))
    go_ret
    exact ⟨rfl, T1, A5, n5.bt.below b6, (((((st0.like (wB := wA.drew) rfl rfl rfl rfl).trans (st1.trans st2)).trans (.below b3)).trans st4).trans st5).trans (.below b6), hT1, hS1⟩

set_option maxRecDepth 100000 in
set_option maxHeartbeats 8000000 in
theorem files_read (h : BT w r r2 T T A m) (hT : TrLv T) (hS : Sm k T) (_ : k ≤ 800) (n a : Int) (hw : (Lit.int .i64 n).wf = true) (p q : List UInt8) (_ : p.length < 100000) :
    Calls Tryz.prog 9 #[wp r, wp r2, .agg #[.int .i64 10, .int .i64 n, .int .i64 a, tx p, tx q]] w fun e w' => e = .returned (.bool true) ∧ Nxt w r r2 A m (k + 1) w' := by
  obtain ⟨J, hJ⟩ : ∃ J, w.heap.size = J := ⟨_, rfl⟩
  obtain ⟨xs, hxs⟩ : ∃ xs : Array Value, #[.int .i64 10, .int .i64 n, .int .i64 a, tx p, tx q] = xs := ⟨_, rfl⟩
  have h0 := NB.new h xs
  have st0 : Stp w (w.alloc (.cells xs 31)) A A := .below ((Below.refl _ _).alloc (Nat.le_refl _) _)
  rw [hJ] at h0
  have hcells : ∀ {w1 : World} {T1 T3 : Wd} {A1 : Nat → Prop}, NB w1 J xs r r2 T1 T3 A1 m → w1.cell? ⟨J, 1, none⟩ = some (.int .i64 n) ∧ w1.cell? ⟨J, 2, none⟩ = some (.int .i64 a) ∧ w1.cell? ⟨J, 3, none⟩ = some (tx p) := fun hb => ⟨(hb.cell 1).trans (by rw [← hxs]; rfl), (hb.cell 2).trans (by rw [← hxs]; rfl), (hb.cell 3).trans (by rw [← hxs]; rfl)⟩
  have hc0 : (w.alloc (.cells xs 31)).cell? ⟨J, 0, none⟩ = some (.int .i64 10) := (h0.cell 0).trans (by rw [← hxs]; rfl)
  obtain ⟨z1, z2, z3⟩ := hcells h0
  go_enter Tryz.func9, Tryz.ntmps9
  go_upto_region 1 with fail
  generalize w.alloc (.cells xs 31) = wA at *
  clear hxs hJ
  have hP := h0.pRead n a (p.length : Int) hw
  have hD := fun W A1 (n1 : NB W J xs r r2 T T A1 m) => n1.dRead hT n a (p.length : Int) hw
  obtain ⟨T1, hT1e⟩ : ∃ T1, T = T1 := ⟨_, rfl⟩
  subst hT1e
  have hT1 := hT
  have hS1 : Sm (k + 1) T := hS.more (by omega)
  have hsr := size_read hS1 n
  have hre := readE_zero T n
  generalize readS T n a (p.length : Int) = S at *
  generalize readE T n a (p.length : Int) = c at *
  go_wp2_with (first
      | (go_at_call 18; refine hP.mono ?_; rintro e w1 ⟨rfl, A1, n1, st1⟩; obtain ⟨y1, y2, y3⟩ := hcells n1; have hD1 := hD w1 A1 n1)
      | (go_at_call 39; refine hD1.mono ?_; clear hD1; rintro e w2 ⟨rfl, A2, n2, st2⟩; have hB := bareU c w2 n2.bt.er)
      | (go_at_call 34; refine hB.mono ?_; clear hB; rintro e w3 ⟨rfl, b3⟩; have n3 := n2.below b3; obtain ⟨y1, y2, y3⟩ := hcells n3; have hZ := n3.pSize n hw)
      | (go_at_call 22; refine hZ.mono ?_; rintro e w4 ⟨rfl, A4, n4, st4⟩; obtain ⟨y1, y2, y3⟩ := hcells n4; have hR := n4.dRead hT1 n 0 200 hw; rw [hre] at hR)
      | (go_at_call 39; refine hR.mono ?_; rintro e w5 ⟨rfl, A5, n5, st5⟩; have hB2 := bareU (fileT T n) w5 n5.bt.er)
      | (go_at_call 34; refine hB2.mono ?_; rintro e w6 ⟨rfl, b6⟩))
  go_ret
  exact ⟨rfl, T, A5, n5.bt.below b6, ((((st0.trans (st1.trans st2)).trans (.below b3)).trans st4).trans st5).trans (.below b6), hT1, hS1⟩

set_option maxRecDepth 100000 in
set_option maxHeartbeats 8000000 in
theorem files_other (h : BT w r r2 T T A m) (hT : TrLv T) (hS : Sm k T) (_ : k ≤ 800) {W : Int} (hW : W < 7 ∨ 11 < W) (n a : Int) (hw : (Lit.int .i64 n).wf = true) (p q : List UInt8) (_ : p.length < 100000) :
    Calls Tryz.prog 9 #[wp r, wp r2, .agg #[.int .i64 W, .int .i64 n, .int .i64 a, tx p, tx q]] w fun e w' => e = .returned (.bool true) ∧ Nxt w r r2 A m (k + 1) w' := by
  obtain ⟨J, hJ⟩ : ∃ J, w.heap.size = J := ⟨_, rfl⟩
  obtain ⟨xs, hxs⟩ : ∃ xs : Array Value, #[.int .i64 W, .int .i64 n, .int .i64 a, tx p, tx q] = xs := ⟨_, rfl⟩
  have h0 := NB.new h xs
  have st0 : Stp w (w.alloc (.cells xs 31)) A A := .below ((Below.refl _ _).alloc (Nat.le_refl _) _)
  rw [hJ] at h0
  have hcells : ∀ {w1 : World} {T1 T3 : Wd} {A1 : Nat → Prop}, NB w1 J xs r r2 T1 T3 A1 m → w1.cell? ⟨J, 1, none⟩ = some (.int .i64 n) ∧ w1.cell? ⟨J, 2, none⟩ = some (.int .i64 a) ∧ w1.cell? ⟨J, 3, none⟩ = some (tx p) := fun hb => ⟨(hb.cell 1).trans (by rw [← hxs]; rfl), (hb.cell 2).trans (by rw [← hxs]; rfl), (hb.cell 3).trans (by rw [← hxs]; rfl)⟩
  have hc0 : (w.alloc (.cells xs 31)).cell? ⟨J, 0, none⟩ = some (.int .i64 W) := (h0.cell 0).trans (by rw [← hxs]; rfl)
  obtain ⟨z1, z2, z3⟩ := hcells h0
  go_enter Tryz.func9, Tryz.ntmps9
  go_upto_region 1 with fail
  generalize w.alloc (.cells xs 31) = wA at *
  clear hxs hJ
  have q0 : (W == 7) = false := by simp; omega
  have q1 : (W == 8) = false := by simp; omega
  have q2 : (W == 9) = false := by simp; omega
  have q3 : (W == 10) = false := by simp; omega
  have q4 : (W == 11) = false := by simp; omega
  have hT1 := hT
  have hS1 : Sm (k + 1) T := hS.more (by omega)
  have hsr := size_read hS1 n
  have hre := readE_zero T n
  have n2 := h0
  have hB := bareU 0 wA n2.bt.er
  rw [uev_zero] at hB
  clear hW
  go_wp2_with (first
      | (go_at_call 34; refine hB.mono ?_; clear hB; rintro e w3 ⟨rfl, b3⟩; have n3 := n2.below b3; obtain ⟨y1, y2, y3⟩ := hcells n3; have hZ := n3.pSize n hw)
      | (go_at_call 22; refine hZ.mono ?_; rintro e w4 ⟨rfl, A4, n4, st4⟩; obtain ⟨y1, y2, y3⟩ := hcells n4; have hR := n4.dRead hT1 n 0 200 hw; rw [hre] at hR)
      | (go_at_call 39; refine hR.mono ?_; rintro e w5 ⟨rfl, A5, n5, st5⟩; have hB2 := bareU (fileT T n) w5 n5.bt.er)
      | (go_at_call 34; refine hB2.mono ?_; rintro e w6 ⟨rfl, b6⟩))
  go_ret
  exact ⟨rfl, T, A5, n5.bt.below b6, (((st0.trans (.below b3)).trans st4).trans st5).trans (.below b6), hT1, hS1⟩

theorem files_all (h : BT w r r2 T T A m) (hT : TrLv T) (hS : Sm k T) (hk : k ≤ 800) (W n a : Int) (hw : (Lit.int .i64 n).wf = true) (p q : List UInt8) (hp : p.length < 100000) :
    Calls Tryz.prog 9 #[wp r, wp r2, .agg #[.int .i64 W, .int .i64 n, .int .i64 a, tx p, tx q]] w fun e w' => e = .returned (.bool true) ∧ Nxt w r r2 A m (k + 1) w' := by
  by_cases e0 : W = 7
  · subst e0; exact files_hold h hT hS hk n a hw p q hp
  by_cases e1 : W = 8
  · subst e1; exact files_drop h hT hS hk n a hw p q hp
  by_cases e2 : W = 9
  · subst e2; exact files_write h hT hS hk n a hw p q hp
  by_cases e3 : W = 10
  · subst e3; exact files_read h hT hS hk n a hw p q hp
  by_cases e4 : W = 11
  · subst e4; exact files_cut h hT hS hk n a hw p q hp
  exact files_other h hT hS hk (by omega) n a hw p q hp
end
end Go.Proofs.YtpibokijbidgdabGreatDoor

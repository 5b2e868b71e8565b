/- VmPlays: the walk of its Go text. -/
import Derived.Test.YtcllfedpdcjbcaaDoorVPlays1
namespace Go.Proofs.YtcllfedpdcjbcaaDoor
open Go.RowKit Go.Shelf Go.Lib Go.Sort Go.Maps

set_option maxRecDepth 100000 in
set_option maxHeartbeats 16000000 in
theorem vplays_short (n : Nat) (ad : Option Addr) (len cap : Nat) (q : Nat → VItem) (w : World) (h1 : 1 ≤ n) (h2 : n ≤ 256) (hl : len ≤ 60) (hsc : VScript w ad len q) (hg : w.cell? ⟨1, 0, none⟩ = some errT) :
    Calls Tryd.prog 11 #[.int .i64 (n : Int), .slice ad len cap] w fun e w' => e = .returned (.bool true) ∧ Below w.heap.size w w' := by
  have hN := newStore_ok w n h1 h2
  have h1' : ¬ (n : Int) < 1 := by omega
  have h2' : ¬ (256 : Int) < (n : Int) := by omega
  have hl' : ¬ (60 : Int) < (len : Int) := by omega
  have hgl : 1 < w.heap.size := World.block_lt_of_cell? w _ hg
  have hgw : ∀ w', Below w.heap.size w w' → w'.cell? ⟨1, 0, none⟩ = some errT := fun w' h => by rw [h.cell (p := ⟨1, 0, none⟩) hgl]; exact hg
  have hmm := @run_makeMap Tryd.prog
  go_enter Tryd.func11, Tryd.ntmps11
  go_wp2_with fail
  refine hN.mono ?_
  rintro e w1 ⟨b, rfl, E, A0, rfl, hEn, v1, b1, o1, lb⟩
  clear hN
  go_wp2_with fail
  refine (newSpace_nil _).mono ?_
  rintro e w2 ⟨rfl, hw⟩
  subst w2
  go_wp2_with fail
  refine (bare_eno 7 _ (hgw _ b1)).mono ?_
  rintro e w2 ⟨rfl, b2⟩
  have v2 := v1.below b2
  have bb2 := b1.trans (b2.mono b1.size)
  go_wp2_with fail
  refine (newSpace_ok v2).mono ?_
  rintro e w3 ⟨c, rfl, gc, v3, b3, lc, lg⟩
  have bb3 := bb2.trans (b3.mono bb2.size)
  have hlg : w.heap.size ≤ gc := Nat.le_trans bb2.size lg
  clear v1 v2 b1 b2 b3 bb2 lb lc lg
  go_wp2_with fail
  refine (newMem_ok w3 n).mono ?_
  rintro e w4 ⟨rm, gR, rfl, m4, b4, lrm, lgR⟩
  rw [← hEn] at m4
  have B0 := bs_new v3 bb3 o1 hlg m4 b4 lrm lgR
  clear v3 bb3 o1 hlg m4 b4 lrm lgR
  go_wp2_with fail
  clear hmm
  go_loopg [11, 12, 13] len (fun k s11 s12 s13 wr => ∃ (j : Nat) (A : Nat → Prop) (D : Nat → Nat → Int) (L : List Sq) (nx : Nat) (M : List Sq) (φ : Int → Int), j + k = len ∧ s13 = .int .i64 (j : Int) ∧ 1 ≤ L.length ∧ L.length ≤ 5 ∧ nx ≤ j ∧ Same L M ∧ BS (fun _ => False) w E wr A D L rm gR nx D M φ s11 s12 (L.map (·.1)) (M.map (·.2.1)))
  case atStart => exact ⟨0, A0, fun _ _ => 0, [(c, gc, fun _ => none)], 0, [(0, w4.heap.size + 1, fun _ => none)], fun _ => 0, by omega, rfl, by simp, by simp, by omega, rfl, B0⟩
  case round =>
    clear B0
    obtain ⟨j, A, D, L, nx, M, φ, hj, rfl, hL1, hL5, hnx, hS, S⟩ := hrel
    by_cases hlt : (j : Int) < (len : Int)
    · rcases hsc with h0 | ⟨blk, off, rfl, hbl, hss⟩
      · exfalso; omega
      obtain ⟨c0, c1, c2, c3, c4, c5, hok⟩ := hss j (by omega)
      have hB := S.bel
      have d0 : wr.cell? ⟨blk, off + j * 6, none⟩ = some (.int .i64 (q j).what) := by rw [hB.cell (p := ⟨blk, off + j * 6, none⟩) hbl]; exact c0
      have d1 : wr.cell? ⟨blk, off + j * 6 + 1, none⟩ = some (.int .i64 (q j).space) := by rw [hB.cell (p := ⟨blk, off + j * 6 + 1, none⟩) hbl]; exact c1
      have d2 : wr.cell? ⟨blk, off + j * 6 + 2, none⟩ = some (.int .i64 (q j).at_) := by rw [hB.cell (p := ⟨blk, off + j * 6 + 2, none⟩) hbl]; exact c2
      have d3 : wr.cell? ⟨blk, off + j * 6 + 3, none⟩ = some (.int .i64 (q j).n) := by rw [hB.cell (p := ⟨blk, off + j * 6 + 3, none⟩) hbl]; exact c3
      have d4 : wr.cell? ⟨blk, off + j * 6 + 4, none⟩ = some (.int .i64 (q j).prot) := by rw [hB.cell (p := ⟨blk, off + j * 6 + 4, none⟩) hbl]; exact c4
      have d5 : wr.cell? ⟨blk, off + j * 6 + 5, none⟩ = some (.int .i64 (q j).v) := by rw [hB.cell (p := ⟨blk, off + j * 6 + 5, none⟩) hbl]; exact c5
      clear c0 c1 c2 c3 c4 c5 hss hB
      generalize q j = it at *
      obtain ⟨W, K, X, Y, Z, V⟩ := it
      simp only at d0 d1 d2 d3 d4 d5
      obtain ⟨hwX, hwY⟩ := hok
      simp only at hwX hwY
      have S0 := S.more (.cells #[.int .i64 W, .int .i64 K, .int .i64 X, .int .i64 Y, .int .i64 Z, .int .i64 V] 117)
      have I0 : BI wr.heap.size #[.int .i64 W, .int .i64 K, .int .i64 X, .int .i64 Y, .int .i64 Z, .int .i64 V] w E (wr.alloc (.cells #[.int .i64 W, .int .i64 K, .int .i64 X, .int .i64 Y, .int .i64 Z, .int .i64 V] 117)) A D L rm gR nx D M φ u11 u12 (L.map (·.1)) (M.map (·.2.1)) := ⟨S0, heap_new _ _⟩
      have hlm : (L.map (·.1)).length = L.length := by simp
      have hld : (M.map (·.2.1)).length = L.length := by rw [hS.len]; simp
      have r1 := S.r1
      have r2 := S.r2
      rw [hlm] at r1
      rw [hld] at r2
      obtain ⟨g1, cap1, rfl, hc1, hg1, hr1⟩ := orow_read r1 (by omega)
      obtain ⟨g2, cap2, rfl, hc2, hg2, hr2⟩ := orow_read r2 (by omega)
      obtain ⟨N0, hN0⟩ : ∃ N0, L.length = N0 := ⟨_, rfl⟩
      obtain ⟨m, hm, hmN⟩ : ∃ m : Nat, wrap64 ((IntKind.u64.wrap K).tmod (N0 : Int)) = (m : Int) ∧ m < N0 := by
        have h0 : 0 ≤ IntKind.u64.wrap K := by rw [IntKind.wrap_u64]; omega
        have ht : (IntKind.u64.wrap K).tmod (N0 : Int) = IntKind.u64.wrap K % (N0 : Int) := Int.tmod_eq_emod_of_nonneg h0
        have l := Int.emod_nonneg (IntKind.u64.wrap K) (b := (N0 : Int)) (by omega)
        have u := Int.emod_lt_of_pos (IntKind.u64.wrap K) (b := (N0 : Int)) (by omega)
        refine ⟨(IntKind.u64.wrap K % (N0 : Int)).toNat, ?_, by omega⟩
        rw [ht]; unfold wrap64; omega
      have hmL : m < L.length := by omega
      have hmM : m < M.length := by rw [← hS.len]; exact hmL
      have z1 : wr.cell? ⟨g1, m, none⟩ = some (vp L[m].1) := by rw [hr1 m (by omega)]; simp [hmL]
      have z2 : wr.cell? ⟨g2, m, none⟩ = some (.map (some M[m].2.1)) := by rw [hr2 m (by omega)]; simp [hmM]
      have hgx1 : g1 ≠ wr.heap.size := by omega
      have hgx2 : g2 ≠ wr.heap.size := by omega
      rw [hN0] at hc1 hc2 hL1 hL5 I0 ⊢
      have hNw : IntKind.u64.wrap (N0 : Int) = (N0 : Int) := by rw [IntKind.wrap_u64]; omega
      have hN0' : ¬ (N0 : Int) = 0 := by omega
      clear r1 r2 hr1 hr2 hlm hld
      go_upto_region 16 with fail
      obtain ⟨x, hx⟩ : ∃ x, wr.heap.size = x := ⟨_, rfl⟩
      obtain ⟨w5, hw5⟩ : ∃ w5, wr.alloc (.cells #[.int .i64 W, .int .i64 K, .int .i64 X, .int .i64 Y, .int .i64 Z, .int .i64 V] 117) = w5 := ⟨_, rfl⟩
      have y1 : w5.cell? ⟨g1, m, none⟩ = some (vp L[m].1) := by rw [← hw5, World.cell?_alloc_lt _ _ ⟨g1, m, none⟩ hg1]; exact z1
      have y2 : w5.cell? ⟨g2, m, none⟩ = some (.map (some M[m].2.1)) := by rw [← hw5, World.cell?_alloc_lt _ _ ⟨g2, m, none⟩ hg2]; exact z2
      rw [hw5, hx] at I0
      rw [hw5, hx]
      clear hw5 hx z1 z2 S S0 d0 d1 d2 d3 d4 d5 hgx1 hgx2 hg1 hg2
      have e1 := (I0.cell 1).trans (show (#[.int .i64 W, .int .i64 K, .int .i64 X, .int .i64 Y, .int .i64 Z, .int .i64 V] : Array Value)[1]? = some (.int .i64 K) from rfl)
      obtain ⟨c1, hcc1⟩ : ∃ c1, L[m].1 = c1 := ⟨_, rfl⟩
      obtain ⟨c2, hcc2⟩ : ∃ c2, M[m].2.1 = c2 := ⟨_, rfl⟩
      rw [hcc1] at y1
      rw [hcc2] at y2
      go_upto_region 17 with fail
      go_quiet (fail)
      have I1 : BI x #[.int .i64 W, .int .i64 K, .int .i64 X, .int .i64 Y, .int .i64 Z, .int .i64 V] w E (w5.drewN nq) A D L rm gR nx D M φ (.slice (some ⟨g1, 0, none⟩) N0 cap1) (.slice (some ⟨g2, 0, none⟩) N0 cap2) (L.map (·.1)) (M.map (·.2.1)) := I0.stay ⟨rfl, rfl, rfl, Nat.le_refl _, fun _ _ => rfl⟩
      obtain ⟨w6, hw6⟩ : ∃ w6, w5.drewN nq = w6 := ⟨_, rfl⟩
      rw [hw6] at I1
      rw [hw6]
      clear hw6 I0 e1 y1 y2
      have z0 := (I1.cell 0).trans (show (#[.int .i64 W, .int .i64 K, .int .i64 X, .int .i64 Y, .int .i64 Z, .int .i64 V] : Array Value)[0]? = some (.int .i64 W) from rfl)
      obtain ⟨ys, hys⟩ : ∃ ys : Array Value, #[.int .i64 W, .int .i64 K, .int .i64 X, .int .i64 Y, .int .i64 Z, .int .i64 V] = ys := ⟨_, rfl⟩
      have k2 : ys[2]? = some (.int .i64 X) := by rw [← hys]; rfl
      have k3 : ys[3]? = some (.int .i64 Y) := by rw [← hys]; rfl
      have k4 : ys[4]? = some (.int .i64 Z) := by rw [← hys]; rfl
      have k5 : ys[5]? = some (.int .i64 V) := by rw [← hys]; rfl
      rw [hys] at I1
      clear hys
      have hYm : Y ≤ 9223372036854775807 := wf_most hwY
      have hmN' := hmN
      rw [hm]
      clear hm hNw hN0'
      go_upto_block 2 with fail
      go_cut [6, 11, 12, 18, 19, 20, 125] (fun s6 s11 s12 s18 s19 s20 _ wc => ∃ c vv : Int, s6 = errV c ∧ s20 = .int .i64 c ∧ s18 = .int .i64 vv ∧ s19 = .int .i64 vv ∧ VV x ys w E wc rm gR s11 s12 m c1 c2 (j + 1))
      case first =>
        have hW : W = 0 ∨ W = 1 ∨ W = 2 ∨ W = 3 ∨ W = 4 ∨ W = 5 ∨ W = 6 ∨ (W ≠ 0 ∧ W ≠ 1 ∧ W ≠ 2 ∧ W ≠ 3 ∧ W ≠ 4 ∧ W ≠ 5 ∧ W ≠ 6) := by omega
        rcases hW with hW | hW | hW | hW | hW | hW | hW | hW
        · subst hW
          as_aux_lemma =>
            obtain ⟨c, hA, hD⟩ := map_pair (x := x) (xs := ys) (w0 := w) (E := E) (D := D) (rm := rm) (gR := gR) (nx := nx) (φ := φ) (v1 := .slice (some ⟨g1, 0, none⟩) N0 cap1) (v2 := .slice (some ⟨g2, 0, none⟩) N0 cap2) (j := j + 1) hS hmL hmM hcc1 hcc2 X Y Z hYm (by omega) (by omega)
            have z2 := (I1.cell 2).trans k2
            have z3 := (I1.cell 3).trans k3
            have z4 := (I1.cell 4).trans k4
            go_upto_region 23 with fail
            go_region_held3 (fun w' => w'.cell? ⟨x, 2, none⟩ = some (.int .i64 X) ∧ w'.cell? ⟨x, 3, none⟩ = some (.int .i64 Y) ∧ w'.cell? ⟨x, 4, none⟩ = some (.int .i64 Z)) (first | exact ⟨y2, y3, y4⟩ | exact ⟨z2, z3, z4⟩) (first
              | (go_at_call 60; refine (hA _ _ (by exact I1.stay ⟨rfl, rfl, rfl, Nat.le_refl _, fun _ _ => rfl⟩)).mono ?_; rintro e w7 ⟨rfl, A7, I7⟩; have y2 := (I7.cell 2).trans k2; have y3 := (I7.cell 3).trans k3; have y4 := (I7.cell 4).trans k4)
              | (go_at_call 61; refine (hD _ _ I7).mono ?_; rintro e w8 ⟨rfl, V8⟩; have y2 := (V8.cell 2).trans k2; have y3 := (V8.cell 3).trans k3; have y4 := (V8.cell 4).trans k4))
            all_goals
              go_wp2_with fail
              go_meet
              case rel => exact ⟨c, 0, rfl, rfl, rfl, rfl, V8⟩
        · subst hW
          as_aux_lemma =>
            obtain ⟨c, hA, hD⟩ := unmap_pair (x := x) (xs := ys) (w0 := w) (E := E) (D := D) (rm := rm) (gR := gR) (nx := nx) (φ := φ) (v1 := .slice (some ⟨g1, 0, none⟩) N0 cap1) (v2 := .slice (some ⟨g2, 0, none⟩) N0 cap2) (j := j + 1) hS hmL hmM hcc1 hcc2 X Y hYm (by omega) (by omega)
            have z2 := (I1.cell 2).trans k2
            have z3 := (I1.cell 3).trans k3
            go_upto_region 25 with fail
            go_region_held3 (fun w' => w'.cell? ⟨x, 2, none⟩ = some (.int .i64 X) ∧ w'.cell? ⟨x, 3, none⟩ = some (.int .i64 Y)) (first | exact ⟨y2, y3⟩ | exact ⟨z2, z3⟩) (first
              | (go_at_call 62; refine (hA _ _ (by exact I1.stay ⟨rfl, rfl, rfl, Nat.le_refl _, fun _ _ => rfl⟩)).mono ?_; rintro e w7 ⟨rfl, A7, I7⟩; have y2 := (I7.cell 2).trans k2; have y3 := (I7.cell 3).trans k3)
              | (go_at_call 61; refine (hD _ _ I7).mono ?_; rintro e w8 ⟨rfl, V8⟩; have y2 := (V8.cell 2).trans k2; have y3 := (V8.cell 3).trans k3))
            all_goals
              go_wp2_with fail
              go_meet
              case rel => exact ⟨c, 0, rfl, rfl, rfl, rfl, V8⟩
        · subst hW
          as_aux_lemma =>
            obtain ⟨c, hA, hD⟩ := protect_pair (x := x) (xs := ys) (w0 := w) (E := E) (D := D) (rm := rm) (gR := gR) (nx := nx) (φ := φ) (v1 := .slice (some ⟨g1, 0, none⟩) N0 cap1) (v2 := .slice (some ⟨g2, 0, none⟩) N0 cap2) (j := j + 1) hS hmL hmM hcc1 hcc2 X Y Z hYm (by omega) (by omega)
            have z2 := (I1.cell 2).trans k2
            have z3 := (I1.cell 3).trans k3
            have z4 := (I1.cell 4).trans k4
            go_upto_region 27 with fail
            go_region_held3 (fun w' => w'.cell? ⟨x, 2, none⟩ = some (.int .i64 X) ∧ w'.cell? ⟨x, 3, none⟩ = some (.int .i64 Y) ∧ w'.cell? ⟨x, 4, none⟩ = some (.int .i64 Z)) (first | exact ⟨y2, y3, y4⟩ | exact ⟨z2, z3, z4⟩) (first
              | (go_at_call 63; refine (hA _ _ (by exact I1.stay ⟨rfl, rfl, rfl, Nat.le_refl _, fun _ _ => rfl⟩)).mono ?_; rintro e w7 ⟨rfl, A7, I7⟩; have y2 := (I7.cell 2).trans k2; have y3 := (I7.cell 3).trans k3; have y4 := (I7.cell 4).trans k4)
              | (go_at_call 61; refine (hD _ _ I7).mono ?_; rintro e w8 ⟨rfl, V8⟩; have y2 := (V8.cell 2).trans k2; have y3 := (V8.cell 3).trans k3; have y4 := (V8.cell 4).trans k4))
            all_goals
              go_wp2_with fail
              go_meet
              case rel => exact ⟨c, 0, rfl, rfl, rfl, rfl, V8⟩
        · subst hW
          as_aux_lemma =>
            have hA := (I1.s.bv.al.sp m hmL).load X Y hwX
            have hD : ∀ V0 : World, BI x ys w E V0 A D L rm gR nx D M φ (.slice (some ⟨g1, 0, none⟩) N0 cap1) (.slice (some ⟨g2, 0, none⟩) N0 cap2) (L.map (·.1)) (M.map (·.2.1)) → Calls Tryd.prog 65 #[.map (some c2), .int .i64 X, .int .i64 Y] V0 fun e w' => e = .returned (.tuple #[.int .i64 (loadV L[m].2.2 D X Y), .int .i64 (useE L[m].2.2 X Y 1)]) ∧ Below V0.heap.size V0 w' := fun V0 S0 => by
              have r := S0.s.bv.dl.sp m hmM
              have := rload_ok r.sp r.ok X Y hwX
              rw [← hS.at hmL hmM, hcc2] at this
              exact this
            rw [hcc1] at hA
            have hV : ∀ V0 : World, BI x ys w E V0 A D L rm gR nx D M φ (.slice (some ⟨g1, 0, none⟩) N0 cap1) (.slice (some ⟨g2, 0, none⟩) N0 cap2) (L.map (·.1)) (M.map (·.2.1)) → VV x ys w E V0 rm gR (.slice (some ⟨g1, 0, none⟩) N0 cap1) (.slice (some ⟨g2, 0, none⟩) N0 cap2) m c1 c2 (j + 1) := fun V0 S0 => ⟨A, D, L, nx, M, φ, by omega, by omega, hS, ⟨hmL, hmM, hcc1, hcc2⟩, S0⟩
            generalize loadV L[m].2.2 D X Y = vv at *
            generalize useE L[m].2.2 X Y 1 = c at *
            have z2 := (I1.cell 2).trans k2
            have z3 := (I1.cell 3).trans k3
            go_wp2_with fail
            refine hA.mono ?_
            rintro e w7 ⟨rfl, b7⟩
            have I7 := I1.stay b7
            have y2 := (I7.cell 2).trans k2
            have y3 := (I7.cell 3).trans k3
            clear hA z2 z3
            go_wp2_with fail
            refine (hD _ I7).mono ?_
            rintro e w8 ⟨rfl, b8⟩
            have V8 := hV _ (I7.stay b8)
            clear hD hV y2 y3
            go_wp2_with fail
            go_meet
            case rel => exact ⟨c, vv, rfl, rfl, rfl, rfl, V8⟩
        · subst hW
          as_aux_lemma =>
            obtain ⟨hA, hD⟩ := store_pair (x := x) (xs := ys) (w0 := w) (E := E) (D := D) (rm := rm) (gR := gR) (nx := nx) (φ := φ) (v1 := .slice (some ⟨g1, 0, none⟩) N0 cap1) (v2 := .slice (some ⟨g2, 0, none⟩) N0 cap2) (j := j) hS hmL hmM hcc1 hcc2 X Y V hwX (by omega) (by omega) (by omega)
            have z2 := (I1.cell 2).trans k2
            have z3 := (I1.cell 3).trans k3
            have z5 := (I1.cell 5).trans k5
            go_upto_region 32 with fail
            go_region_held3 (fun w' => w'.cell? ⟨x, 2, none⟩ = some (.int .i64 X) ∧ w'.cell? ⟨x, 3, none⟩ = some (.int .i64 Y) ∧ w'.cell? ⟨x, 5, none⟩ = some (.int .i64 V)) (first | exact ⟨y2, y3, y5⟩ | exact ⟨z2, z3, z5⟩) (first
              | (go_at_call 66; refine (hA _ _ (by exact I1.stay ⟨rfl, rfl, rfl, Nat.le_refl _, fun _ _ => rfl⟩)).mono ?_; rintro e w7 ⟨c, rfl, P7, D7, A7, hst, I7⟩; have y2 := (I7.cell 2).trans k2; have y3 := (I7.cell 3).trans k3; have y5 := (I7.cell 5).trans k5)
              | (go_at_call 67; refine (hD _ _ _ _ _ hst I7).mono ?_; rintro e w8 ⟨rfl, V8⟩; have y2 := (V8.cell 2).trans k2; have y3 := (V8.cell 3).trans k3; have y5 := (V8.cell 5).trans k5))
            all_goals
              go_wp2_with fail
              go_meet
              case rel => exact ⟨c, 0, rfl, rfl, rfl, rfl, V8⟩
        · subst hW
          by_cases h5 : (N0 : Int) < 5
          · as_aux_lemma =>
              obtain ⟨i0, hi, hz0, hz1, hz2⟩ := info_parts (P := Tryd.prog) (e := 107) (z := .pointer none) (size := 1) (bytes := 8) (by kernel_rfl)
              obtain ⟨i9, ti, tz0, tz1, tz2⟩ := info_parts (P := Tryd.prog) (e := 114) (z := .map none) (size := 1) (bytes := 8) (by kernel_rfl)
              have hF := I1.fork_A hmL (by omega)
              have hfew := I1.few hS (by omega) hmM
              rw [hcc1] at hF
              have hlm : (L.map (·.1)).length = N0 := by simp [hN0]
              have hld : (M.map (·.2.1)).length = N0 := by rw [← hN0, hS.len]; simp
              have h63 : N0 + 1 ≤ maxLen := by unfold maxLen; omega
              have hby : (N0 + 1) * 8 ≤ 140737488355328 := by omega
              have h1c : ∀ (y : Value), y.oneCell' = true → ∀ u ∈ ([y] : List Value), u.oneCell' = true := by intro y hy u hu; rw [List.mem_singleton] at hu; rw [hu]; exact hy
              go_wp2_with fail
              refine hF.mono ?_
              rintro e w7 ⟨c', rfl, A7, gc', I7⟩
              have bA : Below w7.heap.size w7 (w7.alloc (.cells #[vp c'] 107)) := (Below.refl _ w7).alloc (Nat.le_refl _) _
              have I7a := I7.stay bA
              have hnews := new_val w7 (vp c') 107
              have hrow := I7a.s.r1
              rw [hlm] at hrow
              have hbase : w.heap.size ≤ (w7.alloc (.cells #[vp c'] 107)).heap.size := I7a.s.bel.size
              have hFD : ∀ (V0 : World) (v' : Value), BI x ys w E V0 A7 D (L ++ [(c', gc', L[m].2.2)]) rm gR nx D M φ v' (.slice (some ⟨g2, 0, none⟩) N0 cap2) (L.map (·.1) ++ [c']) (M.map (·.2.1)) → Calls Tryd.prog 69 #[.map (some c2), vp rm] V0 fun e w' => ∃ g', e = .returned (.map (some g')) ∧ BI x ys w E w' A7 D (L ++ [(c', gc', L[m].2.2)]) rm gR nx D (M ++ [(0, g', M[m].2.2)]) φ v' (.slice (some ⟨g2, 0, none⟩) N0 cap2) (L.map (·.1) ++ [c']) (M.map (·.2.1)) := fun V0 v' S0 => by
                have := S0.fork_D hmM hfew
                rw [hcc2] at this
                exact this
              clear hF I7 bA
              go_wp2_with (at_builtin; refine wpList_append_own_at _ rfl _ _ 112 rfl w.heap.size 107 i0 (.pointer none) 1 8 Tryd.underlying112 hi hz0 hz1 hz2 rfl (by decide) _ _ _ rfl hrow ⟨w7.heap.size, 0, none⟩ 1 1 [vp c'] rfl rfl hnews (h1c _ rfl) h63 hby hbase ?_; intro v8 w8 ho8 hg8 hnil8 hv8)
              have I8 := I7a.push1 (by rw [hlm]; omega) hg8 (by rw [hlm]; exact ho8) hv8
              clear I7a hrow hnews hbase ho8 hg8 hnil8 hv8
              refine (hFD _ _ I8).mono ?_
              rintro e w9 ⟨g', rfl, I9⟩
              have bB : Below w9.heap.size w9 (w9.alloc (.cells #[.map (some g')] 114)) := (Below.refl _ w9).alloc (Nat.le_refl _) _
              have I9a := I9.stay bB
              have hnews := new_val w9 (.map (some g')) 114
              have hrow := I9a.s.r2
              rw [hld] at hrow
              have hbase : w.heap.size ≤ (w9.alloc (.cells #[.map (some g')] 114)).heap.size := I9a.s.bel.size
              clear hFD I8 I9 bB
              go_wp2_with (at_builtin; refine wpList_append_own_at _ rfl _ _ 115 rfl w.heap.size 114 i9 (.map none) 1 8 Tryd.underlying115 ti tz0 tz1 tz2 rfl (by decide) _ _ _ rfl hrow ⟨w9.heap.size, 0, none⟩ 1 1 [.map (some g')] rfl rfl hnews (h1c _ rfl) h63 hby hbase ?_; intro v10 w10 ho10 hg10 hnil10 hv10)
              have I10 := I9a.push2 (by rw [hld]; omega) hg10 (by rw [hld]; exact ho10) hv10
              go_meet
              case rel => exact ⟨0, 0, rfl, rfl, rfl, rfl, VV.of_app hS (by omega) (by omega) hmL hmM hcc1 hcc2 I10⟩
          · as_aux_lemma =>
              have V0 : VV x ys w E w6 rm gR (.slice (some ⟨g1, 0, none⟩) N0 cap1) (.slice (some ⟨g2, 0, none⟩) N0 cap2) m c1 c2 (j + 1) := ⟨A, D, L, nx, M, φ, by omega, by omega, hS, ⟨hmL, hmM, hcc1, hcc2⟩, I1⟩
              go_wp2_with fail
              go_meet
              case rel => exact ⟨0, 0, rfl, rfl, rfl, rfl, V0⟩
        · subst hW
          as_aux_lemma =>
            obtain ⟨hA, hD⟩ := clear_pair (x := x) (xs := ys) (w0 := w) (E := E) (D := D) (rm := rm) (gR := gR) (nx := nx) (φ := φ) (v1 := .slice (some ⟨g1, 0, none⟩) N0 cap1) (v2 := .slice (some ⟨g2, 0, none⟩) N0 cap2) (j := j + 1) hS hmL hmM hcc1 hcc2 (by omega) (by omega)
            go_wp2_with fail
            refine (hA _ _ I1).mono ?_
            rintro e w7 ⟨rfl, A7, I7⟩
            go_wp2_with fail
            refine (hD _ _ I7).mono ?_
            rintro e w8 ⟨rfl, V8⟩
            go_wp2_with fail
            go_meet
            case rel => exact ⟨0, 0, rfl, rfl, rfl, rfl, V8⟩
        · as_aux_lemma =>
            obtain ⟨q0, q1, q2, q3, q4, q5, q6⟩ := hW
            have p0 : (W == 0) = false := by simp [q0]
            have p1 : (W == 1) = false := by simp [q1]
            have p2 : (W == 2) = false := by simp [q2]
            have p3 : (W == 3) = false := by simp [q3]
            have p4 : (W == 4) = false := by simp [q4]
            have p5 : (W == 5) = false := by simp [q5]
            have p6 : (W == 6) = false := by simp [q6]
            have V0 : VV x ys w E w6 rm gR (.slice (some ⟨g1, 0, none⟩) N0 cap1) (.slice (some ⟨g2, 0, none⟩) N0 cap2) m c1 c2 (j + 1) := ⟨A, D, L, nx, M, φ, by omega, by omega, hS, ⟨hmL, hmM, hcc1, hcc2⟩, I1⟩
            clear q0 q1 q2 q3 q4 q5 q6
            go_wp2_with fail
            go_meet
            case rel => exact ⟨0, 0, rfl, rfl, rfl, rfl, V0⟩
      case rest =>
        clear I1 z0 k2 k3 k4 k5 hS hmL hmM hcc1 hcc2 hL1 hL5 hnx hN0 hmN hmN' hc1 hc2 hYm hwX hwY
        obtain ⟨c, vv, rfl, rfl, rfl, rfl, VV8⟩ := hcut
        obtain ⟨A, D, L, nx, M, φ, hL5, hnx, hS, ⟨hmL, hmM, hcc1, hcc2⟩, I8⟩ := VV8
        have hbr := bare_any c wc (hgw _ I8.s.bel)
        have hPe : M[m].2.2 = L[m].2.2 := (hS.at hmL hmM).symm
        have hLn : ∀ V0 : World, BI x ys w E V0 A D L rm gR nx D M φ u11 u12 (L.map (·.1)) (M.map (·.2.1)) → Calls Tryd.prog 72 #[vp c1] V0 fun e w' => e = .returned (.int .i64 (lenP L[m].2.2 : Nat)) ∧ w' = V0 := fun V0 S0 => by
          have := (S0.s.bv.al.sp m hmL).sp.len; rw [hcc1] at this; exact this
        have hRa : ∀ V0 : World, BI x ys w E V0 A D L rm gR nx D M φ u11 u12 (L.map (·.1)) (M.map (·.2.1)) → Calls Tryd.prog 73 #[vp c1] V0 fun e w' => e = .returned (.int .i64 (resP L[m].2.2 : Nat)) ∧ Below V0.heap.size V0 w' := fun V0 S0 => by
          have := (S0.s.bv.al.sp m hmL).sp.resident; rw [hcc1] at this; exact this
        have hRd : ∀ V0 : World, BI x ys w E V0 A D L rm gR nx D M φ u11 u12 (L.map (·.1)) (M.map (·.2.1)) → Calls Tryd.prog 74 #[.map (some c2)] V0 fun e w' => e = .returned (.int .i64 (resP L[m].2.2 : Nat)) ∧ Below V0.heap.size V0 w' := fun V0 S0 => by
          have := (S0.s.bv.dl.sp m hmM).resident; rw [hcc2, hPe] at this; exact this
        have hLa : ∀ V0 : World, BI x ys w E V0 A D L rm gR nx D M φ u11 u12 (L.map (·.1)) (M.map (·.2.1)) → Calls Tryd.prog 75 #[vp E.b] V0 fun e w' => e = .returned (.int .i64 ((E.n - used (totS L) E.n : Nat) : Int)) ∧ w' = V0 := fun V0 S0 => S0.s.bv.al.left
        have hLd : ∀ V0 : World, BI x ys w E V0 A D L rm gR nx D M φ u11 u12 (L.map (·.1)) (M.map (·.2.1)) → Calls Tryd.prog 76 #[vp rm] V0 fun e w' => e = .returned (.int .i64 ((E.n - used (totS L) E.n : Nat) : Int)) ∧ ∃ q, w' = V0.drewN q := fun V0 S0 => S0.s.left_D hS
        have hml : ∀ V0 : World, BI x ys w E V0 A D L rm gR nx D M φ u11 u12 (L.map (·.1)) (M.map (·.2.1)) → _ := fun V0 (S0 : BI x ys w E V0 A D L rm gR nx D M φ u11 u12 (L.map (·.1)) (M.map (·.2.1))) => (S0.s.bv.dl.sp m hmM).sp.len Tryd.underlying114 3
        rw [hcc2, hPe] at hml
        obtain ⟨lp, hlp⟩ := vnamed (lenP L[m].2.2)
        obtain ⟨rp, hrp⟩ := vnamed (resP L[m].2.2)
        obtain ⟨lf, hlf⟩ := vnamed (E.n - used (totS L) E.n)
        simp only [hlp] at hLn hml
        simp only [hrp] at hRa hRd
        simp only [hlf] at hLa hLd
        clear hlp hrp hlf
        go_wp2_with fail
        refine hbr.mono ?_
        rintro e w9 ⟨rfl, b9⟩
        have I9 := I8.stay b9
        clear hbr I8 b9
        go_wp2_with fail
        refine (hLn _ I9).mono ?_
        rintro e w10 ⟨rfl, h10⟩
        subst w10
        have hml9 := hml _ I9
        go_wp2_with fail
        refine (hRa _ I9).mono ?_
        rintro e w10 ⟨rfl, b10⟩
        have I10 := I9.stay b10
        clear hml9 I9 b10
        go_wp2_with fail
        refine (hRd _ I10).mono ?_
        rintro e w11 ⟨rfl, b11⟩
        have I11 := I10.stay b11
        clear I10 b11
        go_wp2_with fail
        refine (hLa _ I11).mono ?_
        rintro e w12 ⟨rfl, h12⟩
        subst w12
        go_wp2_with fail
        refine (hLd _ I11).mono ?_
        rintro e w12 ⟨rfl, q12, rfl⟩
        have I12 := I11.stay (w' := w11.drewN q12) ⟨rfl, rfl, rfl, Nat.le_refl _, fun _ _ => rfl⟩
        clear hLn hRa hRd hLa hLd hml
        go_wp2_with fail
        go_roundg (gk - 1)
        case measure => omega
        case rel => exact ⟨j + 1, A, D, L, nx, M, φ, by omega, by go_num, by omega, hL5, by omega, hS, I12.s.drop (fun _ h => h.elim)⟩
    · clear hsc
      have hBw := S.bel
      have hlm : (L.map (·.1)).length = L.length := by simp
      have hld : (M.map (·.2.1)).length = L.length := by rw [hS.len]; simp
      have r1 := S.r1
      have r2 := S.r2
      rw [hlm] at r1
      rw [hld] at r2
      obtain ⟨g1, cap1, rfl, hc1, hg1, hr1⟩ := orow_read r1 (by omega)
      obtain ⟨g2, cap2, rfl, hc2, hg2, hr2⟩ := orow_read r2 (by omega)
      have hcell : ∀ i (hi : i < L.length) (hi' : i < M.length), wr.cell? ⟨g1, i, none⟩ = some (vp L[i].1) ∧ wr.cell? ⟨g2, i, none⟩ = some (.map (some M[i].2.1)) := fun i hi hi' => ⟨by rw [hr1 i hi]; simp [hi], by rw [hr2 i hi]; simp [hi']⟩
      have hLA : ∀ i (hi : i < L.length) (V0 : World), Below wr.heap.size wr V0 → ∀ a k : Nat, a < 64 → Calls Tryd.prog 64 #[vp L[i].1, .int .i64 (a : Int), .int .i64 (k : Int)] V0 fun e w' => e = .returned (.tuple #[.int .i64 (loadV L[i].2.2 D a k), errV (useE L[i].2.2 a k 1)]) ∧ Below V0.heap.size V0 w' := fun i hi V0 hb a k ha => ((S.stay hb).1.bv.al.sp i hi).load (a : Int) (k : Int) (wf_small (by omega) (by omega))
      have hLD : ∀ i (hi : i < L.length) (hi' : i < M.length) (V0 : World), Below wr.heap.size wr V0 → ∀ a k : Nat, a < 64 → Calls Tryd.prog 65 #[.map (some M[i].2.1), .int .i64 (a : Int), .int .i64 (k : Int)] V0 fun e w' => e = .returned (.tuple #[.int .i64 (loadV L[i].2.2 D a k), .int .i64 (useE L[i].2.2 a k 1)]) ∧ Below V0.heap.size V0 w' := fun i hi hi' V0 hb a k ha => by
        have r := (S.stay hb).1.bv.dl.sp i hi'
        have := rload_ok r.sp r.ok (a : Int) (k : Int) (wf_small (by omega) (by omega))
        rw [← hS.at hi hi'] at this
        exact this
      have hSl := hS.len
      obtain ⟨N0, hN0⟩ : ∃ N0, L.length = N0 := ⟨_, rfl⟩
      rw [hN0] at hc1 hc2 hL1 hL5 ⊢
      generalize wr = wZ at *
      clear r1 r2 hr1 hr2 hlm hld S hg1 hg2 hnx hS
      go_wp2_with fail
      go_loopg [22] N0 (fun mm s22 wi => ∃ i : Nat, i + mm = N0 ∧ s22 = .int .i64 (i : Int) ∧ Below wZ.heap.size wZ wi)
      case atStart => exact ⟨0, by omega, rfl, Below.refl _ _⟩
      case round =>
        obtain ⟨i, hi, rfl, hb⟩ := hrel
        by_cases hli : (i : Int) < (N0 : Int)
        · have hiL : i < L.length := by omega
          have hiM : i < M.length := by omega
          obtain ⟨hc1', hc2'⟩ := hcell i hiL hiM
          have hA := hLA i hiL
          have hD := hLD i hiL hiM
          have l1 : g1 < wZ.heap.size := World.block_lt_of_cell? wZ _ hc1'
          have l2 : g2 < wZ.heap.size := World.block_lt_of_cell? wZ _ hc2'
          generalize L[i].2.2 = P at *
          generalize L[i].1 = ci at *
          generalize M[i].2.1 = di at *
          obtain ⟨G, hG⟩ : ∃ G, gk = G := ⟨_, rfl⟩
          rw [hG] at hi
          go_wp2_with fail
          go_loopg [23] 64 (fun mm s23 wi => ∃ a : Nat, a + mm = 64 ∧ s23 = .int .i64 (a : Int) ∧ Below wZ.heap.size wZ wi)
          case atStart => exact ⟨0, by omega, rfl, hb⟩
          case round =>
            clear hb
            obtain ⟨a, ha, rfl, hb⟩ := hrel
            by_cases hla : (a : Int) < 64
            · obtain ⟨G2, hG2⟩ : ∃ G2, gk = G2 := ⟨_, rfl⟩
              rw [hG2] at ha
              go_wp2_with fail
              go_loopg [24] 8 (fun mm s24 wi => ∃ k : Nat, k + mm = 8 ∧ s24 = .int .i64 (k : Int) ∧ Below wZ.heap.size wZ wi)
              case atStart => exact ⟨0, by omega, rfl, hb⟩
              case round =>
                clear hb
                obtain ⟨k, hk, rfl, hb⟩ := hrel
                by_cases hlk : (k : Int) < 8
                · as_aux_lemma =>
                    have hA' := fun V0 h0 => hA V0 h0 a k (by omega)
                    have hD' := fun V0 h0 => hD V0 h0 a k (by omega)
                    generalize loadV P D a k = vv at *
                    generalize useE P a k 1 = c at *
                    have y2 : wr.cell? ⟨g2, i, none⟩ = some (.map (some di)) := by rw [hb.cell (p := ⟨g2, i, none⟩) l2]; exact hc2'
                    clear hA hD hcell hLA hLD
                    go_wp2_with fail
                    refine (hD' _ hb).mono ?_
                    rintro e w6 ⟨rfl, b6⟩
                    have hb6 := hb.trans (b6.mono hb.size)
                    have y1 : w6.cell? ⟨g1, i, none⟩ = some (vp ci) := by rw [hb6.cell (p := ⟨g1, i, none⟩) l1]; exact hc1'
                    clear y2 hD'
                    go_wp2_with fail
                    refine (hA' _ hb6).mono ?_
                    rintro e w7 ⟨rfl, b7⟩
                    have hb7 := hb6.trans (b7.mono hb6.size)
                    clear y1 hA'
                    go_wp2_with fail
                    refine (bare_any _ _ (hgw _ (hBw.trans (hb7.mono hBw.size)))).mono ?_
                    rintro e w8 ⟨rfl, b8⟩
                    have hb8 := hb7.trans (b8.mono hb7.size)
                    go_wp2_with fail
                    go_roundg (8 - (k + 1))
                    case measure => omega
                    case rel => exact ⟨k + 1, by omega, by go_num, hb8⟩
                · go_wp2_with fail
                  go_roundg (64 - (a + 1))
                  case measure => omega
                  case rel => exact ⟨a + 1, by omega, by go_num, hb⟩
            · go_wp2_with fail
              go_roundg (N0 - (i + 1))
              case measure => omega
              case rel => exact ⟨i + 1, by omega, by go_num, hb⟩
        · go_wp2_with fail
          go_ret
          exact ⟨rfl, hBw.trans (hb.mono hBw.size)⟩
end Go.Proofs.YtcllfedpdcjbcaaDoor

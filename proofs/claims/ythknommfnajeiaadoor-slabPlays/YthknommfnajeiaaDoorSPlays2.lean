/- SlabPlays: the walk of its Go text, where all is asked. -/
import Derived.Test.YthknommfnajeiaaDoorSPlays
namespace Go.Proofs.YthknommfnajeiaaDoor
open Go.RowKit Go.Shelf Go.Lib Go.Sort Go.Maps

set_option maxRecDepth 100000 in
set_option maxHeartbeats 16000000 in
theorem splays_short (n per : Nat) (ad : Option Addr) (len cap : Nat) (q : Nat → Item) (w : World) (h1 : 1 ≤ n) (h2 : n ≤ 256) (hl : len ≤ 60) (hp1 : 1 ≤ per) (hp2 : per ≤ 16) (hsc : Script w ad len q) (hg : w.cell? ⟨0, 0, none⟩ = some errT) (hTab : Tab w) :
    Calls Tryd.prog 7 #[.int .i64 n, .int .i64 per, .slice ad len cap] w fun e w' => e = .returned (.bool true) ∧ Below w.heap.size w w' := by
  have h3 : ¬ (60 : Int) < (len : Int) := by omega
  have hq1 : ¬ (per : Int) < 1 := by omega
  have hq2 : ¬ (16 : Int) < (per : Int) := by omega
  have hgl : 0 < w.heap.size := World.block_lt_of_cell? w _ hg
  have hgw : ∀ w', Below w.heap.size w w' → w'.cell? ⟨0, 0, none⟩ = some errT := fun w' h => by rw [h.cell (p := ⟨0, 0, none⟩) hgl]; exact hg
  have hmm := @run_makeMap Tryd.prog
  go_enter Tryd.func7, Tryd.ntmps7
  go_wp2_with fail
  refine (pool_ok _ n h1 h2).mono ?_
  rintro e w1 ⟨b, rfl, A0, a1, f1, o1⟩
  have b1 : Below w.heap.size w w1 := ⟨f1.os, f1.tape, f1.output, f1.size, fun i hi => f1.block i hi (fun h => h)⟩
  go_wp2_with fail
  refine (cache_nil _ (per : Int)).mono ?_
  rintro e w2 ⟨rfl, e2⟩
  subst w2
  go_wp2_with fail
  refine (cache_own (w0 := w) (per := per) a1 b1 o1 hp1 hp2).mono ?_
  rintro e w2 ⟨c, rfl, g, hO⟩
  go_wp2_with fail
  refine (bare_eno 7 _ (hgw _ hO.at)).mono ?_
  rintro e w3 ⟨rfl, l3⟩
  obtain ⟨A, ca, b3, offA, offg⟩ := hO.stay l3
  clear hO a1 f1 o1 b1 l3
  go_wp2_with fail
  refine (rnew_ok _ n h1 h2).mono ?_
  rintro e w4 ⟨r, rfl, f, gr, R4, f4, lr, lf, lg⟩
  have B0 := bb_new (per := per) ca b3 offA offg R4 f4 lr lf lg
  clear ca b3 offA R4 f4 lr lf lg
  go_wp2_with fail
  generalize hE : (⟨w, c, b, g, n, per, w4.heap.size + 1, r, f, gr, w4.heap.size⟩ : Pos) = E at B0
  have hEn : E.n = n ∧ E.per = per ∧ E.w0 = w ∧ E.c = c ∧ E.b = b ∧ E.rc = w4.heap.size + 1 ∧ E.r = r := by subst hE; exact ⟨rfl, rfl, rfl, rfl, rfl, rfl, rfl⟩
  obtain ⟨en, ep, ew, ec, eb, erc, er⟩ := hEn
  clear hmm hE
  go_loopg [13] len (fun k s13 wr => ∃ (j : Nat) (A : Nat → Prop) (vs : Value) (L : List Int) (C : Int → Option Nat) (U : Nat → Bool) (T : Int → Option Nat), j + k = len ∧ s13 = .int .i64 j ∧ BB E wr A vs L C U T j C U T j)
  case atStart => exact ⟨0, _, _, _, _, _, _, by omega, rfl, B0⟩
  case round =>
    clear B0
    obtain ⟨j, A, vs, L, C, U, T, hj, rfl, B⟩ := hrel
    by_cases hlt : (j : Int) < (len : Int)
    · rcases hsc with h0 | ⟨blk, off, rfl, hbl, hq⟩
      · exfalso; omega
      obtain ⟨c0, c1, c2, c3, hwf⟩ := hq j (by omega)
      have l2 : Below w.heap.size w wr := by have := B.bel; rw [ew] at this; exact this
      have d0 : wr.cell? ⟨blk, off + j * 4, none⟩ = some (.int .i64 (q j).what) := by rw [l2.cell (p := ⟨blk, off + j * 4, none⟩) hbl]; exact c0
      have d1 : wr.cell? ⟨blk, off + j * 4 + 1, none⟩ = some (.int .i64 (q j).a) := by rw [l2.cell (p := ⟨blk, off + j * 4 + 1, none⟩) hbl]; exact c1
      have d2 : wr.cell? ⟨blk, off + j * 4 + 2, none⟩ = some (.int .i64 (q j).b) := by rw [l2.cell (p := ⟨blk, off + j * 4 + 2, none⟩) hbl]; exact c2
      have d3 : wr.cell? ⟨blk, off + j * 4 + 3, none⟩ = some (.int .i64 (q j).v) := by rw [l2.cell (p := ⟨blk, off + j * 4 + 3, none⟩) hbl]; exact c3
      clear c0 c1 c2 c3 hq
      generalize (q j).what = W at *
      generalize (q j).a = X at *
      generalize (q j).b = Y at *
      generalize (q j).v = Z at *
      have S0 : SS E wr.heap.size #[.int .i64 W, .int .i64 X, .int .i64 Y, .int .i64 Z] (wr.alloc (.cells #[.int .i64 W, .int .i64 X, .int .i64 Y, .int .i64 Z] 33)) C U T j C U T j := by
        refine ⟨A, vs, L, B.stay ((Below.refl _ wr).alloc (Nat.le_refl _) _), ?_, fun h => by have := B.ca.pool.lt' h; omega, fun h => by have := B.ca.ch.mlt; omega, fun h => by have := B.rs.lt h; omega⟩
        show (wr.heap.push _)[wr.heap.size]? = _
        rw [Array.getElem?_push, if_pos rfl]
      clear l2
      have hgw' : ∀ w', Below E.w0.heap.size E.w0 w' → w'.cell? ⟨0, 0, none⟩ = some errT := fun w' h => hgw w' (by rw [ew] at h; exact h)
      have hTab' : Tab E.w0 := by rw [ew]; exact hTab
      go_upto_block 2 with fail
      go_cut [92, 119, 142, 154] (fun _ _ _ _ wc => ∃ C U T, SS E wr.heap.size #[.int .i64 W, .int .i64 X, .int .i64 Y, .int .i64 Z] wc C U T (j + 1) C U T (j + 1))
      case first =>
        clear d0 d1 d2 d3 B
        rcases six W with hK | hK | hK | hK | hK | hK
        · as_aux_lemma =>
            have hRA := S0.ralloc (by omega)
            rw [erc] at hRA
            go_wp2_with fail
            refine hRA.mono ?_
            rintro e w5 ⟨v, err, C1, U1, T1, d, hAR, rfl, S1⟩
            have hIA := S1.alloc hTab' (by omega)
            rw [ec] at hIA
            clear hRA
            go_wp2_with fail
            refine hIA.mono ?_
            rintro e w6 ⟨v', err', C2, U2, T2, d', hAR', rfl, S2⟩
            obtain ⟨rfl, rfl, rfl, rfl, rfl, rfl⟩ := hAR.one hAR'
            have hd := hAR.small
            clear hIA hAR hAR'
            go_wp2_with fail
            refine (bare_any _ _ (hgw' _ S2.bel)).mono ?_
            rintro e w7 ⟨rfl, b7⟩
            have S3 := S2.stay b7
            go_wp2_with fail
            go_meet
            case rel => exact ⟨_, _, _, S3.more (by omega) (by omega)⟩
        · as_aux_lemma =>
            have hRA := S0.ralloc (by omega)
            rw [erc] at hRA
            go_wp2_with fail
            refine hRA.mono ?_
            rintro e w5 ⟨v, err, C1, U1, T1, d, hAR, rfl, S1⟩
            have hIA := S1.alloc hTab' (by omega)
            rw [ec] at hIA
            clear hRA
            go_wp2_with fail
            refine hIA.mono ?_
            rintro e w6 ⟨v', err', C2, U2, T2, d', hAR', rfl, S2⟩
            obtain ⟨rfl, rfl, rfl, rfl, rfl, rfl⟩ := hAR.one hAR'
            have hd := hAR.small
            clear hIA hAR hAR'
            go_wp2_with fail
            refine (bare_any _ _ (hgw' _ S2.bel)).mono ?_
            rintro e w7 ⟨rfl, b7⟩
            have S3 := S2.stay b7
            go_wp2_with fail
            go_meet
            case rel => exact ⟨_, _, _, S3.more (by omega) (by omega)⟩
        · as_aux_lemma =>
            have hRA := S0.ralloc (by omega)
            rw [erc] at hRA
            go_wp2_with fail
            refine hRA.mono ?_
            rintro e w5 ⟨v, err, C1, U1, T1, d, hAR, rfl, S1⟩
            have hIA := S1.alloc hTab' (by omega)
            rw [ec] at hIA
            clear hRA
            go_wp2_with fail
            refine hIA.mono ?_
            rintro e w6 ⟨v', err', C2, U2, T2, d', hAR', rfl, S2⟩
            obtain ⟨rfl, rfl, rfl, rfl, rfl, rfl⟩ := hAR.one hAR'
            have hd := hAR.small
            clear hIA hAR hAR'
            go_wp2_with fail
            refine (bare_any _ _ (hgw' _ S2.bel)).mono ?_
            rintro e w7 ⟨rfl, b7⟩
            have S3 := S2.stay b7
            go_wp2_with fail
            go_meet
            case rel => exact ⟨_, _, _, S3.more (by omega) (by omega)⟩
        · as_aux_lemma =>
            have hP : ∀ (V : World), SS E wr.heap.size #[.int .i64 W, .int .i64 X, .int .i64 Y, .int .i64 Z] V C U T j C U T j → Calls Tryd.prog 36 #[cp c, .int .i64 X] V fun e w' => ∃ err C1, GR E.per C X err C1 ∧ e = .returned (errV err) ∧ SS E wr.heap.size #[.int .i64 W, .int .i64 X, .int .i64 Y, .int .i64 Z] w' C1 U T j C U T j ∧ w'.cell? ⟨wr.heap.size, 1, none⟩ = some (.int .i64 X) := fun V S => by
              have h := S.give X hwf
              rw [ec] at h
              refine h.mono ?_
              rintro e w' ⟨err, C1, hG, rfl, S'⟩
              exact ⟨err, C1, hG, rfl, S', (S'.cell 1).trans rfl⟩
            have hR : ∀ (V : World) (C1 : Int → Option Nat), SS E wr.heap.size #[.int .i64 W, .int .i64 X, .int .i64 Y, .int .i64 Z] V C1 U T j C U T j → Calls Tryd.prog 37 #[pp (w4.heap.size + 1), .int .i64 X] V fun e w' => ∃ err C2, GR E.per C X err C2 ∧ e = .returned (.int .i64 err) ∧ SS E wr.heap.size #[.int .i64 W, .int .i64 X, .int .i64 Y, .int .i64 Z] w' C1 U T j C2 U T j ∧ w'.cell? ⟨wr.heap.size, 1, none⟩ = some (.int .i64 X) := fun V C1 S => by
              have h := S.rgive X hwf
              rw [erc] at h
              refine h.mono ?_
              rintro e w' ⟨err, C2, hG, rfl, S'⟩
              exact ⟨err, C2, hG, rfl, S', (S'.cell 1).trans rfl⟩
            have y0 : (wr.alloc (.cells #[.int .i64 W, .int .i64 X, .int .i64 Y, .int .i64 Z] 33)).cell? ⟨wr.heap.size, 1, none⟩ = some (.int .i64 X) := (S0.cell 1).trans rfl
            go_upto_region 32 with fail
            clear hK
            go_cut [153] (fun t wc => t = .bool false ∧ ∃ C1, SS E wr.heap.size #[.int .i64 W, .int .i64 X, .int .i64 Y, .int .i64 Z] wc C1 U T j C1 U T j)
            case first =>
              go_region_held3 (fun w' => w'.cell? ⟨wr.heap.size, 1, none⟩ = some (.int .i64 X)) (first | exact y1 | exact y0) (first
                | (go_at_call 36; refine (hP _ (by exact S0.stay ⟨rfl, rfl, rfl, Nat.le_refl _, fun _ _ => rfl⟩)).mono ?_; rintro e w5 ⟨err, C1, hG, rfl, S1, y1⟩)
                | (go_at_call 37; refine (hR _ _ S1).mono ?_; rintro e w6 ⟨err', C2, hG', rfl, S2, y1⟩; obtain ⟨rfl, rfl⟩ := hG.one hG')
                | (go_at_call 10; refine (bare_any _ _ (hgw' _ S2.bel)).mono ?_; rintro e w7 ⟨rfl, b7⟩; have S3 := S2.stay b7; have y1 : w7.cell? ⟨wr.heap.size, 1, none⟩ = some (.int .i64 X) := (S3.cell 1).trans rfl))
              all_goals
                go_wp2_with fail
                go_meet
                case rel => exact ⟨rfl, _, S3⟩
            case rest =>
              obtain ⟨rfl, C1, S3⟩ := hcut
              clear hP hR y0
              go_wp2_with fail
              go_meet
              case rel => exact ⟨_, _, _, S3.more (by omega) (by omega)⟩
        · as_aux_lemma =>
            have hI := S0.reap
            rw [ec] at hI
            go_wp2_with fail
            refine hI.mono ?_
            rintro e w5 ⟨v, C1, U1, T1, hZ, rfl, S1⟩
            have hR := S1.rreap
            rw [erc] at hR
            clear hI
            go_wp2_with fail
            refine hR.mono ?_
            rintro e w6 ⟨v', C2, U2, T2, hZ', rfl, S2⟩
            obtain ⟨rfl, rfl, rfl, rfl⟩ := hZ.one hZ'
            clear hR hZ hZ'
            go_wp2_with fail
            go_meet
            case rel => exact ⟨_, _, _, S2.more (by omega) (by omega)⟩
        · as_aux_lemma =>
            have hR : ∀ (V : World), SS E wr.heap.size #[.int .i64 W, .int .i64 X, .int .i64 Y, .int .i64 Z] V C U T j C U T j → Calls Tryd.prog 21 #[pp r, .int .i64 Y] V fun e w' => ∃ v err U1 T1 d, PR Y U T v err U1 T1 d ∧ e = .returned (.tuple #[.int .i64 v, .int .i64 err]) ∧ SS E wr.heap.size #[.int .i64 W, .int .i64 X, .int .i64 Y, .int .i64 Z] w' C U T j C U1 T1 (j + d) ∧ w'.cell? ⟨w4.heap.size + 1, 0, none⟩ = some (pp r) ∧ w'.cell? ⟨wr.heap.size, 2, none⟩ = some (.int .i64 Y) := fun V S => by
              have h := S.rpalloc (by omega) Y
              rw [er] at h
              refine h.mono ?_
              rintro e w' ⟨v, err, U1, T1, d, hP, rfl, S'⟩
              have hc := S'.rcell
              rw [erc, er] at hc
              exact ⟨v, err, U1, T1, d, hP, rfl, S', hc, (S'.cell 2).trans rfl⟩
            have z0 := S0.rcell
            rw [erc, er] at z0
            have y0 : (wr.alloc (.cells #[.int .i64 W, .int .i64 X, .int .i64 Y, .int .i64 Z] 33)).cell? ⟨wr.heap.size, 2, none⟩ = some (.int .i64 Y) := (S0.cell 2).trans rfl
            go_upto_region 20 with fail
            clear hK
            go_cut [19, 20] (fun s19 s20 wc => ∃ v err U1 T1 d, PR Y U T v err U1 T1 d ∧ s19 = .int .i64 v ∧ s20 = .int .i64 err ∧ SS E wr.heap.size #[.int .i64 W, .int .i64 X, .int .i64 Y, .int .i64 Z] wc C U T j C U1 T1 (j + d))
            case first =>
              go_region_held3 (fun w' => w'.cell? ⟨w4.heap.size + 1, 0, none⟩ = some (pp r) ∧ w'.cell? ⟨wr.heap.size, 2, none⟩ = some (.int .i64 Y)) (first | exact ⟨z1, y1⟩ | exact ⟨z0, y0⟩) (first
                | (go_at_call 21; refine (hR _ (by exact S0.stay ⟨rfl, rfl, rfl, Nat.le_refl _, fun _ _ => rfl⟩)).mono ?_; rintro e w5 ⟨v, err, U1, T1, d, hPR, rfl, S1, z1, y1⟩))
              all_goals
                go_wp2_with fail
                go_meet
                case rel => exact ⟨_, _, _, _, _, hPR, rfl, rfl, S1⟩
            case rest =>
              obtain ⟨v, err, U1, T1, d, hPR, rfl, rfl, S1⟩ := hcut
              have hI := S1.palloc (by omega) Y
              rw [eb] at hI
              have y2 : wc.cell? ⟨wr.heap.size, 2, none⟩ = some (.int .i64 Y) := (S1.cell 2).trans rfl
              clear hR y0 z0
              go_wp2_with fail
              refine hI.mono ?_
              rintro e w6 ⟨v', err', U2, T2, d', hPR', rfl, S2⟩
              obtain ⟨rfl, rfl, rfl, rfl, rfl⟩ := hPR.one hPR'
              have hd := hPR.small
              clear hI hPR hPR' y2
              go_wp2_with fail
              refine (bare_any _ _ (hgw' _ S2.bel)).mono ?_
              rintro e w7 ⟨rfl, b7⟩
              have S3 := S2.stay b7
              go_wp2_with fail
              go_meet
              case rel => exact ⟨_, _, _, S3.more (by omega) (by omega)⟩
      case rest =>
        obtain ⟨C5, U5, T5, S5⟩ := hcut
        clear S0 d0 d1 d2 d3 B hwf
        obtain ⟨A5, vs5, L5, B5, _⟩ := S5
        have hlv : ∃ a k, vs5 = .slice a (num C5 E.n) k := by
          have hnk := num_keys B5.rs.keys B5.rs.within
          rcases zrow_read B5.rs.row with ⟨h, h0⟩ | ⟨gb, cap, h, _⟩
          · exact ⟨none, 0, by rw [h, ← hnk, h0]; rfl⟩
          · exact ⟨_, _, by rw [h, hnk]⟩
        obtain ⟨av, kv, rfl⟩ := hlv
        obtain ⟨nn, hnn⟩ : ∃ nn, num C5 E.n = nn := ⟨_, rfl⟩
        obtain ⟨tt, htt⟩ : ∃ tt, tot C5 E.n = tt := ⟨_, rfl⟩
        obtain ⟨ll, hll⟩ : ∃ ll, cnt U5 0 E.n = ll := ⟨_, rfl⟩
        rw [hnn] at B5
        have hst : ∀ V : World, (∃ A, BB E V A (.slice av nn kv) L5 C5 U5 T5 (j + 1) C5 U5 T5 (j + 1)) → V.cell? ⟨w4.heap.size + 1, 0, none⟩ = some (pp r) ∧ V.cell? ⟨w4.heap.size + 1, 2, none⟩ = some (.map (some E.gt)) ∧ V.cell? ⟨w4.heap.size + 1, 3, none⟩ = some (.slice av nn kv) ∧ (Builtin.len_ #[65] 3 #[.map (some E.gt)]).run Tryd.prog V = .ok (.int .i64 tt) V := by
          rintro V ⟨A', B'⟩
          have k0 := B'.rs.c0
          have k2 := B'.rs.c2
          have k3 := B'.rs.c3
          rw [erc] at k0 k2 k3
          rw [er] at k0
          exact ⟨k0, k2, k3, by rw [← htt]; exact B'.rs.map.len Tryd.underlying65 3⟩
        have hTh : ∀ V : World, (∃ A, BB E V A (.slice av nn kv) L5 C5 U5 T5 (j + 1) C5 U5 T5 (j + 1)) → Calls Tryd.prog 40 #[cp c] V fun e w' => e = .returned (.int .i64 tt) ∧ ∃ A, BB E w' A (.slice av nn kv) L5 C5 U5 T5 (j + 1) C5 U5 T5 (j + 1) := by
          rintro V ⟨A', B'⟩
          have h := things_ok B'.ca
          rw [ec, htt] at h
          refine h.mono ?_
          rintro e w' ⟨rfl, hb⟩
          exact ⟨rfl, A', B'.stay hb⟩
        have hFr : ∀ V : World, (∃ A, BB E V A (.slice av nn kv) L5 C5 U5 T5 (j + 1) C5 U5 T5 (j + 1)) → Calls Tryd.prog 41 #[cp c] V fun e w' => e = .returned (.int .i64 nn) ∧ ∃ A, BB E w' A (.slice av nn kv) L5 C5 U5 T5 (j + 1) C5 U5 T5 (j + 1) := by
          rintro V ⟨A', B'⟩
          have h := count_ok B'.ca
          rw [ec, hnn] at h
          refine h.mono ?_
          rintro e w' ⟨rfl, hb⟩
          exact ⟨rfl, A', B'.stay hb⟩
        have hLe : ∀ V : World, (∃ A, BB E V A (.slice av nn kv) L5 C5 U5 T5 (j + 1) C5 U5 T5 (j + 1)) → Calls Tryd.prog 25 #[pp b] V fun e w' => e = .returned (.int .i64 ll) ∧ w' = V := by
          rintro V ⟨A', B'⟩
          have h := left_ok B'.ca.pool
          rw [eb, hll] at h
          exact h
        have hRl : ∀ V : World, (∃ A, BB E V A (.slice av nn kv) L5 C5 U5 T5 (j + 1) C5 U5 T5 (j + 1)) → Calls Tryd.prog 26 #[pp r] V fun e w' => e = .returned (.int .i64 ll) ∧ w' = V := by
          rintro V ⟨A', B'⟩
          have h := rleft_ok B'.rs.pool
          rw [er, hll] at h
          exact h
        have Q0 : ∃ A, BB E wc A (.slice av nn kv) L5 C5 U5 T5 (j + 1) C5 U5 T5 (j + 1) := ⟨A5, B5⟩
        have Qd : ∃ A, BB E wc.drew A (.slice av nn kv) L5 C5 U5 T5 (j + 1) C5 U5 T5 (j + 1) := ⟨A5, B5.stay ⟨rfl, rfl, rfl, Nat.le_refl _, fun _ _ => rfl⟩⟩
        obtain ⟨z0, z2, z3, zl⟩ := hst _ Q0
        obtain ⟨_, _, _, zd⟩ := hst _ Qd
        clear B5 hnn htt hll
        go_upto_region 37 with fail
        go_cut [188] (fun t wc => t = .bool false ∧ ∃ A, BB E wc A (.slice av nn kv) L5 C5 U5 T5 (j + 1) C5 U5 T5 (j + 1))
        case first =>
          go_region_held3 (fun w' => w'.cell? ⟨w4.heap.size + 1, 0, none⟩ = some (pp r) ∧ w'.cell? ⟨w4.heap.size + 1, 2, none⟩ = some (.map (some E.gt)) ∧ w'.cell? ⟨w4.heap.size + 1, 3, none⟩ = some (.slice av nn kv) ∧ (Builtin.len_ #[65] 3 #[.map (some E.gt)]).run Tryd.prog w' = .ok (.int .i64 tt) w') (first | exact ⟨y0, y2, y3, yl⟩ | exact ⟨z0, z2, z3, zd⟩) (first
            | (go_at_call 40; refine (hTh _ (by exact Qd)).mono ?_; rintro e w5 ⟨rfl, Q5⟩; obtain ⟨y0, y2, y3, yl⟩ := hst _ Q5)
            | (go_at_call 41; refine (hFr _ (by exact Q5)).mono ?_; rintro e w6 ⟨rfl, Q6⟩; obtain ⟨y0, y2, y3, yl⟩ := hst _ Q6)
            | (go_at_call 25; refine (hLe _ (by exact Q6)).mono ?_; rintro e w7 ⟨rfl, h7⟩; subst w7)
            | (go_at_call 26; refine (hRl _ (by exact Q6)).mono ?_; rintro e w7 ⟨rfl, h7⟩; subst w7))
          all_goals
            go_wp2_with fail
            go_meet
            case rel => exact ⟨rfl, Q6⟩
        case rest =>
          obtain ⟨rfl, A6, B6⟩ := hcut
          go_wp2_with fail
          go_roundg (gk - 1)
          case measure => omega
          case rel => exact ⟨j + 1, A6, _, L5, C5, U5, T5, by omega, by go_num, B6⟩
    · go_wp2_with fail
      go_ret
      exact ⟨rfl, by have := B.bel; rw [ew] at this; exact this⟩
end Go.Proofs.YthknommfnajeiaaDoor

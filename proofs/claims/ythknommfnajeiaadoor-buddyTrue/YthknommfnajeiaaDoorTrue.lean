/- BuddyTrue, by its Go text. -/
import Derived.Test.YthknommfnajeiaaDoorTaken2
import Derived.Test.YthknommfnajeiaaDoorFrames2
import Derived.Test.YthknommfnajeiaaDoorUpto
import Derived.Test.YthknommfnajeiaaDoorEquals
import Derived.Test.YthknommfnajeiaaDoorBare
import Derived.Deep.QuietTactic
import Derived.BigQuiet
namespace Go.Proofs.YthknommfnajeiaaDoor
open Go.RowKit Go.Shelf Go.Lib Go.Sort

set_option maxHeartbeats 1000000 in
theorem equal_nil (w : World) (a a' : Option Addr) (c c' : Nat) : Calls Tryd.prog 31 #[.slice a 0 c, .slice a' 0 c'] w fun e w' => e = .returned (.bool true) ∧ Below w.heap.size w w' := by
  go_enter Tryd.func31, Tryd.ntmps31
  go_wp2_with fail
  go_loopg [5, 13] 0 (fun _ _ s13 wr => s13 = .int .i64 0 ∧ wr = w)
  case atStart => exact ⟨rfl, rfl⟩
  case round =>
    obtain ⟨rfl, hw⟩ := hrel
    subst wr
    go_wp2_with fail
    go_ret
    exact ⟨rfl, Below.refl _ _⟩

theorem rd_lt {w : World} {g : Nat} {L : List (Int × Int)} (h : Rd w g L) (hne : L ≠ []) : g < w.heap.size :=
  hbl (h 0 (List.length_pos_iff.2 hne)).1

set_option maxRecDepth 100000 in
set_option maxHeartbeats 8000000 in
theorem true_any (w : World) (a : Int) (ad : Option Addr) (len cap : Nat) (q : Nat → Bool × Int) (hq : Moves w ad len q) (hl : len ≤ 60) (a2 : Int) (hg : w.cell? ⟨0, 0, none⟩ = some errT) :
    Calls Tryd.prog 6 #[.int .i64 a, .slice ad len cap, .int .i64 a2] w fun e w' => e = .returned (.bool true) ∧ Below w.heap.size w w' := by
  have hl' : ¬ (60 : Int) < (len : Int) := by omega
  go_enter Tryd.func6, Tryd.ntmps6
  go_wp2_with fail
  refine (pooled_ok _).mono ?_
  rintro e w1 ⟨rfl, b1⟩
  go_wp2_with fail
  refine (mpick_any _ a 200 (by omega) (by omega)).mono ?_
  rintro e w2 ⟨r, rfl, hr, h2⟩
  subst w2
  obtain ⟨n, hn⟩ : ∃ n : Nat, r + 1 = n := ⟨_, rfl⟩
  have hn1 : 1 + (r : Int) = (n : Int) := by omega
  have hn2 : 1 ≤ n ∧ n ≤ 200 := by omega
  go_wp2_with fail
  clear hn1 hn hr
  refine (pool_ok _ n (by omega) (by omega)).mono ?_
  rintro e w2 ⟨b, rfl, A0, a0, f0, o0⟩
  have b2 : Below w.heap.size w w2 := b1.trans (Below.of_fr w.heap.size b1.size f0 (fun _ _ h => h))
  go_wp2_with fail
  refine (taken_ok ad len cap q (hq.keep b2) hl a0 (fun hpos blk off e hA => by
    rcases hq with h | ⟨blk', off', e', hb', _⟩
    · omega
    · rw [e] at e'; cases e'; exact o0 blk (Nat.lt_of_lt_of_le hb' b1.size) hA)).mono ?_
  rintro e w3 ⟨vh, rfl, LH, hLH, U, T, A, S⟩
  have b3 : Below w.heap.size w w3 := b2.trans (Below.of_fr w.heap.size b2.size S.fr (fun i hi h => o0 i (Nat.lt_of_lt_of_le hi b1.size) h))
  obtain ⟨ah, ch, rfl, hch⟩ := S.list.form'
  have hw3 := b3.size
  have pm0 := PMap.made w3
  have hmm := @run_makeMap Tryd.prog
  have aM := S.pool.keep' (w' := w3.alloc (.map #[] 0)) (fun i hi => Below.heap_alloc _ _ _ (S.pool.lt' hi))
  have hAlt : ∀ i, A i → i < w3.heap.size := fun i hi => S.pool.lt' hi
  have hAw : ∀ i, i < w.heap.size → ¬ A i := fun i hi h => o0 i (Nat.lt_of_lt_of_le hi b1.size) (S.sub i (Nat.lt_of_lt_of_le hi b2.size) h)
  clear S hq a0 o0 f0 b1 b2
  go_wp2_with fail
  refine (free_ok aM).mono ?_
  rintro e wb ⟨vf, rfl, hF, bF⟩
  have inv := aM.inv'
  have hbd := inv.bound
  have pm1 := pm0.keep (w' := wb) (bF.block _ (by simp))
  have aB := aM.keep' (w' := wb) (fun i hi => bF.block i (aM.lt' hi))
  have b4 : Below w.heap.size w wb := (b3.alloc b3.size _).trans (bF.mono (by have := b3.size; simp; omega))
  obtain ⟨LF, hLF⟩ : ∃ LF, (blocks U n).map toInt = LF := ⟨_, rfl⟩
  have hlf : (blocks U n).length ≤ 256 := by
    have h1 := len_size (blocks U n)
    have h2 := blocks_size hbd
    have h3 := cnt_le U n 0
    omega
  rw [hLF] at hF
  have hlen : (blocks U n).length = LF.length := by rw [← hLF, List.length_map]
  obtain ⟨af, cf, rfl, hcf⟩ := hF.form'
  have hrF : LF ≠ [] → ∃ g, af = some ⟨g, 0, none⟩ ∧ w3.heap.size < g ∧ g < wb.heap.size ∧ Rd wb g LF := fun h => by
    obtain ⟨g, e, h0, h1, h2⟩ := hF.read h; exact ⟨g, e, by simp at h0; omega, h1, h2⟩
  clear aM pm0 hmm b3
  go_wp2_with fail
  refine (mpick_any _ a2 7 (by omega) (by omega)).mono ?_
  rintro e wx ⟨o, rfl, ho, hx⟩
  subst wx
  go_wp2_with fail
  go_loopg [13, 14] LF.length (fun mm s13 s14 wr => ∃ (i m s : Nat), i + mm = LF.length ∧ s14 = .int .i64 i ∧ s13 = .int .i64 m ∧ Lst o m ((blocks U n).take i) ∧ Fr (fun j => j = w3.heap.size) wb wr ∧ s ≤ 64 * i ∧ PMap wr w3.heap.size s (mo (cov (LF.take i))))
  case atStart =>
    refine ⟨0, 7, 0, by omega, rfl, rfl, by simpa using lst_nil o, Fr.refl _ _, by omega, ?_⟩
    have e : cov (LF.take 0) = fun _ => false := by funext f; simp [cov]
    rw [e, mo_bot]; exact pm1
  case round =>
    clear pm1
    obtain ⟨i, m, s, hi, rfl, rfl, hLs, hfr, hs, pm⟩ := hrel
    by_cases hlt : (i : Int) < (LF.length : Int)
    · have hi' : i < LF.length := by omega
      have hib : i < (blocks U n).length := by omega
      obtain ⟨gb, rfl, hgn, hgb, hrd⟩ := hrF (by rintro rfl; simp at hi')
      obtain ⟨c0, c1⟩ := (hrd.keep (w' := wr) (hfr.block gb hgb (fun e => by have e' : gb = w3.heap.size := e; omega))) i hi'
      obtain ⟨k, q0, hx, hm⟩ := (mem_blocks_int hbd LF[i]).1 (by rw [hLF]; exact List.getElem_mem hi')
      have hk6 := hm.1
      have hq := small_of hbd (by omega) hm.2.1
      have hcs := cov_succ hi' hx
      have ek : (blocks U n)[i].2 = k := by
        have e1 : toInt (blocks U n)[i] = toInt (q0 * 2 ^ k, k) := by rw [← hx]; simp [← hLF]
        exact Int.ofNat.inj (congrArg Prod.snd e1)
      rw [hx] at c0 c1
      obtain ⟨z, hz⟩ : ∃ z : Nat, q0 * 2 ^ k = z := ⟨_, rfl⟩
      obtain ⟨p, hp⟩ : ∃ p : Nat, 2 ^ k = p := ⟨_, rfl⟩
      have hp64 : p ≤ 64 := by rw [← hp]; exact Nat.pow_le_pow_right (by omega) hk6
      rw [hz, hp] at hcs
      rw [hz] at c0 c1 hq
      replace c0 : wr.cell? ⟨gb, i * 2, none⟩ = some (.int .i64 (z : Int)) := c0
      replace c1 : wr.cell? ⟨gb, i * 2 + 1, none⟩ = some (.int .i64 (k : Int)) := c1
      have hcs' : cov (LF.take (i + 1)) = upto (cov (LF.take i)) z p := hcs
      have hz256 := hq.1
      clear hcs hx hz hm hq hrd
      go_wp2_with fail
      go_loopg [15] p (fun mm s15 w2 => ∃ (y j s : Nat), j + mm = p ∧ z + j = y ∧ s15 = .int .i64 (y : Int) ∧ Fr (fun j => j = w3.heap.size) wb w2 ∧ s ≤ 64 * i + j ∧ PMap w2 w3.heap.size s (mo (upto (cov (LF.take i)) z j)) ∧ w2.cell? ⟨gb, i * 2, none⟩ = some (.int .i64 (z : Int)) ∧ w2.cell? ⟨gb, i * 2 + 1, none⟩ = some (.int .i64 (k : Int)))
      case atStart => exact ⟨z, 0, s, by omega, rfl, rfl, hfr, by omega, by rw [upto_zero]; exact pm, c0, c1⟩
      case round =>
        clear hfr pm c0 c1 hs
        obtain ⟨y, j, s, hj, hy, rfl, hfr, hs, pm, c0, c1⟩ := hrel
        go_upto_region 20 with fail
        go_cut [79] (fun c wc => c = .bool (decide ((y : Int) < (z : Int) + (p : Int))) ∧ ∃ m, wc = wr.drewN m)
        case first =>
          as_aux_lemma =>
            clear hcs' hLs pm hfr hrF hbd hlen hLF aB b4 inv
            rcases seven hk6 with rfl | rfl | rfl | rfl | rfl | rfl | rfl
            all_goals
              simp only [Nat.reducePow] at hp
              subst hp
              clear hk6
              go_quiet (fail)
              go_wp2_with fail
              go_meet
              case rel => exact ⟨rfl, _, rfl⟩
        case rest =>
          obtain ⟨rfl, mq, rfl⟩ := hcut
          have hfr' : Fr (fun j => j = w3.heap.size) wb (wr.drewN mq) := ⟨hfr.os, hfr.tape, hfr.output, hfr.size, hfr.block⟩
          by_cases hyl : (y : Int) < (z : Int) + (p : Int)
          · as_aux_lemma =>
              have hput := mo_put (upto (cov (LF.take i)) z j) y
              rw [← hy, upto_next, hy] at hput
              have hwf : (Lit.int .i64 (y : Int)).wf = true := wf_small (by omega) (by omega)
              have hmx : s < maxLen := by unfold maxLen; omega
              have hkp : ∀ W w5 : World, W.heap = wr.heap → W.grownBy w5 (some w3.heap.size) → w5.cell? ⟨gb, i * 2, none⟩ = some (.int .i64 (z : Int)) ∧ w5.cell? ⟨gb, i * 2 + 1, none⟩ = some (.int .i64 (k : Int)) := by
                intro W w5 hW G
                have e : w5.heap[gb]? = wr.heap[gb]? := (G.block gb (by rw [hW]; exact hbl c0) (fun e => by cases e; omega)).trans (by rw [hW])
                rw [World.cell?_of_block (w := wr) (a := ⟨gb, i * 2, none⟩) e, World.cell?_of_block (w := wr) (a := ⟨gb, i * 2 + 1, none⟩) e]
                exact ⟨c0, c1⟩
              generalize mo (upto (cov (LF.take i)) z j) = M at *
              generalize hMe : mo (upto (cov (LF.take i)) z (j + 1)) = M' at *
              clear hp
              go_wp2_with (at_mapUpdate; refine wpList_kput rfl _ _ _ 65 rfl 3 Tryd.underlying65 w3.heap.size s M rfl (pm.keep rfl) hmx (y : Int) rfl hwf (.int .i64 1) rfl ?_; intro w5 P5 G5; rw [hput] at P5)
              obtain ⟨K0, K1⟩ := hkp _ w5 (by rfl) G5
              go_roundg (p - (j + 1))
              case measure => omega
              case rel =>
                exact ⟨y + 1, j + 1, (if (M (y : Int)).isSome then s else s + 1), by omega, by omega, by go_num, hfr'.trans (Fr.grown G5) (fun _ _ h => h), by split <;> omega, by rw [hMe]; exact P5, K0, K1⟩
          · as_aux_lemma =>
              have hjl : j = p := by omega
              subst hjl
              rw [← hcs'] at pm
              have hLn : ∀ m', Lst o m' ((blocks U n).take i ++ [(blocks U n)[i]]) → Lst o m' ((blocks U n).take (i + 1)) := fun m' h => by rw [List.take_succ_eq_append_getElem hib]; exact h
              have pm' := pm.keep (w' := wr.drewN mq) rfl
              clear hp
              by_cases hok : (o : Int) ≤ (k : Int)
              · have hLs' := hLn _ (hLs.add (y := (blocks U n)[i]) (by rw [ek]; omega))
                rw [ek] at hLs'
                clear hLn
                by_cases hmk : m ≤ k
                · rw [Nat.min_eq_left hmk] at hLs'
                  have hmk' : min (m : Int) (k : Int) = (m : Int) := by omega
                  have hmk2 : (m : Int) ≤ (k : Int) := by omega
                  go_wp2_with fail
                  go_roundg (LF.length - (i + 1))
                  case measure => omega
                  case rel => exact ⟨i + 1, m, s, by omega, by go_num, by first | rfl | (simp; omega), hLs', hfr', by omega, pm'⟩
                · rw [Nat.min_eq_right (by omega)] at hLs'
                  have hmk' : min (m : Int) (k : Int) = (k : Int) := by omega
                  have hmk2 : (k : Int) < (m : Int) := by omega
                  go_wp2_with fail
                  go_roundg (LF.length - (i + 1))
                  case measure => omega
                  case rel => exact ⟨i + 1, k, s, by omega, by go_num, by first | rfl | (simp; omega), hLs', hfr', by omega, pm'⟩
              · have hLs' := hLn _ (hLs.skip (y := (blocks U n)[i]) (by rw [ek]; omega))
                go_wp2_with fail
                go_roundg (LF.length - (i + 1))
                case measure => omega
                case rel => exact ⟨i + 1, m, s, by omega, by go_num, rfl, hLs', hfr', by omega, pm'⟩
    · have e1 : LF.take i = LF := List.take_of_length_le (by omega)
      have e2 : (blocks U n).take i = blocks U n := List.take_of_length_le (by omega)
      have e3 : cov LF = U := by rw [← hLF]; exact cov_free hbd
      rw [e1, e3] at pm
      rw [e2] at hLs
      have aW := aB.keep' (w' := wr) (fun j hj => hfr.block j (aB.lt' hj) (fun e => by have := hAlt j hj; omega))
      have hrW : LF ≠ [] → ∃ g, af = some ⟨g, 0, none⟩ ∧ w3.heap.size < g ∧ Rd wr g LF := fun h => by
        obtain ⟨g, e, h1, h2, h3⟩ := hrF h
        exact ⟨g, e, h1, h3.keep (hfr.block g h2 (fun e => by have e' : g = w3.heap.size := e; omega))⟩
      have b5 : Below w.heap.size w wr := b4.trans (Below.of_fr w.heap.size b4.size hfr (fun j hj e => by omega))
      have hgW : wr.cell? ⟨0, 0, none⟩ = some errT := by rw [World.cell?_of_block (w := w) (a := ⟨0, 0, none⟩) (b5.block _ (World.block_lt_of_cell? w _ hg))]; exact hg
      clear e1 e2 e3 hs hi hrF aB hfr b4 hg
      obtain ⟨p, hp⟩ : ∃ p : Nat, 2 ^ o = p := ⟨_, rfl⟩
      have hp2 : (2 : Int) ^ o = (p : Int) := by rw [← hp]; simp
      have hp64 : p ≤ 64 := by rw [← hp]; exact Nat.pow_le_pow_right (by omega) (show o ≤ 6 by omega)
      have hp1 : 1 ≤ p := by rw [← hp]; exact Nat.two_pow_pos o
      obtain ⟨W0, rfl⟩ : ∃ W0, W0 = wr := ⟨_, rfl⟩
      go_wp2_with fail
      clear hlt
      go_loopg [16, 17] (n + 1) (fun mm s16 s17 w2 => ∃ (t y : Nat) (sm : Bool), t + mm = n + 1 ∧ t * p = y ∧ y ≤ n ∧ s17 = .int .i64 (y : Int) ∧ s16 = .bool sm ∧ (sm = true ↔ ∃ t', t' < t ∧ blk U o t') ∧ w2 = W0)
      case atStart => exact ⟨0, 0, false, by omega, by omega, by omega, rfl, rfl, by simp, rfl⟩
      case round =>
        obtain ⟨t, y, sm, ht, hy, hyn0, rfl, rfl, hsm, hwr⟩ := hrel
        subst wr
        by_cases hle : (y : Int) + (p : Int) ≤ (n : Int)
        · as_aux_lemma =>
            have hty : t ≤ y := by rw [← hy]; exact Nat.le_mul_of_pos_right t hp1
            have hcb : cnt U y p = p ↔ blk U o t := by rw [← hy, ← hp]; exact cnt_blk
            have hyn : (t + 1) * p = y + p := by rw [Nat.add_mul, hy, Nat.one_mul]
            clear hLs hrW hLF hlen hcf hlf hgW b5 aW inv hy hp
            go_wp2_with fail
            go_loopg [18, 19] p (fun mm s18 s19 w2 => ∃ (j x : Nat), j + mm = p ∧ y + j = x ∧ s19 = .int .i64 (x : Int) ∧ s18 = .int .i64 (cnt U y j : Nat) ∧ w2 = W0)
            case atStart => exact ⟨0, y, by omega, rfl, rfl, rfl, rfl⟩
            case round =>
              obtain ⟨j, x, hj, hx, rfl, rfl, hwr⟩ := hrel
              subst wr
              have hcl := cnt_le U j y
              by_cases hlt : (x : Int) < (y : Int) + (p : Int)
              · have hc1 : cnt U y (j + 1) = cnt U y j + cnt U x 1 := by rw [cnt_add, hx]
                have hwf : (Lit.int .i64 (x : Int)).wf = true := wf_small (by omega) (by omega)
                cases hU : U x with
                | true =>
                  have e1 : cnt U x 1 = 1 := by simp [cnt, hU]
                  have hMx := mo_some hU
                  rw [e1] at hc1
                  go_wp2_with (at_lookup; refine wpList_klook rfl _ _ 65 rfl 3 Tryd.underlying65 _ (zero_int _) w3.heap.size s (mo U) rfl pm (x : Int) rfl hwf ?_; rw [hMx]; simp only [Option.getD_some])
                  go_roundg (p - (j + 1))
                  case measure => omega
                  case rel => exact ⟨j + 1, x + 1, by omega, by omega, by go_num, by rw [hc1]; go_num, rfl⟩
                | false =>
                  have e1 : cnt U x 1 = 0 := by simp [cnt, hU]
                  have hMx := mo_none hU
                  rw [e1] at hc1
                  go_wp2_with (at_lookup; refine wpList_klook rfl _ _ 65 rfl 3 Tryd.underlying65 _ (zero_int _) w3.heap.size s (mo U) rfl pm (x : Int) rfl hwf ?_; rw [hMx]; simp only [Option.getD_none])
                  go_roundg (p - (j + 1))
                  case measure => omega
                  case rel => exact ⟨j + 1, x + 1, by omega, by omega, by go_num, by rw [hc1]; go_num, rfl⟩
              · have hjp : j = p := by omega
                have hcj : cnt U y j = p ↔ blk U o t := by rw [hjp]; exact hcb
                have hyl : y ≤ 200 := by omega
                clear hcb hx
                generalize cnt U y j = c0 at *
                cases sm with
                | true =>
                  have hsm' := hsm.1 rfl
                  go_wp2_with fail
                  go_roundg (n - t)
                  case measure => omega
                  case rel => exact ⟨t + 1, y + p, true, by omega, hyn, by omega, by go_num, rfl, ⟨fun _ => by obtain ⟨t', h1, h2⟩ := hsm'; exact ⟨t', by omega, h2⟩, fun _ => rfl⟩, rfl⟩
                | false =>
                  by_cases hb : c0 = p
                  · have hbI : (c0 : Int) = (p : Int) := by omega
                    have hbt := hcj.1 hb
                    go_wp2_with fail
                    go_roundg (n - t)
                    case measure => omega
                    case rel => exact ⟨t + 1, y + p, true, by omega, hyn, by omega, by go_num, rfl, ⟨fun _ => ⟨t, by omega, hbt⟩, fun _ => rfl⟩, rfl⟩
                  · have hbI : ¬ (c0 : Int) = (p : Int) := by omega
                    have hbt : ¬ blk U o t := fun h => hb (hcj.2 h)
                    go_wp2_with fail
                    go_roundg (n - t)
                    case measure => omega
                    case rel =>
                      refine ⟨t + 1, y + p, false, by omega, hyn, by omega, by go_num, by first | rfl | exact congrArg Value.bool (by simpa using hbI), ⟨fun h => (by cases h), ?_⟩, rfl⟩
                      rintro ⟨t', h1, h2⟩
                      by_cases e : t' = t
                      · subst e; exact absurd h2 hbt
                      · exact hsm.2 ⟨t', by omega, h2⟩
        · have hex : sm = true ↔ ∃ q, blk U o q := by
            rw [hsm]
            constructor
            · rintro ⟨t', _, h2⟩; exact ⟨t', h2⟩
            · rintro ⟨q, hq⟩
              have hlast := hbd _ (hq _ (last_in o q))
              rw [hp] at hlast
              refine ⟨q, ?_, hq⟩
              apply Nat.lt_of_not_le; intro hqt
              have := Nat.mul_le_mul_right p hqt
              rw [hy] at this
              omega
          have hsv := serves (U := U) (o := o) (by omega)
          rw [← hex] at hsv
          have hfin := left_ok aW
          have hle1 : (n : Int) < (y : Int) + (p : Int) := by omega
          have hle2 : decide ((y : Int) + (p : Int) ≤ (n : Int)) = false := decide_eq_false hle
          clear hp hy hsm
          go_wp2_with fail
          clear hle hle1 hle2
          refine hfin.mono ?_
          rintro e w5 ⟨rfl, h5⟩
          subst w5
          have hcn := cnt_le U n 0
          go_wp2_with fail
          by_cases hno : ∀ j r, mxb U j r → j < o
          · obtain rfl : sm = false := by
              cases sm with
              | false => rfl
              | true => exact absurd hno (hsv.1 rfl)
            as_aux_lemma =>
              refine (alloc_none aW o (by omega) hno).mono ?_
              rintro e w5 ⟨rfl, h5⟩
              subst w5
              go_wp2_with fail
              refine (tell_eno 12 _ hgW).mono ?_
              rintro e w6 ⟨rfl, l6⟩
              have a6 := aW.keep' (w' := w6) (fun i hi => l6.block i (aW.lt' hi))
              have hL6 := left_ok a6
              have hF6 := free_ok a6
              rw [hLF] at hF6
              generalize cnt U 0 n = lf at *
              go_wp2_with fail
              refine hL6.mono ?_
              rintro e w7 ⟨rfl, h7⟩
              subst w7
              go_wp2_with fail
              refine hF6.mono ?_
              rintro e w7 ⟨v7, rfl, B7, l7⟩
              obtain ⟨a7, c7, rfl, _⟩ := B7.form'
              have hE : Calls Tryd.prog 31 #[.slice a7 LF.length c7, .slice af LF.length cf] w7 fun e w' => e = .returned (.bool true) ∧ Below w7.heap.size w7 w' := by
                by_cases hne : LF = []
                · subst hne
                  exact equal_nil w7 a7 af c7 cf
                · obtain ⟨g7, e7, _, hg7, r7⟩ := B7.read hne
                  obtain ⟨gf, ef, _, rf⟩ := hrW hne
                  subst e7 ef
                  exact equal_ok r7 ((rf.keep (l6.block _ (rd_lt rf hne))).keep (l7.block _ (Nat.lt_of_lt_of_le (rd_lt rf hne) l6.size))) (by omega)
              clear hF6 hL6
              go_wp2_with fail
              refine hE.mono ?_
              rintro e w8 ⟨rfl, l8⟩
              go_wp2_with fail
              go_ret
              exact ⟨rfl, b5.trans ((l6.mono b5.size).trans ((l7.mono (Nat.le_trans b5.size l6.size)).trans (l8.mono (Nat.le_trans b5.size (Nat.le_trans l6.size l7.size)))))⟩
          · obtain rfl : sm = true := hsv.2 hno
            obtain ⟨k, q, hB, hTn⟩ := aW.best o hno
            have hmk := hLs.best hbd hB
            have hmem : toInt (q * 2 ^ k, k) ∈ LF := by
              obtain ⟨⟨q', hq', hx⟩, _, _⟩ := hB
              rw [← hLF]; exact (mem_blocks_int hbd _).2 ⟨k, q', by rw [hq'], hx⟩
            have hbo : blk U o (q * 2 ^ (k - o)) ∧ q * 2 ^ (k - o) * 2 ^ o = q * 2 ^ k := by
              obtain ⟨⟨q', hq', hx⟩, hok, _⟩ := hB
              obtain rfl := Nat.eq_of_mul_eq_mul_right (Nat.two_pow_pos k) hq'
              exact blk_part hx.2.1 hok
            have hcut := cnt_cut hbd hbo.1
            have hpn : 2 ^ o = p := by exact Int.ofNat.inj (by simpa using hp2)
            as_aux_lemma =>
              refine (alloc_some aW (by omega) o (by omega) k q hB).mono ?_
              rintro e w5 ⟨rfl, A5, a5, f5, s5⟩
              obtain ⟨z, hz⟩ : ∃ z, q * 2 ^ k = z := ⟨_, rfl⟩
              have hfree : ∀ j, j < p → U (z + j) = true := fun j hj => by
                refine hbo.1 _ ((in_iff _ o _).2 ?_)
                rw [hbo.2, hz, hpn]; omega
              have hzn : ∀ j, j < p → z + j < n := fun j hj => hbd _ (hfree j hj)
              have hzb := hzn 0 (by omega)
              have hzl := hzn (p - 1) (by omega)
              have pm5 := pm.keep (w' := w5) (f5.block _ pm.lt (fun h => by have := hAlt _ h; omega))
              have b6 : Below w.heap.size w w5 := b5.trans ⟨f5.os, f5.tape, f5.output, f5.size, fun i hi => f5.block i (Nat.lt_of_lt_of_le hi b5.size) (fun h => hAw i hi h)⟩
              have hLl : ∀ W : World, W.heap = w5.heap → Calls Tryd.prog 25 #[pp b] W fun e w' => e = .returned (.int .i64 (cnt (cut U o (q * 2 ^ (k - o))) 0 n : Nat)) ∧ w' = W := fun W hW => left_ok (a5.keep' (fun i _ => by rw [hW]))
              obtain ⟨gf, ef, hgf, rf⟩ := hrW (fun e => by rw [e] at hmem; cases hmem)
              subst ef
              have rf5 : Rd w5 gf LF := rf.keep (f5.block _ (rd_lt rf (fun e => by rw [e] at hmem; cases hmem)) (fun h => by have := hAlt _ h; omega))
              rw [hz] at hmem
              rw [hpn] at hcut
              simp only [hz]
              have hk6 : o ≤ 6 := by omega
              have hLFl : LF.length ≤ 1000 := by omega
              generalize cnt (cut U o (q * 2 ^ (k - o))) 0 n = l1 at *
              generalize cnt U 0 n = lf at *
              clear hB hbo hTn hfin hsv hex hno hLs hLF hlen inv aW f5 s5 pm hpn hrW rf hbd hz b5
              have hmi : (m : Int) = (k : Int) := by omega
              rw [hmi]
              clear hmi hmk
              go_wp2_with fail
              go_loopg [22] p (fun mm s22 w2 => ∃ (j x : Nat), j + mm = p ∧ z + j = x ∧ s22 = .int .i64 (x : Int) ∧ w2 = w5)
              case atStart => exact ⟨0, z, by omega, rfl, rfl, rfl⟩
              case round =>
                obtain ⟨j, x, hj, hx, rfl, hwr⟩ := hrel
                subst wr
                by_cases hlt : (x : Int) < (z : Int) + (p : Int)
                · have hUx := hfree j (by omega)
                  rw [hx] at hUx
                  have hMx := mo_some hUx
                  have hwf : (Lit.int .i64 (x : Int)).wf = true := wf_small (by omega) (by omega)
                  go_wp2_with (at_lookup; refine wpList_klook rfl _ _ 65 rfl 3 Tryd.underlying65 _ (zero_int _) w3.heap.size s (mo U) rfl pm5 (x : Int) rfl hwf ?_; rw [hMx]; simp only [Option.getD_some])
                  go_roundg (p - (j + 1))
                  case measure => omega
                  case rel => exact ⟨j + 1, x + 1, by omega, by omega, by go_num, rfl⟩
                · go_upto_region 44 with fail
                  have hL' : ∀ W : World, W.heap = w5.heap → Calls Tryd.prog 25 #[pp b] W fun e w' => e = .returned (.int .i64 (l1 : Nat)) ∧ w' = W := hLl
                  have hH' : ∀ W : World, W.heap = w5.heap → W.os = w5.os → W.tape = w5.tape → W.output = w5.output → Calls Tryd.prog 32 #[.slice (some ⟨gf, 0, none⟩) LF.length cf, .agg #[.int .i64 (z : Int), .int .i64 (k : Int)]] W fun e w' => e = .returned (.bool true) ∧ Below w.heap.size w w' := by
                    intro W h1 h2 h3 h4
                    refine (has_ok (cap := cf) (rf5.keep (by rw [h1])) (by omega) (toInt (z, k))).mono ?_
                    rintro e w' ⟨rfl, hB⟩
                    have hB1 : Below w.heap.size w W := ⟨h2.trans b6.os, h3.trans b6.tape, h4.trans b6.output, by rw [h1]; exact b6.size, fun i hi => by rw [h1]; exact b6.block i hi⟩
                    exact ⟨by rw [decide_eq_true hmem], hB1.trans (hB.mono hB1.size)⟩
                  have hl200 : l1 + p ≤ 200 := by omega
                  have hsub : (lf : Int) - (p : Int) = (l1 : Int) := by omega
                  have hl2 : l1 ≤ 200 ∧ lf ≤ 200 := by omega
                  have hs1 : wrap64 ((lf : Int) - (p : Int)) = (l1 : Int) := by rw [hsub]; unfold wrap64; omega
                  have hs2 : IntKind.i64.wrap ((lf : Int) - (p : Int)) = (l1 : Int) := by rw [IntKind.wrap_i64]; omega
                  have hs3 : IntKind.i64.wrap (p : Int) = (p : Int) := by rw [IntKind.wrap_i64]; omega
                  have hs4 : IntKind.i64.wrap (l1 : Int) = (l1 : Int) := by rw [IntKind.wrap_i64]; omega
                  clear hcut hl200
                  clear hfree hzn hzl hzb a5 pm5 rf5 hmem hF hLl hAlt hAw hj hx hgf hcn hp64 hp1 ht hyn0 b6 hgW hlf hcf hn2
                  clear hlt
                  go_cut [6] (fun s6 wc => s6 = .bool true ∧ Below w.heap.size w wc)
                  case first =>
                    as_aux_lemma =>
                      rcases seven hk6 with rfl | rfl | rfl | rfl | rfl | rfl | rfl
                      all_goals
                        first | simp only [Int.reducePow] at hp2 | simp only [Int.pow_zero] at hp2
                        rw [← hp2] at hsub hs1 hs2 hs3
                        clear hp2 hk6
                        go_region_held3 (fun _ => True) (trivial) (first
                          | (go_at_call 25; refine (hL' _ ?_).mono ?_; rfl; rintro e w1 ⟨rfl, h1⟩; subst w1)
                          | (go_at_call 32; refine (hH' _ ?_ ?_ ?_ ?_).mono ?_; rfl; rfl; rfl; rfl; rintro e w1 ⟨rfl, hB⟩))
                        all_goals
                          go_wp2_with fail
                          go_meet
                          case rel => exact ⟨rfl, hB⟩
                  case rest =>
                    obtain ⟨rfl, hB⟩ := hcut
                    go_wp2_with fail
                    go_ret
                    exact ⟨rfl, hB⟩
end Go.Proofs.YthknommfnajeiaaDoor

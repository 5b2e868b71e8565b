/- SlabCounts, by its Go text: the walk. -/
import Derived.Test.YthknommfnajeiaaDoorCounts
import Derived.Test.YthknommfnajeiaaDoorTaken
namespace Go.Proofs.YthknommfnajeiaaDoor
open Go.RowKit Go.Shelf Go.Lib Go.Sort Go.Maps

theorem new_one (w : World) (k : Int) (t : TypeId) : ∀ j u, ([.int .i64 k] : List Value)[j]? = some u → (w.alloc (.cells #[.int .i64 k] t)).cell? ((⟨w.heap.size, 0, none⟩ : Addr).add j) = some u := by
  intro j u hu
  match j, hu with
  | 0, hu => cases hu; simp [Addr.add]
  | j + 1, hu => simp at hu

set_option maxRecDepth 100000 in
set_option maxHeartbeats 8000000 in
theorem counts_any (w : World) (a1 a2 : Int) (ad : Option Addr) (len cap : Nat) (q : Nat → Bool × Int) (hq : Moves w ad len q) (hl : len ≤ 60) (hg : w.cell? ⟨0, 0, none⟩ = some errT) (hTab : Tab w) :
    Calls Tryd.prog 8 #[.int .i64 a1, .int .i64 a2, .slice ad len cap] w fun e w' => e = .returned (.bool true) ∧ Below w.heap.size w w' := by
  have hl' : ¬ (60 : Int) < (len : Int) := by omega
  obtain ⟨i0, hi, hz0, hz1, hz2⟩ := info_parts (P := Tryd.prog) (e := 3) (z := .int .i64 0) (size := 1) (bytes := 8) (by kernel_rfl)
  go_enter Tryd.func8, Tryd.ntmps8
  go_wp2_with fail
  refine (slabbed_ok _ hTab).mono ?_
  rintro e w1 ⟨rfl, b1⟩
  go_wp2_with fail
  refine (mpick_any _ a1 40 (by omega) (by omega)).mono ?_
  rintro e w2 ⟨r, rfl, hr, h2⟩
  subst w2
  go_wp2_with fail
  refine (mpick_any _ a2 16 (by omega) (by omega)).mono ?_
  rintro e w2 ⟨r2, rfl, hr2, h2⟩
  subst w2
  obtain ⟨n, hn⟩ : ∃ n : Nat, r + 1 = n := ⟨_, rfl⟩
  obtain ⟨per, hper⟩ : ∃ per : Nat, r2 + 1 = per := ⟨_, rfl⟩
  have hn1 : 1 + (r : Int) = (n : Int) := by omega
  have hp1 : 1 + (r2 : Int) = (per : Int) := by omega
  have hn2 : 1 ≤ n ∧ n ≤ 40 := by omega
  have hp2 : 1 ≤ per ∧ per ≤ 16 := by omega
  go_wp2_with fail
  clear hn1 hn hr hp1 hper hr2
  refine (pool_ok _ n (by omega) (by omega)).mono ?_
  rintro e w2 ⟨b, rfl, A0, a0, f0, o0⟩
  have b2 : Below w1.heap.size w1 w2 := ⟨f0.os, f0.tape, f0.output, f0.size, fun i hi => f0.block i hi (fun h => h)⟩
  go_wp2_with fail
  refine (cache_own (w0 := w1) (per := per) a0 b2 o0 (by omega) (by omega)).mono ?_
  rintro e w3 ⟨c, rfl, g, A, ca, b3, offA, offg⟩
  have hTab1 : Tab w1 := hTab.keep (b1.block _ hTab.lt)
  have S0 : SW w1 c b per g n w3 (.slice none 0 0) [] (fun _ => none) (fun f => decide (f < n)) (fun _ => none) 0 A := ⟨ca, b3, offA, offg, World.ownsRow_nil _ _ _ _, fun i h => (by cases h)⟩
  have K0 : KI per n [] (fun _ => none) (fun _ => none) := ⟨Sole.none, fun k => by simp [isT, val], List.nodup_nil, (sumTo_zero _ _ (fun _ _ _ => ones_zero)).symm⟩
  have hgw : ∀ W, Below w1.heap.size w1 W → W.cell? ⟨0, 0, none⟩ = some errT := fun W hW => by
    have hb := b1.trans (hW.mono b1.size)
    rw [World.cell?_of_block (w := w) (a := ⟨0, 0, none⟩) (hb.block _ (World.block_lt_of_cell? w _ hg))]; exact hg
  clear ca b3 offA a0 f0 o0 b2
  go_wp2_with fail
  go_loopg [10, 11] len (fun k s10 s11 wr => ∃ (j : Nat) (L : List Int) (C : Int → Option Nat) (U : Nat → Bool) (T : Int → Option Nat) (m : Nat) (A : Nat → Prop), j + k = len ∧ s11 = .int .i64 j ∧ L.length ≤ j ∧ m ≤ j ∧ SW w1 c b per g n wr s10 L C U T m A ∧ KI per n L C T)
  case atStart => exact ⟨0, [], _, _, _, 0, A, by omega, rfl, Nat.le_refl _, Nat.le_refl _, S0, K0⟩
  case round =>
    clear S0 K0
    obtain ⟨j, L, C, U, T, m, A, hj, rfl, hLj, hmj, S, K⟩ := hrel
    by_cases hlt : (j : Int) < (len : Int)
    · rcases hq with h0 | ⟨blk, off, rfl, hbl, hqq⟩
      · exfalso; omega
      obtain ⟨c0, c1⟩ := hqq j (by omega)
      have hbw : Below w.heap.size w wr := b1.trans (S.bel.mono b1.size)
      have d0 : wr.cell? ⟨blk, off + j * 2, none⟩ = some (.bool (q j).1) := by rw [World.cell?_of_block (w := w) (a := ⟨blk, off + j * 2, none⟩) (hbw.block blk hbl)]; exact c0
      have d1 : wr.cell? ⟨blk, off + j * 2 + 1, none⟩ = some (.int .i64 (q j).2) := by rw [World.cell?_of_block (w := w) (a := ⟨blk, off + j * 2 + 1, none⟩) (hbw.block blk hbl)]; exact c1
      clear c0 c1 hqq hbw
      generalize (q j).2 = N at *
      generalize (q j).1 = bT at *
      go_upto_if 60 with fail
      go_cut [10] (fun s10 wc => ∃ (L : List Int) (C : Int → Option Nat) (U : Nat → Bool) (T : Int → Option Nat) (m : Nat) (A : Nat → Prop), L.length ≤ j + 1 ∧ m ≤ j + 1 ∧ SW w1 c b per g n wc s10 L C U T m A ∧ KI per n L C T)
      case first =>
        cases bT with
        | true =>
          as_aux_lemma =>
            go_wp2_with fail
            refine (S.alloc K hTab1 (by omega)).mono ?_
            rintro e w2 (⟨rfl, h0, S2⟩ | ⟨k, F, rfl, hkL, hk5, hkF, hFn, C', U', T', m', A', S2, K2, hm'⟩)
            · go_wp2_with fail
              refine (tell_eno 12 _ (hgw _ S2.bel)).mono ?_
              rintro e w3 ⟨rfl, l3⟩
              have S3 := S2.stay l3
              have hL3 := left_ok S3.ca.pool
              rw [h0] at hL3
              go_wp2_with fail
              refine hL3.mono ?_
              rintro e w4 ⟨rfl, h4⟩
              subst w4
              go_wp2_with fail
              go_meet
              case rel => exact ⟨L, C, U, T, m, A, by omega, by omega, S3, K⟩
            · have hHas := has_int S2.row (by omega) hkL
              have q1 : (k : Int).tdiv (per : Int) = (F : Int) := by rw [← hkF]; exact (Int.ofNat_tdiv k per).symm
              have q3 : ¬ (per : Int) = 0 := by omega
              have q4 : (F : Int) < (n : Int) := by omega
              have hbb : Below w2.heap.size w2 (w2.alloc (.cells #[.int .i64 (k : Int)] 3)) := (Below.refl _ w2).alloc (Nat.le_refl _) _
              have S2a := S2.stay hbb
              have hnews := new_one w2 (k : Int) 3
              have h63 : L.length + 1 ≤ maxLen := by unfold maxLen; omega
              have hby : (L.length + 1) * 8 ≤ 140737488355328 := by omega
              have hbase : w1.heap.size ≤ (w2.alloc (.cells #[.int .i64 (k : Int)] 3)).heap.size := S2a.bel.size
              have h1c : ∀ u ∈ ([.int .i64 (k : Int)] : List Value), u.oneCell' = true := by intro u hu; rw [List.mem_singleton] at hu; rw [hu]; rfl
              clear hkF
              go_wp2_with fail
              refine hHas.mono ?_
              rintro e w3 ⟨rfl, h3⟩
              subst w3
              go_wp2_with (at_builtin; refine wpList_append_own_at _ rfl _ _ 56 rfl w1.heap.size 3 i0 (.int .i64 0) 1 8 Tryd.underlying56 hi hz0 hz1 hz2 rfl (by decide) _ _ _ rfl S2a.row ⟨w2.heap.size, 0, none⟩ 1 1 [.int .i64 (k : Int)] rfl rfl hnews h1c h63 hby hbase ?_; intro v3 w3 ho3 hg3 hnil3 hv3)
              go_meet
              case rel =>
                have hrow3 : w3.ownsRow w1.heap.size 3 1 v3 (L ++ [(k : Int)]).length ((L ++ [(k : Int)]).map encZ) := by
                  rw [List.length_append, List.map_append]; exact ho3
                have S3 := S2a.relist hg3 hrow3 (fun i hi => by
                  rcases hv3 with e | e
                  · exact .inl (e ▸ hi)
                  · rw [e] at hi; cases hi; exact .inr (Nat.le_refl _))
                exact ⟨_, C', U', T', m', A', by simp; omega, by omega, S3, K2⟩
        | false =>
          by_cases hL : L = []
          · as_aux_lemma =>
              subst hL
              obtain ⟨a', k', hv'⟩ : ∃ a k, u10 = .slice a 0 k := by
                rcases zrow_read S.row with ⟨h, _⟩ | ⟨gb, cap, h, _⟩
                · exact ⟨_, _, h⟩
                · exact ⟨_, _, h⟩
              subst hv'
              go_wp2_with fail
              go_meet
              case rel => exact ⟨[], C, U, T, m, A, by simp, by omega, S, K⟩
          · as_aux_lemma =>
              have hpos : 0 < L.length := List.length_pos_iff.2 hL
              have hpos' : (0 : Int) < (L.length : Int) := by omega
              rcases zrow_read S.row with ⟨_, h⟩ | ⟨gb, cp1, hv, _, hgl, hcap, _, hz⟩
              · exact absurd h hL
              subst hv
              go_wp2_with fail
              refine (mpick_any _ N L.length (by omega) (by omega)).mono ?_
              rintro e w5 ⟨k, rfl, hk, h5⟩
              subst w5
              have hck := hz k hk
              have hkz : (k : Int) < (L.length : Int) := by omega
              have hG1 := S.give K hk
              have hwf := S.wf K hk
              generalize hxk : L[k] = x at *
              clear hz
              go_wp2_with fail
              refine hG1.mono ?_
              rintro e w5 ⟨rfl, C', A', S2, K2, hno⟩
              have hG2 := S2.give_no hwf hno
              have hck2 : w5.cell? ⟨gb, k, none⟩ = some (.int .i64 x) := by
                rcases zrow_read S2.row with ⟨h, _⟩ | ⟨gb', cp', hv', _, _, _, _, hz'⟩
                · cases h
                · cases hv'; rw [← hxk]; exact hz' k hk
              clear hG1
              go_wp2_with fail
              refine hG2.mono ?_
              rintro e w6 ⟨rfl, S3⟩
              have hC := S3.clone (by omega) hL
              clear hG2
              go_wp2_with fail
              refine hC.mono ?_
              rintro e w7 ⟨v7, rfl, S4⟩
              have hD := S4.delete (by omega) hk
              have hk1 : ((k + 1 : Nat) : Int) = (k : Int) + 1 := by omega
              rw [hk1] at hD
              clear hC hck hck2
              go_wp2_with fail
              refine hD.mono ?_
              rintro e w8 ⟨v8, rfl, S5⟩
              go_wp2_with fail
              go_meet
              case rel => exact ⟨_, C', U, T, m, A', by simp only [List.length_append, List.length_take, List.length_drop]; omega, by omega, S5, K2⟩
      case rest =>
        as_aux_lemma =>
          obtain ⟨L1, C1, U1, T1, m1, A1, hL1, hm1, S1, K1⟩ := hcut
          have hlen := K1.len
          have hnum := left_num S1.ca.inv K1.sole
          have htl := tot_le (n := n) hp2.2 S1.ca.most
          obtain ⟨x, hx⟩ : ∃ x, num C1 n * per = x := ⟨_, rfl⟩
          have hxI : ((num C1 n : Nat) : Int) * (per : Int) = (x : Int) := by rw [← hx]; simp
          have hx640 : x ≤ 640 := by
            have h1 := num_le C1 n
            have h2 := Nat.mul_le_mul (show num C1 n ≤ 40 by omega) hp2.2
            omega
          rw [hx, ← hlen] at htl
          have hTh := things_ok S1.ca
          rw [← hlen] at hTh
          clear hlen
          obtain ⟨av, kv, hv⟩ : ∃ a k, u10 = .slice a L1.length k := by
            rcases zrow_read S1.row with ⟨h, rfl⟩ | ⟨gb, cap, h, _⟩
            · exact ⟨_, _, h⟩
            · exact ⟨_, _, h⟩
          subst hv
          go_wp2_with fail
          refine hTh.mono ?_
          rintro e w2 ⟨rfl, lb2⟩
          have S2 := S1.stay lb2
          have hFr2 := count_ok S2.ca
          clear hx hTh
          go_wp2_with fail
          refine hFr2.mono ?_
          rintro e w3 ⟨rfl, lb3⟩
          have S3 := S2.stay lb3
          have hLe := left_ok S3.ca.pool
          clear hFr2
          go_wp2_with fail
          refine hLe.mono ?_
          rintro e w4 ⟨rfl, h4⟩
          subst w4
          have hFr3 := count_ok S3.ca
          have hnI : ((num C1 n : Nat) : Int) + ((cnt U1 0 n : Nat) : Int) = (n : Int) := by omega
          clear hLe
          go_wp2_with fail
          refine hFr3.mono ?_
          rintro e w5 ⟨rfl, lb5⟩
          have S5 := S3.stay lb5
          have htlI : ¬ (x : Int) < (L1.length : Int) := by omega
          clear hFr3 hnum
          go_wp2_with fail
          go_roundg (gk - 1)
          case measure => omega
          case rel => exact ⟨j + 1, L1, C1, U1, T1, m1, A1, by omega, by go_num, hL1, hm1, S5, K1⟩
    · as_aux_lemma =>
        have hnr := num_reap (n := n) hp2.2 S.ca.most
        rw [← K.len] at hnr
        have hL60 : L.length ≤ 60 := by omega
        obtain ⟨av, kv, hv⟩ : ∃ a k, u10 = .slice a L.length k := by
          rcases zrow_read S.row with ⟨h, rfl⟩ | ⟨gb, cap, h, _⟩
          · exact ⟨_, _, h⟩
          · exact ⟨_, _, h⟩
        subst hv
        go_wp2_with fail
        refine (S.reap K).mono ?_
        rintro e w2 ⟨r, rfl, _, U2, T2, A2, S2, K2⟩
        have hFr := count_ok S2.ca
        go_wp2_with fail
        refine hFr.mono ?_
        rintro e w3 ⟨rfl, lb3⟩
        have S3 := S2.stay lb3
        have hR := S3.reap K2
        have hgt : ¬ (L.length : Int) < ((num (reap C) n : Nat) : Int) := by omega
        clear hFr
        go_wp2_with fail
        refine hR.mono ?_
        rintro e w4 ⟨r2, rfl, hr2, U4, T4, A4, S4, K4⟩
        obtain rfl : r2 = 0 := hr2 (fun x hx => by rw [val_reap]; exact (reap_some C x).1 hx)
        clear hR hr2 S3 S2 K2 S K
        have hdec : decide (L.length < num (reap C) n) = false := decide_eq_false (by omega)
        go_wp2_with fail
        clear hlt hj hgt hnr hdec
        go_loopg [15] L.length (fun k s15 wr => ∃ (i : Nat) (C : Int → Option Nat) (U : Nat → Bool) (T : Int → Option Nat) (A : Nat → Prop), i + k = L.length ∧ s15 = .int .i64 i ∧ SW w1 c b per g n wr (.slice av L.length kv) L C U T m A ∧ KI per n (L.drop i) C T)
        case atStart => exact ⟨0, _, U4, T4, A4, by omega, rfl, S4, by rw [List.drop_zero]; exact K4⟩
        case round =>
          clear S4 K4
          obtain ⟨i, C5, U5, T5, A5, hi5, rfl, S5, K5⟩ := hrel
          by_cases hlt2 : (i : Int) < (L.length : Int)
          · have hil : i < L.length := by omega
            rcases zrow_read S5.row with ⟨_, h⟩ | ⟨gb, cp1, hv, _, hgl, hcap, _, hz⟩
            · exfalso; rw [h] at hil; cases hil
            have hck := hz i hil
            cases hv
            as_aux_lemma =>
              have h0 : 0 < (L.drop i).length := by rw [List.length_drop]; omega
              have hG := S5.give K5 h0
              have e0 : (L.drop i)[0] = L[i] := by simp
              have hdd : (L.drop i).take 0 ++ (L.drop i).drop (0 + 1) = L.drop (i + 1) := by rw [List.take_zero, List.nil_append, List.drop_drop]
              rw [e0, hdd] at hG
              generalize L[i] = x at *
              clear hz e0 hdd
              go_wp2_with fail
              refine hG.mono ?_
              rintro e w6 ⟨rfl, C6, A6, S6, K6, _⟩
              go_wp2_with fail
              go_roundg (gk - 1)
              case measure => omega
              case rel => exact ⟨i + 1, C6, U5, T5, A6, by omega, by go_num, S6, K6⟩
          · as_aux_lemma =>
              rw [List.drop_of_length_le (by omega)] at K5
              have ht0 : tot C5 n = 0 := K5.len.symm
              have hn0 := num_reap (n := n) hp2.2 S5.ca.most
              rw [ht0] at hn0
              have hn0' : num (reap C5) n = 0 := by omega
              have ht1 : tot (reap C5) n = 0 := by rw [tot_reap]; exact ht0
              go_wp2_with fail
              refine (S5.reap K5).mono ?_
              rintro e w6 ⟨r6, rfl, _, U6, T6, A6, S6, K6⟩
              have hln := left_num S6.ca.inv K6.sole
              rw [hn0', Nat.zero_add] at hln
              have hFr := count_ok S6.ca
              rw [hn0'] at hFr
              go_wp2_with fail
              refine hFr.mono ?_
              rintro e w7 ⟨rfl, lb7⟩
              have S7 := S6.stay lb7
              have hLe := left_ok S7.ca.pool
              rw [hln] at hLe
              clear hFr
              go_wp2_with fail
              refine hLe.mono ?_
              rintro e w8 ⟨rfl, h8⟩
              subst w8
              have hTh := things_ok S7.ca
              rw [ht1] at hTh
              clear hLe
              go_wp2_with fail
              refine hTh.mono ?_
              rintro e w9 ⟨rfl, lb9⟩
              have S9 := S7.stay lb9
              go_wp2_with fail
              go_ret
              exact ⟨rfl, b1.trans (S9.bel.mono b1.size)⟩
end Go.Proofs.YthknommfnajeiaaDoor

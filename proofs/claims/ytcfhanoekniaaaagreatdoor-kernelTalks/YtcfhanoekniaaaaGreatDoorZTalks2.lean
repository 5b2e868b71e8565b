/- Numbers in an array. -/
import Derived.WalkKit
import Derived.Test.YtcfhanoekniaaaaGreatDoorRows
import Derived.WalkLawsBesides
import Derived.Outline
import Derived.Test.YtcfhanoekniaaaaGreatDoorZTalk
import Derived.Test.YtcfhanoekniaaaaGreatDoorUCnt
import Derived.Deep.LoopGhost
import Derived.Deep.DeepCutAuto
import Derived.Deep.CutBlock
namespace Go.Proofs.YtcfhanoekniaaaaGreatDoor
open Go.RowKit

/-- Numbers lie in an array. -/
def Ints (w : World) (ad : Option Addr) (len : Nat) (q : Nat → Int) : Prop :=
  len = 0 ∨ ∃ blk off, ad = some ⟨blk, off, none⟩ ∧ blk < w.heap.size ∧ ∀ i, i < len → w.cell? ⟨blk, off + i, none⟩ = some (.int .i64 (q i))
end Go.Proofs.YtcfhanoekniaaaaGreatDoor

namespace Go.Proofs.YtcfhanoekniaaaaGreatDoor
open Go.RowKit

theorem ppick_bounds (a n : Int) (h1 : 1 ≤ n) (h2 : n ≤ 1000000) : 0 ≤ wrap64 ((IntKind.u64.wrap a).tmod n) ∧ wrap64 ((IntKind.u64.wrap a).tmod n) < n := by
  have h0 : 0 ≤ IntKind.u64.wrap a := by rw [IntKind.wrap_u64]; omega
  have ht : (IntKind.u64.wrap a).tmod n = IntKind.u64.wrap a % n := Int.tmod_eq_emod_of_nonneg h0
  have l := Int.emod_nonneg (IntKind.u64.wrap a) (b := n) (by omega)
  have u := Int.emod_lt_of_pos (IntKind.u64.wrap a) (b := n) (by omega)
  rw [ht, show wrap64 (IntKind.u64.wrap a % n) = IntKind.u64.wrap a % n by unfold wrap64; omega]
  exact ⟨l, u⟩

end Go.Proofs.YtcfhanoekniaaaaGreatDoor

namespace Go.Proofs.YtcfhanoekniaaaaGreatDoor
open Go.RowKit Go.Maps

theorem talk_pick (a : Int) (n : Nat) (h1 : 1 ≤ n) (h2 : n ≤ 1000000) : ∃ r : Nat, r < n ∧ ∀ w : World, Calls Tryz.prog 18 #[.int .i64 a, .int .i64 n] w fun e w' => e = .returned (.int .i64 r) ∧ w' = w := by
  have hb := ppick_bounds a n (by omega) (by omega)
  obtain ⟨r, hr⟩ : ∃ r : Nat, wrap64 ((IntKind.u64.wrap a).tmod n) = r := ⟨(wrap64 ((IntKind.u64.wrap a).tmod n)).toNat, by omega⟩
  rw [hr] at hb
  refine ⟨r, by omega, fun w => ?_⟩
  go_enter Tryz.func18, Tryz.ntmps18
  go_wp2
  go_ret
  exact ⟨by rw [← hr]; rfl, rfl⟩
/-- What a write makes, plainly. -/
structure Wrt (B L : List UInt8) (m : Nat) (E : Int) (B1 : List UInt8) : Prop where
  le : m ≤ L.length
  txt : B1 = B ++ L.take m
  err : E = 0 ∨ E = 12
  pos : B.length < 16 → 0 < m
  ne : B1 ≠ []
  few : B1.length ≤ 16
theorem wrt (B L : List UInt8) (hB : B.length ≤ 16) (hL : L ≠ []) : Wrt B L (wrN 1 B L) (wrE 1 B L) (wrB 1 B L) := by
  have hl : 0 < L.length := List.length_pos_iff.2 hL
  have e1 : wrN 1 B L = min L.length (16 - B.length) := by unfold wrN; rw [if_neg (by omega)]
  have e2 : wrB 1 B L = B ++ L.take (16 - B.length) := by unfold wrB; rw [if_neg (by omega)]
  have e3 : L.take (16 - B.length) = L.take (min L.length (16 - B.length)) := by
    by_cases h : L.length ≤ 16 - B.length
    · rw [Nat.min_eq_left h, List.take_of_length_le h, List.take_of_length_le (Nat.le_refl _)]
    · rw [Nat.min_eq_right (by omega)]
  refine ⟨by omega, by rw [e2, e1, e3], ?_, fun h => by omega, ?_, wrB_len _ _ _ hB⟩
  · unfold wrE
    rw [if_neg (by omega), if_neg hL]
    split
    · exact .inr rfl
    · exact .inl rfl
  · rw [e2]
    intro e
    have := congrArg List.length e
    rw [List.length_append, List.length_take] at this
    simp only [List.length_nil] at this
    omega
set_option maxRecDepth 100000 in
set_option maxHeartbeats 1000000 in
theorem talks_long (al ar : Option Addr) (len cap rlen rcap : Nat) (w : World) (h : 20 < len ∨ 20 < rlen) :
    Calls Tryz.prog 3 #[.slice al len cap, .slice ar rlen rcap] w fun e w' => e = .returned (.bool true) ∧ Below w.heap.size w w' := by
  by_cases h1 : (20 : Int) < (len : Int)
  · go_enter Tryz.func3, Tryz.ntmps3
    go_wp2_with fail
    go_ret
    exact ⟨rfl, Below.refl _ _⟩
  · have h2 : (20 : Int) < (rlen : Int) := by omega
    go_enter Tryz.func3, Tryz.ntmps3
    go_wp2_with fail
    go_ret
    exact ⟨rfl, Below.refl _ _⟩
end Go.Proofs.YtcfhanoekniaaaaGreatDoor

namespace Go.Proofs.YtcfhanoekniaaaaGreatDoor
open Go.RowKit Go.Maps

set_option maxRecDepth 100000 in
set_option maxHeartbeats 8000000 in
theorem talks_short0 (al ar : Option Addr) (len cap rcap : Nat) (q : Nat → List UInt8) (w : World) (h1 : len ≤ 20) (hsc : Strs w al len q) (m : Int) (hm : w.cell? ⟨4, 0, none⟩ = some (.int .i64 m)) (he : w.cell? ⟨0, 0, none⟩ = some errT) {ok : Bool} (ht : TabH ok w) :
    Calls Tryz.prog 3 #[.slice al len cap, .slice ar 0 rcap] w fun e w' => e = .returned (.bool true) ∧ Below w.heap.size w w' := by
  have h1' : ¬ (20 : Int) < (len : Int) := by omega
  have hK := kept_ok w hm he ht
  have hF : ∀ V : World, Below w.heap.size w V → Calls Tryz.prog 12 #[.int .i64 4] V fun y w1 => ∃ kb, y = .returned (.tuple #[wp kb, .nilIface]) ∧ Calls Tryz.prog 13 #[wp kb, .int .i64 1] w1 fun y w2 => y = .returned (.tuple #[.int .i64 0, .int .i64 1, .nilIface]) ∧ Calls Tryz.prog 14 #[wp kb, .int .i64 1] w2 fun y w3 => y = .returned (.tuple #[.int .i64 2, .nilIface]) ∧ Calls Tryz.prog 15 #[wp kb, .int .i64 1, .int .i64 0] w3 fun y w4 => y = .returned .nilIface ∧ Calls Tryz.prog 15 #[wp kb, .int .i64 2, .int .i64 1] w4 fun y w5 => y = .returned .nilIface ∧ TK w w5 m kb [] := fun V b => by
    refine (talk_first V (cell_below hm b) (cell_below he b) (ht.keep (b.block _ ht.lt))).mono ?_
    rintro y w1 ⟨kb, rfl, c1⟩
    refine ⟨kb, rfl, c1.mono ?_⟩
    rintro y w2 ⟨rfl, c2⟩
    refine ⟨rfl, c2.mono ?_⟩
    rintro y w3 ⟨rfl, c3⟩
    refine ⟨rfl, c3.mono ?_⟩
    rintro y w4 ⟨rfl, c4⟩
    refine ⟨rfl, c4.mono ?_⟩
    rintro y w5 ⟨rfl, t⟩
    exact ⟨rfl, t.base b⟩
  clear hm he ht
  go_enter Tryz.func3, Tryz.ntmps3
  go_upto_region 12 with (first
    | (go_at_call 11; refine hK.mono ?_; rintro e w1 ⟨rfl, b1⟩; have c0 := hF _ b1)
    | (go_at_call 12; refine c0.mono ?_; rintro e w2 ⟨kb, rfl, c1⟩)
    | (go_at_call 13; refine c1.mono ?_; rintro e w3 ⟨rfl, c2⟩)
    | (go_at_call 14; refine c2.mono ?_; rintro e w4 ⟨rfl, c3⟩)
    | (go_at_call 15; refine c4.mono ?_; rintro e w6 ⟨rfl, t0⟩)
    | (go_at_call 15; refine c3.mono ?_; rintro e w5 ⟨rfl, c4⟩))
  clear c0 c1 c2 c3 c4 hF hK b1
  go_wp2_with fail
  go_loopg [12, 13, 14, 15, 16, 17, 18, 19, 20] len (fun g s12 s13 s14 _ _ _ _ _ _ wx => ∃ (i : Nat) (B O : List UInt8), Aside (i + g = len) ∧ s14 = .int .i64 (i : Int) ∧ s13 = tx O ∧ s12 = tx (O ++ B) ∧ Aside (O.length + B.length ≤ i * 60) ∧ TK w wx m kb B)
  case atStart => exact ⟨0, [], [], (show 0 + len = len by omega), rfl, rfl, rfl, (show (0 : Nat) ≤ 0 by omega), t0⟩
  case round =>
    clear t0
    obtain ⟨i, B, O, HI, rfl, rfl, rfl, HL, t⟩ := hrel
    have hb := t.bel
    by_cases hlt : (i : Int) < (len : Int)
    · rcases hsc with h0 | ⟨blk, off, rfl, hbl, hss⟩
      · exfalso; omega
      have dw := hss i (by omega)
      have d0 : wr.cell? ⟨blk, off + i, none⟩ = some (tx (q i)) := by rw [hb.cell (p := ⟨blk, off + i, none⟩) hbl]; exact dw
      clear hss dw hb
      generalize q i = L at *
      by_cases hl : (60 : Int) < (L.length : Int)
      · have hb := t.bel
        go_wp2_with fail
        go_ret
        exact ⟨rfl, hb⟩
      · have hl' : L.length ≤ 60 := by omega
        obtain ⟨g1, hg1⟩ : ∃ g1, g1 = gk := ⟨_, rfl⟩
        go_wp2_with fail
        go_loopg [12, 13, 15, 16, 17, 18, 19, 20] 100 (fun g s12 s13 s15 s16 _ _ _ _ wx => ∃ (j : Nat) (B O M : List UInt8), Aside (j + g = 100) ∧ s16 = .int .i64 (j : Int) ∧ s13 = tx O ∧ s12 = tx (O ++ B) ∧ s15 = tx M ∧ Aside (O.length + B.length + M.length ≤ (i + 1) * 60) ∧ Aside ((j = 0 ∧ M.length ≤ 60) ∨ (B.length ≤ 15 ∧ j + M.length ≤ 61)) ∧ TK w wx m kb B)
        case atStart => exact ⟨0, B, O, L, (show 0 + 100 = 100 by omega), rfl, rfl, rfl, rfl, (show O.length + B.length + L.length ≤ (i + 1) * 60 by have := HL.out; omega), (show (0 = 0 ∧ L.length ≤ 60) ∨ _ from .inl ⟨rfl, hl'⟩), t⟩
        case round =>
          clear t d0 hl hl' HL
          obtain ⟨j, B', O', M, HJ, rfl, rfl, rfl, rfl, HL', HB', t1⟩ := hrel
          by_cases hM : M = []
          · subst hM
            go_wp2_with fail
            go_roundg (g1 - 1)
            case measure => have := HI.out; omega
            case rel => exact ⟨i + 1, B', O', (show i + 1 + (g1 - 1) = len by have := HI.out; omega), by go_num, rfl, rfl, (show O'.length + B'.length ≤ (i + 1) * 60 by have := HL'.out; simp only [List.length_nil] at this; omega), t1⟩
          · have hMl := List.length_pos_iff.2 hM
            have hj : (j : Int) < 100 := by have := HB'.out; omega
            have hM61 : M.length ≤ 61 := by have := HB'.out; omega
            have hMe : M.isEmpty = false := by cases M with
              | nil => exact absurd rfl hM
              | cons _ _ => rfl
            have hW := t1.write M (by omega)
            have wt := wrt B' M t1.few hM
            generalize wrN 1 B' M = N at *
            generalize wrE 1 B' M = E at *
            generalize wrB 1 B' M = B1 at *
            go_upto_region 23 with (go_at_call 16; refine hW.mono ?_; rintro e w7 ⟨rfl, t7⟩)
            clear hW t1
            go_cut [18, 113] (fun _ t wc => t = .bool false ∧ TK w wc m kb B1)
            case first =>
              have hT := tell_err E w7 t7.er
              rcases wt.err with rfl | rfl
              · as_aux_lemma =>
                  rw [uev_zero]
                  go_wp2_with fail
                  go_meet
                  case rel => exact ⟨rfl, t7⟩
              · as_aux_lemma =>
                  rw [uev_ne (by omega)] at hT ⊢
                  go_wp2_with (go_at_call 17; refine hT.mono ?_; rintro e w9 ⟨rfl, b9⟩)
                  go_meet
                  case rel => exact ⟨rfl, t7.below b9⟩
            case rest =>
              obtain ⟨rfl, t1⟩ := hcut
              clear t7
              have hs1 := wtext_h M N wt.le
              have hs2 := wtext_l M N wt.le
              have hc1 : ((⟨(O' ++ B').toArray⟩ : ByteArray) ++ ⟨(M.take N).toArray⟩) = ⟨(O' ++ B1).toArray⟩ := by rw [wtext_cat, wt.txt, List.append_assoc]
              have hN0 : ¬ (N : Int) < 0 := by omega
              have hN1 : ¬ (M.length : Int) < (N : Int) := by have := wt.le; omega
              have hlen : (O' ++ B').length + (M.take N).length ≤ 1300 := by
                have := HL'.out
                have := wt.le
                rw [List.length_append, List.length_take]
                omega
              have hlen2 : O'.length ≤ 1300 := by have := HL'.out; omega
              generalize hOB : O' ++ B' = OB at *
              generalize hMN : M.take N = MN at *
              clear hOB hMN
              have hlen3 : ¬ 9223372036854775807 < OB.length + MN.length := by omega
              go_upto_region 25 with fail
              go_region
              clear hs1 hs2 hc1 hN0 hN1 hlen hlen3
              · skip
                obtain ⟨K, hK⟩ : ∃ K : Nat, (K : Int) = max 5 1 := ⟨5, rfl⟩
                have hK1 : 1 ≤ K := by omega
                have hmax := fun ts ty => max_run ts ty 5 1 K hK
                clear hK
                have hK' : (K : Int).toNat = K := by omega
                have hrd : rdE 1 B1 (K : Int) = 0 := by
                  unfold rdE
                  rw [if_neg (by omega), if_neg (by omega), if_neg (fun e => wt.ne e.1)]
                have hR := fun V (tV : TK w V m kb B1) => tV.read (K : Int)
                rw [hrd, hK', uev_zero] at hR
                have hTne : B1.take K ≠ [] := fun e => by
                  have h9 := congrArg List.length e
                  have := List.length_pos_iff.2 wt.ne
                  rw [List.length_take] at h9
                  simp only [List.length_nil] at h9
                  omega
                have hBd : (B1.drop K).length ≤ 15 := by
                  have := wt.few
                  rw [List.length_drop]
                  omega
                have hsum : (B1.take K).length + (B1.drop K).length = B1.length := by rw [← List.length_append, List.take_append_drop]
                have hsay : O' ++ B1 = (O' ++ B1.take K) ++ B1.drop K := by rw [List.append_assoc, List.take_append_drop]
                have HS : Aside (O' ++ B1 = (O' ++ B1.take K) ++ B1.drop K) := hsay
                have HQ : Aside ((B1.take K).length + (B1.drop K).length = B1.length) := hsum
                have HD : Aside ((B1.drop K).length ≤ 15) := hBd
                clear hsay hsum hBd hrd
                obtain ⟨T, hT⟩ : ∃ T, B1.take K = T := ⟨_, rfl⟩
                obtain ⟨B2, hB2⟩ : ∃ B2, B1.drop K = B2 := ⟨_, rfl⟩
                rw [hT] at hR hTne HS HQ
                rw [hB2] at hR HS HQ HD
                clear hT hB2
                have hcat := wtext_cat O' T
                have hTl : T.isEmpty = false := by cases T with
                  | nil => exact absurd rfl hTne
                  | cons _ _ => rfl
                have hRt := hR _ (t1.below (bel_drew wc))
                have hlen6 : ¬ 9223372036854775807 < O'.length + T.length := by have := HQ.out; have := wt.few; omega
                have WT : Aside (Wrt B' M N E B1) := wt
                clear wt hR
                go_wp2_with (go_at_call 19; refine hRt.mono ?_; rintro e w8 ⟨rfl, t8⟩)
                go_roundg (gk - 1)
                case measure => have := HJ.out; omega
                case rel =>
                  have h1 := WT.out.le
                  have h2 := WT.out.txt
                  have h3 := congrArg List.length h2
                  rw [List.length_append, List.length_take] at h3
                  have h4 := HQ.out
                  have h5 := HL'.out
                  have h6 := HB'.out
                  have h7 := WT.out.pos
                  have h8 := HJ.out
                  exact ⟨j + 1, B2, O' ++ T, M.drop N, (show j + 1 + (gk - 1) = 100 by omega), by go_num, rfl, by rw [HS.out], rfl, (show (O' ++ T).length + B2.length + (M.drop N).length ≤ (i + 1) * 60 by rw [List.length_append, List.length_drop]; omega), (show (j + 1 = 0 ∧ (M.drop N).length ≤ 60) ∨ (B2.length ≤ 15 ∧ j + 1 + (M.drop N).length ≤ 61) from .inr ⟨HD.out, by rw [List.length_drop]; omega⟩), t8⟩
    · clear hb
      have HX : Aside (O.length + B.length ≤ 1200) := (show O.length + B.length ≤ 1200 by have := HL.out; have := HI.out; omega)
      obtain ⟨X, hX⟩ : ∃ X, O ++ B = X := ⟨_, rfl⟩
      rw [hX]
      have HE : Aside (O ++ B = X) := hX
      clear hX HL
      go_wp2_with fail
      go_loopg [13, 21, 22] B.length (fun g s13 _ _ wx => ∃ (B' O' : List UInt8), s13 = tx O' ∧ Aside (O' ++ B' = X) ∧ Aside (B'.length ≤ g) ∧ TK w wx m kb B')
      case atStart => exact ⟨B, O, rfl, HE, (show B.length ≤ B.length by omega), t⟩
      case round =>
        obtain ⟨B', O', rfl, HE', HG, t1⟩ := hrel
        have hXl : X.length = O.length + B.length := by rw [← HE.out, List.length_append]
        have hXm : X.length = O'.length + B'.length := by rw [← HE'.out, List.length_append]
        have hX0 : X.length ≤ 1200 := by have := HX.out; omega
        clear t HE HX hXl B O
        by_cases hB : B' = []
        · subst hB
          have e : O' = X := by rw [← HE'.out, List.append_nil]
          subst e
          clear hXm HE' HG
          have hR := t1.read 1
          have hr8 : rdE 1 [] 1 = 8 := by decide
          rw [hr8, uev_ne (by omega)] at hR
          have hR' : Calls Tryz.prog 19 #[wp kb, .int .i64 2, .int .i64 0, .int .i64 1] wr fun y w' => y = .returned (.tuple #[tx [], uer 8]) ∧ TK w w' m kb [] := hR
          clear hR
          go_wp2_with (first
            | (go_at_call 19; refine hR'.mono ?_; rintro e w8 ⟨rfl, t8⟩; have hT := tell_err 8 w8 t8.er; rw [uev_ne (by omega)] at hT)
            | (go_at_call 17; refine hT.mono ?_; rintro e w9 ⟨rfl, b9⟩; have c0 := (t8.below b9).ends)
            | (go_at_call 15; refine c0.mono ?_; rintro e w10 ⟨rfl, c1⟩)
            | (go_at_call 19; refine c1.mono ?_; rintro e w11 ⟨rfl, c2⟩)
            | (go_at_call 20; refine c2.mono ?_; rintro e w12 ⟨rfl, c3⟩)
            | (go_at_call 21; refine c3.mono ?_; rintro e w13 ⟨rfl, hR⟩))
          go_ret
          exact ⟨rfl, hR⟩
        · have hBl := List.length_pos_iff.2 hB
          have hlt3 : (O'.length : Int) < (X.length : Int) := by omega
          have hR := t1.read 7
          have hr0 : rdE 1 B' 7 = 0 := by
            unfold rdE
            rw [if_neg (by omega), if_neg (by omega), if_neg (fun e => hB e.1)]
          rw [hr0, uev_zero] at hR
          obtain ⟨T, hT⟩ : ∃ T, B'.take 7 = T := ⟨_, rfl⟩
          obtain ⟨B2, hB2⟩ : ∃ B2, B'.drop 7 = B2 := ⟨_, rfl⟩
          have hR' : Calls Tryz.prog 19 #[wp kb, .int .i64 2, .int .i64 0, .int .i64 7] wr fun y w' => y = .returned (.tuple #[tx T, .nilIface]) ∧ TK w w' m kb B2 := by rw [← hT, ← hB2]; exact hR
          have hsum : T.length + B2.length = B'.length := by rw [← hT, ← hB2, ← List.length_append, List.take_append_drop]
          have hTl : 0 < T.length := by rw [← hT, List.length_take]; omega
          have hTe : T.isEmpty = false := by cases T with
            | nil => simp at hTl
            | cons _ _ => rfl
          have hcat := wtext_cat O' T
          have HS : Aside ((O' ++ T) ++ B2 = X) := (show (O' ++ T) ++ B2 = X by rw [← hT, ← hB2, List.append_assoc, List.take_append_drop]; exact HE'.out)
          have hlen : ¬ 9223372036854775807 < O'.length + T.length := by omega
          have HM : Aside (B2.length ≤ gk - 1) := (show B2.length ≤ gk - 1 by have := HG.out; omega)
          have HN : Aside (gk - 1 < gk) := (show gk - 1 < gk by have := HG.out; omega)
          clear hR hT hB2 hsum hr0 HG HE' hXm hX0 hBl
          go_wp2_with (go_at_call 19; refine hR'.mono ?_; rintro e w8 ⟨rfl, t8⟩)
          go_roundg (gk - 1)
          case measure => exact HN.out
          case rel => exact ⟨B2, O' ++ T, rfl, HS, HM, t8⟩
end Go.Proofs.YtcfhanoekniaaaaGreatDoor

namespace Go.Proofs.YtcfhanoekniaaaaGreatDoor
open Go.RowKit Go.Maps

set_option maxRecDepth 100000 in
set_option maxHeartbeats 8000000 in
theorem talks_short1 (al ar : Option Addr) (len cap rlen rcap : Nat) (q : Nat → List UInt8) (rq : Nat → Int) (w : World) (h1 : len ≤ 20) (h2 : rlen ≤ 20) (hr0 : 0 < rlen) (hsc : Strs w al len q) (hrc : Ints w ar rlen rq) (m : Int) (hm : w.cell? ⟨4, 0, none⟩ = some (.int .i64 m)) (he : w.cell? ⟨0, 0, none⟩ = some errT) {ok : Bool} (ht : TabH ok w) :
    Calls Tryz.prog 3 #[.slice al len cap, .slice ar rlen rcap] w fun e w' => e = .returned (.bool true) ∧ Below w.heap.size w w' := by
  have h1' : ¬ (20 : Int) < (len : Int) := by omega
  have h2' : ¬ (20 : Int) < (rlen : Int) := by omega
  have hK := kept_ok w hm he ht
  have hF : ∀ V : World, Below w.heap.size w V → Calls Tryz.prog 12 #[.int .i64 4] V fun y w1 => ∃ kb, y = .returned (.tuple #[wp kb, .nilIface]) ∧ Calls Tryz.prog 13 #[wp kb, .int .i64 1] w1 fun y w2 => y = .returned (.tuple #[.int .i64 0, .int .i64 1, .nilIface]) ∧ Calls Tryz.prog 14 #[wp kb, .int .i64 1] w2 fun y w3 => y = .returned (.tuple #[.int .i64 2, .nilIface]) ∧ Calls Tryz.prog 15 #[wp kb, .int .i64 1, .int .i64 0] w3 fun y w4 => y = .returned .nilIface ∧ Calls Tryz.prog 15 #[wp kb, .int .i64 2, .int .i64 1] w4 fun y w5 => y = .returned .nilIface ∧ TK w w5 m kb [] := fun V b => by
    refine (talk_first V (cell_below hm b) (cell_below he b) (ht.keep (b.block _ ht.lt))).mono ?_
    rintro y w1 ⟨kb, rfl, c1⟩
    refine ⟨kb, rfl, c1.mono ?_⟩
    rintro y w2 ⟨rfl, c2⟩
    refine ⟨rfl, c2.mono ?_⟩
    rintro y w3 ⟨rfl, c3⟩
    refine ⟨rfl, c3.mono ?_⟩
    rintro y w4 ⟨rfl, c4⟩
    refine ⟨rfl, c4.mono ?_⟩
    rintro y w5 ⟨rfl, t⟩
    exact ⟨rfl, t.base b⟩
  clear hm he ht
  go_enter Tryz.func3, Tryz.ntmps3
  go_upto_region 12 with (first
    | (go_at_call 11; refine hK.mono ?_; rintro e w1 ⟨rfl, b1⟩; have c0 := hF _ b1)
    | (go_at_call 12; refine c0.mono ?_; rintro e w2 ⟨kb, rfl, c1⟩)
    | (go_at_call 13; refine c1.mono ?_; rintro e w3 ⟨rfl, c2⟩)
    | (go_at_call 14; refine c2.mono ?_; rintro e w4 ⟨rfl, c3⟩)
    | (go_at_call 15; refine c4.mono ?_; rintro e w6 ⟨rfl, t0⟩)
    | (go_at_call 15; refine c3.mono ?_; rintro e w5 ⟨rfl, c4⟩))
  clear c0 c1 c2 c3 c4 hF hK b1
  go_wp2_with fail
  go_loopg [12, 13, 14, 15, 16, 17, 18, 19, 20] len (fun g s12 s13 s14 _ _ _ _ _ _ wx => ∃ (i : Nat) (B O : List UInt8), Aside (i + g = len) ∧ s14 = .int .i64 (i : Int) ∧ s13 = tx O ∧ s12 = tx (O ++ B) ∧ Aside (O.length + B.length ≤ i * 60) ∧ TK w wx m kb B)
  case atStart => exact ⟨0, [], [], (show 0 + len = len by omega), rfl, rfl, rfl, (show (0 : Nat) ≤ 0 by omega), t0⟩
  case round =>
    clear t0
    obtain ⟨i, B, O, HI, rfl, rfl, rfl, HL, t⟩ := hrel
    have hb := t.bel
    by_cases hlt : (i : Int) < (len : Int)
    · rcases hsc with h0 | ⟨blk, off, rfl, hbl, hss⟩
      · exfalso; omega
      have dw := hss i (by omega)
      have d0 : wr.cell? ⟨blk, off + i, none⟩ = some (tx (q i)) := by rw [hb.cell (p := ⟨blk, off + i, none⟩) hbl]; exact dw
      clear hss dw hb
      generalize q i = L at *
      by_cases hl : (60 : Int) < (L.length : Int)
      · have hb := t.bel
        go_wp2_with fail
        go_ret
        exact ⟨rfl, hb⟩
      · have hl' : L.length ≤ 60 := by omega
        obtain ⟨g1, hg1⟩ : ∃ g1, g1 = gk := ⟨_, rfl⟩
        go_wp2_with fail
        go_loopg [12, 13, 15, 16, 17, 18, 19, 20] 100 (fun g s12 s13 s15 s16 _ _ _ _ wx => ∃ (j : Nat) (B O M : List UInt8), Aside (j + g = 100) ∧ s16 = .int .i64 (j : Int) ∧ s13 = tx O ∧ s12 = tx (O ++ B) ∧ s15 = tx M ∧ Aside (O.length + B.length + M.length ≤ (i + 1) * 60) ∧ Aside ((j = 0 ∧ M.length ≤ 60) ∨ (B.length ≤ 15 ∧ j + M.length ≤ 61)) ∧ TK w wx m kb B)
        case atStart => exact ⟨0, B, O, L, (show 0 + 100 = 100 by omega), rfl, rfl, rfl, rfl, (show O.length + B.length + L.length ≤ (i + 1) * 60 by have := HL.out; omega), (show (0 = 0 ∧ L.length ≤ 60) ∨ _ from .inl ⟨rfl, hl'⟩), t⟩
        case round =>
          clear t d0 hl hl' HL
          obtain ⟨j, B', O', M, HJ, rfl, rfl, rfl, rfl, HL', HB', t1⟩ := hrel
          by_cases hM : M = []
          · subst hM
            go_wp2_with fail
            go_roundg (g1 - 1)
            case measure => have := HI.out; omega
            case rel => exact ⟨i + 1, B', O', (show i + 1 + (g1 - 1) = len by have := HI.out; omega), by go_num, rfl, rfl, (show O'.length + B'.length ≤ (i + 1) * 60 by have := HL'.out; simp only [List.length_nil] at this; omega), t1⟩
          · have hMl := List.length_pos_iff.2 hM
            have hj : (j : Int) < 100 := by have := HB'.out; omega
            have hM61 : M.length ≤ 61 := by have := HB'.out; omega
            have hMe : M.isEmpty = false := by cases M with
              | nil => exact absurd rfl hM
              | cons _ _ => rfl
            have hW := t1.write M (by omega)
            have wt := wrt B' M t1.few hM
            generalize wrN 1 B' M = N at *
            generalize wrE 1 B' M = E at *
            generalize wrB 1 B' M = B1 at *
            go_upto_region 23 with (go_at_call 16; refine hW.mono ?_; rintro e w7 ⟨rfl, t7⟩)
            clear hW t1
            go_cut [18, 113] (fun _ t wc => t = .bool false ∧ TK w wc m kb B1)
            case first =>
              have hT := tell_err E w7 t7.er
              rcases wt.err with rfl | rfl
              · as_aux_lemma =>
                  rw [uev_zero]
                  go_wp2_with fail
                  go_meet
                  case rel => exact ⟨rfl, t7⟩
              · as_aux_lemma =>
                  rw [uev_ne (by omega)] at hT ⊢
                  go_wp2_with (go_at_call 17; refine hT.mono ?_; rintro e w9 ⟨rfl, b9⟩)
                  go_meet
                  case rel => exact ⟨rfl, t7.below b9⟩
            case rest =>
              obtain ⟨rfl, t1⟩ := hcut
              clear t7
              have hs1 := wtext_h M N wt.le
              have hs2 := wtext_l M N wt.le
              have hc1 : ((⟨(O' ++ B').toArray⟩ : ByteArray) ++ ⟨(M.take N).toArray⟩) = ⟨(O' ++ B1).toArray⟩ := by rw [wtext_cat, wt.txt, List.append_assoc]
              have hN0 : ¬ (N : Int) < 0 := by omega
              have hN1 : ¬ (M.length : Int) < (N : Int) := by have := wt.le; omega
              have hlen : (O' ++ B').length + (M.take N).length ≤ 1300 := by
                have := HL'.out
                have := wt.le
                rw [List.length_append, List.length_take]
                omega
              have hlen2 : O'.length ≤ 1300 := by have := HL'.out; omega
              generalize hOB : O' ++ B' = OB at *
              generalize hMN : M.take N = MN at *
              clear hOB hMN
              have hlen3 : ¬ 9223372036854775807 < OB.length + MN.length := by omega
              go_upto_region 25 with fail
              go_region
              clear hs1 hs2 hc1 hN0 hN1 hlen hlen3
              · have hr : (0 : Int) < (rlen : Int) := by omega
                have hr9 : ¬ (rlen : Int) = 0 := by omega
                rcases hrc with h0 | ⟨rb, ro, rfl, hrl, hrr⟩
                · exfalso; omega
                have hmod : (j : Int).tmod (rlen : Int) = ((j % rlen : Nat) : Int) := by rw [Int.tmod_eq_emod_of_nonneg (by omega)]; rfl
                have hxl : j % rlen < rlen := Nat.mod_lt _ (by omega)
                have dr : wc.cell? ⟨rb, ro + j % rlen, none⟩ = some (.int .i64 (rq (j % rlen))) := by rw [t1.bel.cell (p := ⟨rb, ro + j % rlen, none⟩) hrl]; exact hrr _ hxl
                generalize j % rlen = x at *
                obtain ⟨a, ha, hpk⟩ := talk_pick (rq x) 20 (by omega) (by omega)
                generalize rq x = RX at *
                obtain ⟨K, hK⟩ : ∃ K : Nat, (K : Int) = max (a : Int) 1 := ⟨max a 1, by omega⟩
                have hK1 : 1 ≤ K := by omega
                have hmax := fun ts ty => max_run ts ty (a : Int) 1 K hK
                have hw64 : wrap64 (x : Int) = (x : Int) := by unfold wrap64; omega
                clear hK hrr
                have hK' : (K : Int).toNat = K := by omega
                have hrd : rdE 1 B1 (K : Int) = 0 := by
                  unfold rdE
                  rw [if_neg (by omega), if_neg (by omega), if_neg (fun e => wt.ne e.1)]
                have hR := fun V (tV : TK w V m kb B1) => tV.read (K : Int)
                rw [hrd, hK', uev_zero] at hR
                have hTne : B1.take K ≠ [] := fun e => by
                  have h9 := congrArg List.length e
                  have := List.length_pos_iff.2 wt.ne
                  rw [List.length_take] at h9
                  simp only [List.length_nil] at h9
                  omega
                have hBd : (B1.drop K).length ≤ 15 := by
                  have := wt.few
                  rw [List.length_drop]
                  omega
                have hsum : (B1.take K).length + (B1.drop K).length = B1.length := by rw [← List.length_append, List.take_append_drop]
                have hsay : O' ++ B1 = (O' ++ B1.take K) ++ B1.drop K := by rw [List.append_assoc, List.take_append_drop]
                have HS : Aside (O' ++ B1 = (O' ++ B1.take K) ++ B1.drop K) := hsay
                have HQ : Aside ((B1.take K).length + (B1.drop K).length = B1.length) := hsum
                have HD : Aside ((B1.drop K).length ≤ 15) := hBd
                clear hsay hsum hBd hrd
                obtain ⟨T, hT⟩ : ∃ T, B1.take K = T := ⟨_, rfl⟩
                obtain ⟨B2, hB2⟩ : ∃ B2, B1.drop K = B2 := ⟨_, rfl⟩
                rw [hT] at hR hTne HS HQ
                rw [hB2] at hR HS HQ HD
                clear hT hB2
                have hcat := wtext_cat O' T
                have hTl : T.isEmpty = false := by cases T with
                  | nil => exact absurd rfl hTne
                  | cons _ _ => rfl
                have hRt := hR _ (t1.below (bel_drew wc))
                have hlen6 : ¬ 9223372036854775807 < O'.length + T.length := by have := HQ.out; have := wt.few; omega
                have WT : Aside (Wrt B' M N E B1) := wt
                clear wt hR
                go_wp2_with (first
                  | (go_at_call 18; refine (hpk _).mono ?_; rintro e w9 ⟨rfl, hw9⟩; subst w9)
                  | (go_at_call 19; refine hRt.mono ?_; rintro e w8 ⟨rfl, t8⟩))
                go_roundg (gk - 1)
                case measure => have := HJ.out; omega
                case rel =>
                  have h1 := WT.out.le
                  have h2 := WT.out.txt
                  have h3 := congrArg List.length h2
                  rw [List.length_append, List.length_take] at h3
                  have h4 := HQ.out
                  have h5 := HL'.out
                  have h6 := HB'.out
                  have h7 := WT.out.pos
                  have h8 := HJ.out
                  exact ⟨j + 1, B2, O' ++ T, M.drop N, (show j + 1 + (gk - 1) = 100 by omega), by go_num, rfl, by rw [HS.out], rfl, (show (O' ++ T).length + B2.length + (M.drop N).length ≤ (i + 1) * 60 by rw [List.length_append, List.length_drop]; omega), (show (j + 1 = 0 ∧ (M.drop N).length ≤ 60) ∨ (B2.length ≤ 15 ∧ j + 1 + (M.drop N).length ≤ 61) from .inr ⟨HD.out, by rw [List.length_drop]; omega⟩), t8⟩
    · clear hb
      have HX : Aside (O.length + B.length ≤ 1200) := (show O.length + B.length ≤ 1200 by have := HL.out; have := HI.out; omega)
      obtain ⟨X, hX⟩ : ∃ X, O ++ B = X := ⟨_, rfl⟩
      rw [hX]
      have HE : Aside (O ++ B = X) := hX
      clear hX HL
      go_wp2_with fail
      go_loopg [13, 21, 22] B.length (fun g s13 _ _ wx => ∃ (B' O' : List UInt8), s13 = tx O' ∧ Aside (O' ++ B' = X) ∧ Aside (B'.length ≤ g) ∧ TK w wx m kb B')
      case atStart => exact ⟨B, O, rfl, HE, (show B.length ≤ B.length by omega), t⟩
      case round =>
        obtain ⟨B', O', rfl, HE', HG, t1⟩ := hrel
        have hXl : X.length = O.length + B.length := by rw [← HE.out, List.length_append]
        have hXm : X.length = O'.length + B'.length := by rw [← HE'.out, List.length_append]
        have hX0 : X.length ≤ 1200 := by have := HX.out; omega
        clear t HE HX hXl B O
        by_cases hB : B' = []
        · subst hB
          have e : O' = X := by rw [← HE'.out, List.append_nil]
          subst e
          clear hXm HE' HG
          have hR := t1.read 1
          have hr8 : rdE 1 [] 1 = 8 := by decide
          rw [hr8, uev_ne (by omega)] at hR
          have hR' : Calls Tryz.prog 19 #[wp kb, .int .i64 2, .int .i64 0, .int .i64 1] wr fun y w' => y = .returned (.tuple #[tx [], uer 8]) ∧ TK w w' m kb [] := hR
          clear hR
          go_wp2_with (first
            | (go_at_call 19; refine hR'.mono ?_; rintro e w8 ⟨rfl, t8⟩; have hT := tell_err 8 w8 t8.er; rw [uev_ne (by omega)] at hT)
            | (go_at_call 17; refine hT.mono ?_; rintro e w9 ⟨rfl, b9⟩; have c0 := (t8.below b9).ends)
            | (go_at_call 15; refine c0.mono ?_; rintro e w10 ⟨rfl, c1⟩)
            | (go_at_call 19; refine c1.mono ?_; rintro e w11 ⟨rfl, c2⟩)
            | (go_at_call 20; refine c2.mono ?_; rintro e w12 ⟨rfl, c3⟩)
            | (go_at_call 21; refine c3.mono ?_; rintro e w13 ⟨rfl, hR⟩))
          go_ret
          exact ⟨rfl, hR⟩
        · have hBl := List.length_pos_iff.2 hB
          have hlt3 : (O'.length : Int) < (X.length : Int) := by omega
          have hR := t1.read 7
          have hr0 : rdE 1 B' 7 = 0 := by
            unfold rdE
            rw [if_neg (by omega), if_neg (by omega), if_neg (fun e => hB e.1)]
          rw [hr0, uev_zero] at hR
          obtain ⟨T, hT⟩ : ∃ T, B'.take 7 = T := ⟨_, rfl⟩
          obtain ⟨B2, hB2⟩ : ∃ B2, B'.drop 7 = B2 := ⟨_, rfl⟩
          have hR' : Calls Tryz.prog 19 #[wp kb, .int .i64 2, .int .i64 0, .int .i64 7] wr fun y w' => y = .returned (.tuple #[tx T, .nilIface]) ∧ TK w w' m kb B2 := by rw [← hT, ← hB2]; exact hR
          have hsum : T.length + B2.length = B'.length := by rw [← hT, ← hB2, ← List.length_append, List.take_append_drop]
          have hTl : 0 < T.length := by rw [← hT, List.length_take]; omega
          have hTe : T.isEmpty = false := by cases T with
            | nil => simp at hTl
            | cons _ _ => rfl
          have hcat := wtext_cat O' T
          have HS : Aside ((O' ++ T) ++ B2 = X) := (show (O' ++ T) ++ B2 = X by rw [← hT, ← hB2, List.append_assoc, List.take_append_drop]; exact HE'.out)
          have hlen : ¬ 9223372036854775807 < O'.length + T.length := by omega
          have HM : Aside (B2.length ≤ gk - 1) := (show B2.length ≤ gk - 1 by have := HG.out; omega)
          have HN : Aside (gk - 1 < gk) := (show gk - 1 < gk by have := HG.out; omega)
          clear hR hT hB2 hsum hr0 HG HE' hXm hX0 hBl
          go_wp2_with (go_at_call 19; refine hR'.mono ?_; rintro e w8 ⟨rfl, t8⟩)
          go_roundg (gk - 1)
          case measure => exact HN.out
          case rel => exact ⟨B2, O' ++ T, rfl, HS, HM, t8⟩
end Go.Proofs.YtcfhanoekniaaaaGreatDoor

/- PipeOrder: the walk of its Go text, where all is asked. -/
import Derived.Test.YtcllfedpdcjbcabDoorTOrder
namespace Go.Proofs.YtcllfedpdcjbcabDoor
open Go.RowKit

set_option maxRecDepth 100000 in
set_option maxHeartbeats 16000000 in
theorem torder_short (ad : Option Addr) (len cap : Nat) (q : Nat → OItem) (w : World) (h1 : len ≤ 60) (hsc : OScript w ad len q) (hg : w.cell? ⟨0, 0, none⟩ = some errT) :
    Calls Tryd.prog 5 #[.slice ad len cap] w fun e w' => e = .returned (.bool true) ∧ Below w.heap.size w w' := by
  have h1' : ¬ (60 : Int) < (len : Int) := by omega
  have hgl : 0 < w.heap.size := World.block_lt_of_cell? w _ hg
  have hgw : ∀ w', Below w.heap.size w w' → w'.cell? ⟨0, 0, none⟩ = some errT := fun w' h => by rw [h.cell (p := ⟨0, 0, none⟩) hgl]; exact hg
  go_enter Tryd.func5, Tryd.ntmps5
  go_wp2_with fail
  refine (piped_ok _).mono ?_
  rintro e w1 ⟨rfl, b1⟩
  have H0 : Op1 w (w1.alloc (.cells #[.int .i64 0, .int .i64 0, .int .i64 0, .int .i64 0, .int .u8 0, .int .u8 0, .int .u8 0, .int .u8 0, .int .u8 0, .int .u8 0, .int .u8 0, .int .u8 0, .int .u8 0, .int .u8 0, .int .u8 0, .int .u8 0, .int .u8 0, .int .u8 0, .int .u8 0, .int .u8 0, .int .i64 0] 48)) w1.heap.size 0 0 [] := ⟨o_new w1 48, b1.alloc b1.size _, b1.size⟩
  go_wp2_with fail
  refine (H0.opn 2 (by omega) (by omega) (by omega) (by omega) 0 1 0 rfl rfl rfl).mono ?_
  rintro e w2 ⟨rfl, H1⟩
  rw [er0]
  go_wp2_with fail
  refine (H1.opn 3 (by omega) (by omega) (by omega) (by omega) 0 1 1 rfl rfl rfl).mono ?_
  rintro e w3 ⟨rfl, H2⟩
  rw [er0]
  obtain ⟨b, hb⟩ : ∃ b, w1.heap.size = b := ⟨_, rfl⟩
  rw [hb] at H2 ⊢
  clear hb H0 H1 b1
  go_wp2_with fail
  go_loopg [4, 5, 6] len (fun k s4 s5 s6 wr => ∃ (j : Nat) (B O : List UInt8), j + k = len ∧ s6 = .int .i64 j ∧ s5 = txt O ∧ s4 = txt (O ++ B) ∧ O.length + B.length ≤ j * 60 ∧ Op1 w wr b 1 1 B)
  case atStart => exact ⟨0, [], [], by omega, rfl, rfl, rfl, by simp, H2⟩
  case round =>
    clear H2
    obtain ⟨j, B, O, hj, rfl, rfl, rfl, hlen, H⟩ := hrel
    by_cases hlt : (j : Int) < (len : Int)
    · rcases hsc with h0 | ⟨blk, off, rfl, hbl, hss⟩
      · exfalso; omega
      obtain ⟨c0, c1⟩ := hss j (by omega)
      have d0 : wr.cell? ⟨blk, off + j * 2, none⟩ = some (txt (q j).s) := by rw [H.bel.cell (p := ⟨blk, off + j * 2, none⟩) hbl]; exact c0
      have d1 : wr.cell? ⟨blk, off + j * 2 + 1, none⟩ = some (.int .i64 (q j).n) := by rw [H.bel.cell (p := ⟨blk, off + j * 2 + 1, none⟩) hbl]; exact c1
      clear c0 c1 hss
      generalize (q j).s = S at *
      generalize (q j).n = X at *
      by_cases hlong : (60 : Int) < (S.length : Int)
      · have hb := (H.stay ((Below.refl _ wr).alloc (Nat.le_refl _) (.cells #[txt S, .int .i64 X] 69))).bel
        go_wp2_with fail
        go_ret
        exact ⟨rfl, hb⟩
      · obtain ⟨m, hm, e1, e2, e3⟩ := wr_cases B S H.t.few
        obtain ⟨B1, hB1⟩ : ∃ B1, B ++ S.take m = B1 := ⟨_, rfl⟩
        obtain ⟨E, hE⟩ : ∃ E, wrE 1 B S = E := ⟨_, rfl⟩
        rw [hB1] at e2 e3
        rw [hE] at e3
        have hI := H.stay ((Below.refl _ wr).alloc (Nat.le_refl _) (.cells #[txt S, .int .i64 X] 69))
        have hit : (wr.alloc (.cells #[txt S, .int .i64 X] 69)).heap[wr.heap.size]? = some (.cells #[txt S, .int .i64 X] 69) := by
          show (wr.heap.push _)[wr.heap.size]? = _
          rw [Array.getElem?_push, if_pos rfl]
        have hbx : wr.heap.size ≠ b := fun e => by have := H.t.lt; omega
        have hxl : wr.heap.size < (wr.alloc (.cells #[txt S, .int .i64 X] 69)).heap.size := by simp
        have hWr := hI.wr S E m B1 hE e1 e2
        go_upto_region 15 with fail
        obtain ⟨x, hx⟩ : ∃ x, wr.heap.size = x := ⟨_, rfl⟩
        obtain ⟨w4, hw4⟩ : ∃ w4, wr.alloc (.cells #[txt S, .int .i64 X] 69) = w4 := ⟨_, rfl⟩
        rw [hw4, hx] at hit hxl
        rw [hw4] at hI hWr
        rw [hx] at hbx
        rw [hw4, hx]
        have z0 := cell_of_row w4 x 0 _ _ _ hit
        clear d0 d1 H hw4 hx
        replace z0 : w4.cell? ⟨x, 0, none⟩ = some (txt S) := z0
        go_wp2_with fail
        refine hWr.mono ?_
        rintro e w5 ⟨rfl, H5, g5⟩
        have it5 := (g5.block x hxl (fun e => hbx (Option.some.inj e))).trans hit
        have l5 := Nat.lt_of_lt_of_le hxl g5.size
        clear hWr hI hit hxl g5 z0
        have hsm : m ≤ 60 := by omega
        have z5 : w5.cell? ⟨x, 0, none⟩ = some (txt S) := cell_of_row w5 x 0 _ _ _ it5
        have hn0 : ¬ (m : Int) < 0 := by omega
        have hn1 : ¬ (S.length : Int) < (m : Int) := by omega
        go_upto_region 16 with fail
        go_cut [9, 82] (fun _ t wc => t = .bool false ∧ Op1 w wc b 1 1 B1 ∧ wc.heap[x]? = some (.cells #[txt S, .int .i64 X] 69) ∧ x < wc.heap.size)
        case first =>
          rcases e3 with ⟨rfl, e4⟩ | ⟨rfl, e4, e5⟩
          · rcases e4 with ⟨rfl, e4⟩ | e4
            · as_aux_lemma =>
                rw [er0]
                go_wp2_with fail
                go_meet
                case rel => exact ⟨rfl, H5, it5, l5⟩
            · as_aux_lemma =>
                rw [er0]
                have hmz : ((m : Int) == 0) = false := by simp; omega
                go_wp2_with fail
                go_meet
                case rel => exact ⟨by simp <;> omega, H5, it5, l5⟩
          · as_aux_lemma =>
              subst e4
              rw [er12]
              have hT := tell_eno 12 w5 (hgw _ H5.bel)
              go_wp2_with fail
              refine hT.mono ?_
              rintro e w6 ⟨rfl, b6⟩
              have H6 := H5.stay b6
              have it6 := (b6.block x l5).trans it5
              have l6 := Nat.lt_of_lt_of_le l5 b6.size
              have hL := H6.t.len
              rw [e5] at hL
              clear hT
              go_wp2_with fail
              refine hL.mono ?_
              rintro e w7 ⟨rfl, h7⟩
              subst w7
              go_wp2_with fail
              go_meet
              case rel => exact ⟨rfl, H6, it6, l6⟩
        case rest =>
          clear H5 it5 l5 z5 e3
          obtain ⟨rfl, H5, it5, l5⟩ := hcut
          have z5 : wc.cell? ⟨x, 0, none⟩ = some (txt S) := cell_of_row wc x 0 _ _ _ it5
          have z6 : wc.cell? ⟨x, 1, none⟩ = some (.int .i64 X) := cell_of_row wc x 1 _ _ _ it5
          have hsl := text_h S m hm
          have hlT : (S.take m).length = m := by simp; omega
          have hcat := ocat (O ++ B) (S.take m)
          rw [show O ++ B ++ S.take m = O ++ B1 by rw [← hB1, List.append_assoc]] at hcat
          have hB1l : B1.length = B.length + m := by rw [← hB1, List.length_append, hlT]
          have hINl : (O ++ B).length = O.length + B.length := List.length_append
          have hJNl : (O ++ B1).length = O.length + B1.length := List.length_append
          obtain ⟨nn, hnn, hpick⟩ := ppick_fix X 24 (by omega) (by omega)
          have hrc := rd_cases B1 nn
          obtain ⟨E2, hE2⟩ : ∃ E2, rdE 1 B1 nn = E2 := ⟨_, rfl⟩
          have hRd := fun V (HV : Op1 w V b 1 1 B1) => HV.rd (nn : Int) (by omega) E2 (B1.take nn) (B1.drop nn) hE2 (by rw [Int.toNat_natCast]) (by rw [Int.toNat_natCast])
          have hT1 : (B1.take nn).length ≤ nn := by simp; omega
          have hT2 : (B1.take nn).length + (B1.drop nn).length = B1.length := by rw [← List.length_append, List.take_append_drop]
          have hcat2 := ocat O (B1.take nn)
          have hOUTl : (O ++ B1.take nn).length = O.length + (B1.take nn).length := List.length_append
          have hIO : O ++ B1 = (O ++ B1.take nn) ++ B1.drop nn := by rw [List.append_assoc, List.take_append_drop]
          have hfew := H5.t.few
          rw [hE2] at hrc
          have HIO := hIO
          clear hIO hE2 hB1
          obtain ⟨T, hT⟩ : ∃ T, B1.take nn = T := ⟨_, rfl⟩
          obtain ⟨B2, hB2⟩ : ∃ B2, B1.drop nn = B2 := ⟨_, rfl⟩
          rw [hT] at hRd hT1 hT2 hcat2 hOUTl HIO hrc
          rw [hB2] at hRd hT2 HIO hrc
          clear hT hB2
          obtain ⟨SM, hSM⟩ : ∃ SM, S.take m = SM := ⟨_, rfl⟩
          rw [hSM] at hsl hlT hcat
          clear hSM
          obtain ⟨IN, hIN⟩ : ∃ IN, O ++ B = IN := ⟨_, rfl⟩
          rw [hIN] at hcat hINl
          rw [hIN]
          clear hIN
          obtain ⟨JN, hJN⟩ : ∃ JN, O ++ B1 = JN := ⟨_, rfl⟩
          rw [hJN] at hcat hJNl HIO
          clear hJN
          obtain ⟨OUT, hOUT⟩ : ∃ OUT, O ++ T = OUT := ⟨_, rfl⟩
          rw [hOUT] at hcat2 hOUTl HIO
          clear hOUT
          have hc1 : ¬ 9223372036854775807 < IN.length + SM.length := by omega
          have hc2 : ¬ 9223372036854775807 < O.length + T.length := by omega
          have hsub : (JN.length : Int) - (OUT.length : Int) = (B2.length : Int) := by omega
          have hn2 : ¬ (16 : Int) < (B2.length : Int) := by omega
          have hn3 : ¬ (nn : Int) < (T.length : Int) := by omega
          have hfin : OUT.length + B2.length ≤ (j + 1) * 60 := by omega
          have HH : Hid (JN = OUT ++ B2) := HIO
          clear hlT hINl hJNl hOUTl hT1 hT2 hB1l HIO
          go_wp2_with fail
          refine (hpick _).mono ?_
          rintro e w6 ⟨rfl, h6⟩
          subst w6
          go_wp2_with fail
          refine (hRd _ H5).mono ?_
          rintro e w6 ⟨rfl, H6, g6⟩
          have it6 := (g6.block x l5 (fun e => hbx (Option.some.inj e))).trans it5
          have l6 := Nat.lt_of_lt_of_le l5 g6.size
          clear hRd H5 it5 l5 z5 z6 g6 hsl
          have z6 : w6.cell? ⟨x, 1, none⟩ = some (.int .i64 X) := cell_of_row w6 x 1 _ _ _ it6
          go_upto_region 20 with fail
          go_cut [9, 118] (fun _ t wc => t = .bool false ∧ Op1 w wc b 1 1 B2)
          case first =>
            rcases hrc with rfl | ⟨rfl, e4, e5⟩
            · as_aux_lemma =>
                rw [er0]
                go_wp2_with fail
                refine (hpick _).mono ?_
                rintro e w7 ⟨rfl, h7⟩
                subst w7
                go_wp2_with fail
                go_meet
                case rel => exact ⟨by first | rfl | (simp <;> omega), H6⟩
            · as_aux_lemma =>
                rw [er8]
                have hT := tell_eno 8 w6 (hgw _ H6.bel)
                go_wp2_with fail
                refine hT.mono ?_
                rintro e w7 ⟨rfl, b7⟩
                have H7 := H6.stay b7
                have it7 := (b7.block x l6).trans it6
                have z7 : w7.cell? ⟨x, 1, none⟩ = some (.int .i64 X) := cell_of_row w7 x 1 _ _ _ it7
                have hL := H7.t.len
                rw [e4] at hL
                clear hT z6
                go_wp2_with fail
                refine hL.mono ?_
                rintro e w8 ⟨rfl, h8⟩
                subst w8
                go_wp2_with fail
                refine (hpick _).mono ?_
                rintro e w8 ⟨rfl, h8⟩
                subst w8
                go_wp2_with fail
                go_meet
                case rel => exact ⟨by first | rfl | (simp <;> omega), H7⟩
          case rest =>
            clear H6 it6 l6 z6 hrc hpick
            obtain ⟨rfl, H6⟩ := hcut
            have hL := H6.t.len
            go_wp2_with fail
            refine hL.mono ?_
            rintro e w7 ⟨rfl, h7⟩
            subst w7
            go_wp2_with fail
            refine hL.mono ?_
            rintro e w7 ⟨rfl, h7⟩
            subst w7
            go_wp2_with fail
            go_roundg (gk - 1)
            case measure => omega
            case rel => exact ⟨j + 1, B2, OUT, by omega, by go_num, rfl, by rw [HH.out], hfin, H6⟩
    · have hfew := H.t.few
      have hcat := ocat O B
      have hOl : (O ++ B).length = O.length + B.length := List.length_append
      have hd : B.drop 100 = [] := List.drop_eq_nil_of_le (by omega)
      have ht : B.take 100 = B := List.take_of_length_le (by omega)
      have hr : rdE 0 B 100 = 0 := by unfold rdE; rw [if_neg (by omega), if_neg (by omega), if_neg (fun e => by have := e.2; omega)]
      obtain ⟨IN, hIN⟩ : ∃ IN, O ++ B = IN := ⟨_, rfl⟩
      rw [hIN] at hcat hOl
      rw [hIN]
      clear hIN
      have hc : ¬ 9223372036854775807 < O.length + B.length := by omega
      clear hOl
      go_wp2_with fail
      refine (H.cls 3 (by omega) (by omega) (by omega) (by omega) 0 1 0 rfl rfl rfl).mono ?_
      rintro e w5 ⟨rfl, H5⟩
      rw [er0]
      go_wp2_with fail
      refine (H5.rd 100 (by omega) 0 B [] hr ht hd).mono ?_
      rintro e w6 ⟨rfl, H6, _⟩
      rw [er0]
      go_wp2_with fail
      refine (H6.rd 100 (by omega) 0 [] [] rfl rfl rfl).mono ?_
      rintro e w7 ⟨rfl, H7, _⟩
      rw [er0]
      go_wp2_with fail
      refine (H7.cls 2 (by omega) (by omega) (by omega) (by omega) 0 0 0 rfl rfl rfl).mono ?_
      rintro e w8 ⟨rfl, H8⟩
      rw [er0]
      go_wp2_with fail
      refine (H8.wr [120] 14 0 [] rfl rfl rfl).mono ?_
      rintro e w9 ⟨rfl, H9, _⟩
      rw [er14]
      go_wp2_with fail
      refine (tell_eno 14 _ (hgw _ H9.bel)).mono ?_
      rintro e w10 ⟨rfl, b10⟩
      have H10 := H9.stay b10
      go_wp2_with fail
      refine (H10.cls 3 (by omega) (by omega) (by omega) (by omega) 6 0 0 rfl rfl rfl).mono ?_
      rintro e w11 ⟨rfl, H11⟩
      rw [er6]
      go_wp2_with fail
      go_ret
      exact ⟨rfl, H11.bel⟩
end Go.Proofs.YtcllfedpdcjbcabDoor

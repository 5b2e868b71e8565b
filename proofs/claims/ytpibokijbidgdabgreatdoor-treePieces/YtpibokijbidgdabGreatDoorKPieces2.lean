/- TreePieces: the walk of its Go text, to its end. -/
import Derived.Test.YtpibokijbidgdabGreatDoorKPieces
import Derived.Deep.DeepCutAuto
import Derived.Deep.CutBlock
namespace Go.Proofs.YtpibokijbidgdabGreatDoor
open Go.RowKit Go.Maps

section
variable {w wr : World} {m : Int} {r k : Nat} {T : Wd} {B : List UInt8}
theorem KT.look (h : KT w m r k T wr) (h1 : T 1 = some (.file B 0)) (hB : B.length ≤ 200) :
    Calls Tryz.prog 18 #[wp r, .int .i64 1, .int .i64 0, .int .i64 200] wr fun e w' => e = .returned (.tuple #[tx B, .nilIface]) ∧ KT w m r k T w' := by
  obtain ⟨e1, e2⟩ := read_at h1 0 200
  rw [List.drop_zero, List.take_of_length_le hB] at e2
  refine (h.read 1 0 200 (wf_few (by omega) (by omega))).mono ?_
  rintro e w' ⟨rfl, k'⟩
  exact ⟨by rw [show readE T 1 0 200 = 0 from e1, show readS T 1 0 200 = B from e2]; rfl, k'⟩
theorem KT.long (h : KT w m r k T wr) (h1 : T 1 = some (.file B 0)) :
    Calls Tryz.prog 22 #[wp r, .int .i64 1] wr fun e w' => e = .returned (.tuple #[.int .i64 (B.length : Int), .nilIface]) ∧ w' = wr := by
  refine (h.size 1 (wf_few (by omega) (by omega))).mono ?_
  rintro e w' ⟨rfl, k'⟩
  exact ⟨by rw [show sizeS T 1 = (B.length : Int) by unfold sizeS; rw [h1], show fileT T 1 = 0 by unfold fileT; rw [h1]]; rfl, k'⟩
end

set_option maxRecDepth 100000 in
set_option maxHeartbeats 8000000 in
theorem pieces_short (ad : Option Addr) (len cap : Nat) (q : Nat → List UInt8) (n z : Int) (w : World) (h1 : len ≤ 20) (hsc : Strs w ad len q) (m : Int) (hm : w.cell? ⟨2, 0, none⟩ = some (.int .i64 m)) (hg : w.cell? ⟨0, 0, none⟩ = some errT) :
    Calls Tryz.prog 5 #[.slice ad len cap, .int .i64 n, .int .i64 z] w fun e w' => e = .returned (.bool true) ∧ Below w.heap.size w w' := by
  have h1' : ¬ (20 : Int) < (len : Int) := by omega
  have hnm := named_ok w m hm
  have hne := ktree_ne
  have hml : 2 < w.heap.size := World.block_lt_of_cell? w _ hm
  have hel : 0 < w.heap.size := World.block_lt_of_cell? w _ hg
  have hgw : ∀ V : World, Below w.heap.size w V → V.cell? ⟨0, 0, none⟩ = some errT := fun V hb => by rw [hb.cell (p := ⟨0, 0, none⟩) hel]; exact hg
  have hN : ∀ V : World, Below w.heap.size w V → Calls Tryz.prog 6 #[] V fun e w' => ∃ r, e = .returned (wp r) ∧ KT w m r 0 nullT w' := fun V hb => by
    refine (KT.first V m (by rw [hb.cell (p := ⟨2, 0, none⟩) hml]; exact hm)).mono ?_
    rintro e w' ⟨r, rfl, k⟩
    exact ⟨r, rfl, k.base hb hm⟩
  have h2 := fun r W (h : KT w m r 0 nullT W) => h.create_yes (by omega) null_num [47, 97] (by simp) pieces_e1 null_free
  have h3 := fun r W (h : KT w m r (0 + 1) (makeN nullT [47, 97] false 1) W) => h.create_yes (by omega) pieces_n1 [47, 98] (by simp) pieces_e2 pieces_f2
  go_enter Tryz.func5, Tryz.ntmps5
  go_upto_region 12 with (first
    | (go_at_call 11; refine hnm.mono ?_; rintro e w1 ⟨rfl, b1⟩)
    | (go_at_call 6; refine (hN _ b1).mono ?_; rintro e w2 ⟨r, rfl, k2⟩)
    | (go_at_call 12; refine (h3 _ _ k3).mono ?_; rintro e w4 ⟨rfl, k4⟩)
    | (go_at_call 12; refine (h2 _ _ k2).mono ?_; rintro e w3 ⟨rfl, k3⟩))
  have hA0 : PcA w m r 2 [] w4 := ⟨by simp, _, k4, pAB_1, pAB_2⟩
  clear k2 k3 k4 h2 h3 hN hnm b1
  go_upto_block 0 with fail
  go_cut [12, 13] (fun s12 _ wc => ∃ A, s12 = tx A ∧ PcA w m r 30 A wc)
  case first =>
    go_wp2_with fail
    go_loopg [12, 13] len (fun g s12 s13 wx => ∃ (i : Nat) (A : List UInt8), i + g = len ∧ s13 = .int .i64 (i : Int) ∧ s12 = tx A ∧ PcA w m r (2 + i) A wx)
    case atStart => exact ⟨0, [], by omega, rfl, rfl, hA0⟩
    case round =>
      obtain ⟨i, A, hi, rfl, rfl, hP⟩ := hrel
      clear hA0
      by_cases hlt : (i : Int) < (len : Int)
      · rcases hsc with h0 | ⟨blk, off, rfl, hbl, hss⟩
        · exfalso; omega
        have hB := hP.bel
        have dw := hss i (by omega)
        have d0 : wr.cell? ⟨blk, off + i, none⟩ = some (tx (q i)) := by rw [hB.cell (p := ⟨blk, off + i, none⟩) hbl]; exact dw
        clear hss
        generalize q i = S at *
        by_cases hl : (60 : Int) < (S.length : Int)
        · go_wp2_with fail
          go_ret
          exact ⟨rfl, hB⟩
        · have hsum : wrap64 ((A.length : Int) + (S.length : Int)) = (A.length : Int) + (S.length : Int) := by have := hP.1; unfold wrap64; omega
          by_cases hov : (200 : Int) < (A.length : Int) + (S.length : Int)
          · have hW := hP.much S (by omega) (by omega)
            clear hB
            go_wp2_with (first
              | (go_at_call 13; refine hW.mono ?_; rintro e w5 ⟨rfl, hP5⟩; have ht := tell_eno 4 w5 (hgw _ hP5.bel))
              | (go_at_call 20; refine ht.mono ?_; rintro e w6 ⟨rfl, b6⟩))
            go_meet
            case rel => exact ⟨A, rfl, (hP5.below b6).more (by omega)⟩
          · have hW := hP.write S (by omega) (by omega)
            have hcat := wtext_cat A S
            clear hB
            have hd5 : ∀ V : World, PcA w m r (2 + i + 1) (A ++ S) V → V.cell? ⟨blk, off + i, none⟩ = some (tx S) := fun V hV => by rw [hV.bel.cell (p := ⟨blk, off + i, none⟩) hbl]; exact dw
            go_wp2_with (go_at_call 13; refine hW.mono ?_; rintro e w5 ⟨rfl, hP5⟩; have d5 := hd5 _ hP5)
            go_roundg (gk - 1)
            case measure => omega
            case rel => exact ⟨i + 1, A ++ S, by omega, by go_num, rfl, hP5⟩
      · go_wp2_with fail
        go_meet
        case rel => exact ⟨A, rfl, hP.more (by omega)⟩
  case rest =>
    obtain ⟨A, rfl, hP⟩ := hcut
    clear hA0 hsc hgw
    have hAl := hP.1
    have hW := hP.other
    have hpk := fun V => ppick_any V n 20 (by omega) (by omega)
    go_upto_region 27 with (first
      | (go_at_call 13; refine hW.mono ?_; rintro e w5 ⟨rfl, hP5⟩)
      | (go_at_call 14; refine (hpk _).mono ?_; rintro e w6 ⟨x, rfl, hx, rfl⟩))
    clear hW hpk hP hm hg hml hel
    obtain ⟨M, hM⟩ : ∃ M : Nat, (1 : Int) + (x : Int) = (M : Int) := ⟨1 + x, by omega⟩
    rw [hM]
    have hM1 : 1 ≤ M := by omega
    have hM2 : M ≤ 20 := by omega
    clear hM hx
    go_wp2_with fail
    go_loopg [14, 15, 16] 300 (fun g s14 s15 s16 wx => ∃ (i P : Nat), i + g = 300 ∧ P = i * M ∧ P < A.length + 2 * M ∧ s16 = .int .i64 (i : Int) ∧ s14 = tx (A.take P) ∧ s15 = tx (A.take P) ∧ PcB w m r 31 A wx)
    case atStart => exact ⟨0, 0, by omega, by omega, by omega, rfl, rfl, rfl, hP5⟩
    case round =>
      obtain ⟨i, P, hi, hPi, hP2, rfl, rfl, rfl, hB⟩ := hrel
      clear hP5
      have hiP : i ≤ P := by rw [hPi]; exact Nat.le_mul_of_pos_right i (by omega)
      have hmul : wrap64 ((i : Int) * (M : Int)) = (P : Int) := by
        have e : (i : Int) * (M : Int) = (P : Int) := by rw [hPi]; simp
        rw [e]; unfold wrap64; omega
      have hsum : wrap64 ((A.length : Int) + (M : Int)) = ((A.length + M : Nat) : Int) := by unfold wrap64; omega
      have HP : Aside (P = i * M) := hPi
      have HI : Aside (i + gk = 300) := hi
      clear hPi hi
      by_cases hlt : (P : Int) < ((A.length + M : Nat) : Int)
      · obtain ⟨D, hD⟩ : ∃ D, (A.drop P).take M = D := ⟨_, rfl⟩
        have h3 := fun V (h : PcB w m r 31 A V) => h.read1 P M
        have h4 := fun V (h : PcB w m r 31 A V) => h.read2 P M
        have hDl : ¬ (M : Int) < (D.length : Int) := by rw [← hD]; simp; omega
        have hcat : ((⟨(A.take P).toArray⟩ : ByteArray) ++ ⟨D.toArray⟩) = ⟨(A.take (P + M)).toArray⟩ := by rw [wtext_cat, ← hD, ← List.take_add]
        have hcl : ((A.take P).length : Int) + (D.length : Int) ≤ 220 := by rw [← hD]; simp; omega
        rw [hD] at h3 h4
        clear hD
        generalize hA1 : A.take P = A1 at *
        clear hA1
        go_wp2_with (first
          | (go_at_call 18; refine (h4 _ h6).mono ?_; rintro e w7 ⟨rfl, h7⟩)
          | (go_at_call 18; refine (h3 _ hB).mono ?_; rintro e w6 ⟨rfl, h6⟩))
        go_roundg (gk - 1)
        case measure => have := HI.out; omega
        case rel => exact ⟨i + 1, P + M, by have := HI.out; omega, by rw [HP.out, Nat.add_mul, Nat.one_mul], by omega, by go_num, rfl, rfl, h7⟩
      · have hAt : A.take P = A := List.take_of_length_le (by omega)
        rw [hAt]
        clear hAt HP HI
        have hpk := fun V => ppick_any V z 210 (by omega) (by omega)
        go_upto_region 37 with (go_at_call 14; refine (hpk _).mono ?_; rintro e w7 ⟨Z, rfl, hZ, rfl⟩)
        clear hpk hmul hsum hlt hP2 hiP
        have hC := hB.cut Z
        obtain ⟨K, hK⟩ : ∃ K : Nat, (K : Int) = min (Z : Int) (A.length : Int) := ⟨min Z A.length, by omega⟩
        have hmin := fun ts ty => min_run ts ty (Z : Int) (A.length : Int) K hK
        obtain ⟨B, hBt⟩ : ∃ B, A.take K = B := ⟨_, rfl⟩
        have hZB : A.take Z = B := by
          rw [← hBt]
          by_cases e : Z ≤ A.length
          · rw [show K = Z by omega]
          · rw [List.take_of_length_le (by omega), List.take_of_length_le (by omega)]
        have hBl : B.length ≤ 200 := by rw [← hBt]; simp; omega
        have hsl := wtext_h A K (by omega)
        rw [hBt] at hsl
        rw [hZB] at hC
        clear hBt hZB hK
        go_wp2_with (first
          | (go_at_call 21; refine hC.mono ?_; rintro e w8 ⟨rfl, T, k8, t8⟩; have hRd := k8.look t8 hBl)
          | (go_at_call 18; refine hRd.mono ?_; rintro e w9 ⟨rfl, k9⟩; have hSz := k9.long t8)
          | (go_at_call 22; refine hSz.mono ?_; rintro e w10 ⟨rfl, rfl⟩))
        go_ret
        exact ⟨rfl, k9.bel⟩
end Go.Proofs.YtpibokijbidgdabGreatDoor

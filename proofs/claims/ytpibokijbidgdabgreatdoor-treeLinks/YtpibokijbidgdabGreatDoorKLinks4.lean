/- TreeLinks: the walk of its Go text, to its end. -/
import Derived.Test.YtpibokijbidgdabGreatDoorKLinksJ
import Derived.Test.YtpibokijbidgdabGreatDoorInts
import Derived.Test.YtpibokijbidgdabGreatDoorRem
import Derived.Deep.RegionHeld3
namespace Go.Proofs.YtpibokijbidgdabGreatDoor
open Go.RowKit Go.Maps Go.Shelf

theorem new_text (w : World) (x : Nm) (t : TypeId) : ∀ j u, [tx x][j]? = some u → (w.alloc (.cells #[tx x] t)).cell? ((⟨w.heap.size, 0, none⟩ : Addr).add j) = some u := by
  intro j u h
  cases j with
  | zero => simp at h; subst h; rw [Addr.add_lit]; simp
  | succ j => simp at h
theorem tx_one (x : Nm) : ∀ u ∈ [tx x], u.oneCell' = true := by
  intro u hu
  simp at hu
  subst hu
  rfl

theorem getD_at {J : List Nat} {j : Nat} (d : Nat) (h : j < J.length) : J.getD j d = J[j] := by
  rw [List.getD_eq_getElem?_getD, List.getElem?_eq_getElem h]; rfl
theorem TxR.form {wr : World} {B : Nat} {v : Value} {L : List Nm} (h : TxR wr B v L) : ∃ ad c, v = .slice ad L.length c := by
  unfold TxR at h
  obtain ⟨_, hh⟩ := h
  rcases hh with ⟨rfl, e⟩ | ⟨g, cap, cur, rfl, _⟩
  · exact ⟨none, 0, by rw [e]⟩
  · exact ⟨_, cap, rfl⟩

set_option maxRecDepth 100000 in
set_option maxHeartbeats 8000000 in
theorem links_short (n : Int) (ad : Option Addr) (len cap : Nat) (s : List UInt8) (w : World) (h1 : len ≤ 40) (hs : s.length ≤ 100) (q : Nat → Int) (hq : Ints w ad len q) (m : Int) (hm : w.cell? ⟨2, 0, none⟩ = some (.int .i64 m)) (hg : w.cell? ⟨0, 0, none⟩ = some errT) :
    Calls Tryz.prog 4 #[.int .i64 n, .slice ad len cap, tx s] w fun e w' => e = .returned (.bool true) ∧ Below w.heap.size w w' := by
  have h1' : ¬ (40 : Int) < (len : Int) := by omega
  have h2' : ¬ (100 : Int) < (s.length : Int) := by omega
  have hnm := named_ok w m hm
  have hne := ktree_ne
  have HQ0 : Aside (Ints w ad len q) := hq
  clear hq
  have hml : 2 < w.heap.size := World.block_lt_of_cell? w _ hm
  have hN : ∀ V : World, Below w.heap.size w V → Calls Tryz.prog 6 #[] V fun e w' => ∃ r, e = .returned (wp r) ∧ KT w m r 0 nullT w' := fun V hb => by
    refine (KT.first V m (by rw [hb.cell (p := ⟨2, 0, none⟩) hml]; exact hm)).mono ?_
    rintro e w' ⟨r, rfl, k⟩
    exact ⟨r, rfl, k.base hb hm⟩
  have hCr := fun r V (h : KT w m r 0 nullT V) => h.make_one (by simp) links_e links_n
  have hpk := fun V => ppick_any V n 20 (by omega) (by omega)
  go_enter Tryz.func4, Tryz.ntmps4
  go_upto_region 12 with (first
    | (go_at_call 11; refine hnm.mono ?_; rintro e w1 ⟨rfl, b1⟩)
    | (go_at_call 6; refine (hN _ b1).mono ?_; rintro e w2 ⟨r, rfl, k2⟩)
    | (go_at_call 12; refine (hCr _ _ k2).mono ?_; rintro e w3 ⟨rfl, k3⟩; have hWr := k3.writeAll hs)
    | (go_at_call 13; refine hWr.mono ?_; rintro e w4 ⟨rfl, k4⟩)
    | (go_at_call 14; refine (hpk _).mono ?_; rintro e w5 ⟨x, rfl, hx, rfl⟩))
  obtain ⟨M, hM⟩ : ∃ M : Nat, (1 : Int) + (x : Int) = (M : Int) := ⟨1 + x, by omega⟩
  rw [hM]
  have hM1 : 1 ≤ M := by omega
  have hM2 : M ≤ 20 := by omega
  have k5 : KR w m r 2 (tC (cJ (js 0)) s 0) (.slice none 0 0) ((List.range 0).map pth) w5 := k4.kr
  clear hM hx hnm hN hCr hpk k2 k3 k4 hWr
  obtain ⟨i0, hi0, hz0, hz1, hz2⟩ := info_parts (P := Tryz.prog) (e := 9) (z := .string ⟨#[]⟩) (size := 1) (bytes := 16) (by kernel_rfl)
  go_wp2_with fail
  go_loopg [10, 11, 12] M (fun g s10 s11 _ wx => ∃ i : Nat, i + g = M ∧ s11 = .int .i64 (i : Int) ∧ KR w m r (2 + i) (tC (cJ (js i)) s 0) s10 ((List.range i).map pth) wx)
  case atStart => exact ⟨0, by omega, rfl, k5⟩
  case round =>
    obtain ⟨i, hi, rfl, hK⟩ := hrel
    clear k5
    by_cases hlt : (i : Int) < (M : Int)
    · have hit := itoa_dg i (by omega)
      have hcat : ((⟨#[47]⟩ : ByteArray) ++ ⟨(dg i).toArray⟩) = ⟨(pth i).toArray⟩ := wtext_cat [47] (dg i)
      have hdl : ((dg i).length : Int) ≤ 2 := by have := dg_len i (by omega); omega
      have hdl1 : (1 : Int) + ((dg i).length : Int) ≤ 3 := by omega
      have hnd := fun V J k v L (h : KR w m r k (tC J s 0) v L V) => h.kt.nodes2
      have h63 : ((List.range i).map pth).length + 1 ≤ maxLen := by rw [List.length_map, List.length_range]; unfold maxLen; omega
      have hby : (((List.range i).map pth).length + 1) * 16 ≤ 140737488355328 := by rw [List.length_map, List.length_range]; omega
      have hmore : ∀ (V w3 : World) (k' : Nat) (J : List Nat) (v v3 : Value), KR w m r k' (tC (cJ J) s 0) v ((List.range i).map pth) V → w3.ownsRow w.heap.size 9 1 v3 (((List.range i).map pth).length + 1) (((List.range i).map pth).map encStr ++ [tx (pth i)]) → (V.alloc (.cells #[tx (pth i)] 9)).grownBy w3 v.ownBlock → (v3.ownBlock = v.ownBlock ∨ v3.ownBlock = some (V.alloc (.cells #[tx (pth i)] 9)).heap.size) → KR w m r k' (tC (cJ J) s 0) v3 ((List.range (i + 1)).map pth) w3 := fun V w3 k' J v v3 hR ho hgr hl => by
        have hb := hR.below ((Below.refl _ V).alloc (Nat.le_refl _) (.cells #[tx (pth i)] 9))
        refine hb.grow ?_ hgr ?_
        · rw [pths_next]
          unfold TxR
          rw [List.length_append, List.map_append]
          exact ho
        · rcases hl with e | e
          · exact .inl e
          · exact .inr ⟨_, e, Nat.le_refl _⟩
      have HI : Aside (i + gk = M) := hi
      clear hi
      by_cases hi0' : i = 0
      · have hgt : ¬ (0 : Int) < (i : Int) := by omega
        have hnd0 := hK.kt.nodes2
        have hbase : ∀ o, w.heap.size ≤ (wr.alloc o).heap.size := fun o => by have := hK.bel.size; simp; omega
        have HI0 : Aside (i = 0) := hi0'
        clear hi0' hnd
        go_wp2_with (first
          | (go_at_call 15; refine (hit _).mono ?_; rintro e w6 ⟨rfl, hw6⟩; subst w6)
          | (go_at_call 10; refine hnd0.mono ?_; rintro e w7 ⟨rfl, hw7⟩; subst w7)
          | (at_builtin; refine wpList_append_own_at _ rfl _ _ 45 rfl w.heap.size 9 i0 (.string ⟨#[]⟩) 1 16 Tryz.underlying45 hi0 hz0 hz1 hz2 rfl (by decide) _ _ _ rfl (World.ownsRow.alloc hK.row _) ⟨wr.heap.size, 0, none⟩ 1 1 [tx (pth i)] rfl rfl (new_text _ _ _) (tx_one _) h63 hby (hbase _) ?_; intro v3 w3 ho3 hg3 hnil3 hv3))
        go_roundg (gk - 1)
        case measure => have := HI.out; omega
        case rel =>
          have e0 := HI0.out
          subst e0
          exact ⟨0 + 1, by have := HI.out; omega, by go_num, by rw [js_one]; exact (hmore _ _ _ _ _ _ ⟨hK.st, hK.row, hK.lv, hK.sm.more (by omega), hK.bel, hK.ml⟩ ho3 hg3 hv3)⟩
      · have hgt : (0 : Int) < (i : Int) := by omega
        obtain ⟨h, hh⟩ : ∃ h : Nat, i / 2 = h := ⟨_, rfl⟩
        have hq : (i : Int).tdiv 2 = (h : Int) := by
          rw [Int.tdiv_eq_ediv_of_nonneg (by omega)]
          omega
        have hh9 : (h : Int) ≤ 9 := by omega
        have hit2 := itoa_dg h (by omega)
        have hcat2 : ((⟨#[47]⟩ : ByteArray) ++ ⟨(dg h).toArray⟩) = ⟨(pth h).toArray⟩ := wtext_cat [47] (dg h)
        have hdl2 : ((dg h).length : Int) ≤ 2 := by have := dg_len h (by omega); omega
        have hdl3 : (1 : Int) + ((dg h).length : Int) ≤ 3 := by omega
        have hLk := hK.linkMore (by omega) (a := h) (i := i) (js_lt (by omega)) (js_in hi0' (by omega)) (by omega) (js_out hi0')
        have HI0 : Aside (i ≠ 0) := hi0'
        clear hi0' hh
        have HQ : Aside ((i : Int).tdiv 2 = (h : Int)) := hq
        clear hq
        go_upto_region 17 with (go_at_call 15; refine (hit _).mono ?_; rintro e w6 ⟨rfl, hw6⟩; subst w6)
        have hq := HQ.out
        clear hit hcat hdl hdl1
        go_upto_region 19 with (first
          | (go_at_call 15; refine (hit2 _).mono ?_; rintro e w6 ⟨rfl, hw6⟩; subst w6; clear hq)
          | (go_at_call 16; refine hLk.mono ?_; rintro e w8 ⟨rfl, k8⟩; have hnd8 := k8.kt.nodes2; have hbase : ∀ o, w.heap.size ≤ (w8.alloc o).heap.size := fun o => by (have := k8.bel.size; simp; omega))
          | (go_at_call 10; refine hnd8.mono ?_; rintro e w7 ⟨rfl, hw7⟩; subst w7))
        go_wp2_with (at_builtin; refine wpList_append_own_at _ rfl _ _ 45 rfl w.heap.size 9 i0 (.string ⟨#[]⟩) 1 16 Tryz.underlying45 hi0 hz0 hz1 hz2 rfl (by decide) _ _ _ rfl (World.ownsRow.alloc k8.row _) ⟨w8.heap.size, 0, none⟩ 1 1 [tx (pth i)] rfl rfl (new_text _ _ _) (tx_one _) h63 hby (hbase _) ?_; intro v3 w3 ho3 hg3 hnil3 hv3)
        go_roundg (gk - 1)
        case measure => have := HI.out; omega
        case rel => exact ⟨i + 1, by have := HI.out; omega, by go_num, by rw [js_next HI0.out]; exact (hmore _ _ _ _ _ _ k8 ho3 hg3 hv3)⟩
    · have hiM : i = M := by omega
      subst hiM
      have hL : LJ (js i) (List.range i) := LJ.first (by omega) hM2
      have hT : tC (cJ (js i)) s 0 = lT (js i) s := (lT_ne s (hL.some (k := 0) (by simp; omega))).symm
      rw [hT] at hK
      have hlen : (List.range i).length = i := List.length_range
      obtain ⟨J2, hJ2⟩ : ∃ J2, List.range i = J2 := ⟨_, rfl⟩
      rw [hJ2] at hK hL hlen
      clear hi hT hJ2
      generalize hjj : js i = J0 at *
      clear hjj
      have hJl : Aside (J2.length = i) := hlen
      clear hlen
      have HM2 : Aside (i ≤ 20) := hM2
      clear hM1 hM2 hlt
      generalize hMi : i = M at *
      clear hMi
      go_wp2_with fail
      go_loopg [10, 13, 14, 15, 16, 17, 18, 19] M (fun g s10 s13 _ _ _ _ _ _ wx => ∃ (i k : Nat) (J J2 : List Nat), Aside (i + g = M) ∧ Aside (g = J2.length) ∧ s13 = .int .i64 (i : Int) ∧ LJ J J2 ∧ Aside (k + 2 * g ≤ 70) ∧ KR w m r k (lT J s) s10 (J2.map pth) wx)
      case atStart => exact ⟨0, 2 + M, J0, J2, (show 0 + M = M by omega), (show M = J2.length from hJl.out.symm), rfl, hL, (show 2 + M + 2 * M ≤ 70 by have := HM2.out; omega), hK⟩
      case round =>
        clear hK hL hJl J0 J2
        obtain ⟨i, k, J, J2, HI, HG, rfl, hL, HK, hK⟩ := hrel
        by_cases hJ0 : J2 = []
        · subst hJ0
          have hJ := hL.none
          subst hJ
          obtain ⟨ad', c', hv'⟩ := hK.row.form
          rw [List.length_map, List.length_nil] at hv'
          subst hv'
          have hRd := hK.readGone
          have hgw : ∀ V, Below w.heap.size w V → V.cell? ⟨0, 0, none⟩ = some errT := fun V hb => by rw [hb.cell (p := ⟨0, 0, none⟩) (World.block_lt_of_cell? w _ hg)]; exact hg
          clear hK hL
          go_wp2_with (first
            | (go_at_call 18; refine hRd.mono ?_; rintro e w9 ⟨rfl, k9⟩; have ht := tell_eno 7 w9 (hgw _ k9.bel))
            | (go_at_call 20; refine ht.mono ?_; rintro e w10 ⟨rfl, b10⟩; have hnd := (k9.below b10).kt.nodes1)
            | (go_at_call 10; refine hnd.mono ?_; rintro e w11 ⟨rfl, hw11⟩; subst w11))
          go_ret
          exact ⟨rfl, (k9.below b10).bel⟩
        · obtain ⟨N, hN⟩ : ∃ N, J2.length = N := ⟨_, rfl⟩
          have hN0 : 0 < N := by rw [← hN]; exact List.length_pos_iff.2 hJ0
          have hN0' : (0 : Int) < (N : Int) := by omega
          have hN20 : N ≤ 20 := by have := HM2.out; have := HI.out; have := HG.out; omega
          have hi20 : i ≤ 20 := by have := HM2.out; have := HI.out; omega
          have hkk : k ≤ 70 := by have := HK.out; omega
          have hLl : (J2.map pth).length = N := by rw [List.length_map, hN]
          obtain ⟨gb, cp, hv, hcp, hcl⟩ := (hK.row.at).resolve_left (fun e => hJ0 (by simpa using e))
          rw [hLl] at hv hcp
          subst hv
          have hT : lT J s = tC (cJ J) s 0 := lT_ne s (hL.some (k := 0) (by omega))
          rw [hT] at hK
          have hrd : ∀ (j : Nat) (hj : j < N) (V : World), KR w m r k (tC (cJ J) s 0) (.slice (some ⟨gb, 0, none⟩) N cp) (J2.map pth) V → V.cell? ⟨gb, j, none⟩ = some (tx (pth (J2.getD j 0))) := fun j hj V h => by
            obtain ⟨g', c', hv', _, hc'⟩ := (h.row.at).resolve_left (fun e => hJ0 (by simpa using e))
            cases hv'
            have := hc' j (by rw [hLl]; exact hj)
            rw [List.getElem_map] at this
            rw [getD_at _ (show j < J2.length by omega)]
            exact this
          have HN : Aside (J2.length = N) := hN
          have HLl : Aside ((J2.map pth).length = N) := hLl
          have HJ0 : Aside (J2 ≠ []) := hJ0
          have HT : Aside (lT J s = tC (cJ J) s 0) := hT
          have HW : Aside (∀ (j : Nat) (hj : j < N) (V : World), KR w m r k (tC (cJ J) s 0) (.slice (some ⟨gb, 0, none⟩) N cp) (J2.map pth) V → V.cell? ⟨gb, j, none⟩ = some (tx (pth (J2.getD j 0)))) := hrd
          clear hrd hT hJ0 hLl hN hcl
          go_upto_if 86 with fail
          go_cut [14] (fun s14 wc => ∃ K : Nat, K < N ∧ s14 = .int .i64 K ∧ wc = wr)
          case first =>
            as_aux_lemma =>
              by_cases h0 : len = 0
              · subst h0
                go_wp2_with fail
                go_meet
                case rel => exact ⟨0, hN0, rfl, rfl⟩
              · have h0' : (0 : Int) < (len : Int) := by omega
                obtain ⟨mm, hmm⟩ : ∃ mm : Nat, i % len = mm := ⟨_, rfl⟩
                have hml1 : mm < len := by rw [← hmm]; exact Nat.mod_lt _ (by omega)
                have hml' : (mm : Int) < (len : Int) := by omega
                have hp0 : 0 < len := by omega
                rcases HQ0.out with hq2 | ⟨blk, off, rfl, hbl, hc⟩
                · exact absurd hq2 h0
                have hcm : wr.cell? ⟨blk, off + mm, none⟩ = some (.int .i64 (q mm)) := by rw [World.cell?_of_block (w := w) (a := ⟨blk, off + mm, none⟩) (hK.bel.block blk hbl)]; exact hc mm hml1
                generalize q mm = Z at *
                have hpk := fun V => ppick_any V Z N (by omega) (by omega)
                clear hc hK hL HM2 hm hg hml hi0 hz0 hz1 hz2 h1 hs h2' HI HG HK HN HLl HJ0 HT HW hkk hi20 hN20 HQ0
                go_wp2_with (first
                  | (refine wpList_remn rfl (.tmp 88) (.tmp 90) _ rfl i len mm rfl rfl hp0 hmm ?_; clear hmm hp0)
                  | (go_at_call 14; refine (hpk _).mono ?_; rintro e w9 ⟨K, rfl, hK, h9⟩; subst w9))
                go_meet
                case rel => exact ⟨K, hK, rfl, rfl⟩
          case rest =>
            obtain ⟨K, hKN, rfl, hwc⟩ := hcut
            subst wc
            have hat : ∀ j, j < N → J2.getD j 0 ∈ J := fun j hj => by
              have := HN.out
              rw [getD_at 0 (show j < J2.length by omega)]
              exact hL.at _
            have hFd := fun (j : Nat) (hj : j < N) V (h : KR w m r k (tC (cJ J) s 0) (.slice (some ⟨gb, 0, none⟩) N cp) (J2.map pth) V) => h.findOne hL.lt (hat j hj)
            have HF : Aside (∀ (j : Nat) (hj : j < N) V (h : KR w m r k (tC (cJ J) s 0) (.slice (some ⟨gb, 0, none⟩) N cp) (J2.map pth) V), Calls Tryz.prog 17 #[wp r, tx (pth (J2.getD j 0))] V fun e w' => e = .returned (.tuple #[.int .i64 1, .nilIface]) ∧ KR w m r k (tC (cJ J) s 0) (.slice (some ⟨gb, 0, none⟩) N cp) (J2.map pth) w') := hFd
            have HA : Aside (∀ j, j < N → J2.getD j 0 ∈ J) := hat
            clear hFd hat
            obtain ⟨G, hG⟩ : ∃ G, gk = G := ⟨_, rfl⟩
            have HGG : Aside (gk = G) := hG
            have HR : Aside (KR w m r k (tC (cJ J) s 0) (.slice (some ⟨gb, 0, none⟩) N cp) (J2.map pth) wr) := hK
            clear hG
            go_wp2_with fail
            go_loopg [15, 16, 17] N (fun g s15 _ _ wx => ∃ (j : Nat), Aside (j + g = N) ∧ s15 = .int .i64 (j : Int) ∧ KR w m r k (tC (cJ J) s 0) (.slice (some ⟨gb, 0, none⟩) N cp) (J2.map pth) wx)
            case atStart => exact ⟨0, (show 0 + N = N by omega), rfl, HR.out⟩
            case round =>
              clear hK HR
              obtain ⟨j, HJ, rfl, hK⟩ := hrel
              by_cases hlt : (j : Int) < (N : Int)
              · have hc := HW.out j (by omega) _ hK
                have hFd := HF.out j (by omega) _ hK
                generalize J2.getD j 0 = y at *
                go_wp2_with (go_at_call 17; refine hFd.mono ?_; rintro e w7 ⟨rfl, k7⟩)
                go_roundg (gk - 1)
                case measure => have := HJ.out; omega
                case rel => exact ⟨j + 1, (show j + 1 + (gk - 1) = N by have := HJ.out; omega), by go_num, k7⟩
              · have hc := HW.out K hKN _ hK
                have hRd := hK.readAll (by omega)
                have hy20 : J2.getD K 0 < 20 := hL.lt _ (HA.out K hKN)
                have hUn := fun V (h : KR w m r k (tC (cJ J) s 0) (.slice (some ⟨gb, 0, none⟩) N cp) (J2.map pth) V) => h.unlinkOne (by omega) hL.lt (HA.out K hKN)
                have hrk := fun V h => HW.out K hKN V h
                have hLc := hL.cut (k := K) (by have := HN.out; omega)
                rw [← getD_at 0 (show K < J2.length by have := HN.out; omega)] at hLc
                have HL2 : Aside (LJ (J.filter (fun i => i != J2.getD K 0)) (J2.take K ++ J2.drop (K + 1))) := hLc
                have hAg := fun k' V v (h : KR w m r k' (lT (J.filter (fun i => i != J2.getD K 0)) s) v (J2.map pth) V) (hk : k' ≤ 900) => h.again hk (j := J2.getD K 0) hLc.lt hy20 (by simp)
                clear hLc HF HW
                have hKl : (K : Int) < (N : Int) := by omega
                have HLT : Aside (K < N) := hKN
                clear hKN hL hkk hy20
                generalize J2.getD K 0 = y at *
                generalize J.filter (fun i => i != y) = J3 at *
                go_upto_region 35 with (go_at_call 18; refine hRd.mono ?_; rintro e w7 ⟨rfl, k7⟩)
                have hc7 := hrk _ k7
                have hU7 := hUn _ k7
                clear hRd hUn hrk hc
                have hc8 : ∀ (V : World) (k' : Nat) (T : Wd), KR w m r k' T (.slice (some ⟨gb, 0, none⟩) N cp) (J2.map pth) V → V.cell? ⟨gb, K, none⟩ = some (tx (pth y)) := fun V k' T h => by
                  obtain ⟨g', c', hv', _, hc'⟩ := (h.row.at).resolve_left (fun e => HJ0.out (by simpa using e))
                  cases hv'
                  obtain ⟨g2, c2, hv2, _, hc2⟩ := (k7.row.at).resolve_left (fun e => HJ0.out (by simpa using e))
                  cases hv2
                  have e1 := hc' K (by rw [HLl.out]; exact HLT.out)
                  have e2 := hc2 K (by rw [HLl.out]; exact HLT.out)
                  rw [e1, ← e2, hc7]
                go_upto_region 37 with (first
                  | (go_at_call 19; refine hU8.mono ?_; rintro e w9 ⟨rfl, k9⟩)
                  | (go_at_call 19; refine hU7.mono ?_; rintro e w8 ⟨rfl, k8⟩; have hc9 := hc8 _ _ _ k8; have hU8 := hAg _ _ _ k8 (by have := HK.out; omega)))
                clear hc8 hc9 hU7 hU8 hAg hc7 k7 k8
                have k9r := k9.row
                rw [← HLl.out] at k9r
                obtain ⟨k1, ad3, c⟩ := cut_text k9r k9.bel.size (by rw [HLl.out]; omega) (show K < (J2.map pth).length by rw [HLl.out]; exact HLT.out)
                have hs1 := c.s1
                have hs2 := c.s2
                have hw1 := c.w1
                have hw2 := c.w2
                rw [HLl.out] at hs1 hs2
                clear k9r
                have HC : Aside (CutT w9 w.heap.size gb cp (J2.map pth) K k1 ad3) := c
                have HLe := HLl.out
                have hmap : (J2.map pth).length - k1 = N - k1 := by rw [HLe]
                have co := c.own
                have cc1 := c.c1
                have cc2 := c.c2
                have cl1 := c.l1
                have cl2 := c.l2
                have cb := c.b
                have cm1 := c.m1
                have cy1 := c.y1
                have cm2 := c.m2
                have cy2 := c.y2
                rw [hmap] at cl2 cm2 cy2
                have HX : Aside (∀ (W w5 w6 : World) (v5 v6 : Value), BegunT w9 W → W.grownBy w5 (some w9.heap.size) → (v5.ownBlock = some w9.heap.size ∨ v5.ownBlock = some W.heap.size) → w6.ownsRow w.heap.size 9 1 v6 (0 + K + (N - k1)) ([] ++ ((J2.map pth).take K).map encStr ++ ((J2.map pth).drop k1).map encStr) → w5.grownBy w6 v5.ownBlock → (v6.ownBlock = v5.ownBlock ∨ v6.ownBlock = some w5.heap.size) → KR w m r (k + 1 + 1) (lT J3 s) v6 ((J2.take K ++ J2.drop (K + 1)).map pth) w6) := fun W w5 w6 v5 v6 hW g5 h5 o6 g6 h6 => by
                  rw [← hmap] at o6
                  obtain ⟨g, hb, hv⟩ := c.got hW (by rw [HLe]; exact HLT.out) g5 h5 o6 g6 h6
                  rw [pth_cut] at hb
                  exact k9.relist g hb hv
                have HEN : Aside ((J2.take K ++ J2.drop (K + 1)).length = N - 1) := show (J2.take K ++ J2.drop (K + 1)).length = N - 1 by
                  have h1 := HN.out
                  have h2 := HLT.out
                  rw [List.length_append, List.length_take, List.length_drop]; omega
                have cn1 := enc_one ((J2.map pth).take K)
                have cn2 := enc_one ((J2.map pth).drop k1)
                clear c hmap HLe k9 HJ
                generalize ((J2.map pth).take K).map encStr = A1 at *
                generalize ((J2.map pth).drop k1).map encStr = A2 at *
                go_region_held3 (fun _ => True) (trivial) (first
                  | (refine step_append_text rfl (.tmp 148) (.tmp 151) 45 rfl w.heap.size 9 i0 (.string ⟨#[]⟩) 1 16 Tryz.underlying45 hi0 hz0 hz1 hz2 rfl (by decide) (.slice (some ⟨w9.heap.size, 0, none⟩) 0 0) 0 [] (by simp [Act.eval]) (co _ ⟨by rfl, by rfl, by rfl, by rfl⟩) ⟨gb, 0, none⟩ K cp A1 (by simp [Act.eval]) cl1 (cc1 _ ⟨by rfl, by rfl, by rfl, by rfl⟩) cn1 cm1 cy1 (cb _ ⟨by rfl, by rfl, by rfl, by rfl⟩) ?_; intro v10 w10 ho10 hg10 hv10)
                  | (refine step_append_text rfl (.tmp 152) (.tmp 156) 45 rfl w.heap.size 9 i0 (.string ⟨#[]⟩) 1 16 Tryz.underlying45 hi0 hz0 hz1 hz2 rfl (by decide) v10 (0 + K) _ (by simp [Act.eval]) ho10 ad3 (N - k1) (cp - k1) A2 (by simp [Act.eval]) cl2 (cc2 _ _ ⟨by rfl, by rfl, by rfl, by rfl⟩ hg10) cn2 cm2 cy2 (Nat.le_trans (cb _ ⟨by rfl, by rfl, by rfl, by rfl⟩) hg10.size) ?_; intro v11 w11 ho11 hg11 hv11))
                all_goals
                  have k11 := HX.out _ _ _ _ _ ⟨by rfl, by rfl, by rfl, by rfl⟩ hg10 hv10 ho11 hg11 hv11
                  go_wp2_with fail
                  go_roundg (G - 1)
                  case measure => have := HGG.out; have := HG.out; have := HN.out; omega
                  case rel => exact ⟨i + 1, k + 1 + 1, J3, J2.take K ++ J2.drop (K + 1), (show i + 1 + (G - 1) = M by have := HGG.out; have := HG.out; have := HN.out; have := HI.out; omega), (show G - 1 = (J2.take K ++ J2.drop (K + 1)).length by have := HGG.out; have := HG.out; have := HN.out; have := HEN.out; omega), by go_num, HL2.out, (show k + 1 + 1 + 2 * (G - 1) ≤ 70 by have := HGG.out; have := HG.out; have := HN.out; have := HK.out; omega), k11⟩
end Go.Proofs.YtpibokijbidgdabGreatDoor

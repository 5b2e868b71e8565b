/- ProcParents: the walk of its Go text. -/
import Derived.Test.YtidinhbokkelnacDoorJKeep
import Derived.Test.YtidinhbokkelnacDoorTell
namespace Go.Proofs.YtidinhbokkelnacDoor
open Go.RowKit Go.Maps Go.Sort

/-- One item of the script. -/
structure LItem where
  what : Int
  pid : Int
  n : Int
/-- The items lie in the argument's array. -/
def LScript (w : World) (ad : Option Addr) (len : Nat) (q : Nat → LItem) : Prop :=
  len = 0 ∨ ∃ blk off, ad = some ⟨blk, off, none⟩ ∧ blk < w.heap.size ∧ ∀ i, i < len →
    w.cell? ⟨blk, off + i * 3, none⟩ = some (.int .i64 (q i).what) ∧ w.cell? ⟨blk, off + i * 3 + 1, none⟩ = some (.int .i64 (q i).pid) ∧ w.cell? ⟨blk, off + i * 3 + 2, none⟩ = some (.int .i64 (q i).n) ∧ (Lit.int .i64 (q i).pid).wf = true
set_option maxRecDepth 100000 in
set_option maxHeartbeats 1000000 in
theorem jparents_long (ad : Option Addr) (len cap : Nat) (w : World) (h : 60 < len) :
    Calls Tryd.prog 3 #[.slice ad len cap] w fun e w' => e = .returned (.bool true) ∧ Below w.heap.size w w' := by
  have h1 : (60 : Int) < (len : Int) := by omega
  go_enter Tryd.func3, Tryd.ntmps3
  go_wp2_with fail
  go_ret
  exact ⟨rfl, Below.refl _ _⟩
section
variable {w0 w w' : World} {t g : Nat} {P : Ps}
theorem TJ.one (h : TJ w0 t g w P) : Calls Tryd.prog 11 #[wp t, .int .i64 1] w fun e w' => e = .returned .nilIface ∧ TJ w0 t g w' P ∧ Below w.heap.size w w' := by
  obtain ⟨p1, e1, s1, _⟩ := h.a.ok.one
  have := h.runs 1 (by decide)
  rw [runsJ_iff.2 ⟨p1, e1, s1⟩, if_pos rfl, uev_zero] at this
  exact this
theorem TJ.par1 (h : TJ w0 t g w P) : Calls Tryd.prog 12 #[wp t, .int .i64 1] w fun e w' => e = .returned (.int .i64 0) ∧ TJ w0 t g w' P ∧ Below w.heap.size w w' := by
  obtain ⟨p1, e1, s1, q1⟩ := h.a.ok.one
  have := h.parent 1 (by decide)
  rw [parJ_some e1, q1] at this
  exact this
/-- Whose one is: one that runs. -/
theorem TJ.parN (h : TJ w0 t g w P) {n : Int} (hn : n ∈ pidsJ P) (h1 : n ≠ 1) : ∃ m, Calls Tryd.prog 12 #[wp t, .int .i64 n] w (fun e w' => e = .returned (.int .i64 m) ∧ TJ w0 t g w' P ∧ Below w.heap.size w w') ∧ ∀ V, TJ w0 t g V P → Calls Tryd.prog 11 #[wp t, .int .i64 m] V (fun e w' => e = .returned .nilIface ∧ TJ w0 t g w' P ∧ Below V.heap.size V w') := by
  obtain ⟨q, hq⟩ := Option.isSome_iff_exists.1 (h.a.ok.pids.1 hn)
  have hk := h.a.key n q hq
  have hp := h.parent n (wf64 (by omega))
  rw [parJ_some hq] at hp
  refine ⟨q.parent, hp, fun V S => ?_⟩
  have hr := (h.a.ok.par n q hq h1).1
  obtain ⟨r, hr2, _⟩ := runsJ_iff.1 hr
  have hk2 := h.a.key _ r hr2
  have := S.runs q.parent (wf64 (by omega))
  rw [hr, if_pos rfl, uev_zero] at this
  exact this
end
set_option maxRecDepth 100000 in
set_option maxHeartbeats 16000000 in
theorem jparents_short (ad : Option Addr) (len cap : Nat) (q : Nat → LItem) (w : World) (h1 : len ≤ 60) (hsc : LScript w ad len q) (hg : w.cell? ⟨0, 0, none⟩ = some errT) (hT : Tab64 w) :
    Calls Tryd.prog 3 #[.slice ad len cap] w fun e w' => e = .returned (.bool true) ∧ Below w.heap.size w w' := by
  have h1' : ¬ (60 : Int) < (len : Int) := by omega
  have hgl : 0 < w.heap.size := World.block_lt_of_cell? w _ hg
  have hgw : ∀ w', Below w.heap.size w w' → w'.cell? ⟨0, 0, none⟩ = some errT := fun w' h => by rw [h.cell (p := ⟨0, 0, none⟩) hgl]; exact hg
  have hN := fun V hV => TJ.new w V hV
  have hF := forked_ok w
  have hne := tableJ_ne
  have HGW : Aside _ := hgw
  have HTT : Aside (Tab64 w) := hT
  clear hgw hT hg
  go_enter Tryd.func3, Tryd.ntmps3
  go_wp2_with (first
    | (go_at_call 5; refine hF.mono ?_; rintro e w1 ⟨rfl, hb1⟩)
    | (go_at_call 6; refine (hN _ hb1).mono ?_; rintro e w2 ⟨t, g, rfl, hJ⟩))
  clear hN hF
  go_loopg [4] len (fun k s4 wr => ∃ (j : Nat) (P : Ps), j + k = len ∧ s4 = .int .i64 j ∧ TJ w t g wr P)
  case atStart => exact ⟨0, firstJ, by omega, rfl, hJ⟩
  case round =>
    clear hJ
    obtain ⟨j, P, hj, rfl, hJ⟩ := hrel
    obtain ⟨G0, hG0⟩ : ∃ G0, gk = G0 := ⟨_, rfl⟩
    by_cases hlt : (j : Int) < (len : Int)
    · rcases hsc with h0 | ⟨blk, off, rfl, hbl, hss⟩
      · exfalso; omega
      obtain ⟨c0, c1, c2, hwf⟩ := hss j (by omega)
      clear hss
      generalize (q j).what = W at *
      generalize (q j).pid = X at *
      generalize (q j).n = Y at *
      have HIT : Aside (∀ V, Below w.heap.size w V → V.cell? ⟨blk, off + j * 3, none⟩ = some (.int .i64 W) ∧ V.cell? ⟨blk, off + j * 3 + 1, none⟩ = some (.int .i64 X) ∧ V.cell? ⟨blk, off + j * 3 + 2, none⟩ = some (.int .i64 Y)) := fun V hV => by
        rw [hV.cell (p := ⟨blk, off + j * 3, none⟩) hbl, hV.cell (p := ⟨blk, off + j * 3 + 1, none⟩) hbl, hV.cell (p := ⟨blk, off + j * 3 + 2, none⟩) hbl]
        exact ⟨c0, c1, c2⟩
      clear c0 c1 c2
      have hP := hJ.pids
      go_upto_region 12 with (go_at_call 7; refine hP.mono ?_; rintro e w5 ⟨b, cp, rfl, hcp, hbg, hli, S1, b1⟩)
      obtain ⟨c0, c1, c2⟩ := HIT.out _ S1.bel
      have hL := S1.life HTT.out W X Y hwf
      clear hP
      go_upto_region 13 with (go_at_call 8; refine hL.mono ?_; rintro e w6 ⟨E, P', rfl, hE, S2, hw2⟩)
      have hli2 := hli.wt hbg hw2
      have hP2 := S2.pids
      clear hL c0 c1 c2 hli b1
      have hlen := pidsJ_len P
      have hlen2 := pidsJ_len P'
      have h1m : (1 : Int) ∈ pidsJ P' := by
        obtain ⟨p1, e1, _⟩ := S2.a.ok.one
        exact S2.a.ok.pids.2 (by rw [e1]; rfl)
      have hl24 : ¬ (24 : Int) < ((pidsJ P').length : Int) := by omega
      go_upto_region 14 with (go_at_call 7; refine hP2.mono ?_; rintro e w7 ⟨b2, cp2, rfl, hcp2, hbg2, hlj, S3, b3⟩)
      have hli3 := hli2.below b3
      have hCo := fun V (hV : Below w7.heap.size w7 V) => containsJ_ok (cap := cp2) (by omega) (hlj.below hV) 1 h1m
      have hl24b : decide ((24 : Int) < ((pidsJ P').length : Int)) = false := by simpa using hl24
      have hR1 := fun V (S : TJ w t g V P') => S.one
      go_cut [6, 67] (fun _ s67 wc => s67 = .bool false ∧ TJ w t g wc P' ∧ Below w7.heap.size w7 wc)
      case first =>
        by_cases hE0 : E = 0
        · subst hE0
          rw [uev_zero]
          clear hE hli3 hli2
          go_wp2_with (first
            | (go_at_call 10; refine (hCo _ (Below.refl _ _)).mono ?_; rintro e w8 ⟨rfl, hw8⟩; subst w8)
            | (go_at_call 11; refine (hR1 _ S3).mono ?_; rintro e w9 ⟨rfl, S4, b4⟩))
          go_meet
          case rel => exact ⟨by first | rfl | rw [hl24b], S4, b4⟩
        · rw [uev_ne hE0]
          have hEq : Calls Tryd.prog 9 #[.slice (some ⟨b, 0, none⟩) (pidsJ P).length cp, .slice (some ⟨b2, 0, none⟩) (pidsJ P').length cp2] w7 fun e w' => e = .returned (.bool true) ∧ Below w7.heap.size w7 w' := by
            rw [hE hE0]
            exact equalJ_ok (by omega) hli3 (by rw [← hE hE0]; exact hlj)
          clear hE hli3 hli2
          go_wp2_with (first
            | (go_at_call 9; refine hEq.mono ?_; rintro e w8 ⟨rfl, b8⟩; have S5 := S3.stay b8)
            | (go_at_call 10; refine (hCo _ b8).mono ?_; rintro e w9 ⟨rfl, hw9⟩; subst w9)
            | (go_at_call 11; refine (hR1 _ S5).mono ?_; rintro e w10 ⟨rfl, S4, b4⟩))
          go_meet
          case rel => exact ⟨by first | rfl | rw [hl24b], S4, b8.trans (b4.mono b8.size)⟩
      case rest =>
        clear hCo hR1 hE hli2 hli3 hP2 hl24 hl24b h1m
        obtain ⟨rfl, S4, b4⟩ := hcut
        have hlj2 := hlj.below b4
        clear hlj S3 b3
        generalize wc = wB at *
        generalize hLL : pidsJ P' = L at *
        have HLL : Aside (pidsJ P' = L) := hLL
        clear hLL
        go_wp2_with fail
        go_loopg [8, 9] L.length (fun mm s8 _ wr => ∃ i : Nat, i + mm = L.length ∧ s8 = .int .i64 (i : Int) ∧ TJ w t g wr P' ∧ Below wB.heap.size wB wr)
        case atStart => exact ⟨0, by omega, rfl, S4, Below.refl _ _⟩
        case round =>
          clear S4
          obtain ⟨i, hi, rfl, S4, b5⟩ := hrel
          obtain ⟨G1, hG1⟩ : ∃ G1, gk = G1 := ⟨_, rfl⟩
          by_cases hil : (i : Int) < (L.length : Int)
          · have hiL : i < L.length := by omega
            have cb : wr.cell? ⟨b2, i, none⟩ = some (.int .i64 L[i]) := (hlj2.below b5).2 i hiL
            have hmem : L[i] ∈ pidsJ P' := by rw [HLL.out]; exact List.getElem_mem hiL
            have hcap' : (i : Int) < (cp2 : Int) := by omega
            generalize L[i] = N at *
            by_cases hN1 : N = 1
            · subst hN1
              have hPa := S4.par1
              go_wp2_with (go_at_call 12; refine hPa.mono ?_; rintro e w8 ⟨rfl, S5, b8⟩)
              go_roundg (G1 - 1)
              case measure => omega
              case rel => exact ⟨i + 1, by omega, by go_num, S5, b5.trans (b8.mono b5.size)⟩
            · have hNb : (N == 1) = false := by simpa using hN1
              obtain ⟨m, hPa, hRu⟩ := S4.parN hmem hN1
              go_wp2_with (first
                | (go_at_call 12; refine hPa.mono ?_; rintro e w8 ⟨rfl, S5, b8⟩)
                | (go_at_call 11; refine (hRu _ S5).mono ?_; rintro e w9 ⟨rfl, S6, b9⟩))
              go_roundg (G1 - 1)
              case measure => omega
              case rel => exact ⟨i + 1, by omega, by go_num, S6, (b5.trans (b8.mono b5.size)).trans (b9.mono (Nat.le_trans b5.size b8.size))⟩
          · go_wp2_with fail
            go_roundg (G0 - 1)
            case measure => omega
            case rel => exact ⟨j + 1, P', by omega, by go_num, S4⟩
    · have hP := hJ.pids
      have hpl := pidsJ_len P
      have hone := pids_one hJ.a.ok
      clear hsc
      go_wp2_with (go_at_call 7; refine hP.mono ?_; rintro e w5 ⟨b, cp, rfl, hcp, hbg, hli, S1, b1⟩)
      clear hP hJ b1
      have hris := pidsJ_rising P
      have hpos : ∀ x ∈ pidsJ P, (0 : Int) < x := fun x hx => by
        obtain ⟨r, hr⟩ := Option.isSome_iff_exists.1 (S1.a.ok.pids.1 hx)
        have := S1.a.key x r hr; omega
      generalize hLL : pidsJ P = L at *
      obtain ⟨R, hR⟩ := hone
      have hl1 : 1 ≤ L.length := by rw [hR]; simp
      have HPO : Aside _ := hpos
      have HRI : Aside _ := hris
      have HRR : Aside (L = 1 :: R) := hR
      clear hpos hris hR
      go_loopg [11, 12] L.length (fun mm s11 _ wr => ∃ (i : Nat) (P' : Ps), i + mm = L.length ∧ s11 = .int .i64 (i : Int) ∧ Aside (pidsJ P' = L) ∧ TJ w t g wr P' ∧ Li wr b L ∧ Aside (∀ j (hj : j < L.length), j < i → L[j] ≠ 1 → stJ P' L[j] = 2))
      case atStart => exact ⟨0, P, by omega, rfl, hLL, S1, hli, fun j _ hj => by omega⟩
      case round =>
        clear S1 hli hLL P
        obtain ⟨i, P, hi, rfl, HLP, S1, hli, HD⟩ := hrel
        obtain ⟨G1, hG1⟩ : ∃ G1, gk = G1 := ⟨_, rfl⟩
        by_cases hil : (i : Int) < (L.length : Int)
        · have hiL : i < L.length := by omega
          have cb := hli.2 i hiL
          have hmem : L[i] ∈ pidsJ P := by rw [HLP.out]; exact List.getElem_mem hiL
          have hcap' : (i : Int) < (cp : Int) := by omega
          have HND : Aside L.Nodup := by rw [← HLP.out]; exact pidsJ_nodup P
          have HNX : Aside (∀ P', (L[i] ≠ 1 → stJ P' L[i] = 2) → (∀ n, n ≠ L[i] → stJ P' n = stJ P n) → ∀ j (hj : j < L.length), j < i + 1 → L[j] ≠ 1 → stJ P' L[j] = 2) := fun P' a1 a2 j hj hji hj1 => by
            by_cases e : j = i
            · subst e; exact a1 hj1
            · rw [a2 _ (fun z => e ((List.getElem_inj HND.out).1 z))]
              exact HD.out j hj (by omega) hj1
          generalize hNN : L[i] = N at *
          clear hNN
          by_cases hN1 : N = 1
          · subst hN1
            go_wp2_with fail
            go_roundg (G1 - 1)
            case measure => omega
            case rel => exact ⟨i + 1, P, by omega, by go_num, HLP, S1, hli, HNX.out P (fun z => absurd rfl z) (fun _ _ => rfl)⟩
          · have hNb : (N == 1) = false := by simpa using hN1
            obtain ⟨qn, hqn⟩ := Option.isSome_iff_exists.1 (S1.a.ok.pids.1 hmem)
            have hk := S1.a.key N qn hqn
            have hRu := S1.runs N (wf64 (by omega))
            cases hru : runsJ P N with
            | true =>
              rw [hru, if_pos rfl, uev_zero] at hRu
              have hE : exitE P N = 0 := by unfold exitE; rw [if_neg (by rw [hru]; simp), if_neg hN1]
              have hX := fun V (S : TJ w t g V P) => S.exit N 0 (wf64 (by omega))
              simp only [hE, uev_zero, if_true] at hX
              have a1 : stJ (exitP P N 0) N = 2 := by rw [exitP_st, if_pos ⟨rfl, by rw [hqn]; rfl⟩]
              have a2 : ∀ n, n ≠ N → stJ (exitP P N 0) n = stJ P n := fun n hn => by rw [exitP_st, if_neg (fun z => hn z.1)]
              have HLP2 : Aside (pidsJ (exitP P N 0) = L) := by rw [exit_same]; exact HLP.out
              have HF := HNX.out (exitP P N 0) (fun _ => a1) a2
              have HFF : Aside _ := HF
              clear HF a1 a2 hE hru hmem hqn
              generalize exitP P N 0 = P2 at *
              go_wp2_with (first
                | (go_at_call 11; refine hRu.mono ?_; rintro e w8 ⟨rfl, S5, b8⟩)
                | (go_at_call 13; refine (hX _ S5).mono ?_; rintro e w9 ⟨rfl, S6, hw9⟩))
              go_roundg (G1 - 1)
              case measure => omega
              case rel => exact ⟨i + 1, P2, by omega, by go_num, HLP2, S6, (hli.below b8).wt hbg hw9, HFF.out⟩
            | false =>
              rw [hru, if_neg (by simp), uev_ne (by omega)] at hRu
              have a1 : stJ P N = 2 := by
                have h5 := S1.a.ok.st N qn hqn
                unfold runsJ at hru
                rw [stJ_some hqn] at hru ⊢
                simp only [decide_eq_false_iff_not] at hru
                omega
              have HF := HNX.out P (fun _ => a1) (fun _ _ => rfl)
              have HFF : Aside _ := HF
              clear HF a1 hru hmem hqn
              go_wp2_with (go_at_call 11; refine hRu.mono ?_; rintro e w8 ⟨rfl, S5, b8⟩)
              go_roundg (G1 - 1)
              case measure => omega
              case rel => exact ⟨i + 1, P, by omega, by go_num, HLP, S5, hli.below b8, HFF.out⟩
        · have hdead : AllDead P := AllDead.of S1.a.ok (fun n p e hn => by
            have hm : n ∈ L := by rw [← HLP.out]; exact S1.a.ok.pids.2 (by rw [e]; rfl)
            obtain ⟨jx, hjx, e2⟩ := List.getElem_of_mem hm
            have := HD.out jx hjx (by omega) (by rw [e2]; exact hn)
            rw [e2, stJ_some e] at this
            exact this)
          have HDE : Aside (AllDead P) := hdead
          have hl1' : (1 : Int) ≤ (L.length : Int) := by omega
          clear HD hdead hli
          go_wp2_with fail
          go_loopg [13, 14, 15, 16, 17] (L.length - 1) (fun mm s13 s14 _ _ _ wr => ∃ (i : Nat) (last : Int) (P' : Ps), 1 ≤ i ∧ i + mm = L.length ∧ s14 = .int .i64 (i : Int) ∧ s13 = .int .i64 last ∧ TJ w t g wr P' ∧ Aside (AllDead P') ∧ Aside (pidsJ P' = 1 :: L.drop i) ∧ Aside (∀ x ∈ L.drop i, last < x))
          case atStart => exact ⟨1, 0, P, by omega, by omega, rfl, rfl, S1, HDE, by rw [HLP.out, HRR.out]; rfl, fun x hx => HPO.out x (List.mem_of_mem_drop hx)⟩
          case round =>
            clear S1 HDE HLP P
            obtain ⟨k, last, P, hk1, hk, rfl, rfl, S1, HDE, HPP, HLA⟩ := hrel
            obtain ⟨G2, hG2⟩ : ∃ G2, gk = G2 := ⟨_, rfl⟩
            by_cases hkl : (k : Int) < (L.length : Int)
            · have hkL : k < L.length := by omega
              have hdr : L.drop k = L[k] :: L.drop (k + 1) := List.drop_eq_getElem_cons hkL
              have hpp := HPP.out
              rw [hdr] at hpp
              obtain ⟨n1, n2, n3, n4⟩ := wait_next S1.a.ok HDE.out hpp
              have hW := S1.wait 1 (by decide)
              rw [n1, n2, uev_zero] at hW
              have hla : last < L[k] := HLA.out _ (by rw [hdr]; exact List.mem_cons_self)
              have hla2 : ¬ L[k] ≤ last := by omega
              have HL2 : Aside (∀ x ∈ L.drop (k + 1), L[k] < x) := fun x hx => by
                have h5 : (L.drop k).Pairwise (· < ·) := HRI.out.sublist (List.drop_sublist _ _)
                rw [hdr] at h5
                exact (List.pairwise_cons.1 h5).1 x hx
              have HP3 : Aside (pidsJ (waitO P 1).2.2.2 = 1 :: L.drop (k + 1)) := n3
              have HD3 : Aside (AllDead (waitO P 1).2.2.2) := n4
              clear n1 n2 n3 n4 hpp hdr hla
              generalize (waitO P 1).2.2.2 = P2 at *
              generalize (waitO P 1).2.1 = cd at *
              generalize L[k] = N at *
              go_wp2_with (go_at_call 14; refine hW.mono ?_; rintro e w8 ⟨rfl, S5, hw8⟩)
              go_roundg (G2 - 1)
              case measure => omega
              case rel => exact ⟨k + 1, N, P2, by omega, by omega, by go_num, rfl, S5, HD3, HP3, HL2⟩
            · have hke : L.drop k = [] := List.drop_eq_nil_of_le (by omega)
              have hpp := HPP.out
              rw [hke] at hpp
              obtain ⟨n1, n2⟩ := wait_last S1.a.ok hpp
              have hW := S1.wait 1 (by decide)
              rw [n1, uev_ne (by omega)] at hW
              have hPd := fun V (S : TJ w t g V (waitO P 1).2.2.2) => S.pids
              rw [n2] at hPd
              clear n1 n2 hpp hke
              generalize (waitO P 1).2.2.2 = P2 at *
              generalize (waitO P 1).2.1 = cd at *
              generalize (waitO P 1).1 = kk at *
              have hTe := fun V (S : TJ w t g V P2) => tell_eno 8 V (HGW.out V S.bel)
              go_wp2_with (first
                | (go_at_call 14; refine hW.mono ?_; rintro e w8 ⟨rfl, S5, hw8⟩)
                | (go_at_call 15; refine (hTe _ S5).mono ?_; rintro e w9 ⟨rfl, b9⟩; have S6 := S5.stay b9)
                | (go_at_call 7; refine (hPd _ S6).mono ?_; rintro e w10 ⟨bb, cc, rfl, _, _, _, S7, _⟩))
              go_ret
              exact ⟨rfl, S7.bel⟩
end Go.Proofs.YtidinhbokkelnacDoor

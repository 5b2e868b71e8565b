/- The statements' own 'paths', by its Go text: all paths that there are, in order, and where they lead. -/
import Derived.Test.YtpibokijbidgdabDoorYCalls
import Derived.Deep.RegionHeld3
import Derived.Deep.LoopGhost
import Derived.Outline
namespace Go.Proofs.YtpibokijbidgdabDoor
open Go.RowKit Go.Maps Go.Shelf

theorem new_one (w : World) (x : Nm) : TxR (w.alloc (.cells #[tx x] 9)) w.heap.size (.slice (some ⟨w.heap.size, 0, none⟩) 1 1) [x] := by
  unfold TxR
  refine ⟨rfl, .inr ⟨w.heap.size, 1, #[tx x], rfl, Nat.le_refl _, ?_, Nat.le_refl _, by decide, rfl, rfl⟩⟩
  show (w.heap.push _)[w.heap.size]? = _
  rw [Array.getElem?_push, if_pos rfl]
theorem way_ok {T : Wd} (hT : Tr1 T) {l : List Nm} {n : Int} (h : Way T 0 l n) : ∀ x ∈ l, NmOk x := by
  have key : ∀ {a : Int} {l : List Nm} {n : Int}, Way T a l n → ∀ x ∈ l, NmOk x := by
    intro a l n h
    induction h with
    | here a => intro x hx; cases hx
    | step h1 h2 _ ih =>
      intro x hx
      rcases List.mem_cons.1 hx with rfl | hx
      · have hm := lookup_mem h2
        exact ⟨hT.name _ _ _ h1 hm, hT.plain _ _ _ h1 hm⟩
      · exact ih x hx
  exact key h

theorem run_cat {a b c : List UInt8} (h : a ++ b = c) (hl : (a.length : Int) + (b.length : Int) ≤ 100000) (W : World) : (binOp BinOp.add 9 (tx a) (tx b)).run Tryd.prog W = .ok (tx c) W := by
  have e : ((⟨a.toArray⟩ : ByteArray) ++ ⟨b.toArray⟩) = ⟨c.toArray⟩ := by rw [wtext_cat, h]
  have hs1 : (⟨a.toArray⟩ : ByteArray).size = a.length := by simp [ByteArray.size]
  have hs2 : (⟨b.toArray⟩ : ByteArray).size = b.length := by simp [ByteArray.size]
  simp [binOp, Op.stringOp, hs1, hs2, e]
  try omega
theorem pw_first (T : Wd) (f : Nat) (l : List Nm) (n : Int) : ∃ R, pw T (f + 1) l n = (l, n) :: R := ⟨_, by rw [pw]⟩

set_option maxRecDepth 100000 in
set_option maxHeartbeats 8000000 in
theorem paths_ok {w : World} {m : Int} {r k : Nat} {T : Wd} (hT : Tr1 T) (hk : k ≤ 900) (f : Nat) : ∀ (l : List Nm) (n : Int) (w0 : World), KT w m r k T w0 → Way T 0 l n → l.length + f = 66 →
    Calls Tryd.prog 32 #[wp r, tx (ptx l), .int .i64 (l.length : Int)] w0 fun e w' => ∃ v, e = .returned v ∧ TxR w' w0.heap.size v ((pw T f l n).map fm) ∧ Below w0.heap.size w0 w' := by
  induction f with
  | zero => intro l n w0 hK hw hf; have := hT.deep hw; omega
  | succ f ih =>
    intro l n w0 hK hw hf
    have IH : Aside (∀ (l : List Nm) (n : Int) (w0 : World), KT w m r k T w0 → Way T 0 l n → l.length + f = 66 →
      Calls Tryd.prog 32 #[wp r, tx (ptx l), .int .i64 (l.length : Int)] w0 fun e w' => ∃ v, e = .returned v ∧ TxR w' w0.heap.size v ((pw T f l n).map fm) ∧ Below w0.heap.size w0 w') := ih
    clear ih
    have hdeep := hT.deep hw
    have hok := way_ok hT hw
    have hnm := text_names hok
    have hpl := ptx_len hok
    have hkey := hT.key n (hw.isSome hT.toTrOk (by obtain ⟨C, e⟩ := hT.root; rw [e]; rfl))
    have hFd := hK.find1 hnm hw (by omega)
    have hIt := itoa_ok n hkey
    have hd1 : (dgi n).length ≤ 2 := dg_short n.toNat (by omega)
    obtain ⟨P, hP⟩ : ∃ P, ptx l = P := ⟨_, rfl⟩
    obtain ⟨D, hD⟩ : ∃ D, dgi n = D := ⟨_, rfl⟩
    obtain ⟨Q1, hQ1⟩ : ∃ Q1, P ++ [61] = Q1 := ⟨_, rfl⟩
    obtain ⟨Q2, hQ2⟩ : ∃ Q2, P ++ 61 :: D = Q2 := ⟨_, rfl⟩
    have hfm : fm (l, n) = Q2 := by unfold fm; rw [hP, hD, hQ2]
    rw [hP] at hFd hnm hpl ⊢
    rw [hD] at hIt hd1
    have hcat1 : ((⟨P.toArray⟩ : ByteArray) ++ ⟨#[61]⟩) = ⟨Q1.toArray⟩ := by rw [← hQ1]; exact wtext_cat P [61]
    have hcat2 : ((⟨Q1.toArray⟩ : ByteArray) ++ ⟨D.toArray⟩) = ⟨Q2.toArray⟩ := by rw [wtext_cat, ← hQ1, ← hQ2]; simp
    have hs1 : (P.length : Int) + 1 ≤ 1000 := by omega
    have hs2 : (Q1.length : Int) + (D.length : Int) ≤ 1000 := by rw [← hQ1]; simp; omega
    clear hQ1 hQ2
    have hdp : ¬ (100 : Int) < (l.length : Int) := by omega
    have HFM : Aside (fm (l, n) = Q2) := hfm
    have HP : Aside (ptx l = P) := hP
    clear hfm hD
    have hNm : ∀ X : World, Below w0.heap.size w0 X → OutS w0 (X.alloc (.cells #[tx (Q2)] 9)) (.slice (some ⟨X.heap.size, 0, none⟩) 1 1) (.slice none 0 0) [Q2] [] := fun X hX => by
      have h1 : TxR (X.alloc (.cells #[tx (Q2)] 9)) w0.heap.size (.slice (some ⟨X.heap.size, 0, none⟩) 1 1) [Q2] := by
        have := new_one X (Q2)
        unfold TxR at this ⊢
        obtain ⟨hz, hh⟩ := this
        rcases hh with ⟨e1, e2⟩ | ⟨g, cap, cur, e1, hB, rest⟩
        · cases e1
        · exact ⟨hz, .inr ⟨g, cap, cur, e1, Nat.le_trans hX.size hB, rest⟩⟩
      exact ⟨hX.alloc hX.size _, h1, World.ownsRow_nil _ _ _ _, fun i e => by cases e⟩
    by_cases hd : ∃ C, T n = some (.dir C)
    · obtain ⟨C, hC⟩ := hd
      have hLs : ∀ X : World, Below w0.heap.size w0 X → Calls Tryd.prog 37 #[wp r, tx P] X fun e w' => ∃ v, e = .returned (.tuple #[v, .nilIface]) ∧ TxR w' X.heap.size v (listT C) ∧ Below X.heap.size X w' := fun X hX => (hK.below hX).listDir hk hnm hw hC (by omega)
      obtain ⟨N, hN⟩ : ∃ N, (listT C).length = N := ⟨_, rfl⟩
      obtain ⟨g, hg⟩ : ∃ g : Nm → List (List UInt8), g = fun s => (pw T f (l ++ [s]) ((C.lookup s).getD 0)).map fm := ⟨_, rfl⟩
      have hpw : (pw T (f + 1) l n).map fm = Q2 :: (listT C).flatMap g := by
        rw [pw_dir hC, List.map_cons, HFM.out, List.map_flatMap, hg]
      have hfew : (Q2 :: (listT C).flatMap g).length ≤ 60000 := by
        rw [← hpw, List.length_map]
        have := hT.few hK.sm (pw_nodup hT.toTrOk (f + 1) l n) (fun x hx => by
          obtain ⟨r, e1, e2⟩ := pw_sound hT.toTrOk _ _ _ x hx
          rw [e1]; exact hw.app e2)
        omega
      have HPW : Aside ((pw T (f + 1) l n).map fm = Q2 :: (listT C).flatMap g) := hpw
      have HFEW : Aside ((Q2 :: (listT C).flatMap g).length ≤ 60000) := hfew
      have HN : Aside ((listT C).length = N) := hN
      have hN9 : N ≤ 900 := by rw [← hN, listT_len]; have := hK.sm.1 n C hC; omega
      have HST : Aside (∀ (i : Nat), i < N → ∃ s, (listT C).take (i + 1) = (listT C).take i ++ [s] ∧ (∀ X B lv, TxR X B lv (listT C) → ∃ ga c, lv = .slice (some ⟨ga, 0, none⟩) N c ∧ X.cell? ⟨ga, i, none⟩ = some (tx s)) ∧ s.length ≤ 12 ∧ (∃ y r, g s = y :: r) ∧ ∃ A1 : List UInt8, jn l ++ [47] = A1 ∧ (∃ A2 : List UInt8, A1 ++ s = A2 ∧ A1.length ≤ 1000 ∧ ∀ X, Below w0.heap.size w0 X → Calls Tryd.prog 32 #[wp r, tx A2, .int .i64 ((l.length : Int) + 1)] X fun e w' => ∃ v, e = .returned v ∧ TxR w' X.heap.size v (g s) ∧ Below X.heap.size X w')) := by
        show ∀ (i : Nat), i < N → _
        intro i hi
        have hi' : i < (listT C).length := by omega
        have hmem : (listT C)[i] ∈ listT C := List.getElem_mem hi'
        obtain ⟨mm, hmm⟩ := listT_look (hT.nodup n C hC) hmem
        have hw2 := hw.snoc hC hmm
        have hok2 := way_ok hT hw2
        refine ⟨(listT C)[i], by rw [List.take_succ_eq_append_getElem hi'], fun X B lv hX => ?_, (isName_len (hok2 _ (by simp)).1).2, ?_, jn l ++ [47], rfl, ptx (l ++ [(listT C)[i]]), ?_, ?_, fun X hX => ?_⟩
        · rcases hX.at with e | ⟨ga, c, e1, _, e2⟩
          · rw [e] at hi'; cases hi'
          · exact ⟨ga, c, by rw [e1, hN], e2 i hi'⟩
        · rw [hg]
          have : ∃ f', f = f' + 1 := by
            have := hT.deep hw2
            simp at this
            exact ⟨f - 1, by omega⟩
          obtain ⟨f', rfl⟩ := this
          obtain ⟨R, hR⟩ := pw_first T f' (l ++ [(listT C)[i]]) ((C.lookup (listT C)[i]).getD 0)
          exact ⟨_, _, by simp only [hR, List.map_cons]; exact rfl⟩
        · rw [ptx_more]; simp
        · have := jn_len hok; simp; omega
        · have := IH.out (l ++ [(listT C)[i]]) mm X (hK.below hX) hw2 (by simp; omega)
          rw [List.length_append, List.length_singleton] at this
          rw [hg]
          simp only [hmm, Option.getD_some]
          exact this
      have HTR : Aside (∀ X, Calls Tryd.prog 70 #[tx P, .string ⟨#[47]⟩] X fun e w' => e = .returned (tx (jn l)) ∧ w' = X) := fun X => by
        have := trim_ok l hok (by rw [HP.out]; omega) X
        rw [HP.out] at this
        exact this
      have hjl : (jn l).length ≤ 900 := by have := jn_len hok; omega
      have HNM : Aside (∀ X : World, Below w0.heap.size w0 X → OutS w0 (X.alloc (.cells #[tx (Q2)] 9)) (.slice (some ⟨X.heap.size, 0, none⟩) 1 1) (.slice none 0 0) [Q2] []) := hNm
      have hdl : (l.length : Int) ≤ 64 := by omega
      clear hNm hT hK hw hf hok hnm hkey hpl hpw hfew hN hg IH HP
      generalize (pw T (f + 1) l n).map fm = RL at *
      generalize jn l = JL at *
      generalize l.length = dl at *
      obtain ⟨i0, hi0, hz0, hz1, hz2⟩ := info_parts (P := Tryd.prog) (e := 9) (z := .string ⟨#[]⟩) (size := 1) (bytes := 16) (by kernel_rfl)
      go_enter Tryd.func32, Tryd.ntmps32
      go_wp2_with (first
        | (go_at_call 44; refine hFd.mono ?_; rintro e w1 ⟨rfl, b1⟩)
        | (go_at_call 69; refine (hIt _).mono ?_; rintro e w2 ⟨rfl, hw2⟩; subst w2; have O2 := HNM.out _ b1; have hL2 := hLs _ O2.bel)
        | (go_at_call 37; refine hL2.mono ?_; rintro e w3 ⟨lv, rfl, t3, b3⟩; have O3 := O2.below b3; obtain ⟨la, lc, hlv⟩ := t3.shape; rw [HN.out] at hlv; subst hlv))
      have O4 : OutS w0 w3 (.slice (some ⟨w1.heap.size, 0, none⟩) 1 1) (.slice la N lc) (Q2 :: ((listT C).take 0).flatMap g) (listT C) := by
        refine ⟨O3.bel, O3.out, ?_, fun i hi e => ?_⟩
        · unfold TxR at t3 ⊢
          obtain ⟨hz, hh⟩ := t3
          refine ⟨hz, ?_⟩
          rcases hh with hh | ⟨ga, cap, cur, e1, hB, rest⟩
          · exact .inl hh
          · exact .inr ⟨ga, cap, cur, e1, Nat.le_trans O2.bel.size hB, rest⟩
        · have h1 := t3.base hi
          cases e
          simp at h1
          omega
      clear O2 O3 t3 b3 hL2 hLs hFd hIt hcat1 hcat2 hs1 hs2 hd1 HNM b1
      generalize hv0 : Value.slice (some ⟨w1.heap.size, 0, none⟩) 1 1 = v0 at *
      clear hv0
      go_loopg [9, 11] N (fun q s9 s11 wx => ∃ (i : Nat), Aside (i + q = N) ∧ s11 = .int .i64 (i : Int) ∧ OutS w0 wx s9 (.slice la N lc) (Q2 :: ((listT C).take i).flatMap g) (listT C))
      case atStart => exact ⟨0, (show 0 + N = N by omega), rfl, O4⟩
      case round =>
        clear O4
        obtain ⟨i, HI, rfl, hO⟩ := hrel
        by_cases hlt : (i : Int) < (N : Int)
        · obtain ⟨s, htk, hcell, hs12, ⟨y, R, hgs⟩, A1, hA1, A2, hA2, hA1l, hPs⟩ := HST.out i (by omega)
          obtain ⟨ga, c, hlv, hci⟩ := hcell _ _ _ hO.lst
          cases hlv
          have hTr := HTR.out
          have HLT : Aside (i < N) := show i < N by omega
          have HI9 : Aside (i < 900) := show i < 900 by omega
          have hw1 : wrap64 ((dl : Int) + 1) = (dl : Int) + 1 := by unfold wrap64; omega
          have hw2 : IntKind.i64.wrap ((dl : Int) + 1) = (dl : Int) + 1 := by rw [IntKind.wrap_i64]; omega
          have hb1 : ((⟨JL.toArray⟩ : ByteArray) ++ ⟨#[47]⟩) = ⟨A1.toArray⟩ := by rw [← hA1]; exact wtext_cat JL [47]
          have hb2 : ((⟨A1.toArray⟩ : ByteArray) ++ ⟨s.toArray⟩) = ⟨A2.toArray⟩ := by rw [← hA2]; exact wtext_cat A1 s
          have hq1 : ¬ 9223372036854775807 < JL.length + 1 := by omega
          have hq2 : ¬ 9223372036854775807 < A1.length + s.length := by omega
          clear hA1 hA2
          have hcq : ∀ X, TxR X w0.heap.size (.slice (some ⟨ga, 0, none⟩) N lc) (listT C) → X.cell? ⟨ga, i, none⟩ = some (tx s) := fun X hX => by
            obtain ⟨ga', c', e, hc'⟩ := hcell _ _ _ hX
            cases e
            exact hc'
          have hP2 : ∀ X, Below wr.heap.size wr X → Calls Tryd.prog 32 #[wp r, tx A2, .int .i64 ((dl : Int) + 1)] X fun e w' => ∃ g2 c2, e = .returned (.slice (some ⟨g2, 0, none⟩) (g s).length c2) ∧ SubS w0 w' u9 (.slice (some ⟨ga, 0, none⟩) N lc) (Q2 :: ((listT C).take i).flatMap g) (g s) (listT C) ((Q2 :: ((listT C).take i).flatMap g).map encStr) ((g s).map encStr) (Q2 :: ((listT C).take i).flatMap g).length (g s).length g2 ∧ w'.cell? ⟨ga, i, none⟩ = some (tx s) := fun X hX => by
            have hOX := hO.below hX
            refine (hPs X hOX.bel).mono ?_
            rintro e w' ⟨v, rfl, t, b⟩
            have hne : g s ≠ [] := by rw [hgs]; simp
            obtain ⟨g2, c2, rfl, _⟩ := t.at.resolve_left hne
            exact ⟨g2, c2, rfl, (hOX.below b).sub t hne, hcq _ (hOX.below b).lst⟩
          have HO : Aside (OutS w0 wr u9 (.slice (some ⟨ga, 0, none⟩) N lc) (Q2 :: ((listT C).take i).flatMap g) (listT C)) := hO
          have HGS : Aside (g s = y :: R) := hgs
          have HTK : Aside ((listT C).take (i + 1) = (listT C).take i ++ [s]) := htk
          have HLEN : Aside ((Q2 :: ((listT C).take i).flatMap g).length + (g s).length ≤ 60000) := by
            show (Q2 :: ((listT C).take i).flatMap g).length + (g s).length ≤ 60000
            have h1 := HFEW.out
            have h2 : (listT C).flatMap g = ((listT C).take (i + 1)).flatMap g ++ ((listT C).drop (i + 1)).flatMap g := by rw [← List.flatMap_append, List.take_append_drop]
            rw [HTK.out, List.flatMap_append] at h2
            rw [h2] at h1
            simp at h1 ⊢
            omega
          clear hcell hPs hO hgs htk HST
          have HEN : Aside (Q2 :: ((listT C).take (i + 1)).flatMap g = (Q2 :: ((listT C).take i).flatMap g) ++ g s) := by
            show Q2 :: ((listT C).take (i + 1)).flatMap g = (Q2 :: ((listT C).take i).flatMap g) ++ g s
            rw [HTK.out, List.flatMap_append]
            simp
          have cn2 := enc_one (g s)
          have cl2 : ((g s).map encStr).length = (g s).length * 1 := by rw [List.length_map, Nat.mul_one]
          have HLE := HLEN.out
          generalize (Q2 :: ((listT C).take i).flatMap g).map encStr = VA at *
          generalize (g s).map encStr = VB at *
          generalize (g s).length = ML at *
          generalize (Q2 :: ((listT C).take i).flatMap g).length = LL at *
          have cm : LL + ML ≤ maxLen := by unfold maxLen; omega
          have cy : (LL + ML) * 16 ≤ 140737488355328 := by omega
          clear HLE HLEN HTK HGS HO HFEW hs12 hA1l hjl hdl hdeep hk hN9
          go_upto_region 11 with fail
          go_region_held3 (fun w' => w'.cell? ⟨ga, i, none⟩ = some (tx s)) (first | exact hci | exact c6 | exact c7) (first
            | (go_at_call 70; refine (hTr _).mono ?_; rintro e w5 ⟨rfl, hw5⟩; subst w5)
            | (go_at_call 32; refine (hP2 _ ⟨by rfl, by rfl, by rfl, by exact Nat.le_refl _, fun _ _ => by rfl⟩).mono ?_; rintro e w6 ⟨g2, c2, rfl, S6, c6⟩)
            | (refine step_append_text rfl (.tmp 46) (.tmp 58) 76 rfl w0.heap.size 9 i0 (.string ⟨#[]⟩) 1 16 Tryd.underlying76 hi0 hz0 hz1 hz2 rfl (by decide) u9 LL VA (by simp [Act.eval]) (S6.own _ ⟨by rfl, by rfl, by rfl, by exact Nat.le_refl _, fun _ _ => by rfl⟩) ⟨g2, 0, none⟩ ML c2 VB (by simp [Act.eval]) cl2 (S6.cell _ ⟨by rfl, by rfl, by rfl, by exact Nat.le_refl _, fun _ _ => by rfl⟩) cn2 cm cy (S6.base _ ⟨by rfl, by rfl, by rfl, by exact Nat.le_refl _, fun _ _ => by rfl⟩) ?_; intro v7 w7 ho7 hg7 hv7; have O7 := S6.fin _ _ _ ⟨by rfl, by rfl, by rfl, by exact Nat.le_refl _, fun _ _ => by rfl⟩ ho7 hg7 hv7; have c7 := hcq _ O7.lst))
          all_goals
            go_wp2_with fail
            go_roundg (gk - 1)
            case measure => have := HI.out; have := HLT.out; omega
            case rel => exact ⟨i + 1, (show i + 1 + (gk - 1) = N by have := HI.out; have := HLT.out; omega), by have h9 := HI9.out; rw [show wrap64 ((i : Int) + 1) = ((i + 1 : Nat) : Int) by unfold wrap64; omega], by rw [HEN.out]; exact O7⟩
        · go_wp2_with fail
          go_ret
          have hiN : i = N := by have := HI.out; omega
          subst hiN
          rw [List.take_of_length_le (by rw [HN.out]; omega)] at hO
          exact ⟨_, rfl, by rw [HPW.out]; exact hO.out, hO.bel⟩
    · have hLs : ∀ X : World, Below w0.heap.size w0 X → Calls Tryd.prog 37 #[wp r, tx P] X fun e w' => e = .returned (.tuple #[.slice none 0 0, uer 6]) ∧ Below X.heap.size X w' := fun X hX => (hK.below hX).listFile hnm hw (fun C e => hd ⟨C, e⟩) (by omega)
      have HPW : Aside ((pw T (f + 1) l n).map fm = [Q2]) := by
        show (pw T (f + 1) l n).map fm = [Q2]
        rw [pw_file (fun C e => hd ⟨C, e⟩)]
        show [fm (l, n)] = _
        rw [HFM.out]
      have HNM : Aside (∀ X : World, Below w0.heap.size w0 X → OutS w0 (X.alloc (.cells #[tx (Q2)] 9)) (.slice (some ⟨X.heap.size, 0, none⟩) 1 1) (.slice none 0 0) [Q2] []) := hNm
      clear hNm hd hT hK hw hf hok hnm hkey hpl
      generalize (pw T (f + 1) l n).map fm = RL at *
      go_enter Tryd.func32, Tryd.ntmps32
      go_wp2_with (first
        | (go_at_call 44; refine hFd.mono ?_; rintro e w1 ⟨rfl, b1⟩)
        | (go_at_call 69; refine (hIt _).mono ?_; rintro e w2 ⟨rfl, hw2⟩; subst w2; have O2 := HNM.out _ b1; have hL2 := hLs _ O2.bel)
        | (go_at_call 37; refine hL2.mono ?_; rintro e w3 ⟨rfl, b3⟩))
      go_ret
      exact ⟨_, rfl, by rw [HPW.out]; exact (O2.below b3).out, (O2.below b3).bel⟩
end Go.Proofs.YtpibokijbidgdabDoor

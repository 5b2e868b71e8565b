/- TreeOne: the walk of its Go text. -/
import Derived.Test.YtpibokijbidgdabDoorYStep
import Derived.Deep.DeepCutAuto
import Derived.Deep.CutBlock
import Derived.BigQuiet
namespace Go.Proofs.YtpibokijbidgdabDoor
open Go.RowKit Go.Maps Go.Shelf

/-- Things to do lie in an array. -/
def Nms (w : World) (ad : Option Addr) (len : Nat) (q : Nat → Int × Nm × Nm) : Prop :=
  len = 0 ∨ ∃ blk off, ad = some ⟨blk, off, none⟩ ∧ blk < w.heap.size ∧ ∀ i, i < len → w.cell? ⟨blk, off + i * 3, none⟩ = some (.int .i64 (q i).1) ∧ w.cell? ⟨blk, off + i * 3 + 1, none⟩ = some (tx (q i).2.1) ∧ w.cell? ⟨blk, off + i * 3 + 2, none⟩ = some (tx (q i).2.2)

section
variable {w wr : World} {m : Int} {r k : Nat} {T : Wd}
/-- All paths of a tree, as texts. -/
noncomputable def allP (T : Wd) : List (List UInt8) := (pw T 66 [] 0).map fm
theorem KT.paths (h : KT w m r k T wr) (hT : Tr1 T) (hk : k ≤ 900) : Calls Tryd.prog 32 #[wp r, .string ⟨#[47]⟩, .int .i64 0] wr fun e w' => ∃ v, e = .returned v ∧ TxR w' wr.heap.size v (allP T) ∧ Below wr.heap.size wr w' :=
  paths_ok hT hk 66 [] 0 wr h (.here 0) rfl
theorem allP_len (hT : Tr1 T) (hs : Sm k T) (hk : k ≤ 900) : (allP T).length ≤ 60000 := by
  unfold allP
  rw [List.length_map]
  have := hT.few hs (pw_nodup hT.toTrOk 66 [] 0) (fun x hx => by
    obtain ⟨r, e1, e2⟩ := pw_sound hT.toTrOk _ _ _ x hx
    rw [e1]; exact e2)
  omega
theorem allP_no : ∀ x ∈ allP T, ([101, 114, 114, 111, 114] : List UInt8) ≠ x := fun x hx => by
  obtain ⟨y, _, rfl⟩ := List.mem_map.1 hx
  exact fm_noerror y
end

theorem next_num {j : Nat} (h : j < 100000) : Value.int .i64 (wrap64 ((j : Int) + 1)) = .int .i64 ((j + 1 : Nat) : Int) := by
  rw [show wrap64 ((j : Int) + 1) = ((j + 1 : Nat) : Int) by unfold wrap64; omega]
theorem all_paths {T : Wd} (hT : Tr1 T) : ∃ P : List (List Nm × Int), Aside ((P.map (·.1)).Nodup) ∧ Aside (∀ x ∈ P, Way T 0 x.1 x.2) ∧ Aside (∀ k, (T k).isSome = true → ∃ l, (l, k) ∈ P) ∧ Aside (allP T = P.map fm) :=
  ⟨pw T 66 [] 0, pw_nodup hT.toTrOk 66 [] 0, fun x hx => by
    obtain ⟨r, e1, e2⟩ := pw_sound hT.toTrOk _ _ _ x hx
    rw [e1]; exact e2, fun k hk => by
    obtain ⟨l, hl⟩ := hT.reach k hk
    have h1 := hT.deep hl
    exact ⟨l, by simpa using pw_whole 66 [] l 0 k hl (by omega)⟩, rfl⟩
theorem Done.get {w w' : World} {m : Int} {r k : Nat} {T : Wd} {v0 v : Value} {L : List Nm} (h : Done w m r k T v0 L v w') (hT : Tr1 T) : ∃ T2, KR w m r (k + 1) T2 v0 L w' ∧ Tr1 T2 ∧ (v = .nilIface ∨ ∃ c, v = uer c ∧ T2 = T) := by
  rcases h with ⟨rfl, T', a, b⟩ | ⟨c, rfl, a⟩
  · exact ⟨T', a, b, .inl rfl⟩
  · exact ⟨T, a, hT, .inr ⟨c, rfl, rfl⟩⟩

set_option maxRecDepth 100000 in
set_option maxHeartbeats 8000000 in
theorem one_short (ad : Option Addr) (len cap : Nat) (a b : List UInt8) (w : World) (h1 : len ≤ 30) (ha : a.length ≤ 60) (hb : b.length ≤ 60) (q : Nat → Int × Nm × Nm) (hq : Nms w ad len q) (m : Int) (hm : w.cell? ⟨1, 0, none⟩ = some (.int .i64 m)) :
    Calls Tryd.prog 6 #[.slice ad len cap, tx a, tx b] w fun e w' => e = .returned (.bool true) ∧ Below w.heap.size w w' := by
  have h1' : ¬ (30 : Int) < (len : Int) := by omega
  have h2' : ¬ (60 : Int) < (a.length : Int) := by omega
  have h3' : ¬ (60 : Int) < (b.length : Int) := by omega
  have hnm := named_ok w m hm
  have hne := ktree_ne
  have HQ : Aside (Nms w ad len q) := hq
  clear hq
  have hml : 1 < w.heap.size := World.block_lt_of_cell? w _ hm
  have hN : ∀ V : World, Below w.heap.size w V → Calls Tryd.prog 31 #[] V fun e w' => ∃ r, e = .returned (wp r) ∧ KT w m r 0 nullT w' := fun V hb => by
    refine (KT.first V m (by rw [hb.cell (p := ⟨1, 0, none⟩) hml]; exact hm)).mono ?_
    rintro e w' ⟨r, rfl, k⟩
    exact ⟨r, rfl, k.base hb hm⟩
  go_enter Tryd.func6, Tryd.ntmps6
  go_wp2_with (first
    | (go_at_call 30; refine hnm.mono ?_; rintro e w1 ⟨rfl, b1⟩)
    | (go_at_call 31; refine (hN _ b1).mono ?_; rintro e w2 ⟨r, rfl, k2⟩))
  clear hnm hN hne hm hml
  go_loopg [8, 9, 10, 11, 12, 13, 14, 15, 16, 17, 18, 19, 20] len (fun g s8 _ _ _ _ _ _ _ _ _ _ _ _ wx => ∃ (i : Nat) (T : Wd), Aside (i + g = len) ∧ s8 = .int .i64 (i : Int) ∧ Tr1 T ∧ KT w m r i T wx)
  case atStart => exact ⟨0, nullT, (show 0 + len = len by omega), rfl, Tr1.null, k2⟩
  case round =>
    clear k2
    obtain ⟨i, T, HI, rfl, hT, hK⟩ := hrel
    obtain ⟨G, HGG⟩ : ∃ G, Aside (gk = G) := ⟨_, rfl⟩
    by_cases hlt : (i : Int) < (len : Int)
    · have hi30 : i ≤ 30 := by have := HI.out; omega
      have HLT : Aside (i < len) := show i < len by omega
      rcases HQ.out with h0 | ⟨blk, off, rfl, hbl, hc⟩
      · exfalso; omega
      have hcw : ∀ V, Below w.heap.size w V → V.cell? ⟨blk, off + i * 3, none⟩ = some (.int .i64 (q i).1) ∧ V.cell? ⟨blk, off + i * 3 + 1, none⟩ = some (tx (q i).2.1) ∧ V.cell? ⟨blk, off + i * 3 + 2, none⟩ = some (tx (q i).2.2) := fun V hV => by
        have := hc i (by omega)
        rw [World.cell?_of_block (w := w) (a := ⟨blk, off + i * 3, none⟩) (hV.block blk hbl), World.cell?_of_block (w := w) (a := ⟨blk, off + i * 3 + 1, none⟩) (hV.block blk hbl), World.cell?_of_block (w := w) (a := ⟨blk, off + i * 3 + 2, none⟩) (hV.block blk hbl)]
        exact this
      clear hc
      generalize (q i).1 = X at *
      generalize (q i).2.1 = S at *
      generalize (q i).2.2 = U at *
      obtain ⟨c0, c1, c2⟩ := hcw _ hK.bel
      by_cases hS : (60 : Int) < (S.length : Int)
      · clear hT hcw HQ
        go_wp2_with fail
        go_ret
        exact ⟨rfl, hK.bel⟩
      · by_cases hU : (60 : Int) < (U.length : Int)
        · clear hT hcw HQ
          go_wp2_with fail
          go_ret
          exact ⟨rfl, hK.bel⟩
        · have hP1 := hK.paths hT (by omega)
          have hNm : ∀ V v L, KR w m r i T v L V → Calls Tryd.prog 33 #[wp r, .agg #[.int .i64 X, tx S, tx U]] V fun e w' => ∃ v4, e = .returned v4 ∧ ∃ T2, KR w m r (i + 1) T2 v L w' ∧ Tr1 T2 ∧ (v4 = .nilIface ∨ ∃ c, v4 = uer c ∧ T2 = T) := fun V v L h => by
            refine (name_ok h hT (by omega) X (p := S) (q := U) (by omega) (by omega)).mono ?_
            rintro e w' ⟨v4, rfl, hD⟩
            exact ⟨v4, rfl, hD.get hT⟩
          have HP9 : Aside (∀ V T2, Tr1 T2 → KT w m r (i + 1) T2 V → Calls Tryd.prog 32 #[wp r, .string ⟨#[47]⟩, .int .i64 0] V fun e w' => ∃ v, e = .returned v ∧ TxR w' V.heap.size v (allP T2) ∧ Below V.heap.size V w') := fun V T2 h2 h => h.paths h2 (by omega)
          have HCW : Aside (∀ V, Below w.heap.size w V → V.cell? ⟨blk, off + i * 3, none⟩ = some (.int .i64 X) ∧ V.cell? ⟨blk, off + i * 3 + 1, none⟩ = some (tx S) ∧ V.cell? ⟨blk, off + i * 3 + 2, none⟩ = some (tx U)) := hcw
          clear hcw HQ hT
          go_upto_region 16 with (first
            | (go_at_call 32; refine hP2.mono ?_; rintro e w5 ⟨v5, rfl, t5, b5⟩)
            | (go_at_call 32; refine hP1.mono ?_; rintro e w3 ⟨v3, rfl, t3, b3⟩; have k3 := hK.withRow t3 b3; have hR := hNm _ _ _ k3; obtain ⟨d0, d1, d2⟩ := HCW.out _ k3.bel)
            | (go_at_call 33; refine hR.mono ?_; rintro e w4 ⟨v4, rfl, hD⟩; have HD : Aside (∃ T2, KR w m r (i + 1) T2 v3 (allP T) w4 ∧ Tr1 T2 ∧ (v4 = .nilIface ∨ ∃ c, v4 = uer c ∧ T2 = T)) := hD; clear hD; obtain ⟨T2, k4, hT2, hcase⟩ := HD.out; have HC4 : Aside (v4 = .nilIface ∨ ∃ c, v4 = uer c ∧ T2 = T) := hcase; clear hcase HD; have hP2 := HP9.out _ _ hT2 k4.kt))
          have k5 := k4.kt.withRow t5 b5
          have hlen := allP_len hT2 k5.sm (by omega)
          go_cut [79] (fun t wc => t = .bool false ∧ Below w5.heap.size w5 wc)
          case first =>
            as_aux_lemma =>
              rcases HC4.out with e4 | ⟨ce, e4, eT⟩
              · subst e4
                go_wp2_with fail
                go_meet
                case rel => exact ⟨rfl, Below.refl _ _⟩
              · subst e4
                subst eT
                have hEq := same_texts (k4.row.below b5) t5 (by omega)
                go_wp2_with (go_at_call 34; refine hEq.mono ?_; rintro e w6 ⟨rfl, b6⟩)
                go_meet
                case rel => exact ⟨rfl, b6⟩
          case rest =>
            obtain ⟨rfl, b6⟩ := hcut
            have k6 := k5.below b6
            clear k5 k4 t5 b5 b6 hP2 HC4 hR d0 d1 d2 k3 t3 b3 HCW hNm hP1 hK c0 c1 c2
            have hCt := lacks_text k6.row (by omega) allP_no
            go_upto_region 20 with (go_at_call 35; refine hCt.mono ?_; rintro e w7 ⟨rfl, hw7⟩; subst w7)
            clear hCt
            generalize wc = w6 at *
            obtain ⟨P, HPn, HPw, HPa, HAP⟩ := all_paths hT2
            obtain ⟨va, vc, hv5⟩ := k6.row.shape
            have hrow := k6.row
            rw [HAP.out] at hrow hv5 hlen
            rw [List.length_map] at hv5 hlen
            obtain ⟨N, hNl⟩ : ∃ N, P.length = N := ⟨_, rfl⟩
            have HROW : Aside (TxR w6 w.heap.size v5 (P.map fm)) := hrow
            have HNl : Aside (P.length = N) := hNl
            rw [hNl] at hv5
            have HLEN : Aside (P.length ≤ 60000) := hlen
            rw [hNl] at hlen
            subst hv5
            have hM0 := Mp.first w6
            have k6t := k6.kt
            have HT2 : Aside (Tr1 T2) := hT2
            clear hrow hNl k6 hT2
            have hmm := @run_makeMap Tryd.prog
            go_wp2_with fail
            clear hmm
            go_loopg [14, 15, 16, 17, 18, 19] N (fun g s14 _ _ _ _ _ wx => ∃ (j : Nat), Aside (j + g = N) ∧ s14 = .int .i64 (j : Int) ∧ Mp w6 wx (Qa P j) (Qb T2 P j))
            case atStart => exact ⟨0, (show 0 + N = N by omega), rfl, hM0⟩
            case round =>
              clear hM0
              obtain ⟨j, HJ, rfl, hM⟩ := hrel
              by_cases hlj : (j : Int) < (N : Int)
              · have HLJ : Aside (j < N) := show j < N by omega
                have hj' : j < P.length := by have := HNl.out; omega
                obtain ⟨hdl, hLd, hLf⟩ := list_at HT2.out k6t (by omega) HPw.out hj'
                obtain ⟨ga, K, F, hva, tS⟩ := text_at (vc := vc) (va := va) HT2.out HPw.out (by rw [HNl.out]; exact HROW.out) hM.bel hj'
                subst hva
                obtain ⟨z1, x1, pS⟩ := put_a hM hj' HLEN.out hdl
                have hpb := fun V h => put_b (wr := V) (w6 := w6) (T := T2) h hj' HLEN.out hdl
                have hQf := Qb_file (T := T2) hj'
                have hKind : isDirT T2 P[j].2 = true ∨ ¬ isDirT T2 P[j].2 = true := Classical.em _
                generalize ptx P[j].1 = A at *
                generalize dgi P[j].2 = D at *
                generalize isDirT T2 P[j].2 = isd at *
                have hcj := tS.cell _ (Below.refl _ _)
                have hLast := tS.last
                have hs1 := tS.s1
                have hs2 := tS.s2
                have hkl := tS.kl
                have hkf := tS.kf
                have hw1 := tS.w1
                have hw2 := tS.w2
                have hbb : ∀ V, Below wr.heap.size wr V → Below w6.heap.size w6 V := fun V hV => hM.bel.trans (hV.mono hM.bel.size)
                have HPA : Aside (∀ V, Below wr.heap.size wr V → PutS w6 V w6.heap.size (Qa P j) D (fun w' => Mp w6 w' (Qa P (j + 1)) (Qb T2 P j)) z1 x1) := fun V hV => ⟨pS.map.keep (hV.block _ pS.map.lt), pS.zl, pS.dl, pS.look, pS.xl, pS.wr, fun w' hm hg => pS.put w' hm ⟨hg.os.trans hV.os, hg.tape.trans hV.tape, hg.output.trans hV.output, Nat.le_trans hV.size hg.size, fun i hi hne => (hg.block i (Nat.lt_of_lt_of_le hi hV.size) hne).trans (hV.block i hi)⟩⟩
                have HPB : Aside (∀ V, Mp w6 V (Qa P (j + 1)) (Qb T2 P j) → isd = true → ∃ z x, PutS w6 V (w6.heap.size + 1) (Qb T2 P j) D (fun w' => Mp w6 w' (Qa P (j + 1)) (Qb T2 P (j + 1))) z x) := hpb
                have HQF : Aside (¬ isd = true → Qb T2 P (j + 1) = Qb T2 P j) := hQf
                have HKD : Aside (isd = true ∨ ¬ isd = true) := hKind
                have HLD : Aside (isd = true → ∀ V, Below w6.heap.size w6 V → Calls Tryd.prog 37 #[wp r, tx A] V fun e w' => ∃ v, e = .returned (.tuple #[v, .nilIface]) ∧ Below V.heap.size V w') := hLd
                have HLF : Aside (¬ isd = true → ∀ V, Below w6.heap.size w6 V → Calls Tryd.prog 37 #[wp r, tx A] V fun e w' => e = .returned (.tuple #[.slice none 0 0, uer 6]) ∧ Below V.heap.size V w') := hLf
                have hx1 := pS.xl
                clear hpb hQf hKind hLd hLf tS pS hM hj' hdl
                go_upto_region 25 with (go_at_call 36; refine (hLast _).mono ?_; rintro e w7 ⟨rfl, hw7⟩; subst w7)
                clear hLast
                go_region
                clear hs1 hs2 hkl hkf hw1 hw2 hcj
                obtain ⟨V, hV⟩ : ∃ V, wr.drew = V := ⟨_, rfl⟩
                have bV : Below wr.heap.size wr V := by rw [← hV]; exact ⟨rfl, rfl, rfl, Nat.le_refl _, fun _ _ => rfl⟩
                rw [hV]
                have pV := HPA.out V bV
                have hlk := pV.map.look Tryd.underlying81 (zero_num _) D pV.dl
                rw [pV.look] at hlk
                obtain ⟨w8, hrun, sm8, g8⟩ := pV.map.put Tryd.underlying81 pV.zl D pV.dl (.int .i64 ((x1 : Int) + 1))
                have M8 := pV.put w8 sm8 g8
                have hwx := pV.wr
                clear hV pV sm8 g8 bV hx1
                go_upto_region 27 with fail
                clear hlk hrun hwx HPA
                rcases HKD.out with hd | hd
                · have hLs := HLD.out hd w8 M8.bel
                  have hPB := fun W (h : Mp w6 W (Qa P (j + 1)) (Qb T2 P j)) => HPB.out W h hd
                  clear HLD HLF HPB HQF HKD
                  go_upto_region 29 with (go_at_call 37; refine hLs.mono ?_; rintro e w9 ⟨vl, rfl, b9⟩)
                  obtain ⟨z2, x2, p9⟩ := hPB w9 (M8.below b9)
                  have hlk := p9.map.look Tryd.underlying81 (zero_num _) D p9.dl
                  rw [p9.look] at hlk
                  obtain ⟨w10, hrun, sm10, g10⟩ := p9.map.put Tryd.underlying81 p9.zl D p9.dl (.int .i64 ((x2 : Int) + 1))
                  have M10 := p9.put w10 sm10 g10
                  have hwx := p9.wr
                  clear p9 sm10 g10 hPB hLs
                  go_wp2_with fail
                  clear hlk hrun hwx
                  go_roundg (gk - 1)
                  case measure => have := HJ.out; have := HLJ.out; omega
                  case rel => exact ⟨j + 1, (show j + 1 + (gk - 1) = N by have := HJ.out; have := HLJ.out; omega), by rfl, M10⟩
                · have hLs := HLF.out hd w8 M8.bel
                  have hQf := HQF.out hd
                  clear HLD HLF HPB HQF HKD
                  go_wp2_with (go_at_call 37; refine hLs.mono ?_; rintro e w9 ⟨rfl, b9⟩)
                  clear hLs
                  go_roundg (gk - 1)
                  case measure => have := HJ.out; have := HLJ.out; omega
                  case rel => exact ⟨j + 1, (show j + 1 + (gk - 1) = N by have := HJ.out; have := HLJ.out; omega), by rfl, by rw [hQf]; exact M8.below b9⟩
              · have hjN : j = N := by have := HJ.out; omega
                subst hjN
                obtain ⟨s, hs⟩ := k6t.num
                obtain ⟨z, mN, mD, h1D⟩ := ends_ok HT2.out HPn.out HPw.out HPa.out HNl.out hM hs
                have hNd := (k6t.below hM.bel).nodes hs
                have bM := hM.bel
                have k7E := fun V (h : Below w6.heap.size w6 V) => k6t.below h
                have HT3 : Aside (Tr1 T2) := HT2.out
                have hsz : ((s : Int) != (s : Int)) = false := by simp
                clear hM HT2 HPn HPw HPa HNl HAP HROW HLEN k6t
                have hln := fun ty => mN.len Tryd.underlying81 ty
                go_upto_region 32 with (first
                  | (go_at_call 38; refine hNd.mono ?_; rintro e w8 ⟨rfl, hw8⟩; subst w8))
                clear hNd hln hsz hlj
                obtain ⟨M1, hM1⟩ : ∃ M1, M1 = mK (Qa P j) := ⟨_, rfl⟩
                obtain ⟨M2, hM2⟩ : ∃ M2, M2 = mK (Qb T2 P j) := ⟨_, rfl⟩
                rw [← hM1] at mN h1D
                rw [← hM2] at mD h1D
                have H1D : Aside (∀ x v, M2 x = some v → v = .int .i64 1 ∧ (M1 x).getD (.int .i64 0) = .int .i64 1) := h1D
                have hgl := mN.lt
                clear hM1 hM2 h1D
                go_wp2_with (at_range; refine wpList_srange rfl _ 81 rfl 3 Tryd.underlying81 (w6.heap.size + 1) _ _ rfl mD ?_; intro w9 hr9 hg9 hs9)
                go_frame
                have b9 : Below w6.heap.size w6 w9 := bM.grown hg9 bM.size (fun k e => by cases e)
                have mN9 : SMap w9 w6.heap.size s M1 := mN.keep (hg9.block _ hgl (fun e => by cases e))
                obtain ⟨it, hit⟩ : ∃ it, wr.heap.size = it := ⟨_, rfl⟩
                have hiB : w6.heap.size < it := by rw [← hit]; exact hgl
                rw [hit] at hr9 ⊢
                clear hg9 hs9 mN mD hit bM
                go_loopg [20] z (fun mm _ wx => ∃ todo, SRng wx (w6.heap.size + 1) it z M2 todo mm ∧ Below w6.heap.size w6 wx ∧ SMap wx w6.heap.size s M1)
                case atStart => exact ⟨_, hr9, b9, mN9⟩
                case round =>
                  clear hr9 b9 mN9
                  obtain ⟨todo, hrg, b10, mN10⟩ := hrel
                  go_wp2_with (at_next; refine wpList_snext rfl _ rfl (w6.heap.size + 1) it _ _ _ _ rfl hrg ?_ ?_)
                  · intro hl
                    have kE := k7E _ b10
                    clear hrg mN10 hl
                    go_wp2_with fail
                    go_roundg (G - 1)
                    case measure => have := HGG.out; have := HI.out; have := HLT.out; omega
                    case rel => exact ⟨i + 1, T2, (show i + 1 + (G - 1) = len by have := HGG.out; have := HI.out; have := HLT.out; omega), by rfl, HT3.out, kE⟩
                  · intro x v w11 cnt11 hlx htd hMx hr11 hlt11 hg11 hs11 hen
                    obtain ⟨hv, hv1⟩ := H1D.out x v hMx
                    subst hv
                    have mN11 : SMap w11 w6.heap.size s M1 := mN10.keep (hg11.block _ mN10.lt (fun e => by have := Option.some.inj e; omega))
                    have b11 : Below w6.heap.size w6 w11 := b10.grown hg11 b10.size (fun k e => by have := Option.some.inj e; omega)
                    have hl1 := mN11.look Tryd.underlying81 (zero_num _) x hlx
                    rw [hv1] at hl1
                    have hl2 := hr11.map.look Tryd.underlying81 (zero_num _) x hlx
                    rw [hMx, Option.getD_some] at hl2
                    clear hrg mN10 b10 hg11 hs11 hMx hlx htd hv1
                    go_wp2_with fail
                    clear hl1 hl2 hen
                    go_roundg cnt11
                    case measure => exact hlt11
                    case rel => exact ⟨_, hr11, b11, mN11⟩
    · have hi30 : i ≤ 30 := by have := HI.out; omega
      have hP1 := hK.paths hT (by omega)
      have hlen := allP_len hT hK.sm (by omega)
      have HT : Aside (Tr1 T) := hT
      clear HI HQ h1' h2' h3' h1
      by_cases hE : renameE T a b = 0
      · obtain ⟨d, d2, n, nm, nm2, C, C2, l, l2, mv, hN⟩ := renameE_nought hT.toTrOk hE
        obtain ⟨hE2, hN2⟩ := mv.back hT
        rw [← hN] at hE2 hN2
        obtain ⟨hb1, hb2⟩ := back_names (hT.nodup d C mv.dp) mv.has
        have hsame : allP (renameN (renameN T a b) b a) = allP T := by
          unfold allP
          rw [hN2, pw_perm hT.toTrOk mv.dp hb1 hb2]
        have hT2 := (hT.rename a b).rename b a
        have hR1 : ∀ (V : World) v L, KR w m r i T v L V → Calls Tryd.prog 39 #[wp r, tx a, tx b] V fun e w' => e = .returned .nilIface ∧ KR w m r (i + 1) (renameN T a b) v L w' := fun V v L h => by
          have := h.renameE1 (by omega) a b (by omega) (by omega)
          rw [hE] at this
          exact this
        have hR2 : ∀ (V : World) v L, KR w m r (i + 1) (renameN T a b) v L V → Calls Tryd.prog 39 #[wp r, tx b, tx a] V fun e w' => e = .returned .nilIface ∧ KR w m r (i + 1 + 1) (renameN (renameN T a b) b a) v L w' := fun V v L h => by
          have := h.renameE1 (by omega) b a (by omega) (by omega)
          rw [hE2] at this
          exact this
        have hP9 : ∀ V, KT w m r (i + 1 + 1) (renameN (renameN T a b) b a) V → _ := fun V h => h.paths hT2 (by omega)
        rw [hsame] at hP9
        clear hE hE2 hN hN2 mv hb1 hb2 hT hsame hT2
        generalize renameN (renameN T a b) b a = T2 at *
        generalize renameN T a b = T1 at *
        generalize allP T = AP at *
        go_wp2_with (first
          | (go_at_call 32; refine hP2.mono ?_; rintro e w5 ⟨v5, rfl, t5, b5⟩; have hEq := same_texts t5 (k5.below b5).row (by omega))
          | (go_at_call 32; refine hP1.mono ?_; rintro e w3 ⟨v3, rfl, t3, b3⟩; have k3 := hK.withRow t3 b3; have hR := hR1 _ _ _ k3)
          | (go_at_call 39; refine hS.mono ?_; rintro e w7 ⟨rfl, k5⟩; have hP2 := hP9 _ k5.kt)
          | (go_at_call 39; refine hR.mono ?_; rintro e w4 ⟨rfl, k4⟩; have hS := hR2 _ _ _ k4)
          | (go_at_call 34; refine hEq.mono ?_; rintro e w6 ⟨rfl, b6⟩))
        go_ret
        exact ⟨rfl, ((k5.below b5).below b6).bel⟩
      · have hN : renameN T a b = T := by unfold renameN; rw [if_pos hE]
        have hR1 : ∀ (V : World) v L, KR w m r i T v L V → Calls Tryd.prog 39 #[wp r, tx a, tx b] V fun e w' => e = .returned (uer (renameE T a b)) ∧ KR w m r (i + 1) T v L w' := fun V v L h => by
          have := h.renameE1 (by omega) a b (by omega) (by omega)
          rw [hN, uev_ne hE] at this
          exact this
        have hP9 : ∀ V, KT w m r (i + 1) T V → _ := fun V h => h.paths hT (by omega)
        clear hE hN hT
        generalize renameE T a b = ce at *
        generalize allP T = AP at *
        go_wp2_with (first
          | (go_at_call 32; refine hP2.mono ?_; rintro e w5 ⟨v5, rfl, t5, b5⟩; have hEq := same_texts t5 (k4.below b5).row (by omega))
          | (go_at_call 32; refine hP1.mono ?_; rintro e w3 ⟨v3, rfl, t3, b3⟩; have k3 := hK.withRow t3 b3; have hR := hR1 _ _ _ k3)
          | (go_at_call 39; refine hR.mono ?_; rintro e w4 ⟨rfl, k4⟩; have hP2 := hP9 _ k4.kt)
          | (go_at_call 34; refine hEq.mono ?_; rintro e w6 ⟨rfl, b6⟩))
        go_ret
        exact ⟨rfl, ((k4.below b5).below b6).bel⟩
end Go.Proofs.YtpibokijbidgdabDoor

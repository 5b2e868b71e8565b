/- VmApart: the walk of its Go text. -/
import Derived.Test.YtemomohijidmpaaGreatDoorVSeen
import Derived.Test.YtemomohijidmpaaGreatDoorPick
import Derived.Deep.RegionHeld3
namespace Go.Proofs.YtemomohijidmpaaGreatDoor
open Go.RowKit Go.Shelf Go.Lib Go.Sort Go.Maps

/-- Uses lie in an array. -/
def Uses (w : World) (ad : Option Addr) (len : Nat) (q : Nat → Us) : Prop :=
  len = 0 ∨ ∃ blk off, ad = some ⟨blk, off, none⟩ ∧ blk < w.heap.size ∧ ∀ j, j < len → w.cell? ⟨blk, off + j * 5, none⟩ = some (.int .i64 (q j).what) ∧ w.cell? ⟨blk, off + j * 5 + 1, none⟩ = some (.int .i64 (q j).at_) ∧ w.cell? ⟨blk, off + j * 5 + 2, none⟩ = some (.int .i64 (q j).n) ∧ w.cell? ⟨blk, off + j * 5 + 3, none⟩ = some (.int .i64 (q j).prot) ∧ w.cell? ⟨blk, off + j * 5 + 4, none⟩ = some (.int .i64 (q j).v) ∧ (q j).ok ∧ -9223372036854775808 ≤ (q j).v ∧ (q j).v ≤ 9223372036854775807

set_option maxRecDepth 100000 in
set_option maxHeartbeats 1000000 in
theorem vapart_long (n : Int) (ad : Option Addr) (len cap : Nat) (ad2 : Option Addr) (len2 cap2 : Nat) (ad3 : Option Addr) (len3 cap3 : Nat) (w : World) (h : 25 < len ∨ 25 < len2 ∨ 25 < len3) :
    Calls Tryz.prog 3 #[.int .i64 n, .slice ad len cap, .slice ad2 len2 cap2, .slice ad3 len3 cap3] w fun e w' => e = .returned (.bool true) ∧ Below w.heap.size w w' := by
  by_cases h1 : (25 : Int) < (len : Int) <;> by_cases h2 : (25 : Int) < (len2 : Int) <;> by_cases h3 : (25 : Int) < (len3 : Int)
  all_goals first
    | (exfalso; omega)
    | (clear h
       go_enter Tryz.func3, Tryz.ntmps3
       go_wp2_with fail
       go_ret
       exact ⟨rfl, Below.refl _ _⟩)

/-- Spaces, with no list of them. -/
abbrev ASt (w0 : World) (E : St) (w : World) (D : Nat → Nat → Int) (A : Nat → Prop) (L : List Sq) : Prop := FSt w0 E w D A L (.slice none 0 0) []

section
variable {w0 w : World} {E : St} {D : Nat → Nat → Int} {A : Nat → Prop} {L : List Sq}
theorem FSt.words (s : ASt w0 E w D A L) (hD : Wd64 D) (hp : Pow w0) (hg : w0.cell? ⟨0, 0, none⟩ = some errT) {i : Nat} (hi : i < L.length) :
    Calls Tryz.prog 10 #[vp L[i].1] w fun e w' => e = .returned (.string ⟨(wds L[i].2.2 D).toArray⟩) ∧ ASt w0 E w' D A L := by
  have hgl : 0 < w0.heap.size := World.block_lt_of_cell? w0 _ hg
  refine ((s.al.sp i hi).words_ok hD (hp.below s.bel) (by rw [s.bel.cell (p := ⟨0, 0, none⟩) hgl]; exact hg)).mono ?_
  rintro e w' ⟨he, hb⟩
  exact ⟨he, s.stay hb⟩
theorem FSt.use (s : ASt w0 E w D A L) (hD : Wd64 D) {i : Nat} (hi : i < L.length) (x : Us) (hx : x.ok) (hv : -9223372036854775808 ≤ x.v ∧ x.v ≤ 9223372036854775807) :
    Calls Tryz.prog 8 #[vp L[i].1, x.val] w fun e w' => ∃ er, e = .returned (errV er) ∧ ∃ P' D' A', ASt w0 E w' D' A' (L.set i (L[i].1, L[i].2.1, P')) ∧ Wd64 D' ∧ ∀ f : Nat, oth L i hi (f : Int) ≠ 0 → ∀ j, D' f j = D f j := by
  refine (s.al.use_ok hi x hx).mono ?_
  rintro e w' ⟨er, P', D', hr, he, t⟩
  obtain ⟨A', s'⟩ := s.turn t
  exact ⟨er, he, P', D', A', s', hr.wd64 hD hv, hr.others (s.al.sp i hi).ok⟩
end
theorem oth_two_1 (x y : Sq) (f : Int) : oth [x, y] 1 (by simp) f = sh x.2.2 f := by simp [oth, totS]
theorem oth_two_0 (x y : Sq) (f : Int) : oth [x, y] 0 (by simp) f = sh y.2.2 f := by simp [oth, totS]

set_option maxRecDepth 100000 in
set_option maxHeartbeats 16000000 in
theorem vapart_short (n : Int) (ad : Option Addr) (len cap : Nat) (q : Nat → Us) (ad2 : Option Addr) (len2 cap2 : Nat) (q2 : Nat → Us) (ad3 : Option Addr) (len3 cap3 : Nat) (q3 : Nat → Us) (w : World) (hl : len ≤ 25) (hl2 : len2 ≤ 25) (hl3 : len3 ≤ 25) (hq : Uses w ad len q) (hq2 : Uses w ad2 len2 q2) (hq3 : Uses w ad3 len3 q3) (hg : w.cell? ⟨0, 0, none⟩ = some errT) (hp : Pow w) :
    Calls Tryz.prog 3 #[.int .i64 n, .slice ad len cap, .slice ad2 len2 cap2, .slice ad3 len3 cap3] w fun e w' => e = .returned (.bool true) ∧ Below w.heap.size w w' := by
  have h1 : ¬ (25 : Int) < (len : Int) := by omega
  have h2 : ¬ (25 : Int) < (len2 : Int) := by omega
  have h3 : ¬ (25 : Int) < (len3 : Int) := by omega
  go_enter Tryz.func3, Tryz.ntmps3
  go_wp2_with fail
  refine (paged_ok _).mono ?_
  rintro e w1 ⟨rfl, b1⟩
  go_wp2_with fail
  refine (ppick_any _ n 60 (by omega) (by omega)).mono ?_
  rintro e w1' ⟨r, rfl, hr, hw⟩
  subst w1'
  have hN := newStore_ok w1 (1 + r) (by omega) (by omega)
  rw [show (((1 + r : Nat)) : Int) = 1 + (r : Int) by omega] at hN
  go_wp2_with fail
  refine hN.mono ?_
  rintro e w2 ⟨b, rfl, E, A0, rfl, hEn, v2, b2, o2, lb⟩
  go_wp2_with fail
  refine (newSpace_ok v2).mono ?_
  rintro e w3 ⟨c, rfl, gc, v3, b3, lc, lg⟩
  have s1 := b1.size
  have s2 := b2.size
  have s3 := b3.size
  have hS0 : ASt w E w3 (fun _ _ => 0) A0 [(c, gc, fun _ => none)] := by
    have a3 := Al.first v3
    refine ⟨a3, (b1.trans (b2.mono s1)).trans (b3.mono (by omega)), fun i hi ho => ?_, ⟨rfl, .inl ⟨rfl, rfl⟩⟩, fun g hv => by cases hv⟩
    rcases ho with ho | ⟨x, hx, rfl⟩
    · exact o2 i (by omega) ho
    · simp at hx; subst hx; simp only at hi; omega
  clear hN v2 v3 o2 b1 b2 b3 lb lc lg s1 s2 s3
  go_wp2_with fail
  go_loopg [12] len (fun mm s12 wr => ∃ (j : Nat) (P : PM) (D : Nat → Nat → Int) (A : Nat → Prop), j + mm = len ∧ s12 = .int .i64 (j : Int) ∧ Wd64 D ∧ ASt w E wr D A [(c, gc, P)])
  case atStart => exact ⟨0, _, _, _, by omega, rfl, fun _ _ => ⟨by decide, by decide⟩, hS0⟩
  case round =>
    clear hS0
    obtain ⟨j, P, D, A, hj, rfl, hD, S⟩ := hrel
    by_cases hlt : (j : Int) < (len : Int)
    · rcases hq with h0 | ⟨blk, off, rfl, hbl, hqq⟩
      · exfalso; omega
      obtain ⟨c0, c1, c2, c3, c4, hok, hv⟩ := hqq j (by omega)
      have hbw := S.bel
      have d0 : wr.cell? ⟨blk, off + j * 5, none⟩ = some (.int .i64 (q j).what) := by rw [hbw.cell (p := ⟨blk, off + j * 5, none⟩) hbl]; exact c0
      have d1 : wr.cell? ⟨blk, off + j * 5 + 1, none⟩ = some (.int .i64 (q j).at_) := by rw [hbw.cell (p := ⟨blk, off + j * 5 + 1, none⟩) hbl]; exact c1
      have d2 : wr.cell? ⟨blk, off + j * 5 + 2, none⟩ = some (.int .i64 (q j).n) := by rw [hbw.cell (p := ⟨blk, off + j * 5 + 2, none⟩) hbl]; exact c2
      have d3 : wr.cell? ⟨blk, off + j * 5 + 3, none⟩ = some (.int .i64 (q j).prot) := by rw [hbw.cell (p := ⟨blk, off + j * 5 + 3, none⟩) hbl]; exact c3
      have d4 : wr.cell? ⟨blk, off + j * 5 + 4, none⟩ = some (.int .i64 (q j).v) := by rw [hbw.cell (p := ⟨blk, off + j * 5 + 4, none⟩) hbl]; exact c4
      clear c0 c1 c2 c3 c4 hqq hbw
      generalize q j = x at *
      obtain ⟨W, X, Y, Z, V⟩ := x
      simp only at d0 d1 d2 d3 d4
      have hU := S.use hD (i := 0) (by simp) ⟨W, X, Y, Z, V⟩ hok hv
      simp only [List.getElem_cons_zero, List.set_cons_zero] at hU
      clear S hok hv
      go_wp2_with (go_at_call 8; refine hU.mono ?_; rintro e w5 ⟨er, rfl, P', D', A', S', hD', _⟩)
      go_roundg (len - (j + 1))
      case measure => omega
      case rel => exact ⟨j + 1, P', D', A', by omega, by go_num, hD', S'⟩
    · have hF := S.al.fork_ok (by simp) (i := 0) (by simp)
      simp only [List.getElem_cons_zero, List.cons_append, List.nil_append] at hF
      clear hq
      go_wp2_with fail
      refine hF.mono ?_
      rintro e w5 ⟨c', rfl, gc', t5, _⟩
      obtain ⟨A5, S5⟩ := S.turn t5
      clear hF S t5
      have hWa := S5.words hD hp hg (i := 0) (by simp)
      simp only [List.getElem_cons_zero] at hWa
      go_wp2_with fail
      refine hWa.mono ?_
      rintro e w6 ⟨rfl, S6⟩
      clear hWa S5
      have hWb := S6.words hD hp hg (i := 1) (by simp)
      simp only [List.getElem_cons_zero, List.getElem_cons_succ] at hWb
      obtain ⟨Ws, hWs⟩ : ∃ Ws : List UInt8, wds P D = Ws := ⟨_, rfl⟩
      rw [hWs] at hWb ⊢
      have HWs := hide hWs
      clear hWs
      go_wp2_with fail
      refine hWb.mono ?_
      rintro e w7 ⟨rfl, S7⟩
      clear hWb S6
      have hLt := (S7.al.sp 1 (by simp)).sp.len
      have hLs := (S7.al.sp 0 (by simp)).sp.len
      have hRt := (S7.al.sp 1 (by simp)).sp.resident
      simp only [List.getElem_cons_zero, List.getElem_cons_succ] at hLt hLs hRt
      have hRs : ∀ w8, Below w7.heap.size w7 w8 → Calls Tryz.prog 12 #[vp c] w8 fun e w' => e = .returned (.int .i64 (resP P : Nat)) ∧ ASt w E w' D A5 [(c, gc, P), (c', gc', P)] := fun w8 b8 => by
        have S8 := S7.stay b8
        refine ((S8.al.sp 0 (by simp)).sp.resident).mono ?_
        rintro e w' ⟨he, hb⟩
        exact ⟨he, S8.stay hb⟩
      generalize lenP P = LN at *
      generalize resP P = RN at *
      go_wp2_with fail
      refine hLt.mono ?_
      rintro e w8 ⟨rfl, h8⟩
      subst w8
      go_wp2_with fail
      refine hLs.mono ?_
      rintro e w8 ⟨rfl, h8⟩
      subst w8
      go_wp2_with fail
      refine hRt.mono ?_
      rintro e w8 ⟨rfl, b8⟩
      go_wp2_with fail
      refine (hRs _ b8).mono ?_
      rintro e w9 ⟨rfl, S9⟩
      clear hLt hLs hRt hRs S7 b8
      go_wp2_with fail
      go_loopg [15] len2 (fun mm s15 wi => ∃ (j : Nat) (Q : PM) (D : Nat → Nat → Int) (A : Nat → Prop), j + mm = len2 ∧ s15 = .int .i64 (j : Int) ∧ Hid (Wd64 D ∧ wds P D = Ws) ∧ ASt w E wi D A [(c, gc, P), (c', gc', Q)])
      case atStart => exact ⟨0, P, D, A5, by omega, rfl, hide ⟨hD, HWs.out⟩, S9⟩
      case round =>
        clear S9 hD HWs
        obtain ⟨j2, Q, D2, A2, hj2, rfl, H2, S⟩ := hrel
        by_cases hlt2 : (j2 : Int) < (len2 : Int)
        · rcases hq2 with h0 | ⟨blk, off, rfl, hbl, hqq⟩
          · exfalso; omega
          obtain ⟨c0, c1, c2, c3, c4, hok, hv⟩ := hqq j2 (by omega)
          have hbw := S.bel
          have d0 : wr.cell? ⟨blk, off + j2 * 5, none⟩ = some (.int .i64 (q2 j2).what) := by rw [hbw.cell (p := ⟨blk, off + j2 * 5, none⟩) hbl]; exact c0
          have d1 : wr.cell? ⟨blk, off + j2 * 5 + 1, none⟩ = some (.int .i64 (q2 j2).at_) := by rw [hbw.cell (p := ⟨blk, off + j2 * 5 + 1, none⟩) hbl]; exact c1
          have d2 : wr.cell? ⟨blk, off + j2 * 5 + 2, none⟩ = some (.int .i64 (q2 j2).n) := by rw [hbw.cell (p := ⟨blk, off + j2 * 5 + 2, none⟩) hbl]; exact c2
          have d3 : wr.cell? ⟨blk, off + j2 * 5 + 3, none⟩ = some (.int .i64 (q2 j2).prot) := by rw [hbw.cell (p := ⟨blk, off + j2 * 5 + 3, none⟩) hbl]; exact c3
          have d4 : wr.cell? ⟨blk, off + j2 * 5 + 4, none⟩ = some (.int .i64 (q2 j2).v) := by rw [hbw.cell (p := ⟨blk, off + j2 * 5 + 4, none⟩) hbl]; exact c4
          clear c0 c1 c2 c3 c4 hqq hbw
          generalize q2 j2 = x at *
          obtain ⟨W, X, Y, Z, V⟩ := x
          simp only at d0 d1 d2 d3 d4
          have hU := S.use H2.out.1 (i := 1) (by simp) ⟨W, X, Y, Z, V⟩ hok hv
          simp only [List.getElem_cons_zero, List.getElem_cons_succ, List.set_cons_zero, List.set_cons_succ] at hU
          have hokP := (S.al.sp 0 (by simp)).ok
          simp only [List.getElem_cons_zero] at hokP
          clear S hok hv
          go_wp2_with (go_at_call 8; refine hU.mono ?_; rintro e w5 ⟨er, rfl, Q', D', A', S', hD', hoth⟩)
          have hWP : wds P D' = Ws := by
            rw [wds_same hokP (fun f hf k => hoth f (by rw [oth_two_1]; exact hf) k)]; exact H2.out.2
          have hWc := S'.words hD' hp hg (i := 0) (by simp)
          simp only [List.getElem_cons_zero] at hWc
          rw [hWP] at hWc
          have HN := hide (And.intro hD' hWP)
          clear hWP hD' hoth hU
          refine hWc.mono ?_
          rintro e w6 ⟨rfl, S6⟩
          go_wp2_with fail
          go_roundg (len2 - (j2 + 1))
          case measure => omega
          case rel => exact ⟨j2 + 1, Q', D', A', by omega, by go_num, HN, S6⟩
        · have hWd := S.words H2.out.1 hp hg (i := 1) (by simp)
          simp only [List.getElem_cons_zero, List.getElem_cons_succ] at hWd
          obtain ⟨Wn, hWn⟩ : ∃ Wn : List UInt8, wds Q D2 = Wn := ⟨_, rfl⟩
          rw [hWn] at hWd
          have H3 : Hid (Wd64 D2 ∧ wds Q D2 = Wn) := hide ⟨H2.out.1, hWn⟩
          clear hWn H2 hq2
          go_wp2_with fail
          refine hWd.mono ?_
          rintro e w6 ⟨rfl, S6⟩
          clear hWd S
          go_wp2_with fail
          go_loopg [17] len3 (fun mm s17 wi => ∃ (j : Nat) (R : PM) (D : Nat → Nat → Int) (A : Nat → Prop), j + mm = len3 ∧ s17 = .int .i64 (j : Int) ∧ Hid (Wd64 D ∧ wds Q D = Wn) ∧ ASt w E wi D A [(c, gc, R), (c', gc', Q)])
          case atStart => exact ⟨0, P, D2, A2, by omega, rfl, H3, S6⟩
          case round =>
            clear S6 H3
            obtain ⟨j3, R, D3, A3, hj3, rfl, H3, S⟩ := hrel
            by_cases hlt3 : (j3 : Int) < (len3 : Int)
            · rcases hq3 with h0 | ⟨blk, off, rfl, hbl, hqq⟩
              · exfalso; omega
              obtain ⟨c0, c1, c2, c3, c4, hok, hv⟩ := hqq j3 (by omega)
              have hbw := S.bel
              have d0 : wr.cell? ⟨blk, off + j3 * 5, none⟩ = some (.int .i64 (q3 j3).what) := by rw [hbw.cell (p := ⟨blk, off + j3 * 5, none⟩) hbl]; exact c0
              have d1 : wr.cell? ⟨blk, off + j3 * 5 + 1, none⟩ = some (.int .i64 (q3 j3).at_) := by rw [hbw.cell (p := ⟨blk, off + j3 * 5 + 1, none⟩) hbl]; exact c1
              have d2 : wr.cell? ⟨blk, off + j3 * 5 + 2, none⟩ = some (.int .i64 (q3 j3).n) := by rw [hbw.cell (p := ⟨blk, off + j3 * 5 + 2, none⟩) hbl]; exact c2
              have d3 : wr.cell? ⟨blk, off + j3 * 5 + 3, none⟩ = some (.int .i64 (q3 j3).prot) := by rw [hbw.cell (p := ⟨blk, off + j3 * 5 + 3, none⟩) hbl]; exact c3
              have d4 : wr.cell? ⟨blk, off + j3 * 5 + 4, none⟩ = some (.int .i64 (q3 j3).v) := by rw [hbw.cell (p := ⟨blk, off + j3 * 5 + 4, none⟩) hbl]; exact c4
              clear c0 c1 c2 c3 c4 hqq hbw
              generalize q3 j3 = x at *
              obtain ⟨W, X, Y, Z, V⟩ := x
              simp only at d0 d1 d2 d3 d4
              have hU := S.use H3.out.1 (i := 0) (by simp) ⟨W, X, Y, Z, V⟩ hok hv
              simp only [List.getElem_cons_zero, List.set_cons_zero] at hU
              have hokQ := (S.al.sp 1 (by simp)).ok
              simp only [List.getElem_cons_zero, List.getElem_cons_succ] at hokQ
              clear S hok hv
              go_wp2_with (go_at_call 8; refine hU.mono ?_; rintro e w5 ⟨er, rfl, R', D', A', S', hD', hoth⟩)
              have hWQ : wds Q D' = Wn := by
                rw [wds_same hokQ (fun f hf k => hoth f (by rw [oth_two_0]; exact hf) k)]; exact H3.out.2
              have hWc := S'.words hD' hp hg (i := 1) (by simp)
              simp only [List.getElem_cons_zero, List.getElem_cons_succ] at hWc
              rw [hWQ] at hWc
              have HN := hide (And.intro hD' hWQ)
              clear hWQ hD' hoth hU
              refine hWc.mono ?_
              rintro e w6 ⟨rfl, S6⟩
              go_wp2_with fail
              go_roundg (len3 - (j3 + 1))
              case measure => omega
              case rel => exact ⟨j3 + 1, R', D', A', by omega, by go_num, HN, S6⟩
            · have hCl := S.al.clear_ok (i := 0) (by simp)
              simp only [List.getElem_cons_zero, List.set_cons_zero] at hCl
              go_wp2_with fail
              refine hCl.mono ?_
              rintro e w6 ⟨rfl, t6⟩
              obtain ⟨A6, S6⟩ := S.turn t6
              have hWe := S6.words H3.out.1 hp hg (i := 1) (by simp)
              simp only [List.getElem_cons_zero, List.getElem_cons_succ] at hWe
              rw [H3.out.2] at hWe
              clear hCl t6 S
              go_wp2_with fail
              refine hWe.mono ?_
              rintro e w7' ⟨rfl, S7'⟩
              have hL0 := (S7'.al.sp 0 (by simp)).sp.len
              have hR0 := (S7'.al.sp 0 (by simp)).sp.resident
              simp only [List.getElem_cons_zero, lenP_none, resP_none] at hL0 hR0
              have hB7 := S7'.bel
              clear hWe S6 S7' H3
              go_wp2_with fail
              refine hL0.mono ?_
              rintro e w8 ⟨rfl, h8⟩
              subst w8
              go_wp2_with fail
              refine hR0.mono ?_
              rintro e w8 ⟨rfl, b8⟩
              go_wp2_with fail
              go_ret
              exact ⟨by simp, hB7.trans (b8.mono hB7.size)⟩
end Go.Proofs.YtemomohijidmpaaGreatDoor

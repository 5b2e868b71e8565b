/- Package tree: Drop and Unlink, by their Go text. -/
import Derived.Test.YtcfhanoekniaaaaGreatDoorUHold
import Derived.Test.YtcfhanoekniaaaaGreatDoorQLeast
import Derived.Lib.BufferRead
import Derived.Laws.IdiomCopy
import Derived.Laws.MakeOwn
namespace Go.Proofs.YtcfhanoekniaaaaGreatDoor
open Go.RowKit Go.Maps

section
variable {w w' : World} {r gN s : Nat} {T : Wd} {Z : Int → Nat} {B G : Int → Nat} {V : Int → Value} {O : Nat → Prop}

theorem PTr.settle_any (h : PTr w r gN s T Z B G V O) (n : Int) (hw : (Lit.int .i64 n).wf = true) {nd : Nd} (hn : T n = some nd) (h1 : ∀ k, cnt1 (T n) k = 0) (hZ : ∀ k, (T k).isSome = true → Z k = cntT T k) :
    Calls Tryz.prog 312 #[wp r, .int .i64 n] w fun e w' => (∃ v, e = .returned v) ∧ PT w' r (if cntT T n = 0 ∧ heldT nd = 0 then eraT T n else T) O ∧ Stp w w' O O := by
  have hzn := hZ n (by rw [hn]; rfl)
  by_cases hz : cntT T n = 0 ∧ heldT nd = 0
  · rw [if_pos hz]
    refine (h.settle_go n hw hn (hzn.trans hz.1) hz.2).mono ?_
    rintro e w' ⟨hv, h', hs⟩
    refine ⟨hv, ⟨gN, _, B, G, V, h'.as rfl (fun k hk => ?_)⟩, hs⟩
    have hk' : (T k).isSome = true := by
      by_cases e1 : k = n
      · subst e1; rw [eraT_same] at hk; cases hk
      · rw [eraT_other e1] at hk; exact hk
    rw [cnt_era h1, hZ k hk']
  · rw [if_neg hz]
    refine (h.settle_stay n hw hn (by rw [hzn]; exact hz)).mono ?_
    rintro e w' ⟨hv, rfl⟩
    exact ⟨hv, ⟨gN, s, B, G, V, h.as rfl (fun k hk => (hZ k hk).symm)⟩, .refl _ _⟩

theorem file_nz (hT : TrOk T) {n : Int} {b : List UInt8} {x : Nat} (hn : T n = some (.file b x)) : n ≠ 0 := by
  rintro rfl
  obtain ⟨C, e⟩ := hT.root
  rw [e] at hn; cases hn

/-- What Drop leaves. -/
theorem drop_turn (hT : TrLv T) {n : Int} {b : List UInt8} {x : Nat} (hn : T n = some (.file b (x + 1))) :
    holdE T n (-1) = 0 ∧ holdN T n (-1) = (if cntT (setT T n (.file b x)) n = 0 ∧ heldT (.file b x) = 0 then eraT (setT T n (.file b x)) n else setT T n (.file b x)) ∧ TrLv (holdN T n (-1)) := by
  have hsm := hT.small n b (x + 1) hn
  have hok : TrOk (setT T n (.file b x)) := hT.toTrOk.setF hn hsm.1 (by omega)
  have hl : ∀ k nd, k ≠ n → setT T n (.file b x) k = some nd → k = 0 ∨ cntT (setT T n (.file b x)) k ≠ 0 ∨ heldT nd ≠ 0 := fun k nd e h => by
    rw [cnt_setF hn]; rw [setT_other _ e] at h; exact hT.lv k nd h
  have h0 := file_nz hT.toTrOk hn
  have hN : holdN T n (-1) = sweepT (setT T n (.file b x)) := by
    unfold holdN; rw [hn]; simp only
    rw [if_neg (by omega), show (((x + 1 : Nat) : Int) + -1).toNat = x by omega]
  have hsw := sweep_one hok n hl _ (setT_same T n (.file b x)) h0
  refine ⟨by unfold holdE; rw [hn]; simp only; rw [if_neg (by omega)], by rw [hN, hsw], ?_⟩
  rw [hN, hsw]
  by_cases hz : cntT (setT T n (.file b x)) n = 0 ∧ heldT (.file b x) = 0
  · rw [if_pos hz]
    exact TrLv.era hok (by rw [cnt_setF hn]; exact hT.nr) hl (setT_same _ _ _) h0 hz.1 (fun k => by rw [setT_same]; rfl)
  · rw [if_neg hz]
    refine hT.setF hn hsm.1 (by omega) ?_
    by_cases e : cntT T n = 0
    · exact .inl (fun ex => hz ⟨by rw [cnt_setF hn]; exact e, ex⟩)
    · exact .inr e

set_option maxRecDepth 100000 in
set_option maxHeartbeats 2000000 in
theorem PT.drop_ok (h : PT w r T O) (hT : TrLv T) (n : Int) (hw : (Lit.int .i64 n).wf = true) :
    Calls Tryz.prog 334 #[wp r, .int .i64 n] w fun e w' => e = .returned (uev (holdE T n (-1))) ∧ PT w' r (holdN T n (-1)) O ∧ Stp w w' O O := by
  obtain ⟨gN, s, B, G, V, h⟩ := h
  by_cases hz : fileT T n = 0
  · obtain ⟨b, x, hn⟩ := fileT_zero hz
    have hF := h.file_ok n hw hn
    obtain ⟨_, _, _, n3⟩ := h.fcell hn
    have nf := h.nfrozen hn 3
    cases x with
    | zero =>
      have hE : holdE T n (-1) = 10 := by unfold holdE; rw [hn]; simp only; rw [if_pos (by omega)]
      have hN : holdN T n (-1) = T := by unfold holdN; rw [hn]; simp only; rw [if_pos (by omega)]
      rw [hE, hN]
      have hfin : PT w r T O := ⟨gN, s, B, G, V, h⟩
      clear hn hz hT hE hN
      go_enter Tryz.func334, Tryz.ntmps334
      go_wp2_with (go_at_call 242; refine hF.mono ?_; rintro e w' ⟨rfl, hw'⟩; subst w')
      go_ret
      exact ⟨rfl, hfin, .refl _ _⟩
    | succ x =>
      obtain ⟨hE, hN, _⟩ := drop_turn hT hn
      have hx := (hT.small n b (x + 1) hn).2
      have h1 := h.held hn x
      have hst : Stp w (w.setCell ⟨B n, 3, none⟩ (.int .i64 (x : Int))) O O := .cell _ (h.ownB n (by rw [hn]; rfl))
      have hS := h1.settle_any n hw (setT_same _ _ _) (fun k => by rw [setT_same]; rfl) (fun k _ => (cnt_setF hn k).symm)
      rw [← hN] at hS
      rw [hE, uev_zero]
      have hxx : wrap64 (((x + 1 : Nat) : Int) - 1) = (x : Int) := by unfold wrap64; omega
      have hx0 : (((x + 1 : Nat) : Int) == 0) = false := by simp; omega
      have hsub : ((x + 1 : Nat) : Int) - 1 = (x : Int) := by omega
      generalize ((x + 1 : Nat) : Int) = X at *
      clear h1 hT hN hn hz hE
      go_enter Tryz.func334, Tryz.ntmps334
      go_wp2_with (first
        | (go_at_call 242; refine hF.mono ?_; rintro e w' ⟨rfl, hw'⟩; subst w')
        | (go_at_call 312; refine hS.mono ?_; rintro e w2 ⟨⟨v, rfl⟩, h2, st2⟩))
      go_ret
      exact ⟨rfl, h2, hst.trans st2⟩
  · have hF := h.file_bad n hw hz
    have hE : holdE T n (-1) = fileT T n := by
      unfold holdE
      cases hn : T n with
      | none => rfl
      | some nd => cases nd with
        | dir C => rfl
        | file b x => exact absurd (by unfold fileT; rw [hn]) hz
    have hN : holdN T n (-1) = T := by
      unfold holdN
      cases hn : T n with
      | none => rfl
      | some nd => cases nd with
        | dir C => rfl
        | file b x => exact absurd (by unfold fileT; rw [hn]) hz
    rw [hE, hN, uev_ne hz]
    generalize fileT T n = z at *
    go_enter Tryz.func334, Tryz.ntmps334
    go_wp2_with (go_at_call 242; refine hF.mono ?_; rintro e w' ⟨rfl, hw'⟩; subst w')
    go_ret
    exact ⟨rfl, ⟨gN, s, B, G, V, h⟩, .refl _ _⟩

end
end Go.Proofs.YtcfhanoekniaaaaGreatDoor

namespace Go.Proofs.YtcfhanoekniaaaaGreatDoor
open Go.RowKit Go.Maps

section
variable {w w' w2 : World} {f b n : Nat} {D D' : DS} {g g' : QG} {M N N' : Ns} {d k : Int} {e : En}
theorem ent_put2 {W : World} {i : Nat} {a b c d e x : Value} {t : TypeId} (h : W.heap[i]? = some (.cells #[a, b, c, d, e, x] t)) (v : Value) : (W.setCell ⟨i, 2, none⟩ v).heap[i]? = some (.cells #[a, b, v, d, e, x] t) := by
  rw [heap_cell_same W i 2 v _ _ _ h]; rfl
theorem ent_put4 {W : World} {i : Nat} {a b c d e x : Value} {t : TypeId} (h : W.heap[i]? = some (.cells #[a, b, c, d, e, x] t)) (v : Value) : (W.setCell ⟨i, 4, none⟩ v).heap[i]? = some (.cells #[a, b, c, d, v, x] t) := by
  rw [heap_cell_same W i 4 v _ _ _ h]; rfl
/-- An ENTRY's count turned. -/
theorem QF.count (h : QF w f D g n) (he : D.E d = some e) (c' : Int) : QF (w.setCell ⟨g.B d, 2, none⟩ (.int .i64 c')) f { D with R := fun i => if i = d then some c' else D.R i } g n := by
  obtain ⟨c, h1, h2, h3⟩ := h.ent d e he
  exact h.putR he c' (ent_put2 h2 _) (tgrown_set _ _ _ _)
/-- An ENTRY's place turned. -/
theorem QF.place (h : QF w f D g n) (he : D.E d = some e) (a : Int) : QF (w.setCell ⟨g.B d, 4, none⟩ (.int .i64 a)) f { D with E := fun i => if i = d then some { e with pos := a } else D.E i } g n := by
  obtain ⟨c, h1, h2, h3⟩ := h.ent d e he
  exact h.putE he h1 { e with pos := a } (ent_put4 h2 _) (tgrown_set _ _ _ _)
theorem QF.offTab (h : QF w f D g n) (hb : g.kap b = none) (hg : w.grownBy w' (some b)) : QF w' f D g n :=
  h.keep (fun i hi => hg.block i (h.lt i hi) (fun x => by rw [Option.some.inj x, hb] at hi; cases hi)) hg.size
theorem QTb.offOwn (t : QTb w b g M N) {x : Nat} (hx : (g.kap x).isSome = true) (hg : w.grownBy w' (some x)) : QTb w' b g M N :=
  t.keep (hg.block b t.tab.lt (fun e => by rw [← Option.some.inj e, t.off] at hx; cases hx))
theorem QT.put_grown (w : World) (b i : Nat) (u v : Value) : w.grownBy ((w.setCell ⟨b, i * 2, none⟩ u).setCell ⟨b, i * 2 + 1, none⟩ v) (some b) := tgrown_trans (tgrown_set _ _ _ _) (tgrown_set _ _ _ _)

set_option maxRecDepth 100000 in
set_option maxHeartbeats 4000000 in
theorem QF.give_ok (h : QF w f D g n) (t : QTb w b g M N) {i : Nat} (hi : i < 8) (hk : g.K k = some d) (hd : 0 < d) (he : D.E d = some e) {c : Int} (hc : D.R d = some c) (hc0 : 0 ≤ c) (hc1 : c < 100000) :
    Calls Tryz.prog 239 #[wp f, wp b, .int .i64 (i : Int), .int .i64 k] w fun x w' => x = .returned (.tuple #[]) ∧ QF w' f { D with R := fun j => if j = d then some (c + 1) else D.R j } g n ∧ QTb w' b g (M.set i (k, false)) (N.set i (d, false)) ∧ Wt (fun i => (g.kap i).isSome = true ∨ i = b) w w' := by
  obtain ⟨_, hk0, hk1⟩ := h.key k d hk
  obtain ⟨t0, t1⟩ := t.tab.at hi
  have z0 := t.tab.free (i * 2)
  have z1 := t.tab.free (i * 2 + 1)
  have hT1 := t.set (i := i) (k, false) (d, false) (t.tab.put hi (k, false) ⟨by omega, hk1, fun e => by omega⟩) ⟨rfl, .inr ⟨hd, hk⟩⟩
  have g1 := QT.put_grown w b i (.int .i64 k) (.bool false)
  have h1 := h.offTab t.off g1
  obtain ⟨W, hW⟩ : ∃ W, (w.setCell ⟨b, i * 2, none⟩ (.int .i64 k)).setCell ⟨b, i * 2 + 1, none⟩ (.bool false) = W := ⟨_, rfl⟩
  simp only at hT1
  rw [hW] at hT1 g1 h1
  have c1 := h1.cells.2
  have hlk := h1.look (k := k) (by omega) hk1
  rw [gv_some hk] at hlk
  obtain ⟨_, _, e2, _, _, _, ez⟩ := h1.ecell he hc
  have ez2 := ez 2
  have h2 := h1.count he (c + 1)
  obtain ⟨_, _, _, hkb⟩ := h.ent d e he
  have g2 := tgrown_set W (g.B d) 2 (.int .i64 (c + 1))
  have hT2 := hT1.offOwn (by rw [hkb]; rfl) g2
  have wt : Wt (fun i => (g.kap i).isSome = true ∨ i = b) w (W.setCell ⟨g.B d, 2, none⟩ (.int .i64 (c + 1))) := (Wt.grown g1 (.inr rfl)).trans (Wt.grown g2 (.inl (by rw [hkb]; rfl)))
  have hw1 : wrap64 (c + 1) = c + 1 := by unfold wrap64; omega
  have hi8 : (i : Int) < 8 := by omega
  generalize N.set i (d, false) = N2 at *
  generalize M.set i (k, false) = M2 at *
  generalize (M[i]'(by rw [t.tab.len]; exact hi)).1 = X at *
  generalize (M[i]'(by rw [t.tab.len]; exact hi)).2 = Y at *
  generalize ({ D with R := fun j => if j = d then some (c + 1) else D.R j } : DS) = D2 at *
  generalize g.B d = q at *
  clear h t hk he hc hT1 g1 h1 ez hkb g2 hc0 hc1
  go_enter Tryz.func239, Tryz.ntmps239
  go_upto_region 1 with fail
  clear t0 t1 z0 z1 hW
  go_wp2_with fail
  go_end0
  exact ⟨rfl, h2, hT2, wt⟩
set_option maxRecDepth 100000 in
set_option maxHeartbeats 4000000 in
theorem QF.shut_file (h : QF w f D g n) {q : Nat} {kd pr cn nd ps : Int} {pp : Value} (hq : w.heap[q]? = some (.cells #[.int .i64 kd, .int .i64 pr, .int .i64 cn, .int .i64 nd, .int .i64 ps, pp] 238)) (hqk : g.kap q = some (.ent d)) (hkd : kd = 1) (hT : TrLv D.T) (hn0 : 0 ≤ nd) (hn1 : nd < 100000) :
    Calls Tryz.prog 297 #[wp f, wp q] w fun x w' => x = .returned (.tuple #[]) ∧ (∃ g', QF w' f { D with T := holdN D.T nd (-1) } g' n ∧ (∀ i, i < w.heap.size → g'.kap i = g.kap i) ∧ g'.K = g.K ∧ g'.r = g.r) ∧ Wt (fun i => (g.kap i).isSome = true) w w' := by
  subst hkd
  have hqc : ∀ {V : World}, V.heap[q]? = w.heap[q]? → V.cell? ⟨q, 0, none⟩ = some (.int .i64 1) ∧ V.cell? ⟨q, 3, none⟩ = some (.int .i64 nd) := fun {V} hV => by
    rw [hq] at hV
    exact ⟨by rw [cell_of_row _ _ _ _ _ _ hV]; rfl, by rw [cell_of_row _ _ _ _ _ _ hV]; rfl⟩
  obtain ⟨e0, e3⟩ := hqc (V := w) rfl
  have c0 := h.cells.1
  have hfb : f < w.heap.size := h.lt f (by rw [h.tf]; rfl)
  have hqb : q < w.heap.size := h.lt q (by rw [hqk]; rfl)
  have hDr : ∀ V, Below w.heap.size w V → Calls Tryz.prog 334 #[wp g.r, .int .i64 nd] V fun x w' => (∃ z, x = .returned (uev z)) ∧ ((∃ g', QF w' f { D with T := holdN D.T nd (-1) } g' n ∧ (∀ i, i < w.heap.size → g'.kap i = g.kap i) ∧ g'.K = g.K ∧ g'.r = g.r) ∧ Wt (fun i => (g.kap i).isSome = true) w w') ∧ w'.cell? ⟨f, 0, none⟩ = some (wp g.r) ∧ w'.cell? ⟨q, 3, none⟩ = some (.int .i64 nd) := fun V hV => by
    have hV' := h.below hV
    obtain ⟨O, p, hO⟩ := hV'.tree
    refine (p.drop_ok hT nd (wf_few hn0 (by omega))).mono ?_
    rintro x w' ⟨rfl, p', st⟩
    obtain ⟨g', a1, a2, a3, a4, _⟩ := hV'.turn hO p' st
    refine ⟨⟨_, rfl⟩, ⟨⟨g', a1, fun i hi => a2 i (Nat.lt_of_lt_of_le hi hV.size), a3, a4⟩, (Wt.below _ hV).trans (st.wt.mono (fun i hi => by rw [hO i hi]; rfl))⟩, ?_, ?_⟩
    · have := a1.cells.1
      rw [a4] at this
      exact this
    · exact (hqc ((st.wt.block q (Nat.lt_of_lt_of_le hqb hV.size) (fun o => tag_ne hqk (hO q o) (by simp) rfl)).trans (hV.block q hqb))).2
  have hI : Calls Tryz.prog 145 #[wp q] w fun x w' => x = .returned (.bool true) ∧ w' = w := by
    clear hDr
    go_enter Tryz.func145, Tryz.ntmps145
    go_wp2_with fail
    go_ret
    exact ⟨rfl, rfl⟩
  generalize ({ D with T := holdN D.T nd (-1) } : DS) = D2 at *
  clear h hq hqk hT hn0 hn1 hqc hfb hqb
  go_enter Tryz.func297, Tryz.ntmps297
  go_upto_region 1 with (go_at_call 145; refine hI.mono ?_; rintro x w1 ⟨rfl, hw1⟩; subst w1)
  go_region_held3 (fun w' => w'.cell? ⟨f, 0, none⟩ = some (wp g.r) ∧ w'.cell? ⟨q, 3, none⟩ = some (.int .i64 nd)) (first | exact ⟨c0, e3⟩ | exact ⟨k0, k3⟩) (first
    | (go_at_call 334; refine (hDr _ ⟨by rfl, by rfl, by rfl, by exact Nat.le_refl _, fun _ _ => by rfl⟩).mono ?_; rintro x w2 ⟨⟨z, rfl⟩, hR, k0, k3⟩))
  all_goals
    go_wp2_with fail
    refine bodyPost_ret (results_none rfl _ _ _) rfl ?_
    exact ⟨rfl, hR⟩
set_option maxRecDepth 100000 in
set_option maxHeartbeats 4000000 in
theorem QF.shut_end (h : QF w f D g n) {q : Nat} {kd pr cn nd ps p : Int} {x : Pi} (hq : w.heap[q]? = some (.cells #[.int .i64 kd, .int .i64 pr, .int .i64 cn, .int .i64 nd, .int .i64 ps, wp (g.Q p)] 238)) (hqk : g.kap q = some (.ent d)) (hkd : kd ≠ 1) (hp : D.P p = some x) (hF : 0 ≤ x.2.1 ∧ x.2.1 < 1000) (hI : 0 ≤ x.2.2 ∧ x.2.2 < 1000) :
    Calls Tryz.prog 297 #[wp f, wp q] w fun y w' => y = .returned (.tuple #[]) ∧ QF w' f { D with P := fun i => if i = p then some (turnP x kd) else D.P i } g n ∧ Wt (fun i => (g.kap i).isSome = true) w w' := by
  have hqc : ∀ {V : World}, V.heap[q]? = w.heap[q]? → V.cell? ⟨q, 0, none⟩ = some (.int .i64 kd) ∧ V.cell? ⟨q, 5, none⟩ = some (wp (g.Q p)) := fun {V} hV => by
    rw [hq] at hV
    exact ⟨by rw [cell_of_row _ _ _ _ _ _ hV]; rfl, by rw [cell_of_row _ _ _ _ _ _ hV]; rfl⟩
  obtain ⟨e0, e5⟩ := hqc (V := w) rfl
  have hqb : q < w.heap.size := h.lt q (by rw [hqk]; rfl)
  have hDr : ∀ V, Below w.heap.size w V → Calls Tryz.prog 335 #[wp (g.Q p), .int .i64 kd] V fun y w' => (∃ z, y = .returned (uev z)) ∧ (QF w' f { D with P := fun i => if i = p then some (turnP x kd) else D.P i } g n ∧ Wt (fun i => (g.kap i).isSome = true) w w') ∧ w'.cell? ⟨q, 0, none⟩ = some (.int .i64 kd) ∧ w'.cell? ⟨q, 5, none⟩ = some (wp (g.Q p)) := fun V hV => by
    have hV' := h.below hV
    obtain ⟨tb, tk⟩ := hV'.pipe p x hp
    refine (tb.close_ok kd hF.1 hF.2 hI.1 hI.2).mono ?_
    rintro y w' ⟨rfl, tb', hg⟩
    have hb : w'.heap[q]? = w.heap[q]? := (hg.block q (Nat.lt_of_lt_of_le hqb hV.size) (fun e => tag_ne hqk tk (by simp) (Option.some.inj e))).trans (hV.block q hqb)
    exact ⟨⟨_, rfl⟩, ⟨hV'.piped hp (x' := turnP x kd) tb' hg, (Wt.below _ hV).trans (Wt.grown hg (by rw [tk]; rfl))⟩, hqc hb⟩
  have hkd' : (kd == 1) = false := by simpa using hkd
  have hIs : Calls Tryz.prog 145 #[wp q] w fun x w' => x = .returned (.bool false) ∧ w' = w := by
    clear hDr
    go_enter Tryz.func145, Tryz.ntmps145
    go_wp2_with fail
    go_ret
    exact ⟨rfl, rfl⟩
  generalize ({ D with P := fun i => if i = p then some (turnP x kd) else D.P i } : DS) = D2 at *
  clear h hq hqk hqc hqb hp hF hI hkd
  generalize g.Q p = Q at *
  go_enter Tryz.func297, Tryz.ntmps297
  go_upto_region 2 with (go_at_call 145; refine hIs.mono ?_; rintro x w1 ⟨rfl, hw1⟩; subst w1)
  go_region_held3 (fun w' => w'.cell? ⟨q, 0, none⟩ = some (.int .i64 kd) ∧ w'.cell? ⟨q, 5, none⟩ = some (wp Q)) (first | exact ⟨e0, e5⟩ | exact ⟨k0, k5⟩) (first
    | (go_at_call 335; refine (hDr _ ⟨by rfl, by rfl, by rfl, by exact Nat.le_refl _, fun _ _ => by rfl⟩).mono ?_; rintro x w2 ⟨⟨z, rfl⟩, hR, k0, k5⟩))
  all_goals
    go_wp2_with fail
    go_end0
    exact ⟨rfl, hR⟩
end
end Go.Proofs.YtcfhanoekniaaaaGreatDoor

namespace Go.Proofs.YtcfhanoekniaaaaGreatDoor
open Go.RowKit Go.Maps

section
variable {w w' : World} {r gN s : Nat} {T : Wd} {Z : Int → Nat} {B G : Int → Nat} {V : Int → Value} {O : Nat → Prop}

set_option maxHeartbeats 1000000 in
theorem newDir_ok (w : World) : Calls Tryz.prog 132 #[] w fun e w' => e = .returned (wp (w.heap.size + 1)) ∧ w' = (w.alloc (.map #[] 0)).alloc (.cells #[.map (some w.heap.size), .slice none 0 0, .int .i64 0, .int .i64 0] 337) := by
  have hmm := @run_makeMap Tryz.prog
  go_enter Tryz.func132, Tryz.ntmps132
  go_wp2_with fail
  go_ret
  exact ⟨rfl, rfl⟩

/-- A tree of a directory without names. -/
def nullT : Wd := fun k => if k = 0 then some (.dir []) else none
theorem nullT_node {k : Int} {nd : Nd} (h : nullT k = some nd) : k = 0 ∧ nd = .dir [] := by
  unfold nullT at h
  by_cases e : k = 0
  · rw [if_pos e] at h; cases h; exact ⟨e, rfl⟩
  · rw [if_neg e] at h; cases h
theorem nullT_cnt (k : Int) : cntT nullT k = 0 := by
  by_cases e : cntT nullT k = 0
  · exact e
  · obtain ⟨i, _, hi⟩ := cntTo_pos 64 e
    exfalso
    apply hi
    cases h : nullT (i : Int) with
    | none => rfl
    | some nd => obtain ⟨_, rfl⟩ := nullT_node h; rfl
theorem nullT_lv : TrLv nullT :=
  { root := ⟨[], rfl⟩
    key := fun k h => by
      cases e : nullT k with
      | none => rw [e] at h; cases h
      | some nd => obtain ⟨rfl, _⟩ := nullT_node e; omega
    nodup := fun k C h => by obtain ⟨_, e⟩ := nullT_node h; cases e; exact List.nodup_nil
    child := fun k C s n h hl => by obtain ⟨_, e⟩ := nullT_node h; cases e; cases hl
    name := fun k C x h hx => by obtain ⟨_, e⟩ := nullT_node h; cases e; cases hx
    small := fun k b x h => by obtain ⟨_, e⟩ := nullT_node h; cases e
    nr := nullT_cnt 0
    lv := fun k nd h => .inl (nullT_node h).1 }

set_option maxRecDepth 100000 in
set_option maxHeartbeats 4000000 in
theorem new_ok (w : World) : Calls Tryz.prog 47 #[] w fun e w' => ∃ r O, e = .returned (wp r) ∧ PT w' r nullT O ∧ Below w.heap.size w w' ∧ ∀ i, O i → w.heap.size ≤ i := by
  have hmm := @run_makeMap Tryz.prog
  have hz1 : (w.alloc (.map #[] 0)).heap.size = w.heap.size + 1 := by simp
  have hND := newDir_ok (w.alloc (.map #[] 0))
  rw [hz1] at hND
  have hp0 := PMap.made w
  have bA : Below w.heap.size w (((w.alloc (.map #[] 0)).alloc (.map #[] 0)).alloc (.cells #[.map (some (w.heap.size + 1)), .slice none 0 0, .int .i64 0, .int .i64 0] 337)) := (((Below.refl _ _).alloc (Nat.le_refl _) _).alloc (by rw [hz1]; omega) _).alloc (by simp; omega) _
  have hszA : (((w.alloc (.map #[] 0)).alloc (.map #[] 0)).alloc (.cells #[.map (some (w.heap.size + 1)), .slice none 0 0, .int .i64 0, .int .i64 0] 337)).heap.size = w.heap.size + 3 := by simp
  have hpA : PMap (((w.alloc (.map #[] 0)).alloc (.map #[] 0)).alloc (.cells #[.map (some (w.heap.size + 1)), .slice none 0 0, .int .i64 0, .int .i64 0] 337)) w.heap.size 0 (fun _ => none) := (hp0.keep (Below.heap_alloc _ _ _ (by rw [hz1]; omega))).keep (Below.heap_alloc _ _ _ (by simp; omega))
  have hsA : SMap (((w.alloc (.map #[] 0)).alloc (.map #[] 0)).alloc (.cells #[.map (some (w.heap.size + 1)), .slice none 0 0, .int .i64 0, .int .i64 0] 337)) (w.heap.size + 1) 0 (fun _ => none) := by
    have := SMap.made (w.alloc (.map #[] 0))
    rw [hz1] at this
    exact this.keep (Below.heap_alloc _ _ _ this.lt)
  have hnA : (((w.alloc (.map #[] 0)).alloc (.map #[] 0)).alloc (.cells #[.map (some (w.heap.size + 1)), .slice none 0 0, .int .i64 0, .int .i64 0] 337)).heap[w.heap.size + 2]? = some (.cells #[.map (some (w.heap.size + 1)), .slice none 0 0, .int .i64 0, .int .i64 0] 337) := by
    have := two_alloc (w.alloc (.map #[] 0)) (.map #[] 0) (.cells #[.map (some (w.heap.size + 1)), .slice none 0 0, .int .i64 0, .int .i64 0] 337)
    rwa [hz1] at this
  generalize ((w.alloc (.map #[] 0)).alloc (.map #[] 0)).alloc (.cells #[.map (some (w.heap.size + 1)), .slice none 0 0, .int .i64 0, .int .i64 0] 337) = wA at *
  obtain ⟨w1, hrun, pm1, g1⟩ := hpA.put Tryz.underlying204 (by unfold maxLen; omega) 0 (by decide) (wp (w.heap.size + 2))
  have hkp : ∀ i, i < w.heap.size + 3 → i ≠ w.heap.size → w1.heap[i]? = wA.heap[i]? := fun i hi hne => g1.block i (by rw [hszA]; exact hi) (fun e => hne (Option.some.inj e))
  have b1 : Below w.heap.size w w1 := bA.grown g1 (by omega) (fun k e => by cases e; omega)
  have hz9 : w.heap.size + 3 ≤ w1.heap.size := by have := g1.size; omega
  have hfin : PT (w1.alloc (.cells #[.map (some w.heap.size)] 206)) w1.heap.size nullT (fun i => w.heap.size ≤ i ∧ i < w1.heap.size + 1) := by
    have hal : ∀ i, i < w1.heap.size → (w1.alloc (.cells #[.map (some w.heap.size)] 206)).heap[i]? = w1.heap[i]? := fun i hi => Below.heap_alloc _ _ _ hi
    refine ⟨w.heap.size, 1, fun _ => w.heap.size + 2, fun _ => w.heap.size + 1, fun _ => .slice none 0 0, World.alloc_heap_new _ _, ?_, fun k nd e => ?_, fun k C e => ?_, fun k b x e => ?_, fun k C e => by omega, fun k k' C C' e e' _ => ?_, fun k k' e e' _ => ?_, ⟨by omega, by omega⟩, ⟨by omega, by omega⟩, fun k _ => ⟨by omega, by omega⟩, fun k C _ => ⟨by omega, by omega⟩, fun k b x i e => ?_, fun i hi => by simp; omega⟩
    · have e : (fun i => if i = (0 : Int) then some (wp (w.heap.size + 2)) else (fun _ => none) i) = fun k => (nullT k).map (fun _ => wp (w.heap.size + 2)) := by
        funext i; unfold nullT; by_cases e : i = 0 <;> simp [e]
      rw [← e]
      exact pm1.keep (hal _ (by omega))
    · obtain ⟨rfl, rfl⟩ := nullT_node e
      rw [hal _ (by omega), hkp _ (by omega) (by omega), hnA]
      simp [ncells, nullT_cnt]
    · obtain ⟨rfl, e9⟩ := nullT_node e
      cases e9
      exact (hsA.keep (hkp _ (by omega) (by omega))).keep (hal _ (by omega))
    · obtain ⟨_, e9⟩ := nullT_node e; cases e9
    · rw [(nullT_node e).1, (nullT_node e').1]
    · cases h1 : nullT k with
      | none => rw [h1] at e; cases e
      | some nd => cases h2 : nullT k' with
        | none => rw [h2] at e'; cases e'
        | some nd' => rw [(nullT_node h1).1, (nullT_node h2).1]
    · obtain ⟨_, e9⟩ := nullT_node e; cases e9
  have b2 : Below w.heap.size w (w1.alloc (.cells #[.map (some w.heap.size)] 206)) := b1.alloc b1.size _
  clear pm1 g1 hkp hpA hsA hnA bA b1
  go_enter Tryz.func47, Tryz.ntmps47
  go_wp2_with (go_at_call 132; refine hND.mono ?_; rintro e w' ⟨rfl, hw'⟩; subst w')
  go_ret
  exact ⟨w1.heap.size, _, rfl, hfin, b2, fun i hi => hi.1⟩
end
end Go.Proofs.YtcfhanoekniaaaaGreatDoor

namespace Go.Proofs.YtcfhanoekniaaaaGreatDoor
open Go.RowKit Go.Maps

/-- Bytes, from wherever they begin. -/
def Rdb (w : World) (v : Value) (l : List UInt8) : Prop :=
  ∃ a c, v = .slice a l.length c ∧ l.length ≤ c ∧ ((a = none ∧ l = [] ∧ c = 0) ∨ ∃ g o, a = some ⟨g, o, none⟩ ∧ ∀ j (h : j < l.length), w.cell? ⟨g, o + j, none⟩ = some (.int .u8 (l[j].toNat : Int)))

section
variable {w w' : World} {v : Value} {l : List UInt8}

theorem Dat.rdb (h : Dat w v l) : Rdb w v l := by
  rcases h with ⟨rfl, rfl⟩ | ⟨g, c, rfl, hc, _, hi⟩
  · exact ⟨none, 0, rfl, Nat.le_refl _, .inl ⟨rfl, rfl, rfl⟩⟩
  · exact ⟨_, c, rfl, hc, .inr ⟨g, 0, rfl, fun j hj => by rw [Nat.zero_add]; exact hi j hj⟩⟩

theorem size_u8 (w : World) : (sizeOf 5).run Tryz.prog w = .ok 1 w := by kernel_rfl

theorem elem_u8 : Tryz.prog.elem 300 = 5 := by kernel_rfl
theorem under_u8 : Tryz.prog.underlying 300 = some (.slice (Tryz.prog.elem 300)) := by rw [elem_u8]; exact Tryz.underlying300
theorem Rdb.from (h : Rdb w v l) (k : Nat) (hk : k ≤ l.length) : ∃ v', (∀ W, (Instr.slice 300 v (some (.int .i64 (k : Int))) none none).run Tryz.prog W = .ok v' W) ∧ Rdb w v' (l.drop k) := by
  obtain ⟨a, c, rfl, hc, hx⟩ := h
  refine ⟨sliced a k l.length c 1, fun W => ?_, ?_⟩
  · rw [run_slice_l (P := Tryz.prog) W 300 a l.length c under_u8 .i64 (k : Int) (by omega) (by omega), elem_u8, size_u8]
    simp [Result.andThen]
  · unfold sliced
    rcases hx with ⟨rfl, rfl, rfl⟩ | ⟨g, o, rfl, hi⟩
    · have : k = 0 := by simpa using hk
      subst this
      exact ⟨none, 0, by simp, Nat.le_refl _, .inl ⟨rfl, rfl, rfl⟩⟩
    · by_cases e : c = k
      · have hd : l.drop k = [] := List.drop_eq_nil_of_le (by omega)
        rw [hd, if_pos e]
        exact ⟨some ⟨g, o, none⟩, c - k, by rw [show l.length - k = 0 by omega]; rfl, by simp, .inr ⟨g, o, rfl, fun j hj => by simp at hj⟩⟩
      · rw [if_neg e]
        refine ⟨some ⟨g, o + k, none⟩, c - k, by simp [Addr.add], by simp; omega, .inr ⟨g, o + k, rfl, fun j hj => ?_⟩⟩
        have := hi (k + j) (by simp at hj; omega)
        rw [Nat.add_assoc, this, List.getElem_drop]
theorem Rdb.upto (h : Rdb w v l) (k : Nat) (hk : k ≤ l.length) : ∃ v', (∀ W, (Instr.slice 300 v none (some (.int .i64 (k : Int))) none).run Tryz.prog W = .ok v' W) ∧ Rdb w v' (l.take k) := by
  obtain ⟨a, c, rfl, hc, hx⟩ := h
  refine ⟨sliced a 0 k c 1, fun W => ?_, ?_⟩
  · rw [run_slice_h (P := Tryz.prog) W 300 a l.length c under_u8 .i64 (k : Int) (by omega) (by omega), elem_u8, size_u8]
    simp [Result.andThen]
  · unfold sliced
    have hl : (l.take k).length = k := by simp; omega
    rcases hx with ⟨rfl, rfl, rfl⟩ | ⟨g, o, rfl, hi⟩
    · have : k = 0 := by simpa using hk
      subst this
      exact ⟨none, 0, by simp, Nat.le_refl _, .inl ⟨rfl, rfl, rfl⟩⟩
    · refine ⟨some ⟨g, o, none⟩, c, ?_, by rw [hl]; omega, .inr ⟨g, o, rfl, fun j hj => ?_⟩⟩
      · rw [hl]; split <;> simp [Addr.add]
      · rw [hl] at hj
        rw [hi j (by omega), List.getElem_take]
theorem Rdb.text (h : Rdb w v l) : (convert 300 9 v).run Tryz.prog w = .ok (tx l) w := by
  obtain ⟨a, c, rfl, hc, hx⟩ := h
  rcases hx with ⟨rfl, rfl, rfl⟩ | ⟨g, o, rfl, hi⟩
  · exact Lib.run_convert_nil_bytes w 300 9 5 0 Tryz.underlying300 Tryz.underlying5 Tryz.underlying9
  · exact run_convert_bytes_back (P := Tryz.prog) w 300 9 5 ⟨g, o, none⟩ c l Tryz.underlying300 Tryz.underlying5 Tryz.underlying9 (fun j hj => by rw [Addr.add_lit]; exact hi j hj)
theorem Rdb.len (h : Rdb w v l) : ∃ a c, v = .slice a l.length c := by
  obtain ⟨a, c, rfl, _⟩ := h
  exact ⟨a, c, rfl⟩
end

section
variable {w w' : World} {r gN s : Nat} {T : Wd} {Z : Int → Nat} {B G : Int → Nat} {V : Int → Value} {O : Nat → Prop}

theorem min_run (ts : Array TypeId) (ty : TypeId) (x y : Int) (k : Nat) (h : (k : Int) = min x y) (W : World) : (Builtin.min_ ts ty #[.int .i64 x, .int .i64 y]).run Tryz.prog W = .ok (.int .i64 (k : Int)) W := by
  rw [run_min_int2]
  congr 2
  by_cases e : y < x
  · rw [if_pos e]; omega
  · rw [if_neg e]; omega

set_option maxRecDepth 100000 in
set_option maxHeartbeats 4000000 in
theorem PT.read_ok (h : PT w r T O) (n a mm : Int) (hw : (Lit.int .i64 n).wf = true) :
    Calls Tryz.prog 157 #[wp r, .int .i64 n, .int .i64 a, .int .i64 mm] w fun e w' => e = .returned (.tuple #[tx (readS T n a mm), uev (readE T n a mm)]) ∧ ∃ q, w' = w.drewN q := by
  obtain ⟨gN, s, B, G, V, h⟩ := h
  by_cases hz : fileT T n = 0
  · obtain ⟨b, x, hn⟩ := fileT_zero hz
    have hF := h.file_ok n hw hn
    obtain ⟨_, n1, _⟩ := h.fcell hn
    have hD := (h.data n b x hn).rdb
    generalize V n = v at *
    by_cases ha : a < 0
    · have e1 : readE T n a mm = 2 := by unfold readE; rw [if_neg (fun e => e hz), if_pos (.inl ha)]
      have e2 : readS T n a mm = [] := by unfold readS; rw [hn]; simp only; rw [if_pos (.inl ha)]
      rw [e1, e2]
      clear hn hz e1 e2 hD
      go_enter Tryz.func157, Tryz.ntmps157
      go_wp2_with (go_at_call 242; refine hF.mono ?_; rintro e w' ⟨rfl, hw'⟩; subst w')
      go_ret2
      exact ⟨rfl, 0, rfl⟩
    · by_cases hm : mm < 0
      · have e1 : readE T n a mm = 2 := by unfold readE; rw [if_neg (fun e => e hz), if_pos (.inr hm)]
        have e2 : readS T n a mm = [] := by unfold readS; rw [hn]; simp only; rw [if_pos (.inr hm)]
        rw [e1, e2]
        clear hn hz e1 e2 hD
        go_enter Tryz.func157, Tryz.ntmps157
        go_wp2_with (go_at_call 242; refine hF.mono ?_; rintro e w' ⟨rfl, hw'⟩; subst w')
        go_ret2
        exact ⟨rfl, 0, rfl⟩
      · have e1 : readE T n a mm = 0 := by unfold readE; rw [if_neg (fun e => e hz), if_neg (by omega)]
        obtain ⟨k1, hk1⟩ : ∃ k1, min a.toNat b.length = k1 := ⟨_, rfl⟩
        obtain ⟨k2, hk2⟩ : ∃ k2, min mm.toNat (b.length - k1) = k2 := ⟨_, rfl⟩
        have e2 : readS T n a mm = (b.drop k1).take k2 := by
          unfold readS; rw [hn]; simp only; rw [if_neg (by omega), ← hk2, ← hk1]
          by_cases e : a.toNat ≤ b.length
          · rw [Nat.min_eq_left e]
            by_cases e' : mm.toNat ≤ b.length - a.toNat
            · rw [Nat.min_eq_left e']
            · rw [Nat.min_eq_right (by omega), List.take_of_length_le (by simp; omega), List.take_of_length_le (by simp)]
          · rw [show min a.toNat b.length = b.length by omega, List.drop_eq_nil_of_le (show b.length ≤ a.toNat by omega), List.drop_length]; simp
        rw [e1, e2, uev_zero]
        obtain ⟨v1, r1, d1⟩ := hD.from k1 (by omega)
        obtain ⟨v2, r2, d2⟩ := d1.upto k2 (by simp; omega)
        have m1 := fun ts ty => min_run ts ty a (b.length : Int) k1 (by omega)
        have m2 := fun ts ty => min_run ts ty mm ((b.length - k1 : Nat) : Int) k2 (by omega)
        have tq : (convert 300 9 v2).run Tryz.prog w.drew = .ok (tx ((b.drop k1).take k2)) w.drew := Rdb.text (w := w.drew) d2
        obtain ⟨A, c, rfl⟩ := hD.len
        obtain ⟨A1, c1, e3⟩ := d1.len
        rw [List.length_drop] at e3
        subst e3
        generalize (b.drop k1).take k2 = res at *
        generalize b.length - k1 = L1 at *
        clear hn hz e1 e2 hD d1 d2 hk1 hk2
        go_enter Tryz.func157, Tryz.ntmps157
        go_wp2_with (go_at_call 242; refine hF.mono ?_; rintro e w' ⟨rfl, hw'⟩; subst w')
        go_region
        go_wp2_with fail
        go_ret2
        exact ⟨rfl, 1, rfl⟩
  · have hF := h.file_bad n hw hz
    have e1 : readE T n a mm = fileT T n := by unfold readE; rw [if_pos hz]
    have e2 : readS T n a mm = [] := by
      unfold readS
      cases hn : T n with
      | none => rfl
      | some nd => cases nd with
        | dir C => rfl
        | file b x => exact absurd (by unfold fileT; rw [hn]) hz
    rw [e1, e2, uev_ne hz]
    generalize fileT T n = z at *
    go_enter Tryz.func157, Tryz.ntmps157
    go_wp2_with (go_at_call 242; refine hF.mono ?_; rintro e w' ⟨rfl, hw'⟩; subst w')
    go_ret2
    exact ⟨rfl, 0, rfl⟩
end
end Go.Proofs.YtcfhanoekniaaaaGreatDoor

namespace Go.Proofs.YtcfhanoekniaaaaGreatDoor
open Go.RowKit Go.Maps

section
variable {w w' : World} {v : Value} {l : List UInt8}

/-- Bytes that are made: all 0. -/
theorem bfr_zero (w : World) (N : Nat) (hN : N ≤ 1000) : ∃ w', (Instr.makeSlice 300 (.int .i64 (N : Int)) (.int .i64 (N : Int))).run Tryz.prog w = .ok (.slice (some ⟨w.heap.size, 0, none⟩) N N) w' ∧ Bfr w' w.heap.size (.slice (some ⟨w.heap.size, 0, none⟩) N N) (List.replicate N 0) ∧ Below w.heap.size w w' := by
  obtain ⟨i, hi, hz, hs, hb⟩ := info_parts (P := Tryz.prog) (e := 5) (z := .int .u8 0) (size := 1) (bytes := 1) (by kernel_rfl)
  have hr := run_make (P := Tryz.prog) w 300 5 i _ Tryz.underlying300 hi hz .i64 .i64 (N : Int) (N : Int) (by omega) (by omega) (by rw [hb]; omega) (by omega)
  rw [hs, Int.toNat_natCast, Nat.mul_one] at hr
  refine ⟨_, hr, ?_, (Below.refl _ _).alloc (Nat.le_refl _) _⟩
  have hnew : (w.alloc (.cells (madeCells (Value.int .u8 0).cells N) 5)).heap[w.heap.size]? = some (.cells (madeCells (Value.int .u8 0).cells N) 5) := World.alloc_heap_new _ _
  have hsz : (madeCells (Value.int .u8 0).cells N).size = N := size_madeCells _ _
  have hel : ∀ j (hj : j < N), (madeCells (Value.int .u8 0).cells N)[j]? = some (.int .u8 0) := fun j hj => by
    simp [madeCells, Value.cells, hj, Nat.mod_one]
  refine ⟨w.heap.size, N, by simp, Nat.le_refl _, by simp, by simp, fun j hj => ?_, fun j hj => ⟨?_, ?_⟩⟩
  · rw [cell_of_row _ _ j _ _ _ hnew, hel j (by simpa using hj)]; simp
  · rw [cell_of_row _ _ j _ _ _ hnew, hel j hj]; rfl
  · unfold World.frozen?
    simp only [hnew]
    simp

/-- Bytes copied in, at their beginning. -/
theorem Bfr.copyB {g cap B : Nat} {b : List UInt8} {u : Value} (h : Bfr w B (.slice (some ⟨g, 0, none⟩) l.length cap) l) (hr : Rdb w u b) (hb : b.length ≤ l.length) (ty : TypeId) :
    (Builtin.copy_ #[300, 300] ty #[.slice (some ⟨g, 0, none⟩) l.length cap, u]).run Tryz.prog w = .ok (.int .i64 (b.length : Int)) (w.setCells g 0 (u8s b)) := by
  obtain ⟨g', cap', e, hB, hlt, hcap, h1, h2⟩ := h
  cases e
  obtain ⟨a, c, rfl, hc, hx⟩ := hr
  have hu : (u8s b).length = b.length := by unfold u8s; rw [List.length_map]
  have hsz : (Tryz.prog.info? 5).map (·.size) = some 1 := by kernel_rfl
  rcases hx with ⟨rfl, rfl, rfl⟩ | ⟨g2, o, rfl, hi⟩
  · exact run_copy_none (P := Tryz.prog) w 300 300 ty 5 _ none l.length cap 0 0 Tryz.underlying300 hsz (Nat.zero_min _)
  · have := run_copy_cells (P := Tryz.prog) w 300 300 ty 5 g 0 l.length cap ⟨g2, o, none⟩ b.length c (u8s b) Tryz.underlying300 hsz (by rw [hu]; exact (Nat.min_eq_left hb).symm) (fun j x hj => by
      obtain ⟨hjl, rfl⟩ := u8s_get hj
      rw [Addr.add_lit]; exact hi j hjl) (fun j hj => (h2 _ (by rw [hu] at hj; omega)).1) (fun j hj => (h2 _ (by rw [hu] at hj; omega)).2) (fun x hx => by
      unfold u8s at hx
      obtain ⟨y, _, rfl⟩ := List.mem_map.1 hx
      rfl)
    rw [hu] at this
    exact this
theorem Bfr.dat {B : Nat} (h : Bfr w B v l) : Dat w v l := by
  obtain ⟨g, cap, rfl, _, hlt, hc, h1, _⟩ := h
  exact .inr ⟨g, cap, rfl, hc, hlt, h1⟩
end

theorem max_run (ts : Array TypeId) (ty : TypeId) (x y : Int) (k : Nat) (h : (k : Int) = max x y) (W : World) : (Builtin.max_ ts ty #[.int .i64 x, .int .i64 y]).run Tryz.prog W = .ok (.int .i64 (k : Int)) W := by
  rw [run_max_int2]
  congr 2
  by_cases e : y > x
  · rw [if_pos e]; omega
  · rw [if_neg e]; omega

/-- All that Write does with bytes, ahead of its walk. -/
theorem write_bytes {w : World} {u : Value} {b x : List UInt8} (hd : Rdb w u b) (hul : ∀ g o l c, u = .slice (some ⟨g, o, none⟩) l c → g < w.heap.size) (a : Nat) (hx : x ≠ []) (hb : b.length ≤ 256) (hax : a + x.length ≤ 200) :
    ∃ N w1 w2 w3, max b.length (a + x.length) = N ∧ (Instr.makeSlice 300 (.int .i64 (N : Int)) (.int .i64 (N : Int))).run Tryz.prog w = .ok (.slice (some ⟨w.heap.size, 0, none⟩) N N) w1 ∧
      (∀ ty, (Builtin.copy_ #[300, 300] ty #[.slice (some ⟨w.heap.size, 0, none⟩) N N, u]).run Tryz.prog w1 = .ok (.int .i64 (b.length : Int)) w2) ∧
      (∀ W, (Instr.slice 300 (.slice (some ⟨w.heap.size, 0, none⟩) N N) (some (.int .i64 (a : Int))) none none).run Tryz.prog W = .ok (.slice (some ⟨w.heap.size, a, none⟩) (N - a) (N - a)) W) ∧
      (∀ ty, (Builtin.copy_ #[300, 9] ty #[.slice (some ⟨w.heap.size, a, none⟩) (N - a) (N - a), tx x]).run Tryz.prog w2 = .ok (.int .i64 (x.length : Int)) w3) ∧
      Dat w3 (.slice (some ⟨w.heap.size, 0, none⟩) N N) (overT b a x) ∧ Below w.heap.size w w1 ∧ Below w.heap.size w w2 ∧ Below w.heap.size w w3 := by
  have hxl : 1 ≤ x.length := List.length_pos_iff.2 hx
  obtain ⟨N, hN⟩ : ∃ N, max b.length (a + x.length) = N := ⟨_, rfl⟩
  obtain ⟨w1, hmk, hz, b1⟩ := bfr_zero w N (by omega)
  have hlen : (List.replicate N (0 : UInt8)).length = N := List.length_replicate
  have hz' : Bfr w1 w.heap.size (.slice (some ⟨w.heap.size, 0, none⟩) (List.replicate N (0 : UInt8)).length N) (List.replicate N 0) := by rw [hlen]; exact hz
  have hr1 : Rdb w1 u b := by
    obtain ⟨aa, c, rfl, hc, hx⟩ := hd
    refine ⟨aa, c, rfl, hc, ?_⟩
    rcases hx with h | ⟨g, o, rfl, hi⟩
    · exact .inl h
    · exact .inr ⟨g, o, rfl, fun j hj => by rw [b1.cell (p := ⟨g, o + j, none⟩) (hul _ _ _ _ rfl)]; exact hi j hj⟩
  have hc1 := fun ty => hz'.copyB hr1 (by rw [hlen]; omega) ty
  rw [hlen] at hc1
  have k1 := (hz'.copy rfl 0 b (by rw [hlen]; omega) 3).2.1
  have hpad : (List.replicate N (0 : UInt8)).take 0 ++ b ++ (List.replicate N (0 : UInt8)).drop (0 + b.length) = padT b (a + x.length) := by
    unfold padT
    simp only [List.take_zero, List.nil_append, Nat.zero_add, List.drop_replicate]
    rw [show N - b.length = a + x.length - b.length by omega]
  rw [hpad, hlen] at k1
  have hpl : (padT b (a + x.length)).length = N := by rw [padT_len]; exact hN
  have k1' : Bfr (w1.setCells w.heap.size 0 (u8s b)) w.heap.size (.slice (some ⟨w.heap.size, 0, none⟩) (padT b (a + x.length)).length N) (padT b (a + x.length)) := by rw [hpl]; exact k1
  have k2 := fun ty => k1'.copy rfl a x (by rw [hpl]; omega) ty
  rw [hpl] at k2
  refine ⟨N, w1, _, _, hN, hmk, hc1, fun W => ?_, fun ty => (k2 ty).1, (k2 3).2.1.dat, b1, below_setCells' (Nat.le_refl _) _ _ _ b1, below_setCells' (Nat.le_refl _) _ _ _ (below_setCells' (Nat.le_refl _) _ _ _ b1)⟩
  rw [run_slice_l (P := Tryz.prog) W 300 _ N N under_u8 .i64 (a : Int) (by omega) (by omega), elem_u8, size_u8]
  have hne : ¬ N = a := by omega
  simp [Result.andThen, sliced, hne, Addr.add]
  omega

section
variable {w w' : World} {r gN s : Nat} {T : Wd} {Z : Int → Nat} {B G : Int → Nat} {V : Int → Value} {O : Nat → Prop}

set_option maxRecDepth 100000 in
set_option maxHeartbeats 4000000 in
theorem PT.write_ok (h : PT w r T O) (hT : TrLv T) (n a : Int) (x : List UInt8) (hw : (Lit.int .i64 n).wf = true) (hxl : x.length < 100000) :
    Calls Tryz.prog 147 #[wp r, .int .i64 n, .int .i64 a, tx x] w fun e w' => e = .returned (uev (writeE T n a x)) ∧ ∃ O', PT w' r (writeN T n a x) O' ∧ Stp w w' O O' := by
  have hfin : writeE T n a x ≠ 0 ∨ x = [] → ∃ O', PT w r (writeN T n a x) O' ∧ Stp w w O O' := fun hh => ⟨O, by unfold writeN; rw [if_pos hh]; exact h, .refl _ _⟩
  obtain ⟨gN, s, B, G, V, h⟩ := h
  by_cases hz : fileT T n = 0
  · obtain ⟨b, y, hn⟩ := fileT_zero hz
    have hF := h.file_ok n hw hn
    obtain ⟨_, n1, _⟩ := h.fcell hn
    have nf := h.nfrozen hn 1
    have hEq : writeE T n a x = if a < 0 then 2 else if 200 - (x.length : Int) < a then 4 else 0 := by
      unfold writeE; rw [if_neg (fun e => e hz)]
      by_cases ha : a < 0
      · rw [if_pos ha, if_pos ha]
      · rw [if_neg ha, if_neg ha]
        by_cases hl : 200 - (x.length : Int) < a
        · rw [if_pos (.inr hl), if_pos hl]
        · rw [if_neg hl, if_neg (fun e => by rcases e with e | e <;> omega)]
    have hwr : wrap64 (200 - (x.length : Int)) = 200 - (x.length : Int) := by unfold wrap64; omega
    by_cases ha : a < 0
    · rw [if_pos ha] at hEq
      rw [hEq]
      have hf := hfin (.inl (by rw [hEq]; decide))
      clear hn hz hEq hT
      go_enter Tryz.func147, Tryz.ntmps147
      go_wp2_with (go_at_call 242; refine hF.mono ?_; rintro e w' ⟨rfl, hw'⟩; subst w')
      go_ret
      exact ⟨rfl, hf⟩
    · rw [if_neg ha] at hEq
      by_cases hl : 200 - (x.length : Int) < a
      · rw [if_pos hl] at hEq
        rw [hEq]
        have hf := hfin (.inl (by rw [hEq]; decide))
        clear hn hz hEq hT
        go_enter Tryz.func147, Tryz.ntmps147
        go_wp2_with (go_at_call 242; refine hF.mono ?_; rintro e w' ⟨rfl, hw'⟩; subst w')
        go_ret
        exact ⟨rfl, hf⟩
      · rw [if_neg hl] at hEq
        rw [hEq, uev_zero]
        by_cases hx : x = []
        · have hf := hfin (.inr hx)
          subst hx
          clear hn hz hEq hT
          go_enter Tryz.func147, Tryz.ntmps147
          go_wp2_with (go_at_call 242; refine hF.mono ?_; rintro e w' ⟨rfl, hw'⟩; subst w')
          go_ret
          exact ⟨rfl, hf⟩
        · have hxe : (x == []) = false := by simp [hx]
          obtain ⟨A, rfl⟩ : ∃ A : Nat, a = A := ⟨a.toNat, by omega⟩
          have hsm := hT.small n b y hn
          have hdat := h.data n b y hn
          obtain ⟨N, w1, w2, w3, hN, hmk, hc1, hsl, hc2, hd3, b1, b2, b3⟩ := write_bytes hdat.rdb (fun g o l c e => hdat.lt (i := g) (by rw [e]; rfl)) A hx hsm.1 (by omega)
          obtain ⟨u0, c0, hv⟩ := hdat.len
          have m1 := fun ts ty => max_run ts ty (b.length : Int) ((A : Int) + (x.length : Int)) N (by omega)
          have hwr2 : wrap64 ((A : Int) + (x.length : Int)) = (A : Int) + (x.length : Int) := by unfold wrap64; omega
          have h3 := h.below b3
          obtain ⟨V', O', h4, hO'⟩ := h3.bytes hn hd3
          have hU : writeN T n (A : Int) x = setT T n (.file (overT b A x) y) := by
            unfold writeN; rw [if_neg (fun e => e.elim (fun e => e hEq) hx), hn]
            simp
          have hfin4 : ∃ O', PT (w3.setCell ⟨B n, 1, none⟩ (.slice (some ⟨w.heap.size, 0, none⟩) N N)) r (writeN T n (A : Int) x) O' ∧ Stp w (w3.setCell ⟨B n, 1, none⟩ (.slice (some ⟨w.heap.size, 0, none⟩) N N)) O O' := by
            rw [hU]
            refine ⟨O', ⟨gN, s, B, G, V', h4.as rfl (fun k _ => cnt_setF hn k)⟩, ((Stp.below b3).trans (.cell _ (h.ownB n (by rw [hn]; rfl)))).wt, fun i hi => ?_⟩
            rcases (hO' i).1 hi with e | e
            · exact .inl e
            · right; cases e; exact Nat.le_refl _
          have c1 : w1.cell? ⟨B n, 1, none⟩ = some (.slice u0 b.length c0) := by rw [b1.cell (p := ⟨B n, 1, none⟩) (h.lt _ (h.ownB n (by rw [hn]; rfl)))]; rw [n1, hv]
          have f3 := h3.nfrozen hn 1
          have c3 := (h3.fcell hn).2.1
          rw [hv] at n1 hc1 c3
          clear h4 hU h3 hn hz hEq hT hdat hd3 hfin h hv
          go_enter Tryz.func147, Tryz.ntmps147
          go_wp2_with (go_at_call 242; refine hF.mono ?_; rintro e w' ⟨rfl, hw'⟩; subst w')
          go_ret
          exact ⟨rfl, hfin4⟩
  · have hF := h.file_bad n hw hz
    have hEq : writeE T n a x = fileT T n := by unfold writeE; rw [if_pos hz]
    have hf := hfin (.inl (by rw [hEq]; exact hz))
    rw [hEq, uev_ne hz]
    generalize fileT T n = z at *
    go_enter Tryz.func147, Tryz.ntmps147
    go_wp2_with (go_at_call 242; refine hF.mono ?_; rintro e w' ⟨rfl, hw'⟩; subst w')
    go_ret
    exact ⟨rfl, hf⟩
end
end Go.Proofs.YtcfhanoekniaaaaGreatDoor

/- Package desc: give, shut, by their Go texts. -/
import Derived.Test.YtcfhanoekniaaaaGreatDoorQLeast
import Derived.Test.YtcfhanoekniaaaaGreatDoorUNew
namespace Go.Proofs.YtcfhanoekniaaaaGreatDoor
open Go.RowKit Go.Maps

section
variable {w w' w2 : World} {f b n : Nat} {D D' : DS} {g g' : QG} {M N N' : Ns} {d k : Int} {e : En}
theorem ent_put2 {W : World} {i : Nat} {a b c d e x : Value} {t : TypeId} (h : W.heap[i]? = some (.cells #[a, b, c, d, e, x] t)) (v : Value) : (W.setCell ⟨i, 2, none⟩ v).heap[i]? = some (.cells #[a, b, v, d, e, x] t) := by
  rw [heap_cell_same W i 2 v _ _ _ h]; rfl
theorem ent_put4 {W : World} {i : Nat} {a b c d e x : Value} {t : TypeId} (h : W.heap[i]? = some (.cells #[a, b, c, d, e, x] t)) (v : Value) : (W.setCell ⟨i, 4, none⟩ v).heap[i]? = some (.cells #[a, b, c, d, v, x] t) := by
  rw [heap_cell_same W i 4 v _ _ _ h]; rfl
/-- An ENTRY's count turned. -/
theorem QF.count (h : QF w f D g n) (he : D.E d = some e) (c' : Int) : QF (w.setCell ⟨g.B d, 2, none⟩ (.int .i64 c')) f { D with R := fun i => if i = d then some c' else D.R i } g n := by
  obtain ⟨c, h1, h2, h3⟩ := h.ent d e he
  exact h.putR he c' (ent_put2 h2 _) (tgrown_set _ _ _ _)
/-- An ENTRY's place turned. -/
theorem QF.place (h : QF w f D g n) (he : D.E d = some e) (a : Int) : QF (w.setCell ⟨g.B d, 4, none⟩ (.int .i64 a)) f { D with E := fun i => if i = d then some { e with pos := a } else D.E i } g n := by
  obtain ⟨c, h1, h2, h3⟩ := h.ent d e he
  exact h.putE he h1 { e with pos := a } (ent_put4 h2 _) (tgrown_set _ _ _ _)
theorem QF.offTab (h : QF w f D g n) (hb : g.kap b = none) (hg : w.grownBy w' (some b)) : QF w' f D g n :=
  h.keep (fun i hi => hg.block i (h.lt i hi) (fun x => by rw [Option.some.inj x, hb] at hi; cases hi)) hg.size
theorem QTb.offOwn (t : QTb w b g M N) {x : Nat} (hx : (g.kap x).isSome = true) (hg : w.grownBy w' (some x)) : QTb w' b g M N :=
  t.keep (hg.block b t.tab.lt (fun e => by rw [← Option.some.inj e, t.off] at hx; cases hx))
theorem QT.put_grown (w : World) (b i : Nat) (u v : Value) : w.grownBy ((w.setCell ⟨b, i * 2, none⟩ u).setCell ⟨b, i * 2 + 1, none⟩ v) (some b) := tgrown_trans (tgrown_set _ _ _ _) (tgrown_set _ _ _ _)

set_option maxRecDepth 100000 in
set_option maxHeartbeats 4000000 in
theorem QF.give_ok (h : QF w f D g n) (t : QTb w b g M N) {i : Nat} (hi : i < 8) (hk : g.K k = some d) (hd : 0 < d) (he : D.E d = some e) {c : Int} (hc : D.R d = some c) (hc0 : 0 ≤ c) (hc1 : c < 100000) :
    Calls Tryz.prog 239 #[wp f, wp b, .int .i64 (i : Int), .int .i64 k] w fun x w' => x = .returned (.tuple #[]) ∧ QF w' f { D with R := fun j => if j = d then some (c + 1) else D.R j } g n ∧ QTb w' b g (M.set i (k, false)) (N.set i (d, false)) ∧ Wt (fun i => (g.kap i).isSome = true ∨ i = b) w w' := by
  obtain ⟨_, hk0, hk1⟩ := h.key k d hk
  obtain ⟨t0, t1⟩ := t.tab.at hi
  have z0 := t.tab.free (i * 2)
  have z1 := t.tab.free (i * 2 + 1)
  have hT1 := t.set (i := i) (k, false) (d, false) (t.tab.put hi (k, false) ⟨by omega, hk1, fun e => by omega⟩) ⟨rfl, .inr ⟨hd, hk⟩⟩
  have g1 := QT.put_grown w b i (.int .i64 k) (.bool false)
  have h1 := h.offTab t.off g1
  obtain ⟨W, hW⟩ : ∃ W, (w.setCell ⟨b, i * 2, none⟩ (.int .i64 k)).setCell ⟨b, i * 2 + 1, none⟩ (.bool false) = W := ⟨_, rfl⟩
  simp only at hT1
  rw [hW] at hT1 g1 h1
  have c1 := h1.cells.2
  have hlk := h1.look (k := k) (by omega) hk1
  rw [gv_some hk] at hlk
  obtain ⟨_, _, e2, _, _, _, ez⟩ := h1.ecell he hc
  have ez2 := ez 2
  have h2 := h1.count he (c + 1)
  obtain ⟨_, _, _, hkb⟩ := h.ent d e he
  have g2 := tgrown_set W (g.B d) 2 (.int .i64 (c + 1))
  have hT2 := hT1.offOwn (by rw [hkb]; rfl) g2
  have wt : Wt (fun i => (g.kap i).isSome = true ∨ i = b) w (W.setCell ⟨g.B d, 2, none⟩ (.int .i64 (c + 1))) := (Wt.grown g1 (.inr rfl)).trans (Wt.grown g2 (.inl (by rw [hkb]; rfl)))
  have hw1 : wrap64 (c + 1) = c + 1 := by unfold wrap64; omega
  have hi8 : (i : Int) < 8 := by omega
  generalize N.set i (d, false) = N2 at *
  generalize M.set i (k, false) = M2 at *
  generalize (M[i]'(by rw [t.tab.len]; exact hi)).1 = X at *
  generalize (M[i]'(by rw [t.tab.len]; exact hi)).2 = Y at *
  generalize ({ D with R := fun j => if j = d then some (c + 1) else D.R j } : DS) = D2 at *
  generalize g.B d = q at *
  clear h t hk he hc hT1 g1 h1 ez hkb g2 hc0 hc1
  go_enter Tryz.func239, Tryz.ntmps239
  go_upto_region 1 with fail
  clear t0 t1 z0 z1 hW
  go_wp2_with fail
  go_end0
  exact ⟨rfl, h2, hT2, wt⟩
set_option maxRecDepth 100000 in
set_option maxHeartbeats 4000000 in
theorem QF.shut_file (h : QF w f D g n) {q : Nat} {kd pr cn nd ps : Int} {pp : Value} (hq : w.heap[q]? = some (.cells #[.int .i64 kd, .int .i64 pr, .int .i64 cn, .int .i64 nd, .int .i64 ps, pp] 238)) (hqk : g.kap q = some (.ent d)) (hkd : kd = 1) (hT : TrLv D.T) (hn0 : 0 ≤ nd) (hn1 : nd < 100000) :
    Calls Tryz.prog 297 #[wp f, wp q] w fun x w' => x = .returned (.tuple #[]) ∧ (∃ g', QF w' f { D with T := holdN D.T nd (-1) } g' n ∧ (∀ i, i < w.heap.size → g'.kap i = g.kap i) ∧ g'.K = g.K ∧ g'.r = g.r) ∧ Wt (fun i => (g.kap i).isSome = true) w w' := by
  subst hkd
  have hqc : ∀ {V : World}, V.heap[q]? = w.heap[q]? → V.cell? ⟨q, 0, none⟩ = some (.int .i64 1) ∧ V.cell? ⟨q, 3, none⟩ = some (.int .i64 nd) := fun {V} hV => by
    rw [hq] at hV
    exact ⟨by rw [cell_of_row _ _ _ _ _ _ hV]; rfl, by rw [cell_of_row _ _ _ _ _ _ hV]; rfl⟩
  obtain ⟨e0, e3⟩ := hqc (V := w) rfl
  have c0 := h.cells.1
  have hfb : f < w.heap.size := h.lt f (by rw [h.tf]; rfl)
  have hqb : q < w.heap.size := h.lt q (by rw [hqk]; rfl)
  have hDr : ∀ V, Below w.heap.size w V → Calls Tryz.prog 334 #[wp g.r, .int .i64 nd] V fun x w' => (∃ z, x = .returned (uev z)) ∧ ((∃ g', QF w' f { D with T := holdN D.T nd (-1) } g' n ∧ (∀ i, i < w.heap.size → g'.kap i = g.kap i) ∧ g'.K = g.K ∧ g'.r = g.r) ∧ Wt (fun i => (g.kap i).isSome = true) w w') ∧ w'.cell? ⟨f, 0, none⟩ = some (wp g.r) ∧ w'.cell? ⟨q, 3, none⟩ = some (.int .i64 nd) := fun V hV => by
    have hV' := h.below hV
    obtain ⟨O, p, hO⟩ := hV'.tree
    refine (p.drop_ok hT nd (wf_few hn0 (by omega))).mono ?_
    rintro x w' ⟨rfl, p', st⟩
    obtain ⟨g', a1, a2, a3, a4, _⟩ := hV'.turn hO p' st
    refine ⟨⟨_, rfl⟩, ⟨⟨g', a1, fun i hi => a2 i (Nat.lt_of_lt_of_le hi hV.size), a3, a4⟩, (Wt.below _ hV).trans (st.wt.mono (fun i hi => by rw [hO i hi]; rfl))⟩, ?_, ?_⟩
    · have := a1.cells.1
      rw [a4] at this
      exact this
    · exact (hqc ((st.wt.block q (Nat.lt_of_lt_of_le hqb hV.size) (fun o => tag_ne hqk (hO q o) (by simp) rfl)).trans (hV.block q hqb))).2
  have hI : Calls Tryz.prog 145 #[wp q] w fun x w' => x = .returned (.bool true) ∧ w' = w := by
    clear hDr
    go_enter Tryz.func145, Tryz.ntmps145
    go_wp2_with fail
    go_ret
    exact ⟨rfl, rfl⟩
  generalize ({ D with T := holdN D.T nd (-1) } : DS) = D2 at *
  clear h hq hqk hT hn0 hn1 hqc hfb hqb
  go_enter Tryz.func297, Tryz.ntmps297
  go_upto_region 1 with (go_at_call 145; refine hI.mono ?_; rintro x w1 ⟨rfl, hw1⟩; subst w1)
  go_region_held3 (fun w' => w'.cell? ⟨f, 0, none⟩ = some (wp g.r) ∧ w'.cell? ⟨q, 3, none⟩ = some (.int .i64 nd)) (first | exact ⟨c0, e3⟩ | exact ⟨k0, k3⟩) (first
    | (go_at_call 334; refine (hDr _ ⟨by rfl, by rfl, by rfl, by exact Nat.le_refl _, fun _ _ => by rfl⟩).mono ?_; rintro x w2 ⟨⟨z, rfl⟩, hR, k0, k3⟩))
  all_goals
    go_wp2_with fail
    refine bodyPost_ret (results_none rfl _ _ _) rfl ?_
    exact ⟨rfl, hR⟩
set_option maxRecDepth 100000 in
set_option maxHeartbeats 4000000 in
theorem QF.shut_end (h : QF w f D g n) {q : Nat} {kd pr cn nd ps p : Int} {x : Pi} (hq : w.heap[q]? = some (.cells #[.int .i64 kd, .int .i64 pr, .int .i64 cn, .int .i64 nd, .int .i64 ps, wp (g.Q p)] 238)) (hqk : g.kap q = some (.ent d)) (hkd : kd ≠ 1) (hp : D.P p = some x) (hF : 0 ≤ x.2.1 ∧ x.2.1 < 1000) (hI : 0 ≤ x.2.2 ∧ x.2.2 < 1000) :
    Calls Tryz.prog 297 #[wp f, wp q] w fun y w' => y = .returned (.tuple #[]) ∧ QF w' f { D with P := fun i => if i = p then some (turnP x kd) else D.P i } g n ∧ Wt (fun i => (g.kap i).isSome = true) w w' := by
  have hqc : ∀ {V : World}, V.heap[q]? = w.heap[q]? → V.cell? ⟨q, 0, none⟩ = some (.int .i64 kd) ∧ V.cell? ⟨q, 5, none⟩ = some (wp (g.Q p)) := fun {V} hV => by
    rw [hq] at hV
    exact ⟨by rw [cell_of_row _ _ _ _ _ _ hV]; rfl, by rw [cell_of_row _ _ _ _ _ _ hV]; rfl⟩
  obtain ⟨e0, e5⟩ := hqc (V := w) rfl
  have hqb : q < w.heap.size := h.lt q (by rw [hqk]; rfl)
  have hDr : ∀ V, Below w.heap.size w V → Calls Tryz.prog 335 #[wp (g.Q p), .int .i64 kd] V fun y w' => (∃ z, y = .returned (uev z)) ∧ (QF w' f { D with P := fun i => if i = p then some (turnP x kd) else D.P i } g n ∧ Wt (fun i => (g.kap i).isSome = true) w w') ∧ w'.cell? ⟨q, 0, none⟩ = some (.int .i64 kd) ∧ w'.cell? ⟨q, 5, none⟩ = some (wp (g.Q p)) := fun V hV => by
    have hV' := h.below hV
    obtain ⟨tb, tk⟩ := hV'.pipe p x hp
    refine (tb.close_ok kd hF.1 hF.2 hI.1 hI.2).mono ?_
    rintro y w' ⟨rfl, tb', hg⟩
    have hb : w'.heap[q]? = w.heap[q]? := (hg.block q (Nat.lt_of_lt_of_le hqb hV.size) (fun e => tag_ne hqk tk (by simp) (Option.some.inj e))).trans (hV.block q hqb)
    exact ⟨⟨_, rfl⟩, ⟨hV'.piped hp (x' := turnP x kd) tb' hg, (Wt.below _ hV).trans (Wt.grown hg (by rw [tk]; rfl))⟩, hqc hb⟩
  have hkd' : (kd == 1) = false := by simpa using hkd
  have hIs : Calls Tryz.prog 145 #[wp q] w fun x w' => x = .returned (.bool false) ∧ w' = w := by
    clear hDr
    go_enter Tryz.func145, Tryz.ntmps145
    go_wp2_with fail
    go_ret
    exact ⟨rfl, rfl⟩
  generalize ({ D with P := fun i => if i = p then some (turnP x kd) else D.P i } : DS) = D2 at *
  clear h hq hqk hqc hqb hp hF hI hkd
  generalize g.Q p = Q at *
  go_enter Tryz.func297, Tryz.ntmps297
  go_upto_region 2 with (go_at_call 145; refine hIs.mono ?_; rintro x w1 ⟨rfl, hw1⟩; subst w1)
  go_region_held3 (fun w' => w'.cell? ⟨q, 0, none⟩ = some (.int .i64 kd) ∧ w'.cell? ⟨q, 5, none⟩ = some (wp Q)) (first | exact ⟨e0, e5⟩ | exact ⟨k0, k5⟩) (first
    | (go_at_call 335; refine (hDr _ ⟨by rfl, by rfl, by rfl, by exact Nat.le_refl _, fun _ _ => by rfl⟩).mono ?_; rintro x w2 ⟨⟨z, rfl⟩, hR, k0, k5⟩))
  all_goals
    go_wp2_with fail
    go_end0
    exact ⟨rfl, hR⟩
end
end Go.Proofs.YtcfhanoekniaaaaGreatDoor

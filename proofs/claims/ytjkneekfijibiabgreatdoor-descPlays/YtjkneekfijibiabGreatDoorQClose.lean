/- Package desc: leave, free, by their Go texts. -/
import Derived.Test.YtjkneekfijibiabGreatDoorQGive
import Derived.Test.YtjkneekfijibiabGreatDoorDInv
namespace Go.Proofs.YtjkneekfijibiabGreatDoor
open Go.RowKit Go.Maps

section
variable {w w' w2 : World} {f b n : Nat} {D D' : DS} {g g' : QG} {M N N' : Ns} {d k : Int} {e : En}
set_option maxRecDepth 100000 in
set_option maxHeartbeats 4000000 in
theorem QF.leave_none (h : QF w f D g n) : Calls Tryz.prog 131 #[wp f, .int .i64 0] w fun x w' => x = .returned (.tuple #[]) ∧ w' = w := by
  have c1 := h.cells.2
  have hlk := h.look (k := 0) (by omega) (by omega)
  rw [gv_none h.k0] at hlk
  have h9 := fil_ne f
  have h8 := ent_nil
  clear h
  go_enter Tryz.func131, Tryz.ntmps131
  go_wp2_with fail
  refine bodyPost_ret (results_none rfl _ _ _) rfl ?_
  exact ⟨rfl, rfl⟩
set_option maxRecDepth 100000 in
set_option maxHeartbeats 4000000 in
theorem QF.leave_more (h : QF w f D g n) (hk : g.K k = some d) {c : Int} (hc : CanClose D d e c) (hm : 0 < c - 1) : Calls Tryz.prog 131 #[wp f, .int .i64 k] w fun x w' => x = .returned (.tuple #[]) ∧ (∃ g' n', QF w' f (closeK D d) g' n' ∧ Ext w (closeK D d) g g') ∧ Wt (fun i => (g.kap i).isSome = true) w w' := by
  obtain ⟨_, hk0, hk1⟩ := h.key k d hk
  have c1 := h.cells.2
  have hlk := h.look (k := k) (by omega) hk1
  rw [gv_some hk] at hlk
  have h9 := fil_ne f
  have h8 := ent_ne (g.B d)
  obtain ⟨_, _, e2, _, _, _, ez⟩ := h.ecell hc.ent hc.cnt
  have ez2 := ez 2
  obtain ⟨_, _, _, hkb⟩ := h.ent d e hc.ent
  have h1 := h.count hc.ent (c - 1)
  have g1 := tgrown_set w (g.B d) 2 (.int .i64 (c - 1))
  obtain ⟨_, _, e2', _, _, _, _⟩ := h1.ecell hc.ent (if_pos rfl)
  rw [closeK_more hc hm]
  have hfin : (∃ g' n', QF (w.setCell ⟨g.B d, 2, none⟩ (.int .i64 (c - 1))) f { D with R := fun i => if i = d then some (c - 1) else D.R i } g' n' ∧ Ext w { D with R := fun i => if i = d then some (c - 1) else D.R i } g g') ∧ Wt (fun i => (g.kap i).isSome = true) w (w.setCell ⟨g.B d, 2, none⟩ (.int .i64 (c - 1))) := ⟨⟨g, n, h1, Ext.refl _ _ _⟩, Wt.grown g1 (by rw [hkb]; rfl)⟩
  have hw1 : wrap64 (c - 1) = c - 1 := by have := hc.c0; have := hc.c1; unfold wrap64; omega
  have hz : ((c - 1 : Int) == 0) = false := by simp; omega
  generalize ({ D with R := fun i => if i = d then some (c - 1) else D.R i } : DS) = D2 at *
  generalize g.B d = q at *
  clear h hk hc hm ez hkb h1 g1
  go_enter Tryz.func131, Tryz.ntmps131
  go_wp2_with fail
  go_end0
  exact ⟨rfl, hfin⟩
/-- Behind the map's deletion. -/
structure LvS (w w2 w3 : World) (f : Nat) (g : QG) (D : DS) (k d c : Int) (e : En) : Prop where
  c1 : w.cell? ⟨f, 1, none⟩ = some (.map (some g.gO))
  lk : (Instr.lookup 142 (.map (some g.gO)) (.int .i64 k) false).run Tryz.prog w = .ok (wp (g.B d)) w
  e2 : w.cell? ⟨g.B d, 2, none⟩ = some (.int .i64 c)
  ez : w.frozen? ⟨g.B d, 2, none⟩ = false
  e2' : (w.setCell ⟨g.B d, 2, none⟩ (.int .i64 (c - 1))).cell? ⟨g.B d, 2, none⟩ = some (.int .i64 (c - 1))
  c1' : (w.setCell ⟨g.B d, 2, none⟩ (.int .i64 (c - 1))).cell? ⟨f, 1, none⟩ = some (.map (some g.gO))
  del : ∀ ty, (Builtin.delete_ #[142, 3] ty #[.map (some g.gO), .int .i64 k]).run Tryz.prog (w.setCell ⟨g.B d, 2, none⟩ (.int .i64 (c - 1))) = .ok (.tuple #[]) w3
  wt : Wt (fun i => (g.kap i).isSome = true) w w3
  tag : g.kap (g.B d) = some (.ent d)
  blk : w3.heap[g.B d]? = some (.cells (ecells g e (c - 1)) 180)
  st : ∃ n', QF w3 f { D with E := fun i => if i = d then none else D.E i, R := fun i => if i = d then none else if i = d then some (c - 1) else D.R i } { g with K := fun i => if i = k then none else g.K i } n'
theorem QF.leaving (h : QF w f D g n) (hk : g.K k = some d) {c : Int} (hc : CanClose D d e c) : ∃ w3, LvS w w w3 f g D k d c e := by
  obtain ⟨_, hk0, hk1⟩ := h.key k d hk
  have hlk := h.look (k := k) (by omega) hk1
  rw [gv_some hk] at hlk
  obtain ⟨_, _, e2, _, _, _, ez⟩ := h.ecell hc.ent hc.cnt
  obtain ⟨c9, hc9, hblk, hkb⟩ := h.ent d e hc.ent
  have h1 := h.count hc.ent (c - 1)
  have g1 := tgrown_set w (g.B d) 2 (.int .i64 (c - 1))
  obtain ⟨_, _, e2', _, _, _, _⟩ := h1.ecell hc.ent (if_pos rfl)
  obtain ⟨w3, hdel, pm, g3⟩ := del_run h1.map Tryz.underlying142 k (wf_few (by omega) (by omega))
  have h3 := h1.gone hk pm g3
  refine ⟨w3, h.cells.2, hlk, e2, ez 2, e2', h1.cells.2, hdel, (Wt.grown g1 (by rw [hkb]; rfl)).trans (Wt.grown g3 (by rw [h.tm]; rfl)), hkb, ?_, _, h3⟩
  rw [g3.block _ (h1.lt _ (by rw [hkb]; rfl)) (fun x => tag_ne hkb h.tm (by simp) (Option.some.inj x))]
  exact ent_put2 hblk _
theorem ext_gone {w3 : World} (hk : g.K k = some d) (hE : D'.E d = none) (hg : g'.K = fun i => if i = k then none else g.K i) (hka : ∀ i, i < w.heap.size → g'.kap i = g.kap i) (hr : g'.r = g.r) (_ : w3 = w3) : Ext w D' g g' := by
  refine ⟨hka, fun i x hi hx => ?_, hr⟩
  rw [hg]
  show (if i = k then none else g.K i) = some x
  by_cases e1 : i = k
  · rw [e1, hk] at hi
    rw [← Option.some.inj hi, hE] at hx
    cases hx
  · rw [if_neg e1]; exact hi
set_option maxRecDepth 100000 in
set_option maxHeartbeats 4000000 in
theorem QF.leave_last (h : QF w f D g n) (hk : g.K k = some d) {c : Int} (hc : Cl D d e c) (hm : ¬ 0 < c - 1) : Calls Tryz.prog 131 #[wp f, .int .i64 k] w fun x w' => x = .returned (.tuple #[]) ∧ (∃ g' n', QF w' f (closeK D d) g' n' ∧ Ext w (closeK D d) g g') ∧ Wt (fun i => (g.kap i).isSome = true) w w' := by
  obtain ⟨w3, L⟩ := h.leaving hk hc.toCanClose
  obtain ⟨n', h3⟩ := L.st
  have hsz := L.wt.size
  have hSh : Calls Tryz.prog 159 #[wp f, wp (g.B d)] w3 fun x w' => x = .returned (.tuple #[]) ∧ (∃ g' n', QF w' f (closeK D d) g' n' ∧ Ext w (closeK D d) g g') ∧ Wt (fun i => (g.kap i).isSome = true) w w' := by
    by_cases hkd : e.kind = 1
    · have hpv : pv g e = .pointer none := if_pos hkd
      have hnd := hc.node hkd
      refine (h3.shut_file (q := g.B d) L.blk L.tag hkd hc.lv hnd.1 hnd.2).mono ?_
      rintro x w' ⟨rfl, ⟨g', a1, a2, a3, a4⟩, wt⟩
      rw [closeK_file hc.toCanClose hm hkd]
      exact ⟨rfl, ⟨g', n', a1, ext_gone (w3 := w3) hk (if_pos rfl) a3 (fun i hi => a2 i (by omega)) a4 rfl⟩, L.wt.trans wt⟩
    · obtain ⟨q0, q1, p, hp, hpl, f0, f1, i0, i1⟩ := hc.pipe hkd
      have hpv : pv g e = wp (g.Q e.pipe) := if_neg hkd
      have hblk := L.blk
      rw [ecells, hpv] at hblk
      refine (h3.shut_end (q := g.B d) (p := e.pipe) hblk L.tag hkd hp ⟨f0, f1⟩ ⟨i0, i1⟩).mono ?_
      rintro x w' ⟨rfl, a1, wt⟩
      rw [closeK_end hc.toCanClose hm hkd, hp]
      exact ⟨rfl, ⟨_, n', a1, ext_gone (w3 := w3) hk (if_pos rfl) rfl (fun i hi => rfl) rfl rfl⟩, L.wt.trans wt⟩
  have hc1 : c = 1 := by have := hc.c0; omega
  subst hc1
  have c1 := L.c1
  have hlk := L.lk
  have e2 := L.e2
  have ez := L.ez
  have e2' := L.e2'
  have c1' := L.c1'
  have hdel := L.del
  have h9 := fil_ne f
  have h8 := ent_ne (g.B d)
  generalize closeK D d = D2 at *
  simp only [show (1 : Int) - 1 = 0 by omega] at e2' c1' hdel
  generalize g.B d = q at *
  clear h hk hc hm L h3 hsz
  go_enter Tryz.func131, Tryz.ntmps131
  go_wp2_with (go_at_call 159; refine hSh.mono ?_; rintro x w4 ⟨rfl, hR⟩)
  go_end0
  exact ⟨rfl, hR⟩
theorem QF.leave_ok (h : QF w f D g n) (hk : g.K k = some d) {c : Int} (hc : Cl D d e c) : Calls Tryz.prog 131 #[wp f, .int .i64 k] w fun x w' => x = .returned (.tuple #[]) ∧ (∃ g' n', QF w' f (closeK D d) g' n' ∧ Ext w (closeK D d) g g') ∧ Wt (fun i => (g.kap i).isSome = true) w w' := by
  by_cases hm : 0 < c - 1
  · exact h.leave_more hk hc.toCanClose hm
  · exact h.leave_last hk hc hm

set_option maxRecDepth 100000 in
set_option maxHeartbeats 4000000 in
theorem QF.free_ok (h : QF w f D g n) (t : QTb w b g M N) {i : Nat} (hi : i < 8) (hiL : i < N.length) (h0 : 0 < N[i].1) {c : Int} (hc : Cl D N[i].1 e c) (hl : Live (closeK D N[i].1) (N.set i (0, false))) :
    Calls Tryz.prog 101 #[wp f, wp b, .int .i64 (i : Int)] w fun x w' => x = .returned (.tuple #[]) ∧ QGo w w' f (closeK D N[i].1) g b (N.set i (0, false)) := by
  have hM : i < M.length := by have := t.tab.len; omega
  have hk := t.keyOf hM hiL h0
  obtain ⟨t0, t1⟩ := t.tab.at hi
  have z0 := t.tab.free (i * 2)
  have z1 := t.tab.free (i * 2 + 1)
  have hT1 := t.set (i := i) (0, false) (0, false) (t.tab.put hi (0, false) ⟨by simp, by simp, fun _ => rfl⟩) ⟨rfl, .inl ⟨rfl, rfl⟩⟩
  have g1 := QT.put_grown w b i (.int .i64 0) (.bool false)
  have h1 := h.offTab t.off g1
  obtain ⟨W, hW⟩ : ∃ W, (w.setCell ⟨b, i * 2, none⟩ (.int .i64 0)).setCell ⟨b, i * 2 + 1, none⟩ (.bool false) = W := ⟨_, rfl⟩
  simp only at hT1
  rw [hW] at hT1 g1 h1
  have hL := h1.leave_ok hk hc
  have hfin : ∀ w', (∃ g' n', QF w' f (closeK D N[i].1) g' n' ∧ Ext W (closeK D N[i].1) g g') → Wt (fun i => (g.kap i).isSome = true) W w' → QGo w w' f (closeK D N[i].1) g b (N.set i (0, false)) := fun w' hx wt => by
    obtain ⟨g', n', a1, a2⟩ := hx
    have hsz : W.heap.size = w.heap.size := by rw [← hW]; simp [World.setCell]
    refine ⟨⟨g', n', _, a1, hT1.other a2 (wt.block b hT1.tab.lt (by rw [t.off]; simp)) hl, ⟨fun j hj => a2.kap j (by omega), a2.key, a2.r⟩⟩, (Wt.grown g1 (.inr rfl)).trans (wt.mono (fun j hj => .inl hj))⟩
  generalize closeK D N[i].1 = D2 at *
  generalize N.set i (0, false) = N2 at *
  generalize M[i].1 = X at *
  generalize M[i].2 = Y at *
  have hi8 : (i : Int) < 8 := by omega
  clear h t hk hc hT1 g1 h1 hl h0
  go_enter Tryz.func101, Tryz.ntmps101
  go_upto_region 2 with fail
  clear t0 t1 z0 z1 hW
  go_wp2_with (go_at_call 131; refine hL.mono ?_; rintro x w4 ⟨rfl, hR, wt⟩)
  go_end0
  exact ⟨rfl, hfin _ hR wt⟩
end
end Go.Proofs.YtjkneekfijibiabGreatDoor

namespace Go.Proofs.YtjkneekfijibiabGreatDoor
open Go.RowKit Go.Maps

section
variable {w w' w2 : World} {f b n : Nat} {D D' : DS} {g g' : QG} {M N N' : Ns} {d k : Int} {e : En}
theorem QF.same (h : QF w f D g n) (t : QTb w b g M N) (hb : Below w.heap.size w w') : QGo w w' f D g b N := ⟨⟨g, n, M, h.below hb, t.below hb, Ext.refl _ _ _⟩, Wt.below _ hb⟩
theorem QGo.upon (hb : Below w.heap.size w w') (h : QGo w' w2 f D' g b N') : QGo w w2 f D' g b N' := by
  obtain ⟨⟨g', n', M', a, c, x⟩, wt⟩ := h
  exact ⟨⟨g', n', M', a, c, ⟨fun i hi => x.kap i (Nat.lt_of_lt_of_le hi hb.size), x.key, x.r⟩⟩, (Wt.below _ hb).trans wt⟩
set_option maxRecDepth 100000 in
set_option maxHeartbeats 4000000 in
theorem QF.close_no (h : QF w f D g n) (t : QTb w b g M N) (x : Int) (hx : hasN N x = false) : Calls Tryz.prog 47 #[wp f, wp b, .int .i64 x] w fun y w' => y = .returned (uer 7) ∧ QGo w w' f D g b N := by
  have hF := h.find_no t x hx
  have hs : ∀ w', Below w.heap.size w w' → QGo w w' f D g b N := fun w' hb => h.same t hb
  clear h t hx
  go_enter Tryz.func47, Tryz.ntmps47
  go_wp2_with (go_at_call 77; refine hF.mono ?_; rintro y w1 ⟨rfl, b1⟩)
  go_ret
  exact ⟨rfl, hs _ b1⟩
set_option maxRecDepth 100000 in
set_option maxHeartbeats 4000000 in
theorem QF.close_ok (h : QF w f D g n) (t : QTb w b g M N) {i : Nat} (hi : i < 8) (hiL : i < N.length) (h0 : 0 < N[i].1) {c : Int} (hc : Cl D N[i].1 e c) (hl : Live (closeK D N[i].1) (N.set i (0, false))) :
    Calls Tryz.prog 47 #[wp f, wp b, .int .i64 (i : Int)] w fun y w' => y = .returned .nilIface ∧ QGo w w' f (closeK D N[i].1) g b (N.set i (0, false)) := by
  have hF := h.find_yes t hi hiL h0
  have hFr : ∀ V, Below w.heap.size w V → Calls Tryz.prog 101 #[wp f, wp b, .int .i64 (i : Int)] V fun x w' => x = .returned (.tuple #[]) ∧ QGo w w' f (closeK D N[i].1) g b (N.set i (0, false)) := fun V hV => by
    refine ((h.below hV).free_ok (t.below hV) hi hiL h0 hc hl).mono ?_
    rintro x w' ⟨rfl, hG⟩
    exact ⟨rfl, hG.upon hV⟩
  generalize closeK D N[i].1 = D2 at *
  generalize N.set i (0, false) = N2 at *
  generalize g.B N[i].1 = q at *
  clear h t hc hl h0
  go_enter Tryz.func47, Tryz.ntmps47
  go_wp2_with (first
    | (go_at_call 77; refine hF.mono ?_; rintro y w1 ⟨rfl, b1⟩)
    | (go_at_call 101; refine (hFr _ b1).mono ?_; rintro y w2 ⟨rfl, hG⟩))
  go_ret
  exact ⟨rfl, hG⟩
set_option maxRecDepth 100000 in
set_option maxHeartbeats 4000000 in
theorem QF.mark_ok (h : QF w f D g n) (t : QTb w b g M N) (x : Int) (c : Bool) : Calls Tryz.prog 85 #[wp f, wp b, .int .i64 x, .bool c] w fun y w' => y = .returned (uev (if hasN N x = true then 0 else 7)) ∧ QGo w w' f D g b (markN N x c) := by
  by_cases hx : hasN N x = true
  · obtain ⟨i, rfl, hi, hiL, h0⟩ := hasN_at hx t.len
    rw [if_pos hx]
    have hmN : markN N i c = N.set i (N[i].1, c) := by
      unfold markN
      rw [if_pos hx, getD_in hiL, show (i : Int).toNat = i by omega]
    rw [hmN]
    have hM : i < M.length := by have := t.tab.len; omega
    have hk := t.keyOf hM hiL h0
    obtain ⟨_, hk0, _⟩ := h.key _ _ hk
    have hF := h.find_yes t hi hiL h0
    have hfin : ∀ V, Below w.heap.size w V → (∃ u, V.cell? ⟨b, i * 2 + 1, none⟩ = some u) ∧ V.frozen? ⟨b, i * 2 + 1, none⟩ = false ∧ QGo w (V.setCell ⟨b, i * 2 + 1, none⟩ (.bool c)) f D g b (N.set i (N[i].1, c)) := fun V hV => by
      have tV := t.below hV
      have t2 := tV.set (i := i) (M[i].1, c) (N[i].1, c) (tV.tab.mark hi c (by omega)) ⟨rfl, .inr ⟨h0, hk⟩⟩
      have gg := tgrown_set V b (i * 2 + 1) (.bool c)
      exact ⟨⟨_, (tV.tab.at hi).2⟩, tV.tab.free _, ⟨⟨g, n, _, (h.below hV).offTab t.off gg, t2, Ext.refl _ _ _⟩, (Wt.below _ hV).trans (Wt.grown gg (.inr rfl))⟩⟩
    generalize N.set i (N[i].1, c) = N2 at *
    generalize g.B N[i].1 = q at *
    have hi8 : (i : Int) < 8 := by omega
    clear h t hx hmN hk h0
    go_enter Tryz.func85, Tryz.ntmps85
    go_upto_region 4 with (go_at_call 77; refine hF.mono ?_; rintro y w1 ⟨rfl, b1⟩)
    obtain ⟨⟨u, c1⟩, z1, hG⟩ := hfin _ b1
    clear hfin hF
    go_wp2_with fail
    go_ret
    exact ⟨rfl, hG⟩
  · have hx' : hasN N x = false := by simpa using hx
    rw [if_neg hx, show markN N x c = N from if_neg hx]
    have hF := h.find_no t x hx'
    have hs : ∀ w', Below w.heap.size w w' → QGo w w' f D g b N := fun w' hb => h.same t hb
    clear h t hx hx'
    go_enter Tryz.func85, Tryz.ntmps85
    go_wp2_with (go_at_call 77; refine hF.mono ?_; rintro y w1 ⟨rfl, b1⟩)
    go_ret
    exact ⟨rfl, hs _ b1⟩
set_option maxRecDepth 100000 in
set_option maxHeartbeats 4000000 in
theorem QF.seek_ok (h : QF w f D g n) (t : QTb w b g M N) (x a : Int) (hL : Live D N) : Calls Tryz.prog 46 #[wp f, wp b, .int .i64 x, .int .i64 a] w fun y w' => y = .returned (uev (seekE D N x a)) ∧ QGo w w' f (seekD D N x a) g b N := by
  by_cases hx : hasN N x = true
  · obtain ⟨i, rfl, hi, hiL, h0⟩ := hasN_at hx t.len
    obtain ⟨e, he⟩ := Option.isSome_iff_exists.1 (hL i hiL h0)
    have hF := h.find_yes t hi hiL h0
    have hI : ∀ V, Below w.heap.size w V → Calls Tryz.prog 108 #[wp (g.B N[i].1)] V fun x w' => x = .returned (.bool (e.kind == 1)) ∧ w' = V := fun V hV => (h.below hV).isFile_ok he
    have hE1 : seekE D N i a = if e.kind ≠ 1 then 6 else if 0 ≤ a ∧ a ≤ 200 then 0 else 2 := by
      unfold seekE; rw [if_pos hx, getD_in hiL, he]
    have hD0 : seekE D N i a ≠ 0 → seekD D N i a = D := fun h => if_neg h
    by_cases hk : e.kind = 1
    · rw [hk] at hI
      rw [if_neg (fun z => z hk)] at hE1
      by_cases ha : 0 ≤ a ∧ a ≤ 200
      · rw [if_pos ha] at hE1
        have hD1 : seekD D N i a = { D with E := fun j => if j = N[i].1 then some { e with pos := a } else D.E j } := by
          unfold seekD; rw [if_pos hE1, getD_in hiL, he]
        rw [hE1, hD1]
        obtain ⟨c, hc, _, hkb⟩ := h.ent _ e he
        have hfin : ∀ V, Below w.heap.size w V → (∃ u, V.cell? ⟨g.B N[i].1, 4, none⟩ = some u) ∧ V.frozen? ⟨g.B N[i].1, 4, none⟩ = false ∧ QGo w (V.setCell ⟨g.B N[i].1, 4, none⟩ (.int .i64 a)) f { D with E := fun j => if j = N[i].1 then some { e with pos := a } else D.E j } g b N := fun V hV => by
          have hV' := h.below hV
          obtain ⟨_, _, _, _, e4, _, ez⟩ := hV'.ecell he hc
          have gg := tgrown_set V (g.B N[i].1) 4 (.int .i64 a)
          exact ⟨⟨_, e4⟩, ez 4, ⟨⟨g, n, M, hV'.place he a, (t.below hV).offOwn (by rw [hkb]; rfl) gg, Ext.refl _ _ _⟩, (Wt.below _ hV).trans (Wt.grown gg (.inl (by rw [hkb]; rfl)))⟩⟩
        generalize ({ D with E := fun j => if j = N[i].1 then some { e with pos := a } else D.E j } : DS) = D2 at *
        generalize g.B N[i].1 = q at *
        obtain ⟨ha0, ha1⟩ := ha
        clear h t hx hE1 hD1 hD0 hkb hk hc he h0 hL
        go_enter Tryz.func46, Tryz.ntmps46
        go_upto_region 8 with (first
          | (go_at_call 77; refine hF.mono ?_; rintro y w1 ⟨rfl, b1⟩)
          | (go_at_call 108; refine (hI _ b1).mono ?_; rintro y w2 ⟨rfl, hw2⟩; subst w2))
        obtain ⟨⟨u, c1⟩, z1, hG⟩ := hfin _ b1
        clear hfin hF hI
        go_wp2_with fail
        go_ret
        exact ⟨rfl, hG⟩
      · rw [if_neg ha] at hE1
        rw [hD0 (by rw [hE1]; decide), hE1]
        have hs : ∀ w', Below w.heap.size w w' → QGo w w' f D g b N := fun w' hb => h.same t hb
        generalize g.B N[i].1 = q at *
        clear h t hx hE1 hD0 hk he h0 hL
        by_cases ha0 : a < 0
        · clear ha
          go_enter Tryz.func46, Tryz.ntmps46
          go_wp2_with (first
            | (go_at_call 77; refine hF.mono ?_; rintro y w1 ⟨rfl, b1⟩)
            | (go_at_call 108; refine (hI _ b1).mono ?_; rintro y w2 ⟨rfl, hw2⟩; subst w2))
          go_ret
          exact ⟨rfl, hs _ b1⟩
        · have ha1 : 200 < a := by omega
          clear ha
          go_enter Tryz.func46, Tryz.ntmps46
          go_wp2_with (first
            | (go_at_call 77; refine hF.mono ?_; rintro y w1 ⟨rfl, b1⟩)
            | (go_at_call 108; refine (hI _ b1).mono ?_; rintro y w2 ⟨rfl, hw2⟩; subst w2))
          go_ret
          exact ⟨rfl, hs _ b1⟩
    · rw [if_pos hk] at hE1
      rw [hD0 (by rw [hE1]; decide), hE1]
      have hk' : (e.kind == 1) = false := by simpa using hk
      rw [hk'] at hI
      have hs : ∀ w', Below w.heap.size w w' → QGo w w' f D g b N := fun w' hb => h.same t hb
      generalize g.B N[i].1 = q at *
      clear h t hx hE1 hD0 hk hk' he h0 hL
      go_enter Tryz.func46, Tryz.ntmps46
      go_wp2_with (first
        | (go_at_call 77; refine hF.mono ?_; rintro y w1 ⟨rfl, b1⟩)
        | (go_at_call 108; refine (hI _ b1).mono ?_; rintro y w2 ⟨rfl, hw2⟩; subst w2))
      go_ret
      exact ⟨rfl, hs _ b1⟩
  · have hx' : hasN N x = false := by simpa using hx
    have hE1 : seekE D N x a = 7 := if_neg hx
    rw [show seekD D N x a = D from if_neg (by rw [hE1]; decide), hE1]
    have hF := h.find_no t x hx'
    have hs : ∀ w', Below w.heap.size w w' → QGo w w' f D g b N := fun w' hb => h.same t hb
    clear h t hx hx' hE1
    go_enter Tryz.func46, Tryz.ntmps46
    go_wp2_with (go_at_call 77; refine hF.mono ?_; rintro y w1 ⟨rfl, b1⟩)
    go_ret
    exact ⟨rfl, hs _ b1⟩
end
end Go.Proofs.YtjkneekfijibiabGreatDoor

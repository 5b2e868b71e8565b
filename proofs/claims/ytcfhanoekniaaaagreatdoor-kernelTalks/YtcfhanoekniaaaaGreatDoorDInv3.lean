/- Package desc: leave, free, by their Go texts. -/
import Derived.Test.YtcfhanoekniaaaaGreatDoorUWrite
import Derived.Test.YtcfhanoekniaaaaGreatDoorDInv
namespace Go.Proofs.YtcfhanoekniaaaaGreatDoor
open Go.RowKit Go.Maps

section
variable {w w' w2 : World} {f b n : Nat} {D D' : DS} {g g' : QG} {M N N' : Ns} {d k : Int} {e : En}
set_option maxRecDepth 100000 in
set_option maxHeartbeats 4000000 in
theorem QF.leave_more (h : QF w f D g n) (hk : g.K k = some d) {c : Int} (hc : CanClose D d e c) (hm : 0 < c - 1) : Calls Tryz.prog 240 #[wp f, .int .i64 k] w fun x w' => x = .returned (.tuple #[]) ∧ (∃ g' n', QF w' f (closeK D d) g' n' ∧ Ext w (closeK D d) g g') ∧ Wt (fun i => (g.kap i).isSome = true) w w' := by
  obtain ⟨_, hk0, hk1⟩ := h.key k d hk
  have c1 := h.cells.2
  have hlk := h.look (k := k) (by omega) hk1
  rw [gv_some hk] at hlk
  have h9 := fil_ne f
  have h8 := ent_ne (g.B d)
  obtain ⟨_, _, e2, _, _, _, ez⟩ := h.ecell hc.ent hc.cnt
  have ez2 := ez 2
  obtain ⟨_, _, _, hkb⟩ := h.ent d e hc.ent
  have h1 := h.count hc.ent (c - 1)
  have g1 := tgrown_set w (g.B d) 2 (.int .i64 (c - 1))
  obtain ⟨_, _, e2', _, _, _, _⟩ := h1.ecell hc.ent (if_pos rfl)
  rw [closeK_more hc hm]
  have hfin : (∃ g' n', QF (w.setCell ⟨g.B d, 2, none⟩ (.int .i64 (c - 1))) f { D with R := fun i => if i = d then some (c - 1) else D.R i } g' n' ∧ Ext w { D with R := fun i => if i = d then some (c - 1) else D.R i } g g') ∧ Wt (fun i => (g.kap i).isSome = true) w (w.setCell ⟨g.B d, 2, none⟩ (.int .i64 (c - 1))) := ⟨⟨g, n, h1, Ext.refl _ _ _⟩, Wt.grown g1 (by rw [hkb]; rfl)⟩
  have hw1 : wrap64 (c - 1) = c - 1 := by have := hc.c0; have := hc.c1; unfold wrap64; omega
  have hz : ((c - 1 : Int) == 0) = false := by simp; omega
  generalize ({ D with R := fun i => if i = d then some (c - 1) else D.R i } : DS) = D2 at *
  generalize g.B d = q at *
  clear h hk hc hm ez hkb h1 g1
  go_enter Tryz.func240, Tryz.ntmps240
  go_wp2_with fail
  go_end0
  exact ⟨rfl, hfin⟩
/-- Behind the map's deletion. -/
structure LvS (w w2 w3 : World) (f : Nat) (g : QG) (D : DS) (k d c : Int) (e : En) : Prop where
  c1 : w.cell? ⟨f, 1, none⟩ = some (.map (some g.gO))
  lk : (Instr.lookup 207 (.map (some g.gO)) (.int .i64 k) false).run Tryz.prog w = .ok (wp (g.B d)) w
  e2 : w.cell? ⟨g.B d, 2, none⟩ = some (.int .i64 c)
  ez : w.frozen? ⟨g.B d, 2, none⟩ = false
  e2' : (w.setCell ⟨g.B d, 2, none⟩ (.int .i64 (c - 1))).cell? ⟨g.B d, 2, none⟩ = some (.int .i64 (c - 1))
  c1' : (w.setCell ⟨g.B d, 2, none⟩ (.int .i64 (c - 1))).cell? ⟨f, 1, none⟩ = some (.map (some g.gO))
  del : ∀ ty, (Builtin.delete_ #[207, 3] ty #[.map (some g.gO), .int .i64 k]).run Tryz.prog (w.setCell ⟨g.B d, 2, none⟩ (.int .i64 (c - 1))) = .ok (.tuple #[]) w3
  wt : Wt (fun i => (g.kap i).isSome = true) w w3
  tag : g.kap (g.B d) = some (.ent d)
  blk : w3.heap[g.B d]? = some (.cells (ecells g e (c - 1)) 238)
  st : ∃ n', QF w3 f { D with E := fun i => if i = d then none else D.E i, R := fun i => if i = d then none else if i = d then some (c - 1) else D.R i } { g with K := fun i => if i = k then none else g.K i } n'
theorem QF.leaving (h : QF w f D g n) (hk : g.K k = some d) {c : Int} (hc : CanClose D d e c) : ∃ w3, LvS w w w3 f g D k d c e := by
  obtain ⟨_, hk0, hk1⟩ := h.key k d hk
  have hlk := h.look (k := k) (by omega) hk1
  rw [gv_some hk] at hlk
  obtain ⟨_, _, e2, _, _, _, ez⟩ := h.ecell hc.ent hc.cnt
  obtain ⟨c9, hc9, hblk, hkb⟩ := h.ent d e hc.ent
  have h1 := h.count hc.ent (c - 1)
  have g1 := tgrown_set w (g.B d) 2 (.int .i64 (c - 1))
  obtain ⟨_, _, e2', _, _, _, _⟩ := h1.ecell hc.ent (if_pos rfl)
  obtain ⟨w3, hdel, pm, g3⟩ := del_run h1.map Tryz.underlying207 k (wf_few (by omega) (by omega))
  have h3 := h1.gone hk pm g3
  refine ⟨w3, h.cells.2, hlk, e2, ez 2, e2', h1.cells.2, hdel, (Wt.grown g1 (by rw [hkb]; rfl)).trans (Wt.grown g3 (by rw [h.tm]; rfl)), hkb, ?_, _, h3⟩
  rw [g3.block _ (h1.lt _ (by rw [hkb]; rfl)) (fun x => tag_ne hkb h.tm (by simp) (Option.some.inj x))]
  exact ent_put2 hblk _
theorem ext_gone {w3 : World} (hk : g.K k = some d) (hE : D'.E d = none) (hg : g'.K = fun i => if i = k then none else g.K i) (hka : ∀ i, i < w.heap.size → g'.kap i = g.kap i) (hr : g'.r = g.r) (_ : w3 = w3) : Ext w D' g g' := by
  refine ⟨hka, fun i x hi hx => ?_, hr⟩
  rw [hg]
  show (if i = k then none else g.K i) = some x
  by_cases e1 : i = k
  · rw [e1, hk] at hi
    rw [← Option.some.inj hi, hE] at hx
    cases hx
  · rw [if_neg e1]; exact hi
set_option maxRecDepth 100000 in
set_option maxHeartbeats 4000000 in
theorem QF.leave_last (h : QF w f D g n) (hk : g.K k = some d) {c : Int} (hc : Cl D d e c) (hm : ¬ 0 < c - 1) : Calls Tryz.prog 240 #[wp f, .int .i64 k] w fun x w' => x = .returned (.tuple #[]) ∧ (∃ g' n', QF w' f (closeK D d) g' n' ∧ Ext w (closeK D d) g g') ∧ Wt (fun i => (g.kap i).isSome = true) w w' := by
  obtain ⟨w3, L⟩ := h.leaving hk hc.toCanClose
  obtain ⟨n', h3⟩ := L.st
  have hsz := L.wt.size
  have hSh : Calls Tryz.prog 297 #[wp f, wp (g.B d)] w3 fun x w' => x = .returned (.tuple #[]) ∧ (∃ g' n', QF w' f (closeK D d) g' n' ∧ Ext w (closeK D d) g g') ∧ Wt (fun i => (g.kap i).isSome = true) w w' := by
    by_cases hkd : e.kind = 1
    · have hpv : pv g e = .pointer none := if_pos hkd
      have hnd := hc.node hkd
      refine (h3.shut_file (q := g.B d) L.blk L.tag hkd hc.lv hnd.1 hnd.2).mono ?_
      rintro x w' ⟨rfl, ⟨g', a1, a2, a3, a4⟩, wt⟩
      rw [closeK_file hc.toCanClose hm hkd]
      exact ⟨rfl, ⟨g', n', a1, ext_gone (w3 := w3) hk (if_pos rfl) a3 (fun i hi => a2 i (by omega)) a4 rfl⟩, L.wt.trans wt⟩
    · obtain ⟨q0, q1, p, hp, hpl, f0, f1, i0, i1⟩ := hc.pipe hkd
      have hpv : pv g e = wp (g.Q e.pipe) := if_neg hkd
      have hblk := L.blk
      rw [ecells, hpv] at hblk
      refine (h3.shut_end (q := g.B d) (p := e.pipe) hblk L.tag hkd hp ⟨f0, f1⟩ ⟨i0, i1⟩).mono ?_
      rintro x w' ⟨rfl, a1, wt⟩
      rw [closeK_end hc.toCanClose hm hkd, hp]
      exact ⟨rfl, ⟨_, n', a1, ext_gone (w3 := w3) hk (if_pos rfl) rfl (fun i hi => rfl) rfl rfl⟩, L.wt.trans wt⟩
  have hc1 : c = 1 := by have := hc.c0; omega
  subst hc1
  have c1 := L.c1
  have hlk := L.lk
  have e2 := L.e2
  have ez := L.ez
  have e2' := L.e2'
  have c1' := L.c1'
  have hdel := L.del
  have h9 := fil_ne f
  have h8 := ent_ne (g.B d)
  generalize closeK D d = D2 at *
  simp only [show (1 : Int) - 1 = 0 by omega] at e2' c1' hdel
  generalize g.B d = q at *
  clear h hk hc hm L h3 hsz
  go_enter Tryz.func240, Tryz.ntmps240
  go_wp2_with (go_at_call 297; refine hSh.mono ?_; rintro x w4 ⟨rfl, hR⟩)
  go_end0
  exact ⟨rfl, hR⟩
theorem QF.leave_ok (h : QF w f D g n) (hk : g.K k = some d) {c : Int} (hc : Cl D d e c) : Calls Tryz.prog 240 #[wp f, .int .i64 k] w fun x w' => x = .returned (.tuple #[]) ∧ (∃ g' n', QF w' f (closeK D d) g' n' ∧ Ext w (closeK D d) g g') ∧ Wt (fun i => (g.kap i).isSome = true) w w' := by
  by_cases hm : 0 < c - 1
  · exact h.leave_more hk hc.toCanClose hm
  · exact h.leave_last hk hc hm

set_option maxRecDepth 100000 in
set_option maxHeartbeats 4000000 in
theorem QF.free_ok (h : QF w f D g n) (t : QTb w b g M N) {i : Nat} (hi : i < 8) (hiL : i < N.length) (h0 : 0 < N[i].1) {c : Int} (hc : Cl D N[i].1 e c) (hl : Live (closeK D N[i].1) (N.set i (0, false))) :
    Calls Tryz.prog 142 #[wp f, wp b, .int .i64 (i : Int)] w fun x w' => x = .returned (.tuple #[]) ∧ QGo w w' f (closeK D N[i].1) g b (N.set i (0, false)) := by
  have hM : i < M.length := by have := t.tab.len; omega
  have hk := t.keyOf hM hiL h0
  obtain ⟨t0, t1⟩ := t.tab.at hi
  have z0 := t.tab.free (i * 2)
  have z1 := t.tab.free (i * 2 + 1)
  have hT1 := t.set (i := i) (0, false) (0, false) (t.tab.put hi (0, false) ⟨by simp, by simp, fun _ => rfl⟩) ⟨rfl, .inl ⟨rfl, rfl⟩⟩
  have g1 := QT.put_grown w b i (.int .i64 0) (.bool false)
  have h1 := h.offTab t.off g1
  obtain ⟨W, hW⟩ : ∃ W, (w.setCell ⟨b, i * 2, none⟩ (.int .i64 0)).setCell ⟨b, i * 2 + 1, none⟩ (.bool false) = W := ⟨_, rfl⟩
  simp only at hT1
  rw [hW] at hT1 g1 h1
  have hL := h1.leave_ok hk hc
  have hfin : ∀ w', (∃ g' n', QF w' f (closeK D N[i].1) g' n' ∧ Ext W (closeK D N[i].1) g g') → Wt (fun i => (g.kap i).isSome = true) W w' → QGo w w' f (closeK D N[i].1) g b (N.set i (0, false)) := fun w' hx wt => by
    obtain ⟨g', n', a1, a2⟩ := hx
    have hsz : W.heap.size = w.heap.size := by rw [← hW]; simp [World.setCell]
    refine ⟨⟨g', n', _, a1, hT1.other a2 (wt.block b hT1.tab.lt (by rw [t.off]; simp)) hl, ⟨fun j hj => a2.kap j (by omega), a2.key, a2.r⟩⟩, (Wt.grown g1 (.inr rfl)).trans (wt.mono (fun j hj => .inl hj))⟩
  generalize closeK D N[i].1 = D2 at *
  generalize N.set i (0, false) = N2 at *
  generalize M[i].1 = X at *
  generalize M[i].2 = Y at *
  have hi8 : (i : Int) < 8 := by omega
  clear h t hk hc hT1 g1 h1 hl h0
  go_enter Tryz.func142, Tryz.ntmps142
  go_upto_region 2 with fail
  clear t0 t1 z0 z1 hW
  go_wp2_with (go_at_call 240; refine hL.mono ?_; rintro x w4 ⟨rfl, hR, wt⟩)
  go_end0
  exact ⟨rfl, hfin _ hR wt⟩
end
end Go.Proofs.YtcfhanoekniaaaaGreatDoor

namespace Go.Proofs.YtcfhanoekniaaaaGreatDoor
open Go.RowKit Go.Maps

section
variable {w w' w2 : World} {f b n : Nat} {D D' : DS} {g g' : QG} {M N N' : Ns} {d k : Int} {e : En}
theorem QF.same (h : QF w f D g n) (t : QTb w b g M N) (hb : Below w.heap.size w w') : QGo w w' f D g b N := ⟨⟨g, n, M, h.below hb, t.below hb, Ext.refl _ _ _⟩, Wt.below _ hb⟩
theorem QGo.upon (hb : Below w.heap.size w w') (h : QGo w' w2 f D' g b N') : QGo w w2 f D' g b N' := by
  obtain ⟨⟨g', n', M', a, c, x⟩, wt⟩ := h
  exact ⟨⟨g', n', M', a, c, ⟨fun i hi => x.kap i (Nat.lt_of_lt_of_le hi hb.size), x.key, x.r⟩⟩, (Wt.below _ hb).trans wt⟩
set_option maxRecDepth 100000 in
set_option maxHeartbeats 4000000 in
theorem QF.close_no (h : QF w f D g n) (t : QTb w b g M N) (x : Int) (hx : hasN N x = false) : Calls Tryz.prog 57 #[wp f, wp b, .int .i64 x] w fun y w' => y = .returned (uer 7) ∧ QGo w w' f D g b N := by
  have hF := h.find_no t x hx
  have hs : ∀ w', Below w.heap.size w w' → QGo w w' f D g b N := fun w' hb => h.same t hb
  clear h t hx
  go_enter Tryz.func57, Tryz.ntmps57
  go_wp2_with (go_at_call 141; refine hF.mono ?_; rintro y w1 ⟨rfl, b1⟩)
  go_ret
  exact ⟨rfl, hs _ b1⟩
set_option maxRecDepth 100000 in
set_option maxHeartbeats 4000000 in
theorem QF.close_ok (h : QF w f D g n) (t : QTb w b g M N) {i : Nat} (hi : i < 8) (hiL : i < N.length) (h0 : 0 < N[i].1) {c : Int} (hc : Cl D N[i].1 e c) (hl : Live (closeK D N[i].1) (N.set i (0, false))) :
    Calls Tryz.prog 57 #[wp f, wp b, .int .i64 (i : Int)] w fun y w' => y = .returned .nilIface ∧ QGo w w' f (closeK D N[i].1) g b (N.set i (0, false)) := by
  have hF := h.find_yes t hi hiL h0
  have hFr : ∀ V, Below w.heap.size w V → Calls Tryz.prog 142 #[wp f, wp b, .int .i64 (i : Int)] V fun x w' => x = .returned (.tuple #[]) ∧ QGo w w' f (closeK D N[i].1) g b (N.set i (0, false)) := fun V hV => by
    refine ((h.below hV).free_ok (t.below hV) hi hiL h0 hc hl).mono ?_
    rintro x w' ⟨rfl, hG⟩
    exact ⟨rfl, hG.upon hV⟩
  generalize closeK D N[i].1 = D2 at *
  generalize N.set i (0, false) = N2 at *
  generalize g.B N[i].1 = q at *
  clear h t hc hl h0
  go_enter Tryz.func57, Tryz.ntmps57
  go_wp2_with (first
    | (go_at_call 141; refine hF.mono ?_; rintro y w1 ⟨rfl, b1⟩)
    | (go_at_call 142; refine (hFr _ b1).mono ?_; rintro y w2 ⟨rfl, hG⟩))
  go_ret
  exact ⟨rfl, hG⟩
end
end Go.Proofs.YtcfhanoekniaaaaGreatDoor

namespace Go.Proofs.YtcfhanoekniaaaaGreatDoor
open Go.RowKit Go.Maps

/-- So it stands with all tables. -/
structure Inv (D : DS) (Ts : List Ns) (k : Nat) : Prop where
  core : InvC D (fun d => cntS d Ts) k
  tab : ∀ N ∈ Ts, N.length = 8 ∧ ∀ x ∈ N, 0 ≤ x.1 ∧ (x.1 = 0 → x.2 = false)
  few : Ts.length ≤ 500
/-- A number of the table is of an ENTRY with a count. -/
def Cnted (D : DS) (N : Ns) : Prop := ∀ i (hi : i < N.length), 0 < N[i].1 → ∃ e c, D.E N[i].1 = some e ∧ D.R N[i].1 = some c ∧ 0 ≤ c ∧ c < 100000
section
variable {D : DS} {Ts : List Ns} {k j i : Nat} {d : Int} {e : En}
theorem Cnted.live {N : Ns} (h : Cnted D N) : Live D N := fun i hi h0 => by
  obtain ⟨e, c, h1, _⟩ := h i hi h0
  rw [h1]; rfl
theorem Inv.more (h : Inv D Ts k) {k' : Nat} (hk : k ≤ k') : Inv D Ts k' := ⟨h.core.more hk, h.tab, h.few⟩
theorem Inv.len (h : Inv D Ts k) (hj : j < Ts.length) : Ts[j].length = 8 := (h.tab _ (List.getElem_mem hj)).1
theorem Inv.few64 (h : Inv D Ts k) (d : Int) : cntS d Ts ≤ 4000 := by
  have := cntS_le d Ts (fun N hN => (h.tab N hN).1)
  have := h.few
  omega
theorem Inv.cl (h : Inv D Ts k) (hj : j < Ts.length) (hi : i < Ts[j].length) (h0 : 0 < Ts[j][i].1) : ∃ e, Cl D Ts[j][i].1 e (cntS Ts[j][i].1 Ts) :=
  h.core.cl h0 (cntS_pos hj hi) (by have := h.few64 Ts[j][i].1; omega)
theorem Inv.cnted (h : Inv D Ts k) (hj : j < Ts.length) : Cnted D Ts[j] := fun i hi h0 => by
  obtain ⟨e, c⟩ := h.cl hj hi h0
  exact ⟨e, _, c.ent, c.cnt, by omega, c.c1⟩
theorem Inv.live (h : Inv D Ts k) (hj : j < Ts.length) : Live D Ts[j] := (h.cnted hj).live
theorem tab_set {P : Ns → Prop} {N' : Ns} (h : ∀ N ∈ Ts, P N) (hN : P N') : ∀ N ∈ Ts.set j N', P N := fun N hm => by
  rcases List.mem_or_eq_of_mem_set hm with h1 | h1
  · exact h N h1
  · rw [h1]; exact hN
theorem row_set {N : Ns} (h : N.length = 8 ∧ ∀ x ∈ N, 0 ≤ x.1 ∧ (x.1 = 0 → x.2 = false)) (y : Int × Bool) (hy : 0 ≤ y.1 ∧ (y.1 = 0 → y.2 = false)) : (N.set i y).length = 8 ∧ ∀ x ∈ N.set i y, 0 ≤ x.1 ∧ (x.1 = 0 → x.2 = false) := by
  refine ⟨by rw [List.length_set]; exact h.1, fun x hx => ?_⟩
  rcases List.mem_or_eq_of_mem_set hx with h1 | h1
  · exact h.2 x h1
  · rw [h1]; exact hy
theorem Inv.close (h : Inv D Ts k) (hk : k ≤ 900) (hj : j < Ts.length) (hi : i < Ts[j].length) (h0 : 0 < Ts[j][i].1) : Inv (closeK D Ts[j][i].1) (Ts.set j (Ts[j].set i (0, false))) k := by
  have hb := h.few64 Ts[j][i].1
  refine ⟨(h.core.close hk h0 (cntS_pos hj hi) (by omega)).congr (fun x hx => ?_), tab_set h.tab (row_set (h.tab _ (List.getElem_mem hj)) _ ⟨by simp, fun _ => rfl⟩), by rw [List.length_set]; exact h.few⟩
  have ht := cnt_turn hj hi x (0, false)
  have hp := cntS_pos hj hi
  simp only at ht ⊢
  rw [if_neg (show ¬ (0 : Int) = x by omega)] at ht
  by_cases e1 : x = Ts[j][i].1
  · rw [if_pos e1]
    rw [if_pos e1.symm] at ht
    rw [← e1]
    omega
  · rw [if_neg e1]
    rw [if_neg (fun z => e1 z.symm)] at ht
    omega
/-- An ENTRY's own turn. -/
theorem Inv.putE (h : Inv D Ts k) (he : D.E d = some e) {e' : En} (hok : EnOk D e') : Inv { D with E := fun i => if i = d then some e' else D.E i } Ts k := by
  have hs : ∀ x, (if x = d then some e' else D.E x).isSome = (D.E x).isSome := fun x => by
    by_cases e1 : x = d
    · rw [if_pos e1, e1, he]; rfl
    · rw [if_neg e1]
  refine ⟨⟨⟨h.core.giv.n0, h.core.giv.n1, fun x hx => h.core.giv.e x (by rw [← hs]; exact hx), h.core.giv.r, h.core.giv.p⟩, h.core.lv, h.core.sm, fun x ex hx => ?_, fun x hx => by show (if x = d then some e' else D.E x).isSome = true ↔ _; rw [hs]; exact h.core.cE x hx, h.core.cR⟩, h.tab, h.few⟩
  have hx' : (if x = d then some e' else D.E x) = some ex := hx
  by_cases e1 : x = d
  · rw [if_pos e1] at hx'
    obtain rfl := Option.some.inj hx'
    exact hok.same (Int.le_refl _) rfl
  · rw [if_neg e1] at hx'
    exact (h.core.ent x ex hx').same (Int.le_refl _) rfl
/-- A pipe's own turn. -/
theorem Inv.putP (h : Inv D Ts k) {p : Int} {x y : Pi} (hp : D.P p = some x) (hy : y.1.length ≤ 16 ∧ 0 ≤ y.2.1 ∧ y.2.1 < 1000 ∧ 0 ≤ y.2.2 ∧ y.2.2 < 1000) : Inv { D with P := fun i => if i = p then some y else D.P i } Ts k := by
  refine ⟨⟨⟨h.core.giv.n0, h.core.giv.n1, h.core.giv.e, h.core.giv.r, fun q hq => ?_⟩, h.core.lv, h.core.sm, fun q ex hx => (h.core.ent q ex hx).keep (Int.le_refl _) (fun r z a b c d e f => ?_), h.core.cE, h.core.cR⟩, h.tab, h.few⟩
  · have hq' : (if q = p then some y else D.P q).isSome = true := hq
    by_cases e1 : q = p
    · rw [e1]; exact h.core.giv.p p (by rw [hp]; rfl)
    · rw [if_neg e1] at hq'; exact h.core.giv.p q hq'
  · by_cases e1 : r = p
    · exact ⟨y, if_pos e1, hy⟩
    · exact ⟨z, (if_neg e1).trans a, b, c, d, e, f⟩
/-- The tree's own turn. -/
theorem Inv.putT (h : Inv D Ts k) {T' : Wd} {k' : Nat} (hT : TrLv T') (hs : Sm k' T') : Inv { D with T := T' } Ts k' :=
  ⟨⟨⟨h.core.giv.n0, h.core.giv.n1, h.core.giv.e, h.core.giv.r, h.core.giv.p⟩, hT, hs, fun q ex hx => (h.core.ent q ex hx).same (Int.le_refl _) rfl, h.core.cE, h.core.cR⟩, h.tab, h.few⟩
/-- A new ENTRY, for a free number. -/
theorem Inv.add (h : Inv D Ts k) (hn : D.nx < 899) (hj : j < Ts.length) (hl : ¬ leastN Ts[j] < 0) (hok : EnOk (addD D e) e) : Inv (addD D e) (Ts.set j (addN D Ts[j])) k := by
  have g := h.core.giv
  obtain ⟨n1, n2, n3⟩ := g.new
  rcases least_lt (N := Ts[j]) with hx9 | ⟨i, hi, hiL, hi0⟩
  · omega
  have hN : addN D Ts[j] = Ts[j].set i (D.nx + 1, false) := by unfold addN; rw [hi, show (i : Int).toNat = i by omega]
  have h0 := g.n0
  have hz : cntS (D.nx + 1) Ts = 0 := by
    have := h.core.cE (D.nx + 1) (by omega)
    rw [n1] at this
    simp at this
    exact this
  rw [hN]
  have hcnt : ∀ x, 0 < x → cntS x (Ts.set j (Ts[j].set i (D.nx + 1, false))) = if x = D.nx + 1 then 1 else cntS x Ts := fun x hx => by
    have ht := cnt_turn hj hiL x (D.nx + 1, false)
    simp only at ht
    rw [hi0, if_neg (show ¬ (0 : Int) = x by omega)] at ht
    by_cases e1 : x = D.nx + 1
    · rw [if_pos e1]
      rw [if_pos e1.symm, e1, hz] at ht
      rw [e1]; omega
    · rw [if_neg e1]
      rw [if_neg (fun z => e1 z.symm)] at ht
      omega
  refine ⟨⟨g.add hn e, h.core.lv, h.core.sm, fun x ex hx => ?_, fun x hx => ?_, fun x hx => ?_⟩, tab_set h.tab (row_set (h.tab _ (List.getElem_mem hj)) _ ⟨by simp; omega, fun z => by simp at z; omega⟩), by rw [List.length_set]; exact h.few⟩
  · have hx' : (if x = D.nx + 1 then some e else D.E x) = some ex := hx
    by_cases e1 : x = D.nx + 1
    · rw [if_pos e1] at hx'
      obtain rfl := Option.some.inj hx'
      exact hok
    · rw [if_neg e1] at hx'
      exact (h.core.ent x ex hx').same (by show D.nx ≤ D.nx + 1; omega) rfl
  · show (if x = D.nx + 1 then some e else D.E x).isSome = true ↔ _
    rw [hcnt x hx]
    by_cases e1 : x = D.nx + 1
    · rw [if_pos e1, if_pos e1]; simp
    · rw [if_neg e1, if_neg e1]; exact h.core.cE x hx
  · show (if x = D.nx + 1 then some 1 else D.R x) = _
    rw [hcnt x hx]
    by_cases e1 : x = D.nx + 1
    · simp [e1]
    · rw [if_neg e1, if_neg e1, h.core.cR x hx]
theorem getT_set {Ts : List Ns} {j : Nat} (_ : j < Ts.length) (N' : Ns) (h : j < (Ts.set j N').length) : (Ts.set j N')[j] = N' := List.getElem_set_self h
theorem set_setT (Ts : List Ns) (j : Nat) (a b : Ns) : (Ts.set j a).set j b = Ts.set j b := List.set_set _
theorem Inv.setSelf (h : Inv D Ts k) (hj : j < Ts.length) : Inv D (Ts.set j Ts[j]) k := by rw [List.set_getElem_self]; exact h
end
end Go.Proofs.YtcfhanoekniaaaaGreatDoor

namespace Go.Proofs.YtcfhanoekniaaaaGreatDoor
open Go.RowKit Go.Maps

section
variable {w w' w2 : World} {f b n : Nat} {D D' : DS} {g g' : QG} {M N N' : Ns} {d k : Int} {e : En}
/-- give, for what is asked: a table's number is of an ENTRY. -/
theorem QF.give_go (h : QF w f D g n) (t : QTb w b g M N) {i : Nat} (hi : i < 8) (hk : g.K k = some d) (hd : 0 < d) (he : D.E d = some e) {c : Int} (hc : D.R d = some c) (hc0 : 0 ≤ c) (hc1 : c < 100000) :
    Calls Tryz.prog 239 #[wp f, wp b, .int .i64 (i : Int), .int .i64 k] w fun x w' => x = .returned (.tuple #[]) ∧ QF w' f (incR D d) g n ∧ QTb w' b g (M.set i (k, false)) (N.set i (d, false)) ∧ QGo w w' f (incR D d) g b (N.set i (d, false)) := by
  rw [incR_eq hc]
  refine (h.give_ok t hi hk hd he hc hc0 hc1).mono ?_
  rintro x w' ⟨rfl, a1, a2, wt⟩
  exact ⟨rfl, a1, a2, ⟨g, n, _, a1, a2, Ext.refl _ _ _⟩, wt⟩
end
end Go.Proofs.YtcfhanoekniaaaaGreatDoor

namespace Go.Proofs.YtcfhanoekniaaaaGreatDoor
open Go.RowKit Go.Maps

/-- A table that is forked: all its numbers are doubled. -/
def forkD (D : DS) (N : Ns) : DS := N.foldl (fun D x => if 0 < x.1 then incR D x.1 else D) D
/-- Numbers freed, so many looked at: all, or those that are MARKED. -/
noncomputable def freeS (all : Bool) (D : DS) (N : Ns) : Nat → DS × Ns
  | 0 => (D, N)
  | i + 1 => if 0 < (N.getD i (0, false)).1 ∧ (all = true ∨ (N.getD i (0, false)).2 = true) then (closeK (freeS all D N i).1 (N.getD i (0, false)).1, (freeS all D N i).2.set i (0, false)) else freeS all D N i
section
variable {D : DS} {Ts : List Ns} {k j i : Nat} {d : Int} {e : En}
theorem readS_end {T : Wd} {x a c : Int} (hs : Sm k T) (h0 : 0 ≤ a) (h1 : a ≤ 200) : a + (readS T x a c).length ≤ 200 := by
  unfold readS
  split
  · rename_i b y e
    have := (hs.2 x b y e).2
    split
    · simp; omega
    · rw [List.length_take, List.length_drop]; omega
  · simp; omega
theorem Inv.read (h : Inv D Ts k) (hj : j < Ts.length) (x a : Int) : Inv (readO D Ts[j] x a).2.2 Ts k := by
  unfold readO
  split
  · split
    · exact h
    · rename_i e he
      have hok := h.core.ent _ e he
      split
      · exact h
      · split
        · rename_i hk
          refine h.putE he ⟨hok.kind, fun hk => ?_, hok.frm, hok.into, hok.pipe⟩
          obtain ⟨a1, a2, a3, a4, a5, a6⟩ := hok.file hk
          have := readS_end (x := e.node) (c := a) h.core.sm a5 a6
          exact ⟨a1, a2, a3, a4, by simp only; omega, this⟩
        · rename_i hk
          obtain ⟨a1, a2, p, a3, a4, a5, a6, a7, a8⟩ := hok.pipe hk
          rw [a3]
          exact h.putP a3 ⟨by simp; omega, a5, a6, a7, a8⟩
  · exact h
theorem writeE_len {T : Wd} {x a : Int} {s : List UInt8} (h : writeE T x a s = 0) : a + s.length ≤ 200 := by
  unfold writeE at h
  split at h
  · omega
  · split at h
    · omega
    · split at h
      · omega
      · omega
theorem Inv.write (h : Inv D Ts k) (hj : j < Ts.length) (x : Int) (s : List UInt8) (a : Int) : Inv (writeO D Ts[j] x s a).2.2 Ts (k + 1) := by
  have h1 := h.more (Nat.le_succ k)
  unfold writeO
  split
  · split
    · exact h1
    · rename_i e he
      have hok := h.core.ent _ e he
      split
      · exact h1
      · split
        · rename_i hk
          split
          · exact h1
          · split
            · exact h1
            · rename_i hE
              have hE' : writeE D.T e.node e.pos s = 0 := by omega
              have h2 := h.putT (h.core.lv.write e.node e.pos s) (h.core.sm.write e.node e.pos s)
              refine h2.putE (D := { D with T := writeN D.T e.node e.pos s }) he ⟨hok.kind, fun hk => ?_, hok.frm, hok.into, hok.pipe⟩
              obtain ⟨a1, a2, a3, a4, a5, a6⟩ := hok.file hk
              have := writeE_len hE'
              exact ⟨a1, a2, a3, a4, by simp only; omega, this⟩
        · rename_i hk
          obtain ⟨a1, a2, p, a3, a4, a5, a6, a7, a8⟩ := hok.pipe hk
          rw [a3]
          exact h1.putP a3 ⟨wrB_len _ _ _ a4, a5, a6, a7, a8⟩
  · exact h1
/-- A new pipe, and its two ends. -/
theorem Inv.pipe (h : Inv D Ts k) (hn : D.nx < 890) (hj : j < Ts.length) (hl1 : ¬ leastN Ts[j] < 0) (hl2 : ¬ leastN (pipeN1 D Ts[j]) < 0) : Inv (pipeD D) (Ts.set j (pipeN D Ts[j])) k := by
  have g := h.core.giv
  obtain ⟨n1, n2, n3⟩ := g.new
  have g0 := g.n0
  have hz : cntS (D.nx + 1) Ts = 0 := by
    have := h.core.cE (D.nx + 1) (by omega)
    rw [n1] at this
    simp at this
    exact this
  have h0 : Inv (pipeD0 D) Ts k := by
    refine ⟨⟨g.pipe0 (by omega), h.core.lv, h.core.sm, fun x ex hx => (h.core.ent x ex hx).keep (by show D.nx ≤ D.nx + 1; omega) (fun p y a b c d e f => ?_), h.core.cE, h.core.cR⟩, h.tab, h.few⟩
    have : p ≠ D.nx + 1 := fun e => by rw [e, n3] at a; cases a
    exact ⟨y, (if_neg this).trans a, b, c, d, e, f⟩
  have hP0 : (pipeD0 D).P (D.nx + 1) = some ([], 1, 1) := if_pos rfl
  have h1 : Inv (pipeD1 D) (Ts.set j (pipeN1 D Ts[j])) k := h0.add (D := pipeD0 D) (e := ⟨2, 1, 0, D.nx + 1, 0⟩) (by show D.nx + 1 < 899; omega) hj hl1 ⟨.inr (.inl rfl), fun z => by simp at z, fun _ => rfl, fun z => by simp at z, fun _ => ⟨by simp only; omega, by show D.nx + 1 ≤ D.nx + 1 + 1; omega, _, hP0, by simp, by simp, by simp, by simp, by simp⟩⟩
  have hj1 : j < (Ts.set j (pipeN1 D Ts[j])).length := by rw [List.length_set]; exact hj
  have hg1 := getT_set hj (pipeN1 D Ts[j]) hj1
  have h2 := h1.add (D := pipeD1 D) (j := j) (e := ⟨3, 2, 0, D.nx + 1, 0⟩) (by show D.nx + 1 + 1 < 899; omega) hj1 (by rw [hg1]; exact hl2) ⟨.inr (.inr rfl), fun z => by simp at z, fun z => by simp at z, fun _ => rfl, fun _ => ⟨by simp only; omega, by show D.nx + 1 ≤ D.nx + 1 + 1 + 1; omega, _, hP0, by simp, by simp, by simp, by simp, by simp⟩⟩
  rw [hg1, set_setT] at h2
  exact h2
theorem InvC.fork : ∀ (l : Ns) {D : DS} {C : Int → Nat}, InvC D C k → (∀ x ∈ l, 0 < x.1 → 0 < C x.1) → InvC (forkD D l) (fun d => C d + cntN d l) k
  | [], D, C, h, _ => h.congr (fun d _ => by simp [cntN])
  | x :: l, D, C, h, hl => by
    unfold forkD
    rw [List.foldl_cons]
    by_cases hx : 0 < x.1
    · rw [if_pos hx]
      refine (InvC.fork l (h.inc hx (hl x List.mem_cons_self hx)) (fun y hy h0 => ?_)).congr (fun d hd => ?_)
      · show 0 < (if y.1 = x.1 then C x.1 + 1 else C y.1)
        split
        · omega
        · exact hl y (List.mem_cons_of_mem _ hy) h0
      · simp only [cntN, List.filter_cons]
        by_cases e1 : d = x.1
        · simp [e1]; omega
        · simp [e1, Ne.symm e1]
    · rw [if_neg hx]
      refine (InvC.fork l h (fun y hy h0 => hl y (List.mem_cons_of_mem _ hy) h0)).congr (fun d hd => ?_)
      simp only [cntN, List.filter_cons]
      rw [if_neg (by simp; omega)]
theorem Inv.fork (h : Inv D Ts k) (hf : Ts.length < 500) (hj : j < Ts.length) : Inv (forkD D Ts[j]) (Ts ++ [Ts[j]]) k := by
  refine ⟨(InvC.fork Ts[j] h.core (fun x hx h0 => ?_)).congr (fun d hd => ?_), fun N hN => ?_, by rw [List.length_append]; simp; omega⟩
  · obtain ⟨i, hi, rfl⟩ := List.getElem_of_mem hx
    exact cntS_pos hj hi
  · simp [cntS]
  · rcases List.mem_append.1 hN with h1 | h1
    · exact h.tab N h1
    · rw [List.mem_singleton.1 h1]; exact h.tab _ (List.getElem_mem hj)
theorem freeS_tab (all : Bool) (D : DS) (N : Ns) : ∀ i, (freeS all D N i).2.length = N.length ∧ ∀ x, i ≤ x → (freeS all D N i).2[x]? = N[x]?
  | 0 => ⟨rfl, fun _ _ => rfl⟩
  | i + 1 => by
    obtain ⟨h1, h2⟩ := freeS_tab all D N i
    rw [freeS]
    split
    · refine ⟨by simp only [List.length_set]; exact h1, fun x hx => ?_⟩
      simp only
      rw [List.getElem?_set_ne (by omega)]
      exact h2 x (by omega)
    · exact ⟨h1, fun x hx => h2 x (by omega)⟩
theorem freeS_at {all : Bool} {N : Ns} {i : Nat} (hi : i < N.length) (h : i < (freeS all D N i).2.length) : (freeS all D N i).2[i] = N[i] := by
  have := (freeS_tab all D N i).2 i (Nat.le_refl _)
  rw [List.getElem?_eq_getElem h, List.getElem?_eq_getElem hi] at this
  exact Option.some.inj this
theorem Inv.free (h : Inv D Ts k) (hk : k ≤ 900) (hj : j < Ts.length) (all : Bool) : ∀ i, i ≤ 8 → Inv (freeS all D Ts[j] i).1 (Ts.set j (freeS all D Ts[j] i).2) k
  | 0, _ => h.setSelf hj
  | i + 1, hi => by
    have ih := Inv.free h hk hj all i (by omega)
    rw [freeS]
    split
    · rename_i hc
      have hiN : i < Ts[j].length := by rw [h.len hj]; omega
      have hiF : i < (freeS all D Ts[j] i).2.length := by rw [(freeS_tab all D Ts[j] i).1]; exact hiN
      have hj1 : j < (Ts.set j (freeS all D Ts[j] i).2).length := by rw [List.length_set]; exact hj
      have hg1 := getT_set hj (freeS all D Ts[j] i).2 hj1
      have hgi : (Ts.set j (freeS all D Ts[j] i).2)[j][i]'(by rw [hg1]; exact hiF) = Ts[j][i] := by
        simp only [hg1]
        exact freeS_at hiN hiF
      have hD : Ts[j].getD i (0, false) = Ts[j][i] := by rw [List.getD_eq_getElem?_getD, List.getElem?_eq_getElem hiN]; rfl
      rw [hD] at hc ⊢
      have h2 := ih.close hk hj1 (i := i) (by rw [hg1]; exact hiF) (by rw [hgi]; exact hc.1)
      rw [hgi, hg1, set_setT] at h2
      exact h2
    · exact ih
end
end Go.Proofs.YtcfhanoekniaaaaGreatDoor

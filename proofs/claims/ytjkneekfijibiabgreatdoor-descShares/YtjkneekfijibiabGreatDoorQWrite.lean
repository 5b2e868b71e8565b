/- Package desc: what may be used; Read, by their Go texts. -/
import Derived.Test.YtjkneekfijibiabGreatDoorQPipe
import Derived.Test.YtjkneekfijibiabGreatDoorDRw
import Derived.Test.YtjkneekfijibiabGreatDoorUWrite
namespace Go.Proofs.YtjkneekfijibiabGreatDoor
open Go.RowKit Go.Maps

section
variable {w w' w2 w0 w1 : World} {f b n q : Nat} {D D' : DS} {g g' g1 : QG} {M N N' : Ns} {d k m : Int} {e : En} {T' : Wd}
set_option maxRecDepth 100000 in
set_option maxHeartbeats 4000000 in
theorem QF.usable_no (h : QF w f D g n) (t : QTb w b g M N) (x u : Int) (hx : hasN N x = false) : Calls Tryz.prog 107 #[wp f, wp b, .int .i64 x, .int .i64 u] w fun y w' => y = .returned (.tuple #[.pointer none, uer 7]) ∧ Below w.heap.size w w' := by
  have hF := h.find_no t x hx
  clear h t hx
  go_enter Tryz.func107, Tryz.ntmps107
  go_wp2_with (go_at_call 77; refine hF.mono ?_; rintro y w1 ⟨rfl, b1⟩)
  go_ret2
  exact ⟨rfl, b1⟩
set_option maxRecDepth 100000 in
set_option maxHeartbeats 4000000 in
theorem QF.usable_false (h : QF w f D g n) (t : QTb w b g M N) {i : Nat} (hi : i < 8) (hiL : i < N.length) (h0 : 0 < N[i].1) (he : D.E N[i].1 = some e) (u : Int) (hu : (u = 1 ∧ e.prot = 2) ∨ (u = 2 ∧ e.prot = 1)) : Calls Tryz.prog 107 #[wp f, wp b, .int .i64 (i : Int), .int .i64 u] w fun y w' => y = .returned (.tuple #[.pointer none, uer 13]) ∧ Below w.heap.size w w' := by
  have hF := h.find_yes t hi hiL h0
  have hc : ∀ V, Below w.heap.size w V → V.cell? ⟨g.B N[i].1, 1, none⟩ = some (.int .i64 e.prot) := fun V hV => by
    obtain ⟨c, h1, _⟩ := (h.below hV).ent _ e he
    exact ((h.below hV).ecell he h1).2.1
  generalize g.B N[i].1 = q at *
  generalize e.prot = pr at *
  clear h t he h0
  rcases hu with ⟨rfl, rfl⟩ | ⟨rfl, rfl⟩
  · go_enter Tryz.func107, Tryz.ntmps107
    go_wp2_with (go_at_call 77; refine hF.mono ?_; rintro y w1 ⟨rfl, b1⟩; have c1 := hc _ b1)
    go_ret2
    exact ⟨rfl, b1⟩
  · go_enter Tryz.func107, Tryz.ntmps107
    go_wp2_with (go_at_call 77; refine hF.mono ?_; rintro y w1 ⟨rfl, b1⟩; have c1 := hc _ b1)
    go_ret2
    exact ⟨rfl, b1⟩
set_option maxRecDepth 100000 in
set_option maxHeartbeats 4000000 in
theorem QF.usable_yes (h : QF w f D g n) (t : QTb w b g M N) {i : Nat} (hi : i < 8) (hiL : i < N.length) (h0 : 0 < N[i].1) (he : D.E N[i].1 = some e) (u : Int) (hu : (u = 1 ∧ (e.prot = 1 ∨ e.prot = 3)) ∨ (u = 2 ∧ (e.prot = 2 ∨ e.prot = 3))) : Calls Tryz.prog 107 #[wp f, wp b, .int .i64 (i : Int), .int .i64 u] w fun y w' => y = .returned (.tuple #[wp (g.B N[i].1), .nilIface]) ∧ Below w.heap.size w w' := by
  have hF := h.find_yes t hi hiL h0
  have hc : ∀ V, Below w.heap.size w V → V.cell? ⟨g.B N[i].1, 1, none⟩ = some (.int .i64 e.prot) := fun V hV => by
    obtain ⟨c, h1, _⟩ := (h.below hV).ent _ e he
    exact ((h.below hV).ecell he h1).2.1
  generalize g.B N[i].1 = q at *
  generalize e.prot = pr at *
  clear h t he h0
  rcases hu with ⟨rfl, rfl | rfl⟩ | ⟨rfl, rfl | rfl⟩
  all_goals
    go_enter Tryz.func107, Tryz.ntmps107
    go_wp2_with (go_at_call 77; refine hF.mono ?_; rintro y w1 ⟨rfl, b1⟩; have c1 := hc _ b1)
    go_ret2
    exact ⟨rfl, b1⟩
set_option maxRecDepth 100000 in
set_option maxHeartbeats 4000000 in
theorem QF.read_no (h : QF w f D g n) (t : QTb w b g M N) (x a c : Int) (hc : c ≠ 0) (hU : Calls Tryz.prog 107 #[wp f, wp b, .int .i64 x, .int .i64 1] w fun y w' => y = .returned (.tuple #[.pointer none, uer c]) ∧ Below w.heap.size w w') :
    Calls Tryz.prog 45 #[wp f, wp b, .int .i64 x, .int .i64 a] w fun y w' => y = .returned (.tuple #[tx [], uev c]) ∧ QGo w w' f D g b N := by
  have hs : ∀ w', Below w.heap.size w w' → QGo w w' f D g b N := fun w' hb => h.same t hb
  rw [uev_ne hc]
  clear h t hc
  go_enter Tryz.func45, Tryz.ntmps45
  go_wp2_with (go_at_call 107; refine hU.mono ?_; rintro y w1 ⟨rfl, b1⟩)
  go_ret2
  exact ⟨rfl, hs _ b1⟩
theorem erT_uev (c : Int) : erT c = uev c := rfl
set_option maxRecDepth 100000 in
set_option maxHeartbeats 4000000 in
theorem QF.read_end (h : QF w f D g n) (t : QTb w b g M N) {i : Nat} (hi : i < 8) (hiL : i < N.length) (h0 : 0 < N[i].1) (he : D.E N[i].1 = some e) (a : Int) (hk : e.kind ≠ 1) (hpr : e.prot = 1 ∨ e.prot = 3) {p : Pi} (hp : D.P e.pipe = some p) (hI : 0 ≤ p.2.2) :
    Calls Tryz.prog 45 #[wp f, wp b, .int .i64 (i : Int), .int .i64 a] w fun y w' => y = .returned (.tuple #[tx (p.1.take a.toNat), uev (rdE p.2.2 p.1 a)]) ∧ QGo w w' f { D with P := fun j => if j = e.pipe then some (p.1.drop a.toNat, p.2.1, p.2.2) else D.P j } g b N := by
  have hU := h.usable_yes t hi hiL h0 he 1 (.inl ⟨rfl, hpr⟩)
  have hk' : (e.kind == 1) = false := by simpa using hk
  have hpv : pv g e = wp (g.Q e.pipe) := if_neg hk
  have hat : ∀ V, Below w.heap.size w V → V.cell? ⟨g.B N[i].1, 5, none⟩ = some (wp (g.Q e.pipe)) ∧ Calls Tryz.prog 108 #[wp (g.B N[i].1)] V (fun x w' => x = .returned (.bool false) ∧ w' = V) ∧ Calls Tryz.prog 110 #[wp (g.Q e.pipe), .int .i64 a] V fun y w' => y = .returned (.tuple #[tx (p.1.take a.toNat), uev (rdE p.2.2 p.1 a)]) ∧ QGo w w' f { D with P := fun j => if j = e.pipe then some (p.1.drop a.toNat, p.2.1, p.2.2) else D.P j } g b N := fun V hV => by
    have hV' := h.below hV
    obtain ⟨c, h1, _⟩ := hV'.ent _ e he
    have e5 := (hV'.ecell he h1).2.2.2.2.2.1
    rw [hpv] at e5
    have hIs := hV'.isFile_ok he
    rw [hk'] at hIs
    obtain ⟨tb, tk⟩ := hV'.pipe _ p hp
    refine ⟨e5, hIs, (tb.read_ok a hI).mono ?_⟩
    rintro y w' ⟨rfl, tb', hg⟩
    exact ⟨rfl, ⟨⟨g, n, M, hV'.piped hp (x' := (p.1.drop a.toNat, p.2.1, p.2.2)) tb' hg, (t.below hV).offOwn (by rw [tk]; rfl) hg, Ext.refl _ _ _⟩, (Wt.below _ hV).trans (Wt.grown hg (.inl (by rw [tk]; rfl)))⟩⟩
  generalize ({ D with P := fun j => if j = e.pipe then some (p.1.drop a.toNat, p.2.1, p.2.2) else D.P j } : DS) = D2 at *
  generalize g.B N[i].1 = q at *
  generalize g.Q e.pipe = Q at *
  generalize uev (rdE p.2.2 p.1 a) = U at *
  generalize List.take a.toNat p.1 = S at *
  clear h t hk hpr hp hI he h0 hk' hpv
  go_enter Tryz.func45, Tryz.ntmps45
  go_wp2_with (first
    | (go_at_call 107; refine hU.mono ?_; rintro y w1 ⟨rfl, b1⟩; obtain ⟨c5, hIs, hRd⟩ := hat _ b1)
    | (go_at_call 108; refine hIs.mono ?_; rintro y w2 ⟨rfl, hw2⟩; subst w2)
    | (go_at_call 110; refine hRd.mono ?_; rintro y w3 ⟨rfl, hG⟩))
  go_ret2
  exact ⟨rfl, hG⟩
theorem readS_err {T : Wd} {x a c : Int} (h : readE T x a c ≠ 0) : readS T x a c = [] := by
  unfold readE at h; unfold readS
  cases hn : T x with
  | none => rfl
  | some nd => cases nd with
    | dir C => rfl
    | file b y =>
      have hf : fileT T x = 0 := by unfold fileT; rw [hn]
      rw [if_neg (fun e => e hf)] at h
      simp only
      by_cases h9 : a < 0 ∨ c < 0
      · rw [if_pos h9]
      · rw [if_neg h9] at h; exact absurd rfl h
set_option maxRecDepth 100000 in
set_option maxHeartbeats 4000000 in
theorem QF.read_file (h : QF w f D g n) (t : QTb w b g M N) {i : Nat} (hi : i < 8) (hiL : i < N.length) (h0 : 0 < N[i].1) (he : D.E N[i].1 = some e) (a : Int) (hk : e.kind = 1) (hpr : e.prot = 1 ∨ e.prot = 3) (hnd : 0 ≤ e.node ∧ e.node < 1000) (hps : 0 ≤ e.pos ∧ e.pos ≤ 200) (hl : (readS D.T e.node e.pos a).length ≤ 100000) :
    Calls Tryz.prog 45 #[wp f, wp b, .int .i64 (i : Int), .int .i64 a] w fun y w' => y = .returned (.tuple #[tx (readS D.T e.node e.pos a), uev (readE D.T e.node e.pos a)]) ∧ QGo w w' f { D with E := fun j => if j = N[i].1 then some { e with pos := e.pos + (readS D.T e.node e.pos a).length } else D.E j } g b N := by
  have hU := h.usable_yes t hi hiL h0 he 1 (.inl ⟨rfl, hpr⟩)
  have hat : ∀ V, Below w.heap.size w V → (V.cell? ⟨f, 0, none⟩ = some (wp g.r) ∧ V.cell? ⟨g.B N[i].1, 3, none⟩ = some (.int .i64 e.node) ∧ V.cell? ⟨g.B N[i].1, 4, none⟩ = some (.int .i64 e.pos)) ∧ V.frozen? ⟨g.B N[i].1, 4, none⟩ = false := fun V hV => by
    have hV' := h.below hV
    obtain ⟨c, h1, _⟩ := hV'.ent _ e he
    obtain ⟨_, _, _, e3, e4, _, ez⟩ := hV'.ecell he h1
    exact ⟨⟨hV'.cells.1, e3, e4⟩, ez 4⟩
  have hIs : ∀ V, Below w.heap.size w V → Calls Tryz.prog 108 #[wp (g.B N[i].1)] V fun x w' => x = .returned (.bool true) ∧ w' = V := fun V hV => by
    have := (h.below hV).isFile_ok he
    rw [hk] at this
    exact this
  have hRd : ∀ V, Below w.heap.size w V → Calls Tryz.prog 21 #[wp g.r, .int .i64 e.node, .int .i64 e.pos, .int .i64 a] V fun y w' => y = .returned (.tuple #[tx (readS D.T e.node e.pos a), uev (readE D.T e.node e.pos a)]) ∧ Below w.heap.size w w' := fun V hV => by
    obtain ⟨O, p, _⟩ := (h.below hV).tree
    refine (p.read_ok e.node e.pos a (wf_few hnd.1 (by omega))).mono ?_
    rintro y w' ⟨rfl, z, rfl⟩
    exact ⟨rfl, ⟨hV.os, hV.tape, hV.output, hV.size, hV.block⟩⟩
  obtain ⟨c9, hc9, _, hkb⟩ := h.ent _ e he
  have HF : Aside (∀ V, Below w.heap.size w V → QGo w (V.setCell ⟨g.B N[i].1, 4, none⟩ (.int .i64 (e.pos + (readS D.T e.node e.pos a).length))) f { D with E := fun j => if j = N[i].1 then some { e with pos := e.pos + (readS D.T e.node e.pos a).length } else D.E j } g b N) := fun V hV => by
    have gg := tgrown_set V (g.B N[i].1) 4 (.int .i64 (e.pos + (readS D.T e.node e.pos a).length))
    exact ⟨⟨g, n, M, (h.below hV).place he _, (t.below hV).offOwn (by rw [hkb]; rfl) gg, Ext.refl _ _ _⟩, (Wt.below _ hV).trans (Wt.grown gg (.inl (by rw [hkb]; rfl)))⟩
  have HE : Aside (readE D.T e.node e.pos a ≠ 0 → tx (readS D.T e.node e.pos a) = tx [] ∧ ∀ V, Below w.heap.size w V → QGo w V f { D with E := fun j => if j = N[i].1 then some { e with pos := e.pos + (readS D.T e.node e.pos a).length } else D.E j } g b N) := fun hz => by
    rw [readS_err hz]
    refine ⟨rfl, fun V hV => ?_⟩
    have hD : ({ D with E := fun j => if j = N[i].1 then some { e with pos := e.pos + (([] : List UInt8).length : Int) } else D.E j } : DS) = D := by
      have hE : (fun j => if j = N[i].1 then some { e with pos := e.pos + (([] : List UInt8).length : Int) } else D.E j) = D.E := by
        funext j
        by_cases ej : j = N[i].1
        · rw [if_pos ej, ej, he]; simp
        · rw [if_neg ej]
      rw [hE]
    rw [hD]
    exact h.same t hV
  generalize hD2 : ({ D with E := fun j => if j = N[i].1 then some { e with pos := e.pos + (readS D.T e.node e.pos a).length } else D.E j } : DS) = D2 at *
  generalize hS9 : readS D.T e.node e.pos a = S9 at *
  generalize hC9 : readE D.T e.node e.pos a = C9 at *
  generalize g.B N[i].1 = q at *
  generalize e.node = nd at *
  generalize e.pos = ps at *
  obtain ⟨hps0, hps1⟩ := hps
  have HW : Aside (wrap64 (ps + (S9.length : Int)) = ps + (S9.length : Int)) := by show wrap64 _ = _; unfold wrap64; omega
  clear h t hk hpr he h0 hnd hl hkb hc9 hD2 hS9 hC9 hps0 hps1
  go_enter Tryz.func45, Tryz.ntmps45
  go_upto_region 6 with (first
    | (go_at_call 107; refine hU.mono ?_; rintro y w1 ⟨rfl, b1⟩)
    | (go_at_call 108; refine (hIs _ b1).mono ?_; rintro y w2 ⟨rfl, hw2⟩; subst w2))
  obtain ⟨hc1, hz1⟩ := hat _ b1
  go_region_held3 (fun w' => w'.cell? ⟨f, 0, none⟩ = some (wp g.r) ∧ w'.cell? ⟨q, 3, none⟩ = some (.int .i64 nd) ∧ w'.cell? ⟨q, 4, none⟩ = some (.int .i64 ps)) (first | exact hc1 | exact (hat _ b3).1) (first
    | (go_at_call 21; refine (hRd _ (below_dr b1)).mono ?_; rintro y w3 ⟨rfl, b3⟩))
  all_goals
    obtain ⟨⟨_, _, k4⟩, kz⟩ := hat _ b3
    clear hat hRd hIs hU hc1 hz1
    by_cases hz : C9 = 0
    · have HG := HF.out _ b3
      have HW9 := HW.out
      subst hz
      clear HE HF HW
      rw [show uev 0 = .nilIface from rfl]
      go_wp2_with fail
      go_ret2
      exact ⟨rfl, HG⟩
    · have HX := HE.out hz
      have HC : Aside (tx S9 = tx [] ∧ C9 ≠ 0) := ⟨HX.1, hz⟩
      rw [uev_ne hz]
      have HG := HX.2 _ b3
      clear HE HF HW HX hz
      go_wp2_with fail
      go_ret2
      exact ⟨by rw [HC.out.1, uev_ne HC.out.2]; rfl, HG⟩
end
end Go.Proofs.YtjkneekfijibiabGreatDoor

namespace Go.Proofs.YtjkneekfijibiabGreatDoor
open Go.RowKit Go.Maps

section
variable {w w' w2 w0 w1 : World} {f b n q : Nat} {D D' : DS} {g g' g1 : QG} {M N N' : Ns} {d k m : Int} {e : En} {T' : Wd}
set_option maxRecDepth 100000 in
set_option maxHeartbeats 4000000 in
theorem QF.write_no (h : QF w f D g n) (t : QTb w b g M N) (x : Int) (s : List UInt8) (a c : Int) (hc : c ≠ 0) (hU : Calls Tryz.prog 107 #[wp f, wp b, .int .i64 x, .int .i64 2] w fun y w' => y = .returned (.tuple #[.pointer none, uer c]) ∧ Below w.heap.size w w') :
    Calls Tryz.prog 44 #[wp f, wp b, .int .i64 x, tx s, .int .i64 a] w fun y w' => y = .returned (.tuple #[.int .i64 0, uev c]) ∧ QGo w w' f D g b N := by
  have hs : ∀ w', Below w.heap.size w w' → QGo w w' f D g b N := fun w' hb => h.same t hb
  rw [uev_ne hc]
  clear h t hc
  go_enter Tryz.func44, Tryz.ntmps44
  go_wp2_with (go_at_call 107; refine hU.mono ?_; rintro y w1 ⟨rfl, b1⟩)
  go_ret2
  exact ⟨rfl, hs _ b1⟩
set_option maxRecDepth 100000 in
set_option maxHeartbeats 4000000 in
theorem QF.write_end (h : QF w f D g n) (t : QTb w b g M N) {i : Nat} (hi : i < 8) (hiL : i < N.length) (h0 : 0 < N[i].1) (he : D.E N[i].1 = some e) (s : List UInt8) (a : Int) (hk : e.kind ≠ 1) (hpr : e.prot = 2 ∨ e.prot = 3) {p : Pi} (hp : D.P e.pipe = some p) :
    Calls Tryz.prog 44 #[wp f, wp b, .int .i64 (i : Int), tx s, .int .i64 a] w fun y w' => y = .returned (.tuple #[.int .i64 (wrN p.2.1 p.1 s : Int), uev (wrE p.2.1 p.1 s)]) ∧ QGo w w' f { D with P := fun j => if j = e.pipe then some (wrB p.2.1 p.1 s, p.2.1, p.2.2) else D.P j } g b N := by
  have hU := h.usable_yes t hi hiL h0 he 2 (.inr ⟨rfl, hpr⟩)
  have hk' : (e.kind == 1) = false := by simpa using hk
  have hpv : pv g e = wp (g.Q e.pipe) := if_neg hk
  have hat : ∀ V, Below w.heap.size w V → V.cell? ⟨g.B N[i].1, 5, none⟩ = some (wp (g.Q e.pipe)) ∧ Calls Tryz.prog 108 #[wp (g.B N[i].1)] V (fun x w' => x = .returned (.bool false) ∧ w' = V) ∧ Calls Tryz.prog 109 #[wp (g.Q e.pipe), tx s] V fun y w' => y = .returned (.tuple #[.int .i64 (wrN p.2.1 p.1 s : Int), uev (wrE p.2.1 p.1 s)]) ∧ QGo w w' f { D with P := fun j => if j = e.pipe then some (wrB p.2.1 p.1 s, p.2.1, p.2.2) else D.P j } g b N := fun V hV => by
    have hV' := h.below hV
    obtain ⟨c, h1, _⟩ := hV'.ent _ e he
    have e5 := (hV'.ecell he h1).2.2.2.2.2.1
    rw [hpv] at e5
    have hIs := hV'.isFile_ok he
    rw [hk'] at hIs
    obtain ⟨tb, tk⟩ := hV'.pipe _ p hp
    refine ⟨e5, hIs, (tb.write_ok s).mono ?_⟩
    rintro y w' ⟨rfl, tb', hg⟩
    exact ⟨rfl, ⟨⟨g, n, M, hV'.piped hp (x' := (wrB p.2.1 p.1 s, p.2.1, p.2.2)) tb' hg, (t.below hV).offOwn (by rw [tk]; rfl) hg, Ext.refl _ _ _⟩, (Wt.below _ hV).trans (Wt.grown hg (.inl (by rw [tk]; rfl)))⟩⟩
  generalize ({ D with P := fun j => if j = e.pipe then some (wrB p.2.1 p.1 s, p.2.1, p.2.2) else D.P j } : DS) = D2 at *
  generalize g.B N[i].1 = q at *
  generalize g.Q e.pipe = Q at *
  generalize uev (wrE p.2.1 p.1 s) = U at *
  generalize wrN p.2.1 p.1 s = S at *
  clear h t hk hpr hp he h0 hk' hpv
  go_enter Tryz.func44, Tryz.ntmps44
  go_wp2_with (first
    | (go_at_call 107; refine hU.mono ?_; rintro y w1 ⟨rfl, b1⟩; obtain ⟨c5, hIs, hRd⟩ := hat _ b1)
    | (go_at_call 108; refine hIs.mono ?_; rintro y w2 ⟨rfl, hw2⟩; subst w2)
    | (go_at_call 109; refine hRd.mono ?_; rintro y w3 ⟨rfl, hG⟩))
  go_ret2
  exact ⟨rfl, hG⟩
theorem QF.filed (h : QF w f D g n) (he : D.E d = some e) (hk : e.kind = 1) (V : World) (hV : Below w.heap.size w V) : Calls Tryz.prog 108 #[wp (g.B d)] V fun x w' => x = .returned (.bool true) ∧ w' = V := by
  have := (h.below hV).isFile_ok he
  rw [hk] at this
  exact this
set_option maxRecDepth 100000 in
set_option maxHeartbeats 4000000 in
theorem QF.write_limit (h : QF w f D g n) (t : QTb w b g M N) {i : Nat} (hi : i < 8) (hiL : i < N.length) (h0 : 0 < N[i].1) (he : D.E N[i].1 = some e) (s : List UInt8) (a : Int) (hk : e.kind = 1) (hpr : e.prot = 2 ∨ e.prot = 3) (hps : 0 ≤ e.pos ∧ e.pos ≤ 200) (hl : s.length < 100000) (hlim : tooMuch s a e.pos) :
    Calls Tryz.prog 44 #[wp f, wp b, .int .i64 (i : Int), tx s, .int .i64 a] w fun y w' => y = .returned (.tuple #[.int .i64 0, uer 4]) ∧ QGo w w' f D g b N := by
  have hU := h.usable_yes t hi hiL h0 he 2 (.inr ⟨rfl, hpr⟩)
  have hIs := fun V hV => h.filed he hk V hV
  have hat : ∀ V, Below w.heap.size w V → V.cell? ⟨g.B N[i].1, 4, none⟩ = some (.int .i64 e.pos) := fun V hV => by
    have hV' := h.below hV
    obtain ⟨c, h1, _⟩ := hV'.ent _ e he
    exact (hV'.ecell he h1).2.2.2.2.1
  have hs : ∀ w', Below w.heap.size w w' → QGo w w' f D g b N := fun w' hb => h.same t hb
  obtain ⟨hs0, hs1⟩ := hlim
  have hlt : a < e.pos + (s.length : Int) := by omega
  have hw1 : wrap64 (e.pos + (s.length : Int)) = e.pos + (s.length : Int) := by unfold wrap64; omega
  have hne : (s == []) = false := by simpa using hs0
  generalize g.B N[i].1 = q at *
  generalize e.pos = ps at *
  clear h t hk hpr he h0 hl hps hs0 hs1
  go_enter Tryz.func44, Tryz.ntmps44
  go_wp2_with (first
    | (go_at_call 107; refine hU.mono ?_; rintro y w1 ⟨rfl, b1⟩; have c4 := hat _ b1)
    | (go_at_call 108; refine (hIs _ b1).mono ?_; rintro y w2 ⟨rfl, hw2⟩; subst w2))
  go_ret2
  exact ⟨rfl, hs _ b1⟩
set_option maxRecDepth 100000 in
set_option maxHeartbeats 8000000 in
theorem QF.write_file (h : QF w f D g n) (t : QTb w b g M N) {i : Nat} (hi : i < 8) (hiL : i < N.length) (h0 : 0 < N[i].1) (he : D.E N[i].1 = some e) (s : List UInt8) (a : Int) (hk : e.kind = 1) (hpr : e.prot = 2 ∨ e.prot = 3) (hnd : 0 ≤ e.node ∧ e.node < 1000) (hps : 0 ≤ e.pos ∧ e.pos ≤ 200) (hl : s.length < 100000) (hT : TrLv D.T) (hlim : ¬ tooMuch s a e.pos) :
    Calls Tryz.prog 44 #[wp f, wp b, .int .i64 (i : Int), tx s, .int .i64 a] w fun y w' => (writeE D.T e.node e.pos s ≠ 0 ∧ y = .returned (.tuple #[.int .i64 0, uer (writeE D.T e.node e.pos s)]) ∧ QGo w w' f D g b N) ∨ (writeE D.T e.node e.pos s = 0 ∧ y = .returned (.tuple #[.int .i64 (s.length : Int), .nilIface]) ∧ QGo w w' f { D with T := writeN D.T e.node e.pos s, E := fun j => if j = N[i].1 then some { e with pos := e.pos + s.length } else D.E j } g b N) := by
  have hU := h.usable_yes t hi hiL h0 he 2 (.inr ⟨rfl, hpr⟩)
  have hIs := fun V hV => h.filed he hk V hV
  have hat : ∀ V, Below w.heap.size w V → (V.cell? ⟨f, 0, none⟩ = some (wp g.r) ∧ V.cell? ⟨g.B N[i].1, 3, none⟩ = some (.int .i64 e.node) ∧ V.cell? ⟨g.B N[i].1, 4, none⟩ = some (.int .i64 e.pos)) := fun V hV => by
    have hV' := h.below hV
    obtain ⟨c, h1, _⟩ := hV'.ent _ e he
    obtain ⟨_, _, _, e3, e4, _, ez⟩ := hV'.ecell he h1
    exact ⟨hV'.cells.1, e3, e4⟩
  have hWr : ∀ V, Below w.heap.size w V → Calls Tryz.prog 16 #[wp g.r, .int .i64 e.node, .int .i64 e.pos, tx s] V fun y w' => y = .returned (uev (writeE D.T e.node e.pos s)) ∧ (w'.cell? ⟨f, 0, none⟩ = some (wp g.r) ∧ w'.cell? ⟨g.B N[i].1, 3, none⟩ = some (.int .i64 e.node) ∧ w'.cell? ⟨g.B N[i].1, 4, none⟩ = some (.int .i64 e.pos)) ∧ w'.frozen? ⟨g.B N[i].1, 4, none⟩ = false ∧ (writeE D.T e.node e.pos s ≠ 0 → QGo w w' f D g b N) ∧ QGo w (w'.setCell ⟨g.B N[i].1, 4, none⟩ (.int .i64 (e.pos + s.length))) f { D with T := writeN D.T e.node e.pos s, E := fun j => if j = N[i].1 then some { e with pos := e.pos + s.length } else D.E j } g b N := fun V hV => by
    have hV' := h.below hV
    obtain ⟨O, p, hO⟩ := hV'.tree
    refine (p.write_ok hT e.node e.pos s (wf_few hnd.1 (by omega)) hl).mono ?_
    rintro y w' ⟨rfl, O', p', st⟩
    have hq := hV'.treeGo (t.below hV) hO p' st
    obtain ⟨c, h1, _, hkb⟩ := hV'.ent _ e he
    have hbk : w'.heap[g.B N[i].1]? = V.heap[g.B N[i].1]? := st.wt.block _ (hV'.lt _ (by rw [hkb]; rfl)) (fun o => tag_ne hkb (hO _ o) (by simp) rfl)
    have hcell : ∀ o, w'.cell? ⟨g.B N[i].1, o, none⟩ = V.cell? ⟨g.B N[i].1, o, none⟩ := fun o => World.cell?_of_block (w := V) (a := ⟨g.B N[i].1, o, none⟩) hbk
    obtain ⟨_, _, _, e3, e4, _, ez⟩ := hV'.ecell he h1
    refine ⟨rfl, ⟨hq.cell0, by rw [hcell]; exact e3, by rw [hcell]; exact e4⟩, by rw [World.frozen?_of_block (w := V) (a := ⟨g.B N[i].1, 4, none⟩) hbk]; exact ez 4, fun hE => ?_, ?_⟩
    · have hN : writeN D.T e.node e.pos s = D.T := by unfold writeN; rw [if_pos (.inl hE)]
      have := (hq.upon hV).go
      rw [hN] at this
      exact this
    · obtain ⟨⟨g1, a1, a2, a3, a4, a5, a6⟩, wt⟩ := hq.upon hV
      have he1 : ({ D with T := writeN D.T e.node e.pos s } : DS).E N[i].1 = some e := he
      obtain ⟨c1, b1, b2, b3⟩ := a1.ent _ e he1
      have hB1 : g1.B N[i].1 = g.B N[i].1 := by rw [a6]
      have h2 := a1.place he1 (e.pos + s.length)
      rw [hB1] at h2 b3
      have gg := tgrown_set w' (g.B N[i].1) 4 (.int .i64 (e.pos + s.length))
      refine QGo.after a3 a4 a5 wt ⟨⟨g1, n, M, h2, a2.offOwn (by rw [b3]; rfl) gg, Ext.refl _ _ _⟩, Wt.grown gg (.inl (by rw [b3]; rfl))⟩
  generalize ({ D with T := writeN D.T e.node e.pos s, E := fun j => if j = N[i].1 then some { e with pos := e.pos + s.length } else D.E j } : DS) = D2 at *
  generalize writeE D.T e.node e.pos s = C9 at *
  generalize g.B N[i].1 = q at *
  generalize e.node = nd at *
  generalize hps9 : e.pos = ps at *
  have HW : Aside (wrap64 (ps + (s.length : Int)) = ps + (s.length : Int)) := by show wrap64 _ = _; unfold wrap64; omega
  have hcond : s = [] ∨ (s ≠ [] ∧ ¬ a < ps + (s.length : Int)) := by
    by_cases e1 : s = []
    · exact .inl e1
    · refine .inr ⟨e1, fun h9 => hlim ⟨e1, by omega⟩⟩
  clear h t hk hpr he h0 hl hps hnd hT hlim hps9
  have HC : Aside (s = [] ∨ (s ≠ [] ∧ ¬ a < ps + (s.length : Int))) := hcond
  clear hcond
  go_enter Tryz.func44, Tryz.ntmps44
  go_upto_region 6 with (first
    | (go_at_call 107; refine hU.mono ?_; rintro y w1 ⟨rfl, b1⟩)
    | (go_at_call 108; refine (hIs _ b1).mono ?_; rintro y w2 ⟨rfl, hw2⟩; subst w2))
  have hc1 := hat _ b1
  obtain ⟨c0, c3, c4⟩ := hat _ b1
  clear hU hIs hat
  rcases HC.out with rfl | ⟨hs0, hs1⟩
  · clear HC
    go_upto_region 8 with fail
    go_region_held3 (fun w' => w'.cell? ⟨f, 0, none⟩ = some (wp g.r) ∧ w'.cell? ⟨q, 3, none⟩ = some (.int .i64 nd) ∧ w'.cell? ⟨q, 4, none⟩ = some (.int .i64 ps)) (first | exact hc1 | exact hc3) (first
      | (go_at_call 16; refine (hWr _ (below_dr b1)).mono ?_; rintro y w3 ⟨rfl, hc3, hz3, hB, hG⟩; have HB : Aside _ := hB; clear hB))
    all_goals
      obtain ⟨_, _, k4⟩ := hc3
      have HW9 : wrap64 ps = ps := by simpa using HW.out
      clear hc1 c0 c3 c4 hWr HW
      by_cases hz : C9 = 0
      · subst hz
        clear HB
        rw [show uev 0 = .nilIface from rfl]
        go_wp2_with fail
        go_ret2
        exact ⟨rfl, by simpa using hG⟩
      · have hG2 := HB.out hz
        rw [uev_ne hz]
        have HN : Aside (C9 ≠ 0) := hz
        clear hz HB hG
        go_wp2_with fail
        go_ret2
        exact .inl ⟨HN.out, rfl, hG2⟩
  · have hne : (s == []) = false := by simpa using hs0
    have HW9 := HW.out
    clear HC hs0
    go_upto_region 8 with fail
    go_region_held3 (fun w' => w'.cell? ⟨f, 0, none⟩ = some (wp g.r) ∧ w'.cell? ⟨q, 3, none⟩ = some (.int .i64 nd) ∧ w'.cell? ⟨q, 4, none⟩ = some (.int .i64 ps)) (first | exact hc1 | exact hc3) (first
      | (go_at_call 16; refine (hWr _ (below_dr b1)).mono ?_; rintro y w3 ⟨rfl, hc3, hz3, hB, hG⟩; have HB : Aside _ := hB; clear hB))
    all_goals
      obtain ⟨_, _, k4⟩ := hc3
      clear hc1 c0 c3 c4 hWr HW
      by_cases hz : C9 = 0
      · subst hz
        clear HB
        rw [show uev 0 = .nilIface from rfl]
        go_wp2_with fail
        go_ret2
        exact ⟨rfl, hG⟩
      · have hG2 := HB.out hz
        rw [uev_ne hz]
        have HN : Aside (C9 ≠ 0) := hz
        clear hz HB hG
        go_wp2_with fail
        go_ret2
        exact .inl ⟨HN.out, rfl, hG2⟩
end
end Go.Proofs.YtjkneekfijibiabGreatDoor

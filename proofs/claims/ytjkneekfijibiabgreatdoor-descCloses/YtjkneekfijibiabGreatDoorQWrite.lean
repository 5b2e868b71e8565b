/- Package desc: Write, by its Go text. -/
import Derived.Test.YtjkneekfijibiabGreatDoorQRead
import Derived.Test.YtjkneekfijibiabGreatDoorUWrite
namespace Go.Proofs.YtjkneekfijibiabGreatDoor
open Go.RowKit Go.Maps

section
variable {w w' w2 w0 w1 : World} {f b n q : Nat} {D D' : DS} {g g' g1 : QG} {M N N' : Ns} {d k m : Int} {e : En} {T' : Wd}
set_option maxRecDepth 100000 in
set_option maxHeartbeats 4000000 in
theorem QF.write_no (h : QF w f D g n) (t : QTb w b g M N) (x : Int) (s : List UInt8) (a c : Int) (hc : c ≠ 0) (hU : Calls Tryz.prog 107 #[wp f, wp b, .int .i64 x, .int .i64 2] w fun y w' => y = .returned (.tuple #[.pointer none, uer c]) ∧ Below w.heap.size w w') :
    Calls Tryz.prog 44 #[wp f, wp b, .int .i64 x, tx s, .int .i64 a] w fun y w' => y = .returned (.tuple #[.int .i64 0, uev c]) ∧ QGo w w' f D g b N := by
  have hs : ∀ w', Below w.heap.size w w' → QGo w w' f D g b N := fun w' hb => h.same t hb
  rw [uev_ne hc]
  clear h t hc
  go_enter Tryz.func44, Tryz.ntmps44
  go_wp2_with (go_at_call 107; refine hU.mono ?_; rintro y w1 ⟨rfl, b1⟩)
  go_ret2
  exact ⟨rfl, hs _ b1⟩
set_option maxRecDepth 100000 in
set_option maxHeartbeats 4000000 in
theorem QF.write_end (h : QF w f D g n) (t : QTb w b g M N) {i : Nat} (hi : i < 8) (hiL : i < N.length) (h0 : 0 < N[i].1) (he : D.E N[i].1 = some e) (s : List UInt8) (a : Int) (hk : e.kind ≠ 1) (hpr : e.prot = 2 ∨ e.prot = 3) {p : Pi} (hp : D.P e.pipe = some p) :
    Calls Tryz.prog 44 #[wp f, wp b, .int .i64 (i : Int), tx s, .int .i64 a] w fun y w' => y = .returned (.tuple #[.int .i64 (wrN p.2.1 p.1 s : Int), uev (wrE p.2.1 p.1 s)]) ∧ QGo w w' f { D with P := fun j => if j = e.pipe then some (wrB p.2.1 p.1 s, p.2.1, p.2.2) else D.P j } g b N := by
  have hU := h.usable_yes t hi hiL h0 he 2 (.inr ⟨rfl, hpr⟩)
  have hk' : (e.kind == 1) = false := by simpa using hk
  have hpv : pv g e = wp (g.Q e.pipe) := if_neg hk
  have hat : ∀ V, Below w.heap.size w V → V.cell? ⟨g.B N[i].1, 5, none⟩ = some (wp (g.Q e.pipe)) ∧ Calls Tryz.prog 108 #[wp (g.B N[i].1)] V (fun x w' => x = .returned (.bool false) ∧ w' = V) ∧ Calls Tryz.prog 109 #[wp (g.Q e.pipe), tx s] V fun y w' => y = .returned (.tuple #[.int .i64 (wrN p.2.1 p.1 s : Int), uev (wrE p.2.1 p.1 s)]) ∧ QGo w w' f { D with P := fun j => if j = e.pipe then some (wrB p.2.1 p.1 s, p.2.1, p.2.2) else D.P j } g b N := fun V hV => by
    have hV' := h.below hV
    obtain ⟨c, h1, _⟩ := hV'.ent _ e he
    have e5 := (hV'.ecell he h1).2.2.2.2.2.1
    rw [hpv] at e5
    have hIs := hV'.isFile_ok he
    rw [hk'] at hIs
    obtain ⟨tb, tk⟩ := hV'.pipe _ p hp
    refine ⟨e5, hIs, (tb.write_ok s).mono ?_⟩
    rintro y w' ⟨rfl, tb', hg⟩
    exact ⟨rfl, ⟨⟨g, n, M, hV'.piped hp (x' := (wrB p.2.1 p.1 s, p.2.1, p.2.2)) tb' hg, (t.below hV).offOwn (by rw [tk]; rfl) hg, Ext.refl _ _ _⟩, (Wt.below _ hV).trans (Wt.grown hg (.inl (by rw [tk]; rfl)))⟩⟩
  generalize ({ D with P := fun j => if j = e.pipe then some (wrB p.2.1 p.1 s, p.2.1, p.2.2) else D.P j } : DS) = D2 at *
  generalize g.B N[i].1 = q at *
  generalize g.Q e.pipe = Q at *
  generalize uev (wrE p.2.1 p.1 s) = U at *
  generalize wrN p.2.1 p.1 s = S at *
  clear h t hk hpr hp he h0 hk' hpv
  go_enter Tryz.func44, Tryz.ntmps44
  go_wp2_with (first
    | (go_at_call 107; refine hU.mono ?_; rintro y w1 ⟨rfl, b1⟩; obtain ⟨c5, hIs, hRd⟩ := hat _ b1)
    | (go_at_call 108; refine hIs.mono ?_; rintro y w2 ⟨rfl, hw2⟩; subst w2)
    | (go_at_call 109; refine hRd.mono ?_; rintro y w3 ⟨rfl, hG⟩))
  go_ret2
  exact ⟨rfl, hG⟩
theorem QF.filed (h : QF w f D g n) (he : D.E d = some e) (hk : e.kind = 1) (V : World) (hV : Below w.heap.size w V) : Calls Tryz.prog 108 #[wp (g.B d)] V fun x w' => x = .returned (.bool true) ∧ w' = V := by
  have := (h.below hV).isFile_ok he
  rw [hk] at this
  exact this
set_option maxRecDepth 100000 in
set_option maxHeartbeats 4000000 in
theorem QF.write_limit (h : QF w f D g n) (t : QTb w b g M N) {i : Nat} (hi : i < 8) (hiL : i < N.length) (h0 : 0 < N[i].1) (he : D.E N[i].1 = some e) (s : List UInt8) (a : Int) (hk : e.kind = 1) (hpr : e.prot = 2 ∨ e.prot = 3) (hps : 0 ≤ e.pos ∧ e.pos ≤ 200) (hl : s.length < 100000) (hlim : tooMuch s a e.pos) :
    Calls Tryz.prog 44 #[wp f, wp b, .int .i64 (i : Int), tx s, .int .i64 a] w fun y w' => y = .returned (.tuple #[.int .i64 0, uer 4]) ∧ QGo w w' f D g b N := by
  have hU := h.usable_yes t hi hiL h0 he 2 (.inr ⟨rfl, hpr⟩)
  have hIs := fun V hV => h.filed he hk V hV
  have hat : ∀ V, Below w.heap.size w V → V.cell? ⟨g.B N[i].1, 4, none⟩ = some (.int .i64 e.pos) := fun V hV => by
    have hV' := h.below hV
    obtain ⟨c, h1, _⟩ := hV'.ent _ e he
    exact (hV'.ecell he h1).2.2.2.2.1
  have hs : ∀ w', Below w.heap.size w w' → QGo w w' f D g b N := fun w' hb => h.same t hb
  obtain ⟨hs0, hs1⟩ := hlim
  have hlt : a < e.pos + (s.length : Int) := by omega
  have hw1 : wrap64 (e.pos + (s.length : Int)) = e.pos + (s.length : Int) := by unfold wrap64; omega
  have hne : (s == []) = false := by simpa using hs0
  generalize g.B N[i].1 = q at *
  generalize e.pos = ps at *
  clear h t hk hpr he h0 hl hps hs0 hs1
  go_enter Tryz.func44, Tryz.ntmps44
  go_wp2_with (first
    | (go_at_call 107; refine hU.mono ?_; rintro y w1 ⟨rfl, b1⟩; have c4 := hat _ b1)
    | (go_at_call 108; refine (hIs _ b1).mono ?_; rintro y w2 ⟨rfl, hw2⟩; subst w2))
  go_ret2
  exact ⟨rfl, hs _ b1⟩
set_option maxRecDepth 100000 in
set_option maxHeartbeats 8000000 in
theorem QF.write_file (h : QF w f D g n) (t : QTb w b g M N) {i : Nat} (hi : i < 8) (hiL : i < N.length) (h0 : 0 < N[i].1) (he : D.E N[i].1 = some e) (s : List UInt8) (a : Int) (hk : e.kind = 1) (hpr : e.prot = 2 ∨ e.prot = 3) (hnd : 0 ≤ e.node ∧ e.node < 1000) (hps : 0 ≤ e.pos ∧ e.pos ≤ 200) (hl : s.length < 100000) (hT : TrLv D.T) (hlim : ¬ tooMuch s a e.pos) :
    Calls Tryz.prog 44 #[wp f, wp b, .int .i64 (i : Int), tx s, .int .i64 a] w fun y w' => (writeE D.T e.node e.pos s ≠ 0 ∧ y = .returned (.tuple #[.int .i64 0, uer (writeE D.T e.node e.pos s)]) ∧ QGo w w' f D g b N) ∨ (writeE D.T e.node e.pos s = 0 ∧ y = .returned (.tuple #[.int .i64 (s.length : Int), .nilIface]) ∧ QGo w w' f { D with T := writeN D.T e.node e.pos s, E := fun j => if j = N[i].1 then some { e with pos := e.pos + s.length } else D.E j } g b N) := by
  have hU := h.usable_yes t hi hiL h0 he 2 (.inr ⟨rfl, hpr⟩)
  have hIs := fun V hV => h.filed he hk V hV
  have hat : ∀ V, Below w.heap.size w V → (V.cell? ⟨f, 0, none⟩ = some (wp g.r) ∧ V.cell? ⟨g.B N[i].1, 3, none⟩ = some (.int .i64 e.node) ∧ V.cell? ⟨g.B N[i].1, 4, none⟩ = some (.int .i64 e.pos)) := fun V hV => by
    have hV' := h.below hV
    obtain ⟨c, h1, _⟩ := hV'.ent _ e he
    obtain ⟨_, _, _, e3, e4, _, ez⟩ := hV'.ecell he h1
    exact ⟨hV'.cells.1, e3, e4⟩
  have hWr : ∀ V, Below w.heap.size w V → Calls Tryz.prog 16 #[wp g.r, .int .i64 e.node, .int .i64 e.pos, tx s] V fun y w' => y = .returned (uev (writeE D.T e.node e.pos s)) ∧ (w'.cell? ⟨f, 0, none⟩ = some (wp g.r) ∧ w'.cell? ⟨g.B N[i].1, 3, none⟩ = some (.int .i64 e.node) ∧ w'.cell? ⟨g.B N[i].1, 4, none⟩ = some (.int .i64 e.pos)) ∧ w'.frozen? ⟨g.B N[i].1, 4, none⟩ = false ∧ (writeE D.T e.node e.pos s ≠ 0 → QGo w w' f D g b N) ∧ QGo w (w'.setCell ⟨g.B N[i].1, 4, none⟩ (.int .i64 (e.pos + s.length))) f { D with T := writeN D.T e.node e.pos s, E := fun j => if j = N[i].1 then some { e with pos := e.pos + s.length } else D.E j } g b N := fun V hV => by
    have hV' := h.below hV
    obtain ⟨O, p, hO⟩ := hV'.tree
    refine (p.write_ok hT e.node e.pos s (wf_few hnd.1 (by omega)) hl).mono ?_
    rintro y w' ⟨rfl, O', p', st⟩
    have hq := hV'.treeGo (t.below hV) hO p' st
    obtain ⟨c, h1, _, hkb⟩ := hV'.ent _ e he
    have hbk : w'.heap[g.B N[i].1]? = V.heap[g.B N[i].1]? := st.wt.block _ (hV'.lt _ (by rw [hkb]; rfl)) (fun o => tag_ne hkb (hO _ o) (by simp) rfl)
    have hcell : ∀ o, w'.cell? ⟨g.B N[i].1, o, none⟩ = V.cell? ⟨g.B N[i].1, o, none⟩ := fun o => World.cell?_of_block (w := V) (a := ⟨g.B N[i].1, o, none⟩) hbk
    obtain ⟨_, _, _, e3, e4, _, ez⟩ := hV'.ecell he h1
    refine ⟨rfl, ⟨hq.cell0, by rw [hcell]; exact e3, by rw [hcell]; exact e4⟩, by rw [World.frozen?_of_block (w := V) (a := ⟨g.B N[i].1, 4, none⟩) hbk]; exact ez 4, fun hE => ?_, ?_⟩
    · have hN : writeN D.T e.node e.pos s = D.T := by unfold writeN; rw [if_pos (.inl hE)]
      have := (hq.upon hV).go
      rw [hN] at this
      exact this
    · obtain ⟨⟨g1, a1, a2, a3, a4, a5, a6⟩, wt⟩ := hq.upon hV
      have he1 : ({ D with T := writeN D.T e.node e.pos s } : DS).E N[i].1 = some e := he
      obtain ⟨c1, b1, b2, b3⟩ := a1.ent _ e he1
      have hB1 : g1.B N[i].1 = g.B N[i].1 := by rw [a6]
      have h2 := a1.place he1 (e.pos + s.length)
      rw [hB1] at h2 b3
      have gg := tgrown_set w' (g.B N[i].1) 4 (.int .i64 (e.pos + s.length))
      refine QGo.after a3 a4 a5 wt ⟨⟨g1, n, M, h2, a2.offOwn (by rw [b3]; rfl) gg, Ext.refl _ _ _⟩, Wt.grown gg (.inl (by rw [b3]; rfl))⟩
  generalize ({ D with T := writeN D.T e.node e.pos s, E := fun j => if j = N[i].1 then some { e with pos := e.pos + s.length } else D.E j } : DS) = D2 at *
  generalize writeE D.T e.node e.pos s = C9 at *
  generalize g.B N[i].1 = q at *
  generalize e.node = nd at *
  generalize hps9 : e.pos = ps at *
  have HW : Aside (wrap64 (ps + (s.length : Int)) = ps + (s.length : Int)) := by show wrap64 _ = _; unfold wrap64; omega
  have hcond : s = [] ∨ (s ≠ [] ∧ ¬ a < ps + (s.length : Int)) := by
    by_cases e1 : s = []
    · exact .inl e1
    · refine .inr ⟨e1, fun h9 => hlim ⟨e1, by omega⟩⟩
  clear h t hk hpr he h0 hl hps hnd hT hlim hps9
  have HC : Aside (s = [] ∨ (s ≠ [] ∧ ¬ a < ps + (s.length : Int))) := hcond
  clear hcond
  go_enter Tryz.func44, Tryz.ntmps44
  go_upto_region 6 with (first
    | (go_at_call 107; refine hU.mono ?_; rintro y w1 ⟨rfl, b1⟩)
    | (go_at_call 108; refine (hIs _ b1).mono ?_; rintro y w2 ⟨rfl, hw2⟩; subst w2))
  have hc1 := hat _ b1
  obtain ⟨c0, c3, c4⟩ := hat _ b1
  clear hU hIs hat
  rcases HC.out with rfl | ⟨hs0, hs1⟩
  · clear HC
    go_upto_region 8 with fail
    go_region_held3 (fun w' => w'.cell? ⟨f, 0, none⟩ = some (wp g.r) ∧ w'.cell? ⟨q, 3, none⟩ = some (.int .i64 nd) ∧ w'.cell? ⟨q, 4, none⟩ = some (.int .i64 ps)) (first | exact hc1 | exact hc3) (first
      | (go_at_call 16; refine (hWr _ (below_dr b1)).mono ?_; rintro y w3 ⟨rfl, hc3, hz3, hB, hG⟩; have HB : Aside _ := hB; clear hB))
    all_goals
      obtain ⟨_, _, k4⟩ := hc3
      have HW9 : wrap64 ps = ps := by simpa using HW.out
      clear hc1 c0 c3 c4 hWr HW
      by_cases hz : C9 = 0
      · subst hz
        clear HB
        rw [show uev 0 = .nilIface from rfl]
        go_wp2_with fail
        go_ret2
        exact ⟨rfl, by simpa using hG⟩
      · have hG2 := HB.out hz
        rw [uev_ne hz]
        have HN : Aside (C9 ≠ 0) := hz
        clear hz HB hG
        go_wp2_with fail
        go_ret2
        exact .inl ⟨HN.out, rfl, hG2⟩
  · have hne : (s == []) = false := by simpa using hs0
    have HW9 := HW.out
    clear HC hs0
    go_upto_region 8 with fail
    go_region_held3 (fun w' => w'.cell? ⟨f, 0, none⟩ = some (wp g.r) ∧ w'.cell? ⟨q, 3, none⟩ = some (.int .i64 nd) ∧ w'.cell? ⟨q, 4, none⟩ = some (.int .i64 ps)) (first | exact hc1 | exact hc3) (first
      | (go_at_call 16; refine (hWr _ (below_dr b1)).mono ?_; rintro y w3 ⟨rfl, hc3, hz3, hB, hG⟩; have HB : Aside _ := hB; clear hB))
    all_goals
      obtain ⟨_, _, k4⟩ := hc3
      clear hc1 c0 c3 c4 hWr HW
      by_cases hz : C9 = 0
      · subst hz
        clear HB
        rw [show uev 0 = .nilIface from rfl]
        go_wp2_with fail
        go_ret2
        exact ⟨rfl, hG⟩
      · have hG2 := HB.out hz
        rw [uev_ne hz]
        have HN : Aside (C9 ≠ 0) := hz
        clear hz HB hG
        go_wp2_with fail
        go_ret2
        exact .inl ⟨HN.out, rfl, hG2⟩
end
end Go.Proofs.YtjkneekfijibiabGreatDoor

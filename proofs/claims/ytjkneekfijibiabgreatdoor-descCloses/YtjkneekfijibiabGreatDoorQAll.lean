/- Package desc: Write, by its Go text. -/
import Derived.Test.YtjkneekfijibiabGreatDoorQRead
import Derived.Test.YtjkneekfijibiabGreatDoorSRanges
import Derived.Test.YtjkneekfijibiabGreatDoorQNew
import Derived.Test.YtjkneekfijibiabGreatDoorQFile
import Derived.Test.YtjkneekfijibiabGreatDoorUAddT
namespace Go.Proofs.YtjkneekfijibiabGreatDoor
open Go.RowKit Go.Maps

section
variable {w w' w2 w0 w1 : World} {f b n q : Nat} {D D' : DS} {g g' g1 : QG} {M N N' : Ns} {d k m : Int} {e : En} {T' : Wd}
set_option maxRecDepth 100000 in
set_option maxHeartbeats 4000000 in
theorem QF.write_no (h : QF w f D g n) (t : QTb w b g M N) (x : Int) (s : List UInt8) (a c : Int) (hc : c ≠ 0) (hU : Calls Tryz.prog 107 #[wp f, wp b, .int .i64 x, .int .i64 2] w fun y w' => y = .returned (.tuple #[.pointer none, uer c]) ∧ Below w.heap.size w w') :
    Calls Tryz.prog 44 #[wp f, wp b, .int .i64 x, tx s, .int .i64 a] w fun y w' => y = .returned (.tuple #[.int .i64 0, uev c]) ∧ QGo w w' f D g b N := by
  have hs : ∀ w', Below w.heap.size w w' → QGo w w' f D g b N := fun w' hb => h.same t hb
  rw [uev_ne hc]
  clear h t hc
  go_enter Tryz.func44, Tryz.ntmps44
  go_wp2_with (go_at_call 107; refine hU.mono ?_; rintro y w1 ⟨rfl, b1⟩)
  go_ret2
  exact ⟨rfl, hs _ b1⟩
set_option maxRecDepth 100000 in
set_option maxHeartbeats 4000000 in
theorem QF.write_end (h : QF w f D g n) (t : QTb w b g M N) {i : Nat} (hi : i < 8) (hiL : i < N.length) (h0 : 0 < N[i].1) (he : D.E N[i].1 = some e) (s : List UInt8) (a : Int) (hk : e.kind ≠ 1) (hpr : e.prot = 2 ∨ e.prot = 3) {p : Pi} (hp : D.P e.pipe = some p) :
    Calls Tryz.prog 44 #[wp f, wp b, .int .i64 (i : Int), tx s, .int .i64 a] w fun y w' => y = .returned (.tuple #[.int .i64 (wrN p.2.1 p.1 s : Int), uev (wrE p.2.1 p.1 s)]) ∧ QGo w w' f { D with P := fun j => if j = e.pipe then some (wrB p.2.1 p.1 s, p.2.1, p.2.2) else D.P j } g b N := by
  have hU := h.usable_yes t hi hiL h0 he 2 (.inr ⟨rfl, hpr⟩)
  have hk' : (e.kind == 1) = false := by simpa using hk
  have hpv : pv g e = wp (g.Q e.pipe) := if_neg hk
  have hat : ∀ V, Below w.heap.size w V → V.cell? ⟨g.B N[i].1, 5, none⟩ = some (wp (g.Q e.pipe)) ∧ Calls Tryz.prog 108 #[wp (g.B N[i].1)] V (fun x w' => x = .returned (.bool false) ∧ w' = V) ∧ Calls Tryz.prog 109 #[wp (g.Q e.pipe), tx s] V fun y w' => y = .returned (.tuple #[.int .i64 (wrN p.2.1 p.1 s : Int), uev (wrE p.2.1 p.1 s)]) ∧ QGo w w' f { D with P := fun j => if j = e.pipe then some (wrB p.2.1 p.1 s, p.2.1, p.2.2) else D.P j } g b N := fun V hV => by
    have hV' := h.below hV
    obtain ⟨c, h1, _⟩ := hV'.ent _ e he
    have e5 := (hV'.ecell he h1).2.2.2.2.2.1
    rw [hpv] at e5
    have hIs := hV'.isFile_ok he
    rw [hk'] at hIs
    obtain ⟨tb, tk⟩ := hV'.pipe _ p hp
    refine ⟨e5, hIs, (tb.write_ok s).mono ?_⟩
    rintro y w' ⟨rfl, tb', hg⟩
    exact ⟨rfl, ⟨⟨g, n, M, hV'.piped hp (x' := (wrB p.2.1 p.1 s, p.2.1, p.2.2)) tb' hg, (t.below hV).offOwn (by rw [tk]; rfl) hg, Ext.refl _ _ _⟩, (Wt.below _ hV).trans (Wt.grown hg (.inl (by rw [tk]; rfl)))⟩⟩
  generalize ({ D with P := fun j => if j = e.pipe then some (wrB p.2.1 p.1 s, p.2.1, p.2.2) else D.P j } : DS) = D2 at *
  generalize g.B N[i].1 = q at *
  generalize g.Q e.pipe = Q at *
  generalize uev (wrE p.2.1 p.1 s) = U at *
  generalize wrN p.2.1 p.1 s = S at *
  clear h t hk hpr hp he h0 hk' hpv
  go_enter Tryz.func44, Tryz.ntmps44
  go_wp2_with (first
    | (go_at_call 107; refine hU.mono ?_; rintro y w1 ⟨rfl, b1⟩; obtain ⟨c5, hIs, hRd⟩ := hat _ b1)
    | (go_at_call 108; refine hIs.mono ?_; rintro y w2 ⟨rfl, hw2⟩; subst w2)
    | (go_at_call 109; refine hRd.mono ?_; rintro y w3 ⟨rfl, hG⟩))
  go_ret2
  exact ⟨rfl, hG⟩
theorem QF.filed (h : QF w f D g n) (he : D.E d = some e) (hk : e.kind = 1) (V : World) (hV : Below w.heap.size w V) : Calls Tryz.prog 108 #[wp (g.B d)] V fun x w' => x = .returned (.bool true) ∧ w' = V := by
  have := (h.below hV).isFile_ok he
  rw [hk] at this
  exact this
set_option maxRecDepth 100000 in
set_option maxHeartbeats 4000000 in
theorem QF.write_limit (h : QF w f D g n) (t : QTb w b g M N) {i : Nat} (hi : i < 8) (hiL : i < N.length) (h0 : 0 < N[i].1) (he : D.E N[i].1 = some e) (s : List UInt8) (a : Int) (hk : e.kind = 1) (hpr : e.prot = 2 ∨ e.prot = 3) (hps : 0 ≤ e.pos ∧ e.pos ≤ 200) (hl : s.length < 100000) (hlim : tooMuch s a e.pos) :
    Calls Tryz.prog 44 #[wp f, wp b, .int .i64 (i : Int), tx s, .int .i64 a] w fun y w' => y = .returned (.tuple #[.int .i64 0, uer 4]) ∧ QGo w w' f D g b N := by
  have hU := h.usable_yes t hi hiL h0 he 2 (.inr ⟨rfl, hpr⟩)
  have hIs := fun V hV => h.filed he hk V hV
  have hat : ∀ V, Below w.heap.size w V → V.cell? ⟨g.B N[i].1, 4, none⟩ = some (.int .i64 e.pos) := fun V hV => by
    have hV' := h.below hV
    obtain ⟨c, h1, _⟩ := hV'.ent _ e he
    exact (hV'.ecell he h1).2.2.2.2.1
  have hs : ∀ w', Below w.heap.size w w' → QGo w w' f D g b N := fun w' hb => h.same t hb
  obtain ⟨hs0, hs1⟩ := hlim
  have hlt : a < e.pos + (s.length : Int) := by omega
  have hw1 : wrap64 (e.pos + (s.length : Int)) = e.pos + (s.length : Int) := by unfold wrap64; omega
  have hne : (s == []) = false := by simpa using hs0
  generalize g.B N[i].1 = q at *
  generalize e.pos = ps at *
  clear h t hk hpr he h0 hl hps hs0 hs1
  go_enter Tryz.func44, Tryz.ntmps44
  go_wp2_with (first
    | (go_at_call 107; refine hU.mono ?_; rintro y w1 ⟨rfl, b1⟩; have c4 := hat _ b1)
    | (go_at_call 108; refine (hIs _ b1).mono ?_; rintro y w2 ⟨rfl, hw2⟩; subst w2))
  go_ret2
  exact ⟨rfl, hs _ b1⟩
set_option maxRecDepth 100000 in
set_option maxHeartbeats 8000000 in
theorem QF.write_file (h : QF w f D g n) (t : QTb w b g M N) {i : Nat} (hi : i < 8) (hiL : i < N.length) (h0 : 0 < N[i].1) (he : D.E N[i].1 = some e) (s : List UInt8) (a : Int) (hk : e.kind = 1) (hpr : e.prot = 2 ∨ e.prot = 3) (hnd : 0 ≤ e.node ∧ e.node < 1000) (hps : 0 ≤ e.pos ∧ e.pos ≤ 200) (hl : s.length < 100000) (hT : TrLv D.T) (hlim : ¬ tooMuch s a e.pos) :
    Calls Tryz.prog 44 #[wp f, wp b, .int .i64 (i : Int), tx s, .int .i64 a] w fun y w' => (writeE D.T e.node e.pos s ≠ 0 ∧ y = .returned (.tuple #[.int .i64 0, uer (writeE D.T e.node e.pos s)]) ∧ QGo w w' f D g b N) ∨ (writeE D.T e.node e.pos s = 0 ∧ y = .returned (.tuple #[.int .i64 (s.length : Int), .nilIface]) ∧ QGo w w' f { D with T := writeN D.T e.node e.pos s, E := fun j => if j = N[i].1 then some { e with pos := e.pos + s.length } else D.E j } g b N) := by
  have hU := h.usable_yes t hi hiL h0 he 2 (.inr ⟨rfl, hpr⟩)
  have hIs := fun V hV => h.filed he hk V hV
  have hat : ∀ V, Below w.heap.size w V → (V.cell? ⟨f, 0, none⟩ = some (wp g.r) ∧ V.cell? ⟨g.B N[i].1, 3, none⟩ = some (.int .i64 e.node) ∧ V.cell? ⟨g.B N[i].1, 4, none⟩ = some (.int .i64 e.pos)) := fun V hV => by
    have hV' := h.below hV
    obtain ⟨c, h1, _⟩ := hV'.ent _ e he
    obtain ⟨_, _, _, e3, e4, _, ez⟩ := hV'.ecell he h1
    exact ⟨hV'.cells.1, e3, e4⟩
  have hWr : ∀ V, Below w.heap.size w V → Calls Tryz.prog 16 #[wp g.r, .int .i64 e.node, .int .i64 e.pos, tx s] V fun y w' => y = .returned (uev (writeE D.T e.node e.pos s)) ∧ (w'.cell? ⟨f, 0, none⟩ = some (wp g.r) ∧ w'.cell? ⟨g.B N[i].1, 3, none⟩ = some (.int .i64 e.node) ∧ w'.cell? ⟨g.B N[i].1, 4, none⟩ = some (.int .i64 e.pos)) ∧ w'.frozen? ⟨g.B N[i].1, 4, none⟩ = false ∧ (writeE D.T e.node e.pos s ≠ 0 → QGo w w' f D g b N) ∧ QGo w (w'.setCell ⟨g.B N[i].1, 4, none⟩ (.int .i64 (e.pos + s.length))) f { D with T := writeN D.T e.node e.pos s, E := fun j => if j = N[i].1 then some { e with pos := e.pos + s.length } else D.E j } g b N := fun V hV => by
    have hV' := h.below hV
    obtain ⟨O, p, hO⟩ := hV'.tree
    refine (p.write_ok hT e.node e.pos s (wf_few hnd.1 (by omega)) hl).mono ?_
    rintro y w' ⟨rfl, O', p', st⟩
    have hq := hV'.treeGo (t.below hV) hO p' st
    obtain ⟨c, h1, _, hkb⟩ := hV'.ent _ e he
    have hbk : w'.heap[g.B N[i].1]? = V.heap[g.B N[i].1]? := st.wt.block _ (hV'.lt _ (by rw [hkb]; rfl)) (fun o => tag_ne hkb (hO _ o) (by simp) rfl)
    have hcell : ∀ o, w'.cell? ⟨g.B N[i].1, o, none⟩ = V.cell? ⟨g.B N[i].1, o, none⟩ := fun o => World.cell?_of_block (w := V) (a := ⟨g.B N[i].1, o, none⟩) hbk
    obtain ⟨_, _, _, e3, e4, _, ez⟩ := hV'.ecell he h1
    refine ⟨rfl, ⟨hq.cell0, by rw [hcell]; exact e3, by rw [hcell]; exact e4⟩, by rw [World.frozen?_of_block (w := V) (a := ⟨g.B N[i].1, 4, none⟩) hbk]; exact ez 4, fun hE => ?_, ?_⟩
    · have hN : writeN D.T e.node e.pos s = D.T := by unfold writeN; rw [if_pos (.inl hE)]
      have := (hq.upon hV).go
      rw [hN] at this
      exact this
    · obtain ⟨⟨g1, a1, a2, a3, a4, a5, a6⟩, wt⟩ := hq.upon hV
      have he1 : ({ D with T := writeN D.T e.node e.pos s } : DS).E N[i].1 = some e := he
      obtain ⟨c1, b1, b2, b3⟩ := a1.ent _ e he1
      have hB1 : g1.B N[i].1 = g.B N[i].1 := by rw [a6]
      have h2 := a1.place he1 (e.pos + s.length)
      rw [hB1] at h2 b3
      have gg := tgrown_set w' (g.B N[i].1) 4 (.int .i64 (e.pos + s.length))
      refine QGo.after a3 a4 a5 wt ⟨⟨g1, n, M, h2, a2.offOwn (by rw [b3]; rfl) gg, Ext.refl _ _ _⟩, Wt.grown gg (.inl (by rw [b3]; rfl))⟩
  generalize ({ D with T := writeN D.T e.node e.pos s, E := fun j => if j = N[i].1 then some { e with pos := e.pos + s.length } else D.E j } : DS) = D2 at *
  generalize writeE D.T e.node e.pos s = C9 at *
  generalize g.B N[i].1 = q at *
  generalize e.node = nd at *
  generalize hps9 : e.pos = ps at *
  have HW : Aside (wrap64 (ps + (s.length : Int)) = ps + (s.length : Int)) := by show wrap64 _ = _; unfold wrap64; omega
  have hcond : s = [] ∨ (s ≠ [] ∧ ¬ a < ps + (s.length : Int)) := by
    by_cases e1 : s = []
    · exact .inl e1
    · refine .inr ⟨e1, fun h9 => hlim ⟨e1, by omega⟩⟩
  clear h t hk hpr he h0 hl hps hnd hT hlim hps9
  have HC : Aside (s = [] ∨ (s ≠ [] ∧ ¬ a < ps + (s.length : Int))) := hcond
  clear hcond
  go_enter Tryz.func44, Tryz.ntmps44
  go_upto_region 6 with (first
    | (go_at_call 107; refine hU.mono ?_; rintro y w1 ⟨rfl, b1⟩)
    | (go_at_call 108; refine (hIs _ b1).mono ?_; rintro y w2 ⟨rfl, hw2⟩; subst w2))
  have hc1 := hat _ b1
  obtain ⟨c0, c3, c4⟩ := hat _ b1
  clear hU hIs hat
  rcases HC.out with rfl | ⟨hs0, hs1⟩
  · clear HC
    go_upto_region 8 with fail
    go_region_held3 (fun w' => w'.cell? ⟨f, 0, none⟩ = some (wp g.r) ∧ w'.cell? ⟨q, 3, none⟩ = some (.int .i64 nd) ∧ w'.cell? ⟨q, 4, none⟩ = some (.int .i64 ps)) (first | exact hc1 | exact hc3) (first
      | (go_at_call 16; refine (hWr _ (below_dr b1)).mono ?_; rintro y w3 ⟨rfl, hc3, hz3, hB, hG⟩; have HB : Aside _ := hB; clear hB))
    all_goals
      obtain ⟨_, _, k4⟩ := hc3
      have HW9 : wrap64 ps = ps := by simpa using HW.out
      clear hc1 c0 c3 c4 hWr HW
      by_cases hz : C9 = 0
      · subst hz
        clear HB
        rw [show uev 0 = .nilIface from rfl]
        go_wp2_with fail
        go_ret2
        exact ⟨rfl, by simpa using hG⟩
      · have hG2 := HB.out hz
        rw [uev_ne hz]
        have HN : Aside (C9 ≠ 0) := hz
        clear hz HB hG
        go_wp2_with fail
        go_ret2
        exact .inl ⟨HN.out, rfl, hG2⟩
  · have hne : (s == []) = false := by simpa using hs0
    have HW9 := HW.out
    clear HC hs0
    go_upto_region 8 with fail
    go_region_held3 (fun w' => w'.cell? ⟨f, 0, none⟩ = some (wp g.r) ∧ w'.cell? ⟨q, 3, none⟩ = some (.int .i64 nd) ∧ w'.cell? ⟨q, 4, none⟩ = some (.int .i64 ps)) (first | exact hc1 | exact hc3) (first
      | (go_at_call 16; refine (hWr _ (below_dr b1)).mono ?_; rintro y w3 ⟨rfl, hc3, hz3, hB, hG⟩; have HB : Aside _ := hB; clear hB))
    all_goals
      obtain ⟨_, _, k4⟩ := hc3
      clear hc1 c0 c3 c4 hWr HW
      by_cases hz : C9 = 0
      · subst hz
        clear HB
        rw [show uev 0 = .nilIface from rfl]
        go_wp2_with fail
        go_ret2
        exact ⟨rfl, hG⟩
      · have hG2 := HB.out hz
        rw [uev_ne hz]
        have HN : Aside (C9 ≠ 0) := hz
        clear hz HB hG
        go_wp2_with fail
        go_ret2
        exact .inl ⟨HN.out, rfl, hG2⟩
end
end Go.Proofs.YtjkneekfijibiabGreatDoor

namespace Go.Proofs.YtjkneekfijibiabGreatDoor
open Go.RowKit Go.Maps

theorem Stp.cellKept {w w' : World} {A A' : Nat → Prop} (st : Stp w w' A A') {b o : Nat} {v : Value} (h : w.cell? ⟨b, o, none⟩ = some v) (hA : ¬ A b) : w'.cell? ⟨b, o, none⟩ = some v ∧ ¬ A' b := by
  have hlt : b < w.heap.size := World.block_lt_of_cell? w _ h
  obtain ⟨h1, h2⟩ := st.apart (P := fun i => i = b) (fun i e => by subst e; exact ⟨hA, hlt⟩) b rfl
  exact ⟨by rw [World.cell?_of_block (w := w) (a := ⟨b, o, none⟩) (st.keep (P := fun i => i = b) (fun i e => by subst e; exact ⟨hA, hlt⟩) b rfl)]; exact h, h1⟩
/-- The files at f, their tree at r, the tables at bs; A: all that is theirs. -/
structure KD (w : World) (m : Int) (f r : Nat) (D : DS) (bs : List Nat) (Ts : List Ns) (k : Nat) (A : Nat → Prop) : Prop where
  st : ∃ g n, QF w f D g n ∧ g.r = r ∧ (∀ j (h : j < bs.length) (h' : j < Ts.length), ∃ M, QTb w bs[j] g M Ts[j]) ∧ ∀ i, (g.kap i).isSome = true → A i
  len : bs.length = Ts.length
  nd : bs.Nodup
  bsA : ∀ b ∈ bs, A b
  inv : Inv D Ts k
  lt : ∀ i, A i → i < w.heap.size
  ml : w.cell? ⟨2, 0, none⟩ = some (.int .i64 m)
  mn : ¬ A 2
  er : w.cell? ⟨0, 0, none⟩ = some errT
  en : ¬ A 0
section
variable {w w' w2 w0 w1 : World} {f r b n k k' j : Nat} {D D' : DS} {g g' : QG} {bs : List Nat} {Ts : List Ns} {M N N' : Ns} {d m : Int} {A : Nat → Prop}
theorem QF.numE (h : QF w f D g n) : IsN D.E n := by
  obtain ⟨Dt, _, _, h1, h2, h3⟩ := h.map.data
  have h3' : ∀ x, x ∈ Go.intKeys Dt ↔ (g.K x).isSome = true := fun x => by rw [h3 x, Option.isSome_map]
  refine ⟨(Go.intKeys Dt).map (fun k => (g.K k).getD 0), ?_, by rw [List.length_map, h2], fun x => ?_⟩
  · refine List.pairwise_map.2 (h1.imp_of_mem (fun {a b} ha hb hne e => hne ?_))
    obtain ⟨x, hx⟩ := Option.isSome_iff_exists.1 ((h3' a).1 ha)
    obtain ⟨y, hy⟩ := Option.isSome_iff_exists.1 ((h3' b).1 hb)
    rw [hx, hy] at e
    have e' : x = y := e
    rw [← e'] at hy
    exact h.inj a b x hx hy
  · constructor
    · intro hx
      obtain ⟨a, ha, rfl⟩ := List.mem_map.1 hx
      obtain ⟨y, hy⟩ := Option.isSome_iff_exists.1 ((h3' a).1 ha)
      rw [hy]
      exact (h.key a y hy).1
    · intro hx
      obtain ⟨a, ha⟩ := h.has x hx
      exact List.mem_map.2 ⟨a, (h3' a).2 (by rw [ha]; rfl), by rw [ha]; rfl⟩
theorem QF.few (h : QF w f D g n) (hg : Given D) : n < 1000 := by
  have := h.numE.few hg.n0 hg.e
  have := hg.n1
  omega
/-- A call that turns one table. -/
theorem KD.call (h : KD w m f r D bs Ts k A) (hj : j < bs.length) {fn : FuncId} {args : Array Value} {Q : Ending → DS → Ns → Prop}
    (hc : ∀ g n M (h' : j < Ts.length), QF w f D g n → QTb w bs[j] g M Ts[j] → g.r = r → Calls Tryz.prog fn args w fun y w' => ∃ D' N', Q y D' N' ∧ QGo w w' f D' g bs[j] N') (hI : ∀ y D' N', Q y D' N' → Inv D' (Ts.set j N') k') :
    Calls Tryz.prog fn args w fun y w' => ∃ D' N' A', Q y D' N' ∧ KD w' m f r D' bs (Ts.set j N') k' A' ∧ Stp w w' A A' := by
  obtain ⟨g, n, h1, hr, ht, hA⟩ := h.st
  have hj' : j < Ts.length := by rw [← h.len]; exact hj
  obtain ⟨M, tj⟩ := ht j hj hj'
  refine (hc g n M hj' h1 tj hr).mono ?_
  rintro y w' ⟨D', N', hQ, ⟨⟨g', n', M', a1, a2, a3⟩, wt⟩⟩
  have I' := hI y D' N' hQ
  have hst : Stp w w' A (fun i => A i ∨ (w.heap.size ≤ i ∧ i < w'.heap.size)) := ⟨wt.mono (fun i hi => by
    rcases hi with hi | rfl
    · exact hA i hi
    · exact h.bsA _ (List.getElem_mem hj)), fun i hi => by
    rcases hi with hi | hi
    · exact .inl hi
    · exact .inr hi.1⟩
  refine ⟨D', N', _, hQ, ⟨⟨g', n', a1, a3.r.trans hr, fun x hx hx' => ?_, fun i hi => ?_⟩, by rw [List.length_set]; exact h.len, h.nd, fun b hb => .inl (h.bsA b hb), I', fun i hi => ?_, (hst.cellKept h.ml h.mn).1, (hst.cellKept h.ml h.mn).2, (hst.cellKept h.er h.en).1, (hst.cellKept h.er h.en).2⟩, hst⟩
  · by_cases e1 : x = j
    · subst e1
      rw [List.getElem_set_self]
      exact ⟨M', a2⟩
    · rw [List.length_set] at hx'
      obtain ⟨Mx, tx⟩ := ht x hx hx'
      rw [List.getElem_set_ne (Ne.symm e1)]
      have hxs : x < (Ts.set j N').length := by rw [List.length_set]; exact hx'
      have hl := I'.live hxs
      rw [List.getElem_set_ne (Ne.symm e1)] at hl
      refine ⟨Mx, tx.other a3 (wt.block _ tx.tab.lt ?_) hl⟩
      rintro (z | z)
      · rw [tx.off] at z; cases z
      · exact e1 ((List.getElem_inj h.nd).1 z)
  · by_cases e1 : i < w.heap.size
    · rw [a3.kap i e1] at hi
      exact .inl (hA i hi)
    · exact .inr ⟨by omega, a1.lt i hi⟩
  · rcases hi with hi | hi
    · exact Nat.lt_of_lt_of_le (h.lt i hi) wt.size
    · exact hi.2
/-- A call that turns nothing. -/
theorem KD.below (h : KD w m f r D bs Ts k A) (hb : Below w.heap.size w w') : KD w' m f r D bs Ts k A := by
  obtain ⟨g, n, h1, hr, ht, hA⟩ := h.st
  have hst : Stp w w' A A := .below hb
  exact ⟨⟨g, n, h1.below hb, hr, fun j hj hj' => by
    obtain ⟨M, t⟩ := ht j hj hj'
    exact ⟨M, t.below hb⟩, hA⟩, h.len, h.nd, h.bsA, h.inv, fun i hi => Nat.lt_of_lt_of_le (h.lt i hi) hb.size, (hst.cellKept h.ml h.mn).1, h.mn, (hst.cellKept h.er h.en).1, h.en⟩
theorem KD.keep (h : KD w m f r D bs Ts k A) (hk : ∀ i, A i → w'.heap[i]? = w.heap[i]?) (hs : w.heap.size ≤ w'.heap.size) (hm : w'.cell? ⟨2, 0, none⟩ = some (.int .i64 m)) (he : w'.cell? ⟨0, 0, none⟩ = some errT) : KD w' m f r D bs Ts k A := by
  obtain ⟨g, n, h1, hr, ht, hA⟩ := h.st
  exact ⟨⟨g, n, h1.keep (fun i hi => hk i (hA i hi)) hs, hr, fun j hj hj' => by
    obtain ⟨M, t⟩ := ht j hj hj'
    exact ⟨M, t.keep (hk _ (h.bsA _ (List.getElem_mem hj)))⟩, hA⟩, h.len, h.nd, h.bsA, h.inv, fun i hi => Nat.lt_of_lt_of_le (h.lt i hi) hs, hm, h.mn, he, h.en⟩
theorem KD.jT (h : KD w m f r D bs Ts k A) (hj : j < bs.length) : j < Ts.length := by rw [← h.len]; exact hj
theorem KD.numE (h : KD w m f r D bs Ts k A) : ∃ n, IsN D.E n := by
  obtain ⟨g, n, h1, _⟩ := h.st
  exact ⟨n, h1.numE⟩
theorem KD.numT (h : KD w m f r D bs Ts k A) : ∃ s, IsNum D.T s := by
  obtain ⟨g, n, h1, _⟩ := h.st
  obtain ⟨O, p, _⟩ := h1.tree
  exact p.num
theorem KD.openIs (h : KD w m f r D bs Ts k A) {n : Nat} (hn : IsN D.E n) : Calls Tryz.prog 36 #[wp f] w fun y w' => y = .returned (.int .i64 (n : Int)) ∧ w' = w := by
  obtain ⟨g, n', h1, _⟩ := h.st
  rw [hn.one h1.numE]
  exact h1.open_ok
theorem KD.used (h : KD w m f r D bs Ts k A) (hj : j < bs.length) : Calls Tryz.prog 32 #[wp bs[j]] w fun y w' => y = .returned (.int .i64 (usedN (Ts[j]'(h.jT hj)) : Int)) ∧ Below w.heap.size w w' := by
  obtain ⟨g, n', h1, _, ht, _⟩ := h.st
  obtain ⟨M, t⟩ := ht j hj (h.jT hj)
  exact t.used_ok h1
theorem KD.has (h : KD w m f r D bs Ts k A) (hj : j < bs.length) (x : Int) : Calls Tryz.prog 34 #[wp f, wp bs[j], .int .i64 x] w fun y w' => y = .returned (.bool (hasN (Ts[j]'(h.jT hj)) x)) ∧ Below w.heap.size w w' := by
  obtain ⟨g, n', h1, _, ht, _⟩ := h.st
  obtain ⟨M, t⟩ := ht j hj (h.jT hj)
  exact t.has_ok h1 x
theorem KD.nodes (h : KD w m f r D bs Ts k A) {s : Nat} (hs : IsNum D.T s) : Calls Tryz.prog 13 #[wp r] w fun y w' => y = .returned (.int .i64 (s : Int)) ∧ w' = w := by
  obtain ⟨g, n', h1, hr, _⟩ := h.st
  obtain ⟨O, p, _⟩ := h1.tree
  rw [← hr]
  exact p.nodes_ok hs
/-- The calls. -/
theorem KD.file (h : KD w m f r D bs Ts k A) (hk : k ≤ 890) (hn : D.nx < 899) (hj : j < bs.length) {n s : Nat} (hN : IsN D.E n) (hs : IsNum D.T s) (p : List UInt8) (hp : p.length < 100000) (pr : Int) (mk : Bool) :
    Calls Tryz.prog 42 #[wp f, wp bs[j], tx p, .int .i64 pr, .bool mk] w fun y w' => ∃ D' N' A', (∃ x c, y = .returned (.tuple #[.int .i64 x, uev c]) ∧ FileO D (Ts[j]'(h.jT hj)) n s p pr mk x c D' N') ∧ KD w' m f r D' bs (Ts.set j N') (k + 2) A' ∧ Stp w w' A A' := by
  refine h.call hj (Q := fun y D' N' => ∃ x c, y = .returned (.tuple #[.int .i64 x, uev c]) ∧ FileO D (Ts[j]'(h.jT hj)) n s p pr mk x c D' N') (fun g n9 M hj' q t _ => ?_) (fun y D' N' hq => ?_)
  · obtain rfl := hN.one q.numE
    refine (q.file_ok t ⟨h.inv.core.lv, hs, h.inv.core.sm.more (by omega), h.inv.core.giv, h.inv.live hj', q.few h.inv.core.giv⟩ p hp pr mk h.ml h.er).mono ?_
    rintro y w' ⟨x, c, D', N', rfl, hF, hG⟩
    exact ⟨D', N', ⟨x, c, rfl, hF⟩, hG⟩
  · obtain ⟨x, c, _, hF⟩ := hq
    exact h.inv.file hk hn (h.jT hj) hs hF
theorem KD.dup (h : KD w m f r D bs Ts k A) (hj : j < bs.length) (x : Int) :
    Calls Tryz.prog 43 #[wp f, wp bs[j], .int .i64 x] w fun y w' => ∃ D' N' A', (y = .returned (.tuple #[.int .i64 (dupK (Ts[j]'(h.jT hj)) x), uev (dupE (Ts[j]'(h.jT hj)) x)]) ∧ D' = dupD D (Ts[j]'(h.jT hj)) x ∧ N' = dupN (Ts[j]'(h.jT hj)) x) ∧ KD w' m f r D' bs (Ts.set j N') k A' ∧ Stp w w' A A' := by
  refine h.call hj (Q := fun y D' N' => y = .returned (.tuple #[.int .i64 (dupK (Ts[j]'(h.jT hj)) x), uev (dupE (Ts[j]'(h.jT hj)) x)]) ∧ D' = dupD D (Ts[j]'(h.jT hj)) x ∧ N' = dupN (Ts[j]'(h.jT hj)) x) (fun g n9 M hj' q t _ => ?_) (fun y D' N' hq => ?_)
  · refine (q.dup_ok t x (h.inv.cnted hj')).mono ?_
    rintro y w' ⟨rfl, hG⟩
    exact ⟨_, _, ⟨rfl, rfl, rfl⟩, hG⟩
  · obtain ⟨_, rfl, rfl⟩ := hq
    exact h.inv.dupO (h.jT hj) x
theorem KD.seek (h : KD w m f r D bs Ts k A) (hj : j < bs.length) (x a : Int) :
    Calls Tryz.prog 46 #[wp f, wp bs[j], .int .i64 x, .int .i64 a] w fun y w' => ∃ D' N' A', (y = .returned (uev (seekE D (Ts[j]'(h.jT hj)) x a)) ∧ D' = seekD D (Ts[j]'(h.jT hj)) x a ∧ N' = Ts[j]'(h.jT hj)) ∧ KD w' m f r D' bs (Ts.set j N') k A' ∧ Stp w w' A A' := by
  refine h.call hj (Q := fun y D' N' => y = .returned (uev (seekE D (Ts[j]'(h.jT hj)) x a)) ∧ D' = seekD D (Ts[j]'(h.jT hj)) x a ∧ N' = Ts[j]'(h.jT hj)) (fun g n9 M hj' q t _ => ?_) (fun y D' N' hq => ?_)
  · refine (q.seek_ok t x a (h.inv.live hj')).mono ?_
    rintro y w' ⟨rfl, hG⟩
    exact ⟨_, _, ⟨rfl, rfl, rfl⟩, hG⟩
  · obtain ⟨_, rfl, rfl⟩ := hq
    exact (h.inv.seek (h.jT hj) x a).setSelf (h.jT hj)
theorem KD.mark (h : KD w m f r D bs Ts k A) (hj : j < bs.length) (x : Int) (c : Bool) :
    Calls Tryz.prog 85 #[wp f, wp bs[j], .int .i64 x, .bool c] w fun y w' => ∃ D' N' A', (y = .returned (uev (if hasN (Ts[j]'(h.jT hj)) x = true then 0 else 7)) ∧ D' = D ∧ N' = markN (Ts[j]'(h.jT hj)) x c) ∧ KD w' m f r D' bs (Ts.set j N') k A' ∧ Stp w w' A A' := by
  refine h.call hj (Q := fun y D' N' => y = .returned (uev (if hasN (Ts[j]'(h.jT hj)) x = true then 0 else 7)) ∧ D' = D ∧ N' = markN (Ts[j]'(h.jT hj)) x c) (fun g n9 M hj' q t _ => ?_) (fun y D' N' hq => ?_)
  · refine (q.mark_ok t x c).mono ?_
    rintro y w' ⟨rfl, hG⟩
    exact ⟨_, _, ⟨rfl, rfl, rfl⟩, hG⟩
  · obtain ⟨_, rfl, rfl⟩ := hq
    exact h.inv.mark (h.jT hj) x c
end
end Go.Proofs.YtjkneekfijibiabGreatDoor

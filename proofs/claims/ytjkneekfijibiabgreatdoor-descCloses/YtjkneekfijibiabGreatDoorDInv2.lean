/- Package desc: Close, Mark, Seek, Dup, Dup2, by their Go texts. -/
import Derived.Test.YtjkneekfijibiabGreatDoorQLeave
import Derived.Test.YtjkneekfijibiabGreatDoorUDrop
namespace Go.Proofs.YtjkneekfijibiabGreatDoor
open Go.RowKit Go.Maps

section
variable {w w' w2 : World} {f b n : Nat} {D D' : DS} {g g' : QG} {M N N' : Ns} {d k : Int} {e : En}
theorem QF.same (h : QF w f D g n) (t : QTb w b g M N) (hb : Below w.heap.size w w') : QGo w w' f D g b N := ⟨⟨g, n, M, h.below hb, t.below hb, Ext.refl _ _ _⟩, Wt.below _ hb⟩
theorem QGo.upon (hb : Below w.heap.size w w') (h : QGo w' w2 f D' g b N') : QGo w w2 f D' g b N' := by
  obtain ⟨⟨g', n', M', a, c, x⟩, wt⟩ := h
  exact ⟨⟨g', n', M', a, c, ⟨fun i hi => x.kap i (Nat.lt_of_lt_of_le hi hb.size), x.key, x.r⟩⟩, (Wt.below _ hb).trans wt⟩
set_option maxRecDepth 100000 in
set_option maxHeartbeats 4000000 in
theorem QF.close_no (h : QF w f D g n) (t : QTb w b g M N) (x : Int) (hx : hasN N x = false) : Calls Tryz.prog 47 #[wp f, wp b, .int .i64 x] w fun y w' => y = .returned (uer 7) ∧ QGo w w' f D g b N := by
  have hF := h.find_no t x hx
  have hs : ∀ w', Below w.heap.size w w' → QGo w w' f D g b N := fun w' hb => h.same t hb
  clear h t hx
  go_enter Tryz.func47, Tryz.ntmps47
  go_wp2_with (go_at_call 77; refine hF.mono ?_; rintro y w1 ⟨rfl, b1⟩)
  go_ret
  exact ⟨rfl, hs _ b1⟩
set_option maxRecDepth 100000 in
set_option maxHeartbeats 4000000 in
theorem QF.close_ok (h : QF w f D g n) (t : QTb w b g M N) {i : Nat} (hi : i < 8) (hiL : i < N.length) (h0 : 0 < N[i].1) {c : Int} (hc : Cl D N[i].1 e c) (hl : Live (closeK D N[i].1) (N.set i (0, false))) :
    Calls Tryz.prog 47 #[wp f, wp b, .int .i64 (i : Int)] w fun y w' => y = .returned .nilIface ∧ QGo w w' f (closeK D N[i].1) g b (N.set i (0, false)) := by
  have hF := h.find_yes t hi hiL h0
  have hFr : ∀ V, Below w.heap.size w V → Calls Tryz.prog 101 #[wp f, wp b, .int .i64 (i : Int)] V fun x w' => x = .returned (.tuple #[]) ∧ QGo w w' f (closeK D N[i].1) g b (N.set i (0, false)) := fun V hV => by
    refine ((h.below hV).free_ok (t.below hV) hi hiL h0 hc hl).mono ?_
    rintro x w' ⟨rfl, hG⟩
    exact ⟨rfl, hG.upon hV⟩
  generalize closeK D N[i].1 = D2 at *
  generalize N.set i (0, false) = N2 at *
  generalize g.B N[i].1 = q at *
  clear h t hc hl h0
  go_enter Tryz.func47, Tryz.ntmps47
  go_wp2_with (first
    | (go_at_call 77; refine hF.mono ?_; rintro y w1 ⟨rfl, b1⟩)
    | (go_at_call 101; refine (hFr _ b1).mono ?_; rintro y w2 ⟨rfl, hG⟩))
  go_ret
  exact ⟨rfl, hG⟩
set_option maxRecDepth 100000 in
set_option maxHeartbeats 4000000 in
theorem QF.mark_ok (h : QF w f D g n) (t : QTb w b g M N) (x : Int) (c : Bool) : Calls Tryz.prog 85 #[wp f, wp b, .int .i64 x, .bool c] w fun y w' => y = .returned (uev (if hasN N x = true then 0 else 7)) ∧ QGo w w' f D g b (markN N x c) := by
  by_cases hx : hasN N x = true
  · obtain ⟨i, rfl, hi, hiL, h0⟩ := hasN_at hx t.len
    rw [if_pos hx]
    have hmN : markN N i c = N.set i (N[i].1, c) := by
      unfold markN
      rw [if_pos hx, getD_in hiL, show (i : Int).toNat = i by omega]
    rw [hmN]
    have hM : i < M.length := by have := t.tab.len; omega
    have hk := t.keyOf hM hiL h0
    obtain ⟨_, hk0, _⟩ := h.key _ _ hk
    have hF := h.find_yes t hi hiL h0
    have hfin : ∀ V, Below w.heap.size w V → (∃ u, V.cell? ⟨b, i * 2 + 1, none⟩ = some u) ∧ V.frozen? ⟨b, i * 2 + 1, none⟩ = false ∧ QGo w (V.setCell ⟨b, i * 2 + 1, none⟩ (.bool c)) f D g b (N.set i (N[i].1, c)) := fun V hV => by
      have tV := t.below hV
      have t2 := tV.set (i := i) (M[i].1, c) (N[i].1, c) (tV.tab.mark hi c (by omega)) ⟨rfl, .inr ⟨h0, hk⟩⟩
      have gg := tgrown_set V b (i * 2 + 1) (.bool c)
      exact ⟨⟨_, (tV.tab.at hi).2⟩, tV.tab.free _, ⟨⟨g, n, _, (h.below hV).offTab t.off gg, t2, Ext.refl _ _ _⟩, (Wt.below _ hV).trans (Wt.grown gg (.inr rfl))⟩⟩
    generalize N.set i (N[i].1, c) = N2 at *
    generalize g.B N[i].1 = q at *
    have hi8 : (i : Int) < 8 := by omega
    clear h t hx hmN hk h0
    go_enter Tryz.func85, Tryz.ntmps85
    go_upto_region 4 with (go_at_call 77; refine hF.mono ?_; rintro y w1 ⟨rfl, b1⟩)
    obtain ⟨⟨u, c1⟩, z1, hG⟩ := hfin _ b1
    clear hfin hF
    go_wp2_with fail
    go_ret
    exact ⟨rfl, hG⟩
  · have hx' : hasN N x = false := by simpa using hx
    rw [if_neg hx, show markN N x c = N from if_neg hx]
    have hF := h.find_no t x hx'
    have hs : ∀ w', Below w.heap.size w w' → QGo w w' f D g b N := fun w' hb => h.same t hb
    clear h t hx hx'
    go_enter Tryz.func85, Tryz.ntmps85
    go_wp2_with (go_at_call 77; refine hF.mono ?_; rintro y w1 ⟨rfl, b1⟩)
    go_ret
    exact ⟨rfl, hs _ b1⟩
set_option maxRecDepth 100000 in
set_option maxHeartbeats 4000000 in
theorem QF.seek_ok (h : QF w f D g n) (t : QTb w b g M N) (x a : Int) (hL : Live D N) : Calls Tryz.prog 46 #[wp f, wp b, .int .i64 x, .int .i64 a] w fun y w' => y = .returned (uev (seekE D N x a)) ∧ QGo w w' f (seekD D N x a) g b N := by
  by_cases hx : hasN N x = true
  · obtain ⟨i, rfl, hi, hiL, h0⟩ := hasN_at hx t.len
    obtain ⟨e, he⟩ := Option.isSome_iff_exists.1 (hL i hiL h0)
    have hF := h.find_yes t hi hiL h0
    have hI : ∀ V, Below w.heap.size w V → Calls Tryz.prog 108 #[wp (g.B N[i].1)] V fun x w' => x = .returned (.bool (e.kind == 1)) ∧ w' = V := fun V hV => (h.below hV).isFile_ok he
    have hE1 : seekE D N i a = if e.kind ≠ 1 then 6 else if 0 ≤ a ∧ a ≤ 200 then 0 else 2 := by
      unfold seekE; rw [if_pos hx, getD_in hiL, he]
    have hD0 : seekE D N i a ≠ 0 → seekD D N i a = D := fun h => if_neg h
    by_cases hk : e.kind = 1
    · rw [hk] at hI
      rw [if_neg (fun z => z hk)] at hE1
      by_cases ha : 0 ≤ a ∧ a ≤ 200
      · rw [if_pos ha] at hE1
        have hD1 : seekD D N i a = { D with E := fun j => if j = N[i].1 then some { e with pos := a } else D.E j } := by
          unfold seekD; rw [if_pos hE1, getD_in hiL, he]
        rw [hE1, hD1]
        obtain ⟨c, hc, _, hkb⟩ := h.ent _ e he
        have hfin : ∀ V, Below w.heap.size w V → (∃ u, V.cell? ⟨g.B N[i].1, 4, none⟩ = some u) ∧ V.frozen? ⟨g.B N[i].1, 4, none⟩ = false ∧ QGo w (V.setCell ⟨g.B N[i].1, 4, none⟩ (.int .i64 a)) f { D with E := fun j => if j = N[i].1 then some { e with pos := a } else D.E j } g b N := fun V hV => by
          have hV' := h.below hV
          obtain ⟨_, _, _, _, e4, _, ez⟩ := hV'.ecell he hc
          have gg := tgrown_set V (g.B N[i].1) 4 (.int .i64 a)
          exact ⟨⟨_, e4⟩, ez 4, ⟨⟨g, n, M, hV'.place he a, (t.below hV).offOwn (by rw [hkb]; rfl) gg, Ext.refl _ _ _⟩, (Wt.below _ hV).trans (Wt.grown gg (.inl (by rw [hkb]; rfl)))⟩⟩
        generalize ({ D with E := fun j => if j = N[i].1 then some { e with pos := a } else D.E j } : DS) = D2 at *
        generalize g.B N[i].1 = q at *
        obtain ⟨ha0, ha1⟩ := ha
        clear h t hx hE1 hD1 hD0 hkb hk hc he h0 hL
        go_enter Tryz.func46, Tryz.ntmps46
        go_upto_region 8 with (first
          | (go_at_call 77; refine hF.mono ?_; rintro y w1 ⟨rfl, b1⟩)
          | (go_at_call 108; refine (hI _ b1).mono ?_; rintro y w2 ⟨rfl, hw2⟩; subst w2))
        obtain ⟨⟨u, c1⟩, z1, hG⟩ := hfin _ b1
        clear hfin hF hI
        go_wp2_with fail
        go_ret
        exact ⟨rfl, hG⟩
      · rw [if_neg ha] at hE1
        rw [hD0 (by rw [hE1]; decide), hE1]
        have hs : ∀ w', Below w.heap.size w w' → QGo w w' f D g b N := fun w' hb => h.same t hb
        generalize g.B N[i].1 = q at *
        clear h t hx hE1 hD0 hk he h0 hL
        by_cases ha0 : a < 0
        · clear ha
          go_enter Tryz.func46, Tryz.ntmps46
          go_wp2_with (first
            | (go_at_call 77; refine hF.mono ?_; rintro y w1 ⟨rfl, b1⟩)
            | (go_at_call 108; refine (hI _ b1).mono ?_; rintro y w2 ⟨rfl, hw2⟩; subst w2))
          go_ret
          exact ⟨rfl, hs _ b1⟩
        · have ha1 : 200 < a := by omega
          clear ha
          go_enter Tryz.func46, Tryz.ntmps46
          go_wp2_with (first
            | (go_at_call 77; refine hF.mono ?_; rintro y w1 ⟨rfl, b1⟩)
            | (go_at_call 108; refine (hI _ b1).mono ?_; rintro y w2 ⟨rfl, hw2⟩; subst w2))
          go_ret
          exact ⟨rfl, hs _ b1⟩
    · rw [if_pos hk] at hE1
      rw [hD0 (by rw [hE1]; decide), hE1]
      have hk' : (e.kind == 1) = false := by simpa using hk
      rw [hk'] at hI
      have hs : ∀ w', Below w.heap.size w w' → QGo w w' f D g b N := fun w' hb => h.same t hb
      generalize g.B N[i].1 = q at *
      clear h t hx hE1 hD0 hk hk' he h0 hL
      go_enter Tryz.func46, Tryz.ntmps46
      go_wp2_with (first
        | (go_at_call 77; refine hF.mono ?_; rintro y w1 ⟨rfl, b1⟩)
        | (go_at_call 108; refine (hI _ b1).mono ?_; rintro y w2 ⟨rfl, hw2⟩; subst w2))
      go_ret
      exact ⟨rfl, hs _ b1⟩
  · have hx' : hasN N x = false := by simpa using hx
    have hE1 : seekE D N x a = 7 := if_neg hx
    rw [show seekD D N x a = D from if_neg (by rw [hE1]; decide), hE1]
    have hF := h.find_no t x hx'
    have hs : ∀ w', Below w.heap.size w w' → QGo w w' f D g b N := fun w' hb => h.same t hb
    clear h t hx hx' hE1
    go_enter Tryz.func46, Tryz.ntmps46
    go_wp2_with (go_at_call 77; refine hF.mono ?_; rintro y w1 ⟨rfl, b1⟩)
    go_ret
    exact ⟨rfl, hs _ b1⟩
end
end Go.Proofs.YtjkneekfijibiabGreatDoor

namespace Go.Proofs.YtjkneekfijibiabGreatDoor
open Go.RowKit Go.Maps

/-- So it stands with all tables. -/
structure Inv (D : DS) (Ts : List Ns) (k : Nat) : Prop where
  core : InvC D (fun d => cntS d Ts) k
  tab : ∀ N ∈ Ts, N.length = 8 ∧ ∀ x ∈ N, 0 ≤ x.1 ∧ (x.1 = 0 → x.2 = false)
  few : Ts.length ≤ 8
/-- A number of the table is of an ENTRY with a count. -/
def Cnted (D : DS) (N : Ns) : Prop := ∀ i (hi : i < N.length), 0 < N[i].1 → ∃ e c, D.E N[i].1 = some e ∧ D.R N[i].1 = some c ∧ 0 ≤ c ∧ c < 100000
section
variable {D : DS} {Ts : List Ns} {k j i : Nat} {d : Int} {e : En}
theorem Cnted.live {N : Ns} (h : Cnted D N) : Live D N := fun i hi h0 => by
  obtain ⟨e, c, h1, _⟩ := h i hi h0
  rw [h1]; rfl
theorem Inv.more (h : Inv D Ts k) {k' : Nat} (hk : k ≤ k') : Inv D Ts k' := ⟨h.core.more hk, h.tab, h.few⟩
theorem Inv.len (h : Inv D Ts k) (hj : j < Ts.length) : Ts[j].length = 8 := (h.tab _ (List.getElem_mem hj)).1
theorem Inv.few64 (h : Inv D Ts k) (d : Int) : cntS d Ts ≤ 64 := by
  have := cntS_le d Ts (fun N hN => (h.tab N hN).1)
  have := h.few
  omega
theorem Inv.cl (h : Inv D Ts k) (hj : j < Ts.length) (hi : i < Ts[j].length) (h0 : 0 < Ts[j][i].1) : ∃ e, Cl D Ts[j][i].1 e (cntS Ts[j][i].1 Ts) :=
  h.core.cl h0 (cntS_pos hj hi) (by have := h.few64 Ts[j][i].1; omega)
theorem Inv.cnted (h : Inv D Ts k) (hj : j < Ts.length) : Cnted D Ts[j] := fun i hi h0 => by
  obtain ⟨e, c⟩ := h.cl hj hi h0
  exact ⟨e, _, c.ent, c.cnt, by omega, c.c1⟩
theorem Inv.live (h : Inv D Ts k) (hj : j < Ts.length) : Live D Ts[j] := (h.cnted hj).live
theorem tab_set {P : Ns → Prop} {N' : Ns} (h : ∀ N ∈ Ts, P N) (hN : P N') : ∀ N ∈ Ts.set j N', P N := fun N hm => by
  rcases List.mem_or_eq_of_mem_set hm with h1 | h1
  · exact h N h1
  · rw [h1]; exact hN
theorem row_set {N : Ns} (h : N.length = 8 ∧ ∀ x ∈ N, 0 ≤ x.1 ∧ (x.1 = 0 → x.2 = false)) (y : Int × Bool) (hy : 0 ≤ y.1 ∧ (y.1 = 0 → y.2 = false)) : (N.set i y).length = 8 ∧ ∀ x ∈ N.set i y, 0 ≤ x.1 ∧ (x.1 = 0 → x.2 = false) := by
  refine ⟨by rw [List.length_set]; exact h.1, fun x hx => ?_⟩
  rcases List.mem_or_eq_of_mem_set hx with h1 | h1
  · exact h.2 x h1
  · rw [h1]; exact hy
theorem Inv.close (h : Inv D Ts k) (hk : k ≤ 900) (hj : j < Ts.length) (hi : i < Ts[j].length) (h0 : 0 < Ts[j][i].1) : Inv (closeK D Ts[j][i].1) (Ts.set j (Ts[j].set i (0, false))) k := by
  have hb := h.few64 Ts[j][i].1
  refine ⟨(h.core.close hk h0 (cntS_pos hj hi) (by omega)).congr (fun x hx => ?_), tab_set h.tab (row_set (h.tab _ (List.getElem_mem hj)) _ ⟨by simp, fun _ => rfl⟩), by rw [List.length_set]; exact h.few⟩
  have ht := cnt_turn hj hi x (0, false)
  have hp := cntS_pos hj hi
  simp only at ht ⊢
  rw [if_neg (show ¬ (0 : Int) = x by omega)] at ht
  by_cases e1 : x = Ts[j][i].1
  · rw [if_pos e1]
    rw [if_pos e1.symm] at ht
    rw [← e1]
    omega
  · rw [if_neg e1]
    rw [if_neg (fun z => e1 z.symm)] at ht
    omega
/-- One number more, at a free place. -/
theorem Inv.dup (h : Inv D Ts k) (hj : j < Ts.length) (hi : i < Ts[j].length) (h0 : Ts[j][i].1 = 0) (hd : 0 < d) (hc : 0 < cntS d Ts) (c : Bool) : Inv (incR D d) (Ts.set j (Ts[j].set i (d, c))) k := by
  refine ⟨(h.core.inc hd hc).congr (fun x hx => ?_), tab_set h.tab (row_set (h.tab _ (List.getElem_mem hj)) _ ⟨by simp; omega, fun z => by simp at z; omega⟩), by rw [List.length_set]; exact h.few⟩
  have ht := cnt_turn hj hi x (d, c)
  simp only at ht ⊢
  rw [h0, if_neg (show ¬ (0 : Int) = x by omega)] at ht
  by_cases e1 : x = d
  · subst e1
    rw [if_pos rfl] at ht ⊢
    omega
  · rw [if_neg e1]
    rw [if_neg (fun z => e1 z.symm)] at ht
    omega
/-- Dup2 onto what is another one's. -/
theorem Inv.dup2 (h : Inv D Ts k) (hk : k ≤ 900) (hj : j < Ts.length) (hi : i < Ts[j].length) (h0 : 0 < Ts[j][i].1) (hd : 0 < d) (hc : 0 < cntS d Ts) : Inv (closeK (incR D d) Ts[j][i].1) (Ts.set j (Ts[j].set i (d, false))) k ∧ ∃ e c, Cl (incR D d) Ts[j][i].1 e c := by
  have h1 := h.core.inc hd hc
  have hp := cntS_pos hj hi
  have hb := h.few64 Ts[j][i].1
  have hb2 : (if Ts[j][i].1 = d then cntS d Ts + 1 else cntS Ts[j][i].1 Ts) < 100000 := by
    by_cases e1 : Ts[j][i].1 = d
    · rw [if_pos e1, ← e1]; omega
    · rw [if_neg e1]; omega
  have hp2 : 0 < (if Ts[j][i].1 = d then cntS d Ts + 1 else cntS Ts[j][i].1 Ts) := by
    by_cases e1 : Ts[j][i].1 = d
    · rw [if_pos e1]; omega
    · rw [if_neg e1]; omega
  obtain ⟨e, cl⟩ := h1.cl h0 hp2 hb2
  refine ⟨⟨(h1.close hk h0 hp2 hb2).congr (fun x hx => ?_), tab_set h.tab (row_set (h.tab _ (List.getElem_mem hj)) _ ⟨by simp; omega, fun z => by simp at z; omega⟩), by rw [List.length_set]; exact h.few⟩, e, _, cl⟩
  have ht := cnt_turn hj hi x (d, false)
  simp only at ht ⊢
  by_cases e1 : x = Ts[j][i].1
  · rw [if_pos e1]
    rw [if_pos e1.symm] at ht
    rw [← e1]
    by_cases e2 : x = d
    · subst e2
      rw [if_pos rfl] at ht ⊢
      omega
    · rw [if_neg e2]
      rw [if_neg (fun z => e2 z.symm)] at ht
      omega
  · rw [if_neg e1]
    rw [if_neg (fun z => e1 z.symm)] at ht
    by_cases e2 : x = d
    · subst e2
      rw [if_pos rfl] at ht ⊢
      omega
    · rw [if_neg e2]
      rw [if_neg (fun z => e2 z.symm)] at ht
      omega
theorem Inv.mark (h : Inv D Ts k) (hj : j < Ts.length) (x : Int) (c : Bool) : Inv D (Ts.set j (markN Ts[j] x c)) k := by
  unfold markN
  split
  · rename_i hx
    obtain ⟨i, rfl, hi, hiL, h0⟩ := hasN_at hx (h.len hj)
    rw [getD_in hiL, show (i : Int).toNat = i by omega]
    refine ⟨h.core.congr (fun x hx => ?_), tab_set h.tab (row_set (h.tab _ (List.getElem_mem hj)) _ ⟨by simp; omega, fun z => by simp at z; omega⟩), by rw [List.length_set]; exact h.few⟩
    have ht := cnt_turn hj hiL x (Ts[j][i].1, c)
    simp only at ht ⊢
    omega
  · rw [List.set_getElem_self]; exact h
/-- An ENTRY's own turn. -/
theorem Inv.putE (h : Inv D Ts k) (he : D.E d = some e) {e' : En} (hok : EnOk D e') : Inv { D with E := fun i => if i = d then some e' else D.E i } Ts k := by
  have hs : ∀ x, (if x = d then some e' else D.E x).isSome = (D.E x).isSome := fun x => by
    by_cases e1 : x = d
    · rw [if_pos e1, e1, he]; rfl
    · rw [if_neg e1]
  refine ⟨⟨⟨h.core.giv.n0, h.core.giv.n1, fun x hx => h.core.giv.e x (by rw [← hs]; exact hx), h.core.giv.r, h.core.giv.p⟩, h.core.lv, h.core.sm, fun x ex hx => ?_, fun x hx => by show (if x = d then some e' else D.E x).isSome = true ↔ _; rw [hs]; exact h.core.cE x hx, h.core.cR⟩, h.tab, h.few⟩
  have hx' : (if x = d then some e' else D.E x) = some ex := hx
  by_cases e1 : x = d
  · rw [if_pos e1] at hx'
    obtain rfl := Option.some.inj hx'
    exact hok.same (Int.le_refl _) rfl
  · rw [if_neg e1] at hx'
    exact (h.core.ent x ex hx').same (Int.le_refl _) rfl
/-- A pipe's own turn. -/
theorem Inv.putP (h : Inv D Ts k) {p : Int} {x y : Pi} (hp : D.P p = some x) (hy : y.1.length ≤ 16 ∧ 0 ≤ y.2.1 ∧ y.2.1 < 1000 ∧ 0 ≤ y.2.2 ∧ y.2.2 < 1000) : Inv { D with P := fun i => if i = p then some y else D.P i } Ts k := by
  refine ⟨⟨⟨h.core.giv.n0, h.core.giv.n1, h.core.giv.e, h.core.giv.r, fun q hq => ?_⟩, h.core.lv, h.core.sm, fun q ex hx => (h.core.ent q ex hx).keep (Int.le_refl _) (fun r z a b c d e f => ?_), h.core.cE, h.core.cR⟩, h.tab, h.few⟩
  · have hq' : (if q = p then some y else D.P q).isSome = true := hq
    by_cases e1 : q = p
    · rw [e1]; exact h.core.giv.p p (by rw [hp]; rfl)
    · rw [if_neg e1] at hq'; exact h.core.giv.p q hq'
  · by_cases e1 : r = p
    · exact ⟨y, if_pos e1, hy⟩
    · exact ⟨z, (if_neg e1).trans a, b, c, d, e, f⟩
/-- The tree's own turn. -/
theorem Inv.putT (h : Inv D Ts k) {T' : Wd} {k' : Nat} (hT : TrLv T') (hs : Sm k' T') : Inv { D with T := T' } Ts k' :=
  ⟨⟨⟨h.core.giv.n0, h.core.giv.n1, h.core.giv.e, h.core.giv.r, h.core.giv.p⟩, hT, hs, fun q ex hx => (h.core.ent q ex hx).same (Int.le_refl _) rfl, h.core.cE, h.core.cR⟩, h.tab, h.few⟩
theorem Inv.unlink (h : Inv D Ts k) (p : List UInt8) : Inv { D with T := unlinkN D.T p } Ts (k + 1) := h.putT (h.core.lv.unlink p) (h.core.sm.unlink p)
/-- A new ENTRY, for a free number. -/
theorem Inv.add (h : Inv D Ts k) (hn : D.nx < 899) (hj : j < Ts.length) (hl : ¬ leastN Ts[j] < 0) (hok : EnOk (addD D e) e) : Inv (addD D e) (Ts.set j (addN D Ts[j])) k := by
  have g := h.core.giv
  obtain ⟨n1, n2, n3⟩ := g.new
  rcases least_lt (N := Ts[j]) with hx9 | ⟨i, hi, hiL, hi0⟩
  · omega
  have hN : addN D Ts[j] = Ts[j].set i (D.nx + 1, false) := by unfold addN; rw [hi, show (i : Int).toNat = i by omega]
  have h0 := g.n0
  have hz : cntS (D.nx + 1) Ts = 0 := by
    have := h.core.cE (D.nx + 1) (by omega)
    rw [n1] at this
    simp at this
    exact this
  rw [hN]
  have hcnt : ∀ x, 0 < x → cntS x (Ts.set j (Ts[j].set i (D.nx + 1, false))) = if x = D.nx + 1 then 1 else cntS x Ts := fun x hx => by
    have ht := cnt_turn hj hiL x (D.nx + 1, false)
    simp only at ht
    rw [hi0, if_neg (show ¬ (0 : Int) = x by omega)] at ht
    by_cases e1 : x = D.nx + 1
    · rw [if_pos e1]
      rw [if_pos e1.symm, e1, hz] at ht
      rw [e1]; omega
    · rw [if_neg e1]
      rw [if_neg (fun z => e1 z.symm)] at ht
      omega
  refine ⟨⟨g.add hn e, h.core.lv, h.core.sm, fun x ex hx => ?_, fun x hx => ?_, fun x hx => ?_⟩, tab_set h.tab (row_set (h.tab _ (List.getElem_mem hj)) _ ⟨by simp; omega, fun z => by simp at z; omega⟩), by rw [List.length_set]; exact h.few⟩
  · have hx' : (if x = D.nx + 1 then some e else D.E x) = some ex := hx
    by_cases e1 : x = D.nx + 1
    · rw [if_pos e1] at hx'
      obtain rfl := Option.some.inj hx'
      exact hok
    · rw [if_neg e1] at hx'
      exact (h.core.ent x ex hx').same (by show D.nx ≤ D.nx + 1; omega) rfl
  · show (if x = D.nx + 1 then some e else D.E x).isSome = true ↔ _
    rw [hcnt x hx]
    by_cases e1 : x = D.nx + 1
    · rw [if_pos e1, if_pos e1]; simp
    · rw [if_neg e1, if_neg e1]; exact h.core.cE x hx
  · show (if x = D.nx + 1 then some 1 else D.R x) = _
    rw [hcnt x hx]
    by_cases e1 : x = D.nx + 1
    · simp [e1]
    · rw [if_neg e1, if_neg e1, h.core.cR x hx]
theorem getT_set {Ts : List Ns} {j : Nat} (_ : j < Ts.length) (N' : Ns) (h : j < (Ts.set j N').length) : (Ts.set j N')[j] = N' := List.getElem_set_self h
theorem set_setT (Ts : List Ns) (j : Nat) (a b : Ns) : (Ts.set j a).set j b = Ts.set j b := List.set_set _
theorem Inv.setSelf (h : Inv D Ts k) (hj : j < Ts.length) : Inv D (Ts.set j Ts[j]) k := by rw [List.set_getElem_self]; exact h
/-- File keeps it. -/
theorem Inv.file {n s : Nat} {p : List UInt8} {pr : Int} {mk : Bool} {x c : Int} {D' : DS} {N' : Ns} (h : Inv D Ts k) (hk : k ≤ 890) (hn : D.nx < 899) (hj : j < Ts.length) (hs : IsNum D.T s) (hF : FileO D Ts[j] n s p pr mk x c D' N') : Inv D' (Ts.set j N') (k + 2) := by
  have hlv := h.core.lv
  have hadd : ∀ T' nd, TrLv T' → Sm (k + 2) T' → 1 ≤ pr ∧ pr ≤ 3 → 0 ≤ nd → nd < 1000 → roomy Ts[j] n → Inv (addD { D with T := T' } ⟨1, pr, nd, 0, 0⟩) (Ts.set j (addN D Ts[j])) (k + 2) := fun T' nd hT' hS' hp h0 h1 hr =>
    (h.putT (T' := T') hT' hS').add (D := { D with T := T' }) (e := ⟨1, pr, nd, 0, 0⟩) hn hj hr.1 ⟨.inl rfl, fun _ => ⟨hp.1, hp.2, h0, h1, by simp, by simp⟩, fun z => by simp at z, fun z => by simp at z, fun z => absurd rfl z⟩
  cases hF with
  | opened hp hr hE hh =>
    have hkey := hlv.key _ (findT_some hlv.toTrOk hE)
    exact hadd _ _ (hlv.hold _ (.inl rfl) (fun b x hx => by have := (h.core.sm.2 _ b x hx).1; omega)) ((h.core.sm.hold _ 1 (by omega)).more (by omega)) hp hkey.1 (by omega) hr
  | made hp hr hE hm hM z hz =>
    have hz64 : z < 64 := by
      have hmh := made_hold hlv.toTrOk hM hz
      have hs60 := (makeE_zero hlv.toTrOk hM).2.2.2
      have h9 := hs.free (k := z.toNat) (fun i hi => hz.least i (by omega) (by have := hz.pos; omega))
      have := hz.pos
      omega
    have hlv1 := hlv.make hM hz hz64 false
    have hmh := made_hold hlv.toTrOk hM hz
    exact hadd _ _ (hlv1.hold _ (.inl rfl) (fun b x hx => by have := hmh.2 b x hx; omega)) ((h.core.sm.make p false z).hold _ 1 (by omega)) hp hz.pos (by omega) hr
  | _ => exact (h.setSelf hj).more (by omega)
end
end Go.Proofs.YtjkneekfijibiabGreatDoor

/- Package desc: Close, Mark, Seek, Dup, Dup2, by their Go texts. -/
import Derived.Test.YtjkneekfijibiabGreatDoorQLeave
namespace Go.Proofs.YtjkneekfijibiabGreatDoor
open Go.RowKit Go.Maps

section
variable {w w' w2 : World} {f b n : Nat} {D D' : DS} {g g' : QG} {M N N' : Ns} {d k : Int} {e : En}
theorem QF.same (h : QF w f D g n) (t : QTb w b g M N) (hb : Below w.heap.size w w') : QGo w w' f D g b N := ⟨⟨g, n, M, h.below hb, t.below hb, Ext.refl _ _ _⟩, Wt.below _ hb⟩
theorem QGo.upon (hb : Below w.heap.size w w') (h : QGo w' w2 f D' g b N') : QGo w w2 f D' g b N' := by
  obtain ⟨⟨g', n', M', a, c, x⟩, wt⟩ := h
  exact ⟨⟨g', n', M', a, c, ⟨fun i hi => x.kap i (Nat.lt_of_lt_of_le hi hb.size), x.key, x.r⟩⟩, (Wt.below _ hb).trans wt⟩
set_option maxRecDepth 100000 in
set_option maxHeartbeats 4000000 in
theorem QF.close_no (h : QF w f D g n) (t : QTb w b g M N) (x : Int) (hx : hasN N x = false) : Calls Tryz.prog 47 #[wp f, wp b, .int .i64 x] w fun y w' => y = .returned (uer 7) ∧ QGo w w' f D g b N := by
  have hF := h.find_no t x hx
  have hs : ∀ w', Below w.heap.size w w' → QGo w w' f D g b N := fun w' hb => h.same t hb
  clear h t hx
  go_enter Tryz.func47, Tryz.ntmps47
  go_wp2_with (go_at_call 77; refine hF.mono ?_; rintro y w1 ⟨rfl, b1⟩)
  go_ret
  exact ⟨rfl, hs _ b1⟩
set_option maxRecDepth 100000 in
set_option maxHeartbeats 4000000 in
theorem QF.close_ok (h : QF w f D g n) (t : QTb w b g M N) {i : Nat} (hi : i < 8) (hiL : i < N.length) (h0 : 0 < N[i].1) {c : Int} (hc : Cl D N[i].1 e c) (hl : Live (closeK D N[i].1) (N.set i (0, false))) :
    Calls Tryz.prog 47 #[wp f, wp b, .int .i64 (i : Int)] w fun y w' => y = .returned .nilIface ∧ QGo w w' f (closeK D N[i].1) g b (N.set i (0, false)) := by
  have hF := h.find_yes t hi hiL h0
  have hFr : ∀ V, Below w.heap.size w V → Calls Tryz.prog 101 #[wp f, wp b, .int .i64 (i : Int)] V fun x w' => x = .returned (.tuple #[]) ∧ QGo w w' f (closeK D N[i].1) g b (N.set i (0, false)) := fun V hV => by
    refine ((h.below hV).free_ok (t.below hV) hi hiL h0 hc hl).mono ?_
    rintro x w' ⟨rfl, hG⟩
    exact ⟨rfl, hG.upon hV⟩
  generalize closeK D N[i].1 = D2 at *
  generalize N.set i (0, false) = N2 at *
  generalize g.B N[i].1 = q at *
  clear h t hc hl h0
  go_enter Tryz.func47, Tryz.ntmps47
  go_wp2_with (first
    | (go_at_call 77; refine hF.mono ?_; rintro y w1 ⟨rfl, b1⟩)
    | (go_at_call 101; refine (hFr _ b1).mono ?_; rintro y w2 ⟨rfl, hG⟩))
  go_ret
  exact ⟨rfl, hG⟩
set_option maxRecDepth 100000 in
set_option maxHeartbeats 4000000 in
theorem QF.mark_ok (h : QF w f D g n) (t : QTb w b g M N) (x : Int) (c : Bool) : Calls Tryz.prog 85 #[wp f, wp b, .int .i64 x, .bool c] w fun y w' => y = .returned (uev (if hasN N x = true then 0 else 7)) ∧ QGo w w' f D g b (markN N x c) := by
  by_cases hx : hasN N x = true
  · obtain ⟨i, rfl, hi, hiL, h0⟩ := hasN_at hx t.len
    rw [if_pos hx]
    have hmN : markN N i c = N.set i (N[i].1, c) := by
      unfold markN
      rw [if_pos hx, getD_in hiL, show (i : Int).toNat = i by omega]
    rw [hmN]
    have hM : i < M.length := by have := t.tab.len; omega
    have hk := t.keyOf hM hiL h0
    obtain ⟨_, hk0, _⟩ := h.key _ _ hk
    have hF := h.find_yes t hi hiL h0
    have hfin : ∀ V, Below w.heap.size w V → (∃ u, V.cell? ⟨b, i * 2 + 1, none⟩ = some u) ∧ V.frozen? ⟨b, i * 2 + 1, none⟩ = false ∧ QGo w (V.setCell ⟨b, i * 2 + 1, none⟩ (.bool c)) f D g b (N.set i (N[i].1, c)) := fun V hV => by
      have tV := t.below hV
      have t2 := tV.set (i := i) (M[i].1, c) (N[i].1, c) (tV.tab.mark hi c (by omega)) ⟨rfl, .inr ⟨h0, hk⟩⟩
      have gg := tgrown_set V b (i * 2 + 1) (.bool c)
      exact ⟨⟨_, (tV.tab.at hi).2⟩, tV.tab.free _, ⟨⟨g, n, _, (h.below hV).offTab t.off gg, t2, Ext.refl _ _ _⟩, (Wt.below _ hV).trans (Wt.grown gg (.inr rfl))⟩⟩
    generalize N.set i (N[i].1, c) = N2 at *
    generalize g.B N[i].1 = q at *
    have hi8 : (i : Int) < 8 := by omega
    clear h t hx hmN hk h0
    go_enter Tryz.func85, Tryz.ntmps85
    go_upto_region 4 with (go_at_call 77; refine hF.mono ?_; rintro y w1 ⟨rfl, b1⟩)
    obtain ⟨⟨u, c1⟩, z1, hG⟩ := hfin _ b1
    clear hfin hF
    go_wp2_with fail
    go_ret
    exact ⟨rfl, hG⟩
  · have hx' : hasN N x = false := by simpa using hx
    rw [if_neg hx, show markN N x c = N from if_neg hx]
    have hF := h.find_no t x hx'
    have hs : ∀ w', Below w.heap.size w w' → QGo w w' f D g b N := fun w' hb => h.same t hb
    clear h t hx hx'
    go_enter Tryz.func85, Tryz.ntmps85
    go_wp2_with (go_at_call 77; refine hF.mono ?_; rintro y w1 ⟨rfl, b1⟩)
    go_ret
    exact ⟨rfl, hs _ b1⟩
set_option maxRecDepth 100000 in
set_option maxHeartbeats 4000000 in
theorem QF.seek_ok (h : QF w f D g n) (t : QTb w b g M N) (x a : Int) (hL : Live D N) : Calls Tryz.prog 46 #[wp f, wp b, .int .i64 x, .int .i64 a] w fun y w' => y = .returned (uev (seekE D N x a)) ∧ QGo w w' f (seekD D N x a) g b N := by
  by_cases hx : hasN N x = true
  · obtain ⟨i, rfl, hi, hiL, h0⟩ := hasN_at hx t.len
    obtain ⟨e, he⟩ := Option.isSome_iff_exists.1 (hL i hiL h0)
    have hF := h.find_yes t hi hiL h0
    have hI : ∀ V, Below w.heap.size w V → Calls Tryz.prog 108 #[wp (g.B N[i].1)] V fun x w' => x = .returned (.bool (e.kind == 1)) ∧ w' = V := fun V hV => (h.below hV).isFile_ok he
    have hE1 : seekE D N i a = if e.kind ≠ 1 then 6 else if 0 ≤ a ∧ a ≤ 200 then 0 else 2 := by
      unfold seekE; rw [if_pos hx, getD_in hiL, he]
    have hD0 : seekE D N i a ≠ 0 → seekD D N i a = D := fun h => if_neg h
    by_cases hk : e.kind = 1
    · rw [hk] at hI
      rw [if_neg (fun z => z hk)] at hE1
      by_cases ha : 0 ≤ a ∧ a ≤ 200
      · rw [if_pos ha] at hE1
        have hD1 : seekD D N i a = { D with E := fun j => if j = N[i].1 then some { e with pos := a } else D.E j } := by
          unfold seekD; rw [if_pos hE1, getD_in hiL, he]
        rw [hE1, hD1]
        obtain ⟨c, hc, _, hkb⟩ := h.ent _ e he
        have hfin : ∀ V, Below w.heap.size w V → (∃ u, V.cell? ⟨g.B N[i].1, 4, none⟩ = some u) ∧ V.frozen? ⟨g.B N[i].1, 4, none⟩ = false ∧ QGo w (V.setCell ⟨g.B N[i].1, 4, none⟩ (.int .i64 a)) f { D with E := fun j => if j = N[i].1 then some { e with pos := a } else D.E j } g b N := fun V hV => by
          have hV' := h.below hV
          obtain ⟨_, _, _, _, e4, _, ez⟩ := hV'.ecell he hc
          have gg := tgrown_set V (g.B N[i].1) 4 (.int .i64 a)
          exact ⟨⟨_, e4⟩, ez 4, ⟨⟨g, n, M, hV'.place he a, (t.below hV).offOwn (by rw [hkb]; rfl) gg, Ext.refl _ _ _⟩, (Wt.below _ hV).trans (Wt.grown gg (.inl (by rw [hkb]; rfl)))⟩⟩
        generalize ({ D with E := fun j => if j = N[i].1 then some { e with pos := a } else D.E j } : DS) = D2 at *
        generalize g.B N[i].1 = q at *
        obtain ⟨ha0, ha1⟩ := ha
        clear h t hx hE1 hD1 hD0 hkb hk hc he h0 hL
        go_enter Tryz.func46, Tryz.ntmps46
        go_upto_region 8 with (first
          | (go_at_call 77; refine hF.mono ?_; rintro y w1 ⟨rfl, b1⟩)
          | (go_at_call 108; refine (hI _ b1).mono ?_; rintro y w2 ⟨rfl, hw2⟩; subst w2))
        obtain ⟨⟨u, c1⟩, z1, hG⟩ := hfin _ b1
        clear hfin hF hI
        go_wp2_with fail
        go_ret
        exact ⟨rfl, hG⟩
      · rw [if_neg ha] at hE1
        rw [hD0 (by rw [hE1]; decide), hE1]
        have hs : ∀ w', Below w.heap.size w w' → QGo w w' f D g b N := fun w' hb => h.same t hb
        generalize g.B N[i].1 = q at *
        clear h t hx hE1 hD0 hk he h0 hL
        by_cases ha0 : a < 0
        · clear ha
          go_enter Tryz.func46, Tryz.ntmps46
          go_wp2_with (first
            | (go_at_call 77; refine hF.mono ?_; rintro y w1 ⟨rfl, b1⟩)
            | (go_at_call 108; refine (hI _ b1).mono ?_; rintro y w2 ⟨rfl, hw2⟩; subst w2))
          go_ret
          exact ⟨rfl, hs _ b1⟩
        · have ha1 : 200 < a := by omega
          clear ha
          go_enter Tryz.func46, Tryz.ntmps46
          go_wp2_with (first
            | (go_at_call 77; refine hF.mono ?_; rintro y w1 ⟨rfl, b1⟩)
            | (go_at_call 108; refine (hI _ b1).mono ?_; rintro y w2 ⟨rfl, hw2⟩; subst w2))
          go_ret
          exact ⟨rfl, hs _ b1⟩
    · rw [if_pos hk] at hE1
      rw [hD0 (by rw [hE1]; decide), hE1]
      have hk' : (e.kind == 1) = false := by simpa using hk
      rw [hk'] at hI
      have hs : ∀ w', Below w.heap.size w w' → QGo w w' f D g b N := fun w' hb => h.same t hb
      generalize g.B N[i].1 = q at *
      clear h t hx hE1 hD0 hk hk' he h0 hL
      go_enter Tryz.func46, Tryz.ntmps46
      go_wp2_with (first
        | (go_at_call 77; refine hF.mono ?_; rintro y w1 ⟨rfl, b1⟩)
        | (go_at_call 108; refine (hI _ b1).mono ?_; rintro y w2 ⟨rfl, hw2⟩; subst w2))
      go_ret
      exact ⟨rfl, hs _ b1⟩
  · have hx' : hasN N x = false := by simpa using hx
    have hE1 : seekE D N x a = 7 := if_neg hx
    rw [show seekD D N x a = D from if_neg (by rw [hE1]; decide), hE1]
    have hF := h.find_no t x hx'
    have hs : ∀ w', Below w.heap.size w w' → QGo w w' f D g b N := fun w' hb => h.same t hb
    clear h t hx hx' hE1
    go_enter Tryz.func46, Tryz.ntmps46
    go_wp2_with (go_at_call 77; refine hF.mono ?_; rintro y w1 ⟨rfl, b1⟩)
    go_ret
    exact ⟨rfl, hs _ b1⟩
end
end Go.Proofs.YtjkneekfijibiabGreatDoor

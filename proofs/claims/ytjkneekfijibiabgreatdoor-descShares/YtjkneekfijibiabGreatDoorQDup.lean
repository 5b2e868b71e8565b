/- Package desc: Dup, Dup2, by their Go texts. -/
import Derived.Test.YtjkneekfijibiabGreatDoorQClose
import Derived.Test.YtjkneekfijibiabGreatDoorDInv3
namespace Go.Proofs.YtjkneekfijibiabGreatDoor
open Go.RowKit Go.Maps

section
variable {w w' w2 : World} {f b n : Nat} {D D' : DS} {g g' : QG} {M N N' : Ns} {d k : Int} {e : En}
/-- give, for what is asked: a table's number is of an ENTRY. -/
theorem QF.give_go (h : QF w f D g n) (t : QTb w b g M N) {i : Nat} (hi : i < 8) (hk : g.K k = some d) (hd : 0 < d) (he : D.E d = some e) {c : Int} (hc : D.R d = some c) (hc0 : 0 ≤ c) (hc1 : c < 100000) :
    Calls Tryz.prog 78 #[wp f, wp b, .int .i64 (i : Int), .int .i64 k] w fun x w' => x = .returned (.tuple #[]) ∧ QF w' f (incR D d) g n ∧ QTb w' b g (M.set i (k, false)) (N.set i (d, false)) ∧ QGo w w' f (incR D d) g b (N.set i (d, false)) := by
  rw [incR_eq hc]
  refine (h.give_ok t hi hk hd he hc hc0 hc1).mono ?_
  rintro x w' ⟨rfl, a1, a2, wt⟩
  exact ⟨rfl, a1, a2, ⟨g, n, _, a1, a2, Ext.refl _ _ _⟩, wt⟩
theorem dupD_inc (hx : dupE N k = 0) : dupD D N k = incR D (N.getD k.toNat (0, false)).1 := if_pos hx

set_option maxRecDepth 100000 in
set_option maxHeartbeats 4000000 in
theorem QF.dup_ok (h : QF w f D g n) (t : QTb w b g M N) (x : Int) (hC : Cnted D N) :
    Calls Tryz.prog 43 #[wp f, wp b, .int .i64 x] w fun y w' => y = .returned (.tuple #[.int .i64 (dupK N x), uev (dupE N x)]) ∧ QGo w w' f (dupD D N x) g b (dupN N x) := by
  have hs : ∀ w', Below w.heap.size w w' → QGo w w' f D g b N := fun w' hb => h.same t hb
  have hLs : ∀ V, Below w.heap.size w V → Calls Tryz.prog 106 #[wp b] V fun y w' => y = .returned (.tuple #[.int .i64 (leastN N), .bool (decide (0 ≤ leastN N))]) ∧ Below w.heap.size w w' := fun V hV => by
    refine ((t.below hV).least_ok (h.below hV)).mono ?_
    rintro y w' ⟨rfl, b1⟩
    exact ⟨rfl, hV.trans (b1.mono hV.size)⟩
  by_cases hx : hasN N x = true
  · obtain ⟨i, rfl, hi, hiL, h0⟩ := hasN_at hx t.len
    have hF := h.find_yes t hi hiL h0
    obtain ⟨e, c, he, hc, hc0, hc1⟩ := hC i hiL h0
    have hM : i < M.length := by have := t.tab.len; omega
    have hk := t.keyOf hM hiL h0
    rcases least_lt (N := N) with hl | ⟨j, hl, hjL, hj0⟩
    · have e1 : dupE N i = 12 := by unfold dupE; rw [if_pos hx, hl]; rfl
      have e2 : dupD D N i = D := by unfold dupD; rw [if_neg (by rw [e1]; decide)]
      have e3 : dupN N i = N := by unfold dupN; rw [if_neg (by rw [e1]; decide)]
      have e4 : dupK N i = 0 := by unfold dupK; rw [if_neg (by rw [e1]; decide)]
      rw [e1, e2, e3, e4]
      rw [hl] at hLs
      generalize g.B N[i].1 = q at *
      clear h t hC e1 e2 e3 e4 hl he hc hc0 hc1 hk h0 hx
      go_enter Tryz.func43, Tryz.ntmps43
      go_wp2_with (first
        | (go_at_call 77; refine hF.mono ?_; rintro y w1 ⟨rfl, b1⟩)
        | (go_at_call 106; refine (hLs _ b1).mono ?_; rintro y w2 ⟨rfl, b2⟩))
      go_ret2
      exact ⟨rfl, hs _ b2⟩
    · have hj8 : j < 8 := by have := t.len; omega
      have e1 : dupE N i = 0 := by unfold dupE; rw [if_pos hx, hl, if_neg (by omega)]
      have e2 : dupD D N i = incR D N[i].1 := by rw [dupD_inc e1, getD_in hiL]
      have e3 : dupN N i = N.set j (N[i].1, false) := by unfold dupN; rw [if_pos e1, getD_in hiL, hl, show (j : Int).toNat = j by omega]
      have e4 : dupK N i = j := by unfold dupK; rw [if_pos e1, hl]
      rw [e1, e2, e3, e4]
      rw [hl, show decide ((0 : Int) ≤ (j : Int)) = true by simp] at hLs
      have hcell : ∀ V, Below w.heap.size w V → V.cell? ⟨b, i * 2, none⟩ = some (.int .i64 M[i].1) ∧ Calls Tryz.prog 78 #[wp f, wp b, .int .i64 (j : Int), .int .i64 M[i].1] V fun x w' => x = .returned (.tuple #[]) ∧ QGo w w' f (incR D N[i].1) g b (N.set j (N[i].1, false)) := fun V hV => by
        refine ⟨((t.below hV).tab.at hi).1, ((h.below hV).give_go (t.below hV) hj8 hk h0 he hc hc0 hc1).mono ?_⟩
        rintro x w' ⟨rfl, _, _, hG⟩
        exact ⟨rfl, hG.upon hV⟩
      generalize incR D N[i].1 = D2 at *
      generalize N.set j (N[i].1, false) = N2 at *
      generalize g.B N[i].1 = q at *
      generalize M[i].1 = X at *
      have hi8 : (i : Int) < 8 := by omega
      clear h t hC e1 e2 e3 e4 hl he hc hc0 hc1 hk h0 hx hj0 hs
      go_enter Tryz.func43, Tryz.ntmps43
      go_upto_region 7 with (first
        | (go_at_call 77; refine hF.mono ?_; rintro y w1 ⟨rfl, b1⟩)
        | (go_at_call 106; refine (hLs _ b1).mono ?_; rintro y w2 ⟨rfl, b2⟩))
      obtain ⟨c0, hGv⟩ := hcell _ b2
      clear hcell hLs hF
      go_wp2_with (go_at_call 78; refine hGv.mono ?_; rintro y w3 ⟨rfl, hG⟩)
      go_ret2
      exact ⟨rfl, hG⟩
  · have hx' : hasN N x = false := by simpa using hx
    have e1 : dupE N x = 7 := if_neg hx
    have e2 : dupD D N x = D := by unfold dupD; rw [if_neg (by rw [e1]; decide)]
    have e3 : dupN N x = N := by unfold dupN; rw [if_neg (by rw [e1]; decide)]
    have e4 : dupK N x = 0 := by unfold dupK; rw [if_neg (by rw [e1]; decide)]
    rw [e1, e2, e3, e4]
    have hF := h.find_no t x hx'
    clear h t hx hx' e1 e2 e3 e4 hC hLs
    go_enter Tryz.func43, Tryz.ntmps43
    go_wp2_with (go_at_call 77; refine hF.mono ?_; rintro y w1 ⟨rfl, b1⟩)
    go_ret2
    exact ⟨rfl, hs _ b1⟩
set_option maxRecDepth 100000 in
set_option maxHeartbeats 4000000 in
theorem QF.dup2_no (h : QF w f D g n) (t : QTb w b g M N) (x y : Int) (hx : hasN N x = false) : Calls Tryz.prog 83 #[wp f, wp b, .int .i64 x, .int .i64 y] w fun z w' => z = .returned (uer 7) ∧ QGo w w' f D g b N := by
  have hF := h.find_no t x hx
  have hs : ∀ w', Below w.heap.size w w' → QGo w w' f D g b N := fun w' hb => h.same t hb
  clear h t hx
  go_enter Tryz.func83, Tryz.ntmps83
  go_wp2_with (go_at_call 77; refine hF.mono ?_; rintro y w1 ⟨rfl, b1⟩)
  go_ret
  exact ⟨rfl, hs _ b1⟩
set_option maxRecDepth 100000 in
set_option maxHeartbeats 4000000 in
theorem QF.dup2_range (h : QF w f D g n) (t : QTb w b g M N) (x y : Int) (hx : hasN N x = true) (hy : ¬ (0 ≤ y ∧ y ≤ 7)) : Calls Tryz.prog 83 #[wp f, wp b, .int .i64 x, .int .i64 y] w fun z w' => z = .returned (uer 2) ∧ QGo w w' f D g b N := by
  obtain ⟨i, rfl, hi, hiL, h0⟩ := hasN_at hx t.len
  have hF := h.find_yes t hi hiL h0
  have hs : ∀ w', Below w.heap.size w w' → QGo w w' f D g b N := fun w' hb => h.same t hb
  generalize g.B N[i].1 = q at *
  clear h t hx h0
  by_cases hy0 : y < 0
  · clear hy
    go_enter Tryz.func83, Tryz.ntmps83
    go_wp2_with (go_at_call 77; refine hF.mono ?_; rintro y w1 ⟨rfl, b1⟩)
    go_ret
    exact ⟨rfl, hs _ b1⟩
  · have hy8 : 8 ≤ y := by omega
    clear hy
    go_enter Tryz.func83, Tryz.ntmps83
    go_wp2_with (go_at_call 77; refine hF.mono ?_; rintro y w1 ⟨rfl, b1⟩)
    go_ret
    exact ⟨rfl, hs _ b1⟩
set_option maxRecDepth 100000 in
set_option maxHeartbeats 4000000 in
theorem QF.dup2_same (h : QF w f D g n) (t : QTb w b g M N) (x : Int) (hx : hasN N x = true) : Calls Tryz.prog 83 #[wp f, wp b, .int .i64 x, .int .i64 x] w fun z w' => z = .returned .nilIface ∧ QGo w w' f D g b N := by
  obtain ⟨i, rfl, hi, hiL, h0⟩ := hasN_at hx t.len
  have hF := h.find_yes t hi hiL h0
  have hs : ∀ w', Below w.heap.size w w' → QGo w w' f D g b N := fun w' hb => h.same t hb
  generalize g.B N[i].1 = q at *
  clear h t hx h0
  have hi8 : (i : Int) < 8 := by omega
  go_enter Tryz.func83, Tryz.ntmps83
  go_wp2_with (go_at_call 77; refine hF.mono ?_; rintro y w1 ⟨rfl, b1⟩)
  go_ret
  exact ⟨rfl, hs _ b1⟩
set_option maxRecDepth 100000 in
set_option maxHeartbeats 4000000 in
theorem QF.dup2_go (h : QF w f D g n) (t : QTb w b g M N) {i j : Nat} (hi : i < 8) (hj : j < 8) (hiL : i < N.length) (hjL : j < N.length) (hne : i ≠ j) (h0 : 0 < N[i].1) (hC : Cnted D N) {D2 : DS}
    (hD2 : (N[j].1 = 0 ∧ D2 = incR D N[i].1) ∨ (0 < N[j].1 ∧ D2 = closeK (incR D N[i].1) N[j].1 ∧ (∃ e c, Cl (incR D N[i].1) N[j].1 e c))) (hl : Live D2 (N.set j (N[i].1, false))) :
    Calls Tryz.prog 83 #[wp f, wp b, .int .i64 (i : Int), .int .i64 (j : Int)] w fun z w' => z = .returned .nilIface ∧ QGo w w' f D2 g b (N.set j (N[i].1, false)) := by
  have hF := h.find_yes t hi hiL h0
  obtain ⟨e, c, he, hc, hc0, hc1⟩ := hC i hiL h0
  have hM : i < M.length := by have := t.tab.len; omega
  have hMj : j < M.length := by have := t.tab.len; omega
  have hk := t.keyOf hM hiL h0
  have hcell : ∀ V, Below w.heap.size w V → V.cell? ⟨b, i * 2, none⟩ = some (.int .i64 M[i].1) ∧ V.cell? ⟨b, j * 2, none⟩ = some (.int .i64 M[j].1) ∧ Calls Tryz.prog 78 #[wp f, wp b, .int .i64 (j : Int), .int .i64 M[i].1] V fun x w' => x = .returned (.tuple #[]) ∧ Calls Tryz.prog 131 #[wp f, .int .i64 M[j].1] w' fun y w2 => y = .returned (.tuple #[]) ∧ QGo w w2 f D2 g b (N.set j (N[i].1, false)) := fun V hV => by
    refine ⟨((t.below hV).tab.at hi).1, ((t.below hV).tab.at hj).1, ((h.below hV).give_go (t.below hV) hj hk h0 he hc hc0 hc1).mono ?_⟩
    rintro x w' ⟨rfl, a1, a2, hG⟩
    refine ⟨rfl, ?_⟩
    rcases hD2 with ⟨z0, rfl⟩ | ⟨z0, rfl, e2, c2, hcl⟩
    · have hz := (t.pos h j hMj hjL).2.2 z0
      rw [hz]
      refine a1.leave_none.mono ?_
      rintro y w2 ⟨rfl, rfl⟩
      exact ⟨rfl, hG.upon hV⟩
    · refine (a1.leave_ok (t.keyOf hMj hjL z0) hcl).mono ?_
      rintro y w2 ⟨rfl, ⟨g', n', b1, b2⟩, wt2⟩
      have hsz := hG.wt.size
      have hsV := hV.size
      refine ⟨rfl, ⟨⟨g', n', _, b1, a2.other b2 (wt2.block b a2.tab.lt (by rw [t.off]; simp)) hl, ⟨fun x hx => b2.kap x (by omega), b2.key, b2.r⟩⟩, (Wt.below _ hV).trans (hG.wt.trans (wt2.mono (fun x hx => .inl hx)))⟩⟩
  generalize N.set j (N[i].1, false) = N2 at *
  generalize g.B N[i].1 = q at *
  generalize M[i].1 = X at *
  generalize M[j].1 = Y at *
  have hi8 : (i : Int) < 8 := by omega
  have hj8 : (j : Int) < 8 := by omega
  have hij : ((i : Int) == (j : Int)) = false := by simp; omega
  clear h t hC hD2 hl he hc hc0 hc1 hk h0 hne
  go_enter Tryz.func83, Tryz.ntmps83
  go_upto_region 8 with (go_at_call 77; refine hF.mono ?_; rintro y w1 ⟨rfl, b1⟩)
  obtain ⟨c0, c1, hGv⟩ := hcell _ b1
  clear hcell hF
  go_wp2_with (first
    | (go_at_call 78; refine hGv.mono ?_; rintro y w3 ⟨rfl, hLv⟩)
    | (go_at_call 131; refine hLv.mono ?_; rintro y w4 ⟨rfl, hG⟩))
  go_ret
  exact ⟨rfl, hG⟩
end
end Go.Proofs.YtjkneekfijibiabGreatDoor

/- Package desc: Dup, Dup2, by their Go texts. -/
import Derived.Test.YtjkneekfijibiabGreatDoorQClose
import Derived.Test.YtjkneekfijibiabGreatDoorDFree
namespace Go.Proofs.YtjkneekfijibiabGreatDoor
open Go.RowKit Go.Maps

section
variable {w w' w2 : World} {f b n : Nat} {D D' : DS} {g g' : QG} {M N N' : Ns} {d k : Int} {e : En}
/-- give, for what is asked: a table's number is of an ENTRY. -/
theorem QF.give_go (h : QF w f D g n) (t : QTb w b g M N) {i : Nat} (hi : i < 8) (hk : g.K k = some d) (hd : 0 < d) (he : D.E d = some e) {c : Int} (hc : D.R d = some c) (hc0 : 0 ≤ c) (hc1 : c < 100000) :
    Calls Tryz.prog 78 #[wp f, wp b, .int .i64 (i : Int), .int .i64 k] w fun x w' => x = .returned (.tuple #[]) ∧ QF w' f (incR D d) g n ∧ QTb w' b g (M.set i (k, false)) (N.set i (d, false)) ∧ QGo w w' f (incR D d) g b (N.set i (d, false)) := by
  rw [incR_eq hc]
  refine (h.give_ok t hi hk hd he hc hc0 hc1).mono ?_
  rintro x w' ⟨rfl, a1, a2, wt⟩
  exact ⟨rfl, a1, a2, ⟨g, n, _, a1, a2, Ext.refl _ _ _⟩, wt⟩
theorem dupD_inc (hx : dupE N k = 0) : dupD D N k = incR D (N.getD k.toNat (0, false)).1 := if_pos hx

set_option maxRecDepth 100000 in
set_option maxHeartbeats 4000000 in
theorem QF.dup_ok (h : QF w f D g n) (t : QTb w b g M N) (x : Int) (hC : Cnted D N) :
    Calls Tryz.prog 43 #[wp f, wp b, .int .i64 x] w fun y w' => y = .returned (.tuple #[.int .i64 (dupK N x), uev (dupE N x)]) ∧ QGo w w' f (dupD D N x) g b (dupN N x) := by
  have hs : ∀ w', Below w.heap.size w w' → QGo w w' f D g b N := fun w' hb => h.same t hb
  have hLs : ∀ V, Below w.heap.size w V → Calls Tryz.prog 106 #[wp b] V fun y w' => y = .returned (.tuple #[.int .i64 (leastN N), .bool (decide (0 ≤ leastN N))]) ∧ Below w.heap.size w w' := fun V hV => by
    refine ((t.below hV).least_ok (h.below hV)).mono ?_
    rintro y w' ⟨rfl, b1⟩
    exact ⟨rfl, hV.trans (b1.mono hV.size)⟩
  by_cases hx : hasN N x = true
  · obtain ⟨i, rfl, hi, hiL, h0⟩ := hasN_at hx t.len
    have hF := h.find_yes t hi hiL h0
    obtain ⟨e, c, he, hc, hc0, hc1⟩ := hC i hiL h0
    have hM : i < M.length := by have := t.tab.len; omega
    have hk := t.keyOf hM hiL h0
    rcases least_lt (N := N) with hl | ⟨j, hl, hjL, hj0⟩
    · have e1 : dupE N i = 12 := by unfold dupE; rw [if_pos hx, hl]; rfl
      have e2 : dupD D N i = D := by unfold dupD; rw [if_neg (by rw [e1]; decide)]
      have e3 : dupN N i = N := by unfold dupN; rw [if_neg (by rw [e1]; decide)]
      have e4 : dupK N i = 0 := by unfold dupK; rw [if_neg (by rw [e1]; decide)]
      rw [e1, e2, e3, e4]
      rw [hl] at hLs
      generalize g.B N[i].1 = q at *
      clear h t hC e1 e2 e3 e4 hl he hc hc0 hc1 hk h0 hx
      go_enter Tryz.func43, Tryz.ntmps43
      go_wp2_with (first
        | (go_at_call 77; refine hF.mono ?_; rintro y w1 ⟨rfl, b1⟩)
        | (go_at_call 106; refine (hLs _ b1).mono ?_; rintro y w2 ⟨rfl, b2⟩))
      go_ret2
      exact ⟨rfl, hs _ b2⟩
    · have hj8 : j < 8 := by have := t.len; omega
      have e1 : dupE N i = 0 := by unfold dupE; rw [if_pos hx, hl, if_neg (by omega)]
      have e2 : dupD D N i = incR D N[i].1 := by rw [dupD_inc e1, getD_in hiL]
      have e3 : dupN N i = N.set j (N[i].1, false) := by unfold dupN; rw [if_pos e1, getD_in hiL, hl, show (j : Int).toNat = j by omega]
      have e4 : dupK N i = j := by unfold dupK; rw [if_pos e1, hl]
      rw [e1, e2, e3, e4]
      rw [hl, show decide ((0 : Int) ≤ (j : Int)) = true by simp] at hLs
      have hcell : ∀ V, Below w.heap.size w V → V.cell? ⟨b, i * 2, none⟩ = some (.int .i64 M[i].1) ∧ Calls Tryz.prog 78 #[wp f, wp b, .int .i64 (j : Int), .int .i64 M[i].1] V fun x w' => x = .returned (.tuple #[]) ∧ QGo w w' f (incR D N[i].1) g b (N.set j (N[i].1, false)) := fun V hV => by
        refine ⟨((t.below hV).tab.at hi).1, ((h.below hV).give_go (t.below hV) hj8 hk h0 he hc hc0 hc1).mono ?_⟩
        rintro x w' ⟨rfl, _, _, hG⟩
        exact ⟨rfl, hG.upon hV⟩
      generalize incR D N[i].1 = D2 at *
      generalize N.set j (N[i].1, false) = N2 at *
      generalize g.B N[i].1 = q at *
      generalize M[i].1 = X at *
      have hi8 : (i : Int) < 8 := by omega
      clear h t hC e1 e2 e3 e4 hl he hc hc0 hc1 hk h0 hx hj0 hs
      go_enter Tryz.func43, Tryz.ntmps43
      go_upto_region 7 with (first
        | (go_at_call 77; refine hF.mono ?_; rintro y w1 ⟨rfl, b1⟩)
        | (go_at_call 106; refine (hLs _ b1).mono ?_; rintro y w2 ⟨rfl, b2⟩))
      obtain ⟨c0, hGv⟩ := hcell _ b2
      clear hcell hLs hF
      go_wp2_with (go_at_call 78; refine hGv.mono ?_; rintro y w3 ⟨rfl, hG⟩)
      go_ret2
      exact ⟨rfl, hG⟩
  · have hx' : hasN N x = false := by simpa using hx
    have e1 : dupE N x = 7 := if_neg hx
    have e2 : dupD D N x = D := by unfold dupD; rw [if_neg (by rw [e1]; decide)]
    have e3 : dupN N x = N := by unfold dupN; rw [if_neg (by rw [e1]; decide)]
    have e4 : dupK N x = 0 := by unfold dupK; rw [if_neg (by rw [e1]; decide)]
    rw [e1, e2, e3, e4]
    have hF := h.find_no t x hx'
    clear h t hx hx' e1 e2 e3 e4 hC hLs
    go_enter Tryz.func43, Tryz.ntmps43
    go_wp2_with (go_at_call 77; refine hF.mono ?_; rintro y w1 ⟨rfl, b1⟩)
    go_ret2
    exact ⟨rfl, hs _ b1⟩
set_option maxRecDepth 100000 in
set_option maxHeartbeats 4000000 in
theorem QF.dup2_no (h : QF w f D g n) (t : QTb w b g M N) (x y : Int) (hx : hasN N x = false) : Calls Tryz.prog 83 #[wp f, wp b, .int .i64 x, .int .i64 y] w fun z w' => z = .returned (uer 7) ∧ QGo w w' f D g b N := by
  have hF := h.find_no t x hx
  have hs : ∀ w', Below w.heap.size w w' → QGo w w' f D g b N := fun w' hb => h.same t hb
  clear h t hx
  go_enter Tryz.func83, Tryz.ntmps83
  go_wp2_with (go_at_call 77; refine hF.mono ?_; rintro y w1 ⟨rfl, b1⟩)
  go_ret
  exact ⟨rfl, hs _ b1⟩
set_option maxRecDepth 100000 in
set_option maxHeartbeats 4000000 in
theorem QF.dup2_range (h : QF w f D g n) (t : QTb w b g M N) (x y : Int) (hx : hasN N x = true) (hy : ¬ (0 ≤ y ∧ y ≤ 7)) : Calls Tryz.prog 83 #[wp f, wp b, .int .i64 x, .int .i64 y] w fun z w' => z = .returned (uer 2) ∧ QGo w w' f D g b N := by
  obtain ⟨i, rfl, hi, hiL, h0⟩ := hasN_at hx t.len
  have hF := h.find_yes t hi hiL h0
  have hs : ∀ w', Below w.heap.size w w' → QGo w w' f D g b N := fun w' hb => h.same t hb
  generalize g.B N[i].1 = q at *
  clear h t hx h0
  by_cases hy0 : y < 0
  · clear hy
    go_enter Tryz.func83, Tryz.ntmps83
    go_wp2_with (go_at_call 77; refine hF.mono ?_; rintro y w1 ⟨rfl, b1⟩)
    go_ret
    exact ⟨rfl, hs _ b1⟩
  · have hy8 : 8 ≤ y := by omega
    clear hy
    go_enter Tryz.func83, Tryz.ntmps83
    go_wp2_with (go_at_call 77; refine hF.mono ?_; rintro y w1 ⟨rfl, b1⟩)
    go_ret
    exact ⟨rfl, hs _ b1⟩
set_option maxRecDepth 100000 in
set_option maxHeartbeats 4000000 in
theorem QF.dup2_same (h : QF w f D g n) (t : QTb w b g M N) (x : Int) (hx : hasN N x = true) : Calls Tryz.prog 83 #[wp f, wp b, .int .i64 x, .int .i64 x] w fun z w' => z = .returned .nilIface ∧ QGo w w' f D g b N := by
  obtain ⟨i, rfl, hi, hiL, h0⟩ := hasN_at hx t.len
  have hF := h.find_yes t hi hiL h0
  have hs : ∀ w', Below w.heap.size w w' → QGo w w' f D g b N := fun w' hb => h.same t hb
  generalize g.B N[i].1 = q at *
  clear h t hx h0
  have hi8 : (i : Int) < 8 := by omega
  go_enter Tryz.func83, Tryz.ntmps83
  go_wp2_with (go_at_call 77; refine hF.mono ?_; rintro y w1 ⟨rfl, b1⟩)
  go_ret
  exact ⟨rfl, hs _ b1⟩
set_option maxRecDepth 100000 in
set_option maxHeartbeats 4000000 in
theorem QF.dup2_go (h : QF w f D g n) (t : QTb w b g M N) {i j : Nat} (hi : i < 8) (hj : j < 8) (hiL : i < N.length) (hjL : j < N.length) (hne : i ≠ j) (h0 : 0 < N[i].1) (hC : Cnted D N) {D2 : DS}
    (hD2 : (N[j].1 = 0 ∧ D2 = incR D N[i].1) ∨ (0 < N[j].1 ∧ D2 = closeK (incR D N[i].1) N[j].1 ∧ (∃ e c, Cl (incR D N[i].1) N[j].1 e c))) (hl : Live D2 (N.set j (N[i].1, false))) :
    Calls Tryz.prog 83 #[wp f, wp b, .int .i64 (i : Int), .int .i64 (j : Int)] w fun z w' => z = .returned .nilIface ∧ QGo w w' f D2 g b (N.set j (N[i].1, false)) := by
  have hF := h.find_yes t hi hiL h0
  obtain ⟨e, c, he, hc, hc0, hc1⟩ := hC i hiL h0
  have hM : i < M.length := by have := t.tab.len; omega
  have hMj : j < M.length := by have := t.tab.len; omega
  have hk := t.keyOf hM hiL h0
  have hcell : ∀ V, Below w.heap.size w V → V.cell? ⟨b, i * 2, none⟩ = some (.int .i64 M[i].1) ∧ V.cell? ⟨b, j * 2, none⟩ = some (.int .i64 M[j].1) ∧ Calls Tryz.prog 78 #[wp f, wp b, .int .i64 (j : Int), .int .i64 M[i].1] V fun x w' => x = .returned (.tuple #[]) ∧ Calls Tryz.prog 131 #[wp f, .int .i64 M[j].1] w' fun y w2 => y = .returned (.tuple #[]) ∧ QGo w w2 f D2 g b (N.set j (N[i].1, false)) := fun V hV => by
    refine ⟨((t.below hV).tab.at hi).1, ((t.below hV).tab.at hj).1, ((h.below hV).give_go (t.below hV) hj hk h0 he hc hc0 hc1).mono ?_⟩
    rintro x w' ⟨rfl, a1, a2, hG⟩
    refine ⟨rfl, ?_⟩
    rcases hD2 with ⟨z0, rfl⟩ | ⟨z0, rfl, e2, c2, hcl⟩
    · have hz := (t.pos h j hMj hjL).2.2 z0
      rw [hz]
      refine a1.leave_none.mono ?_
      rintro y w2 ⟨rfl, rfl⟩
      exact ⟨rfl, hG.upon hV⟩
    · refine (a1.leave_ok (t.keyOf hMj hjL z0) hcl).mono ?_
      rintro y w2 ⟨rfl, ⟨g', n', b1, b2⟩, wt2⟩
      have hsz := hG.wt.size
      have hsV := hV.size
      refine ⟨rfl, ⟨⟨g', n', _, b1, a2.other b2 (wt2.block b a2.tab.lt (by rw [t.off]; simp)) hl, ⟨fun x hx => b2.kap x (by omega), b2.key, b2.r⟩⟩, (Wt.below _ hV).trans (hG.wt.trans (wt2.mono (fun x hx => .inl hx)))⟩⟩
  generalize N.set j (N[i].1, false) = N2 at *
  generalize g.B N[i].1 = q at *
  generalize M[i].1 = X at *
  generalize M[j].1 = Y at *
  have hi8 : (i : Int) < 8 := by omega
  have hj8 : (j : Int) < 8 := by omega
  have hij : ((i : Int) == (j : Int)) = false := by simp; omega
  clear h t hC hD2 hl he hc hc0 hc1 hk h0 hne
  go_enter Tryz.func83, Tryz.ntmps83
  go_upto_region 8 with (go_at_call 77; refine hF.mono ?_; rintro y w1 ⟨rfl, b1⟩)
  obtain ⟨c0, c1, hGv⟩ := hcell _ b1
  clear hcell hF
  go_wp2_with (first
    | (go_at_call 78; refine hGv.mono ?_; rintro y w3 ⟨rfl, hLv⟩)
    | (go_at_call 131; refine hLv.mono ?_; rintro y w4 ⟨rfl, hG⟩))
  go_ret
  exact ⟨rfl, hG⟩
end
end Go.Proofs.YtjkneekfijibiabGreatDoor

namespace Go.Proofs.YtjkneekfijibiabGreatDoor
open Go.RowKit Go.Maps

section
variable {w w' w2 w0 : World} {f b n q : Nat} {D D' : DS} {g g' : QG} {M N N' : Ns} {d k : Int} {e : En}
/-- The least key that is free is at most one more than there are. -/
theorem QF.kfew (h : QF w f D g n) {i : Nat} (hi : ∀ j : Nat, 1 ≤ j → j ≤ i → (g.K j).isSome = true) : i ≤ n := by
  obtain ⟨Dt, _, _, h1, h2, h3⟩ := h.map.data
  have h4 := int_sub (a := (List.range i).map (fun j : Nat => ((j + 1 : Nat) : Int))) (b := Go.intKeys Dt) (List.pairwise_map.2 (List.nodup_range.imp (fun {a b} h e => h (by omega)))) (fun x hx => by
    obtain ⟨j, hj, rfl⟩ := List.mem_map.1 hx
    have := List.mem_range.1 hj
    refine (h3 _).2 ?_
    rw [Option.isSome_map]
    exact hi (j + 1) (by omega) (by omega))
  rw [h2] at h4
  simpa using h4
theorem newE_inc (D : DS) (e : En) : incR (newE D e) (D.nx + 1) = addD D e := by
  unfold incR newE addD
  congr 1
  funext j
  by_cases ej : j = D.nx + 1
  · simp [ej]
  · simp [ej]
/-- What a call leaves; pipes stay where they are. -/
def QGoQ (w w' : World) (f : Nat) (D' : DS) (g : QG) (b : Nat) (N' : Ns) (n' : Nat) : Prop := (∃ g' M', QF w' f D' g' n' ∧ QTb w' b g' M' N' ∧ Ext w D' g g' ∧ g'.Q = g.Q) ∧ Wt (fun i => (g.kap i).isSome = true ∨ i = b) w w'
theorem QGoQ.go {n' : Nat} (h : QGoQ w w' f D' g b N' n') : QGo w w' f D' g b N' := by
  obtain ⟨⟨g', M', a, c, x, _⟩, wt⟩ := h
  exact ⟨⟨g', n', M', a, c, x⟩, wt⟩
/-- Behind the map's new key. -/
structure AdS (w0 w w2 : World) (f b q n : Nat) (g : QG) (D : DS) (N : Ns) (k : Int) (e : En) : Prop where
  run : (Instr.mapUpdate 142 (.map (some g.gO)) (.int .i64 k) (wp q)).run Tryz.prog w = .ok () w2
  least : Calls Tryz.prog 106 #[wp b] w2 fun y w' => y = .returned (.tuple #[.int .i64 (leastN N), .bool (decide (0 ≤ leastN N))]) ∧ Calls Tryz.prog 78 #[wp f, wp b, .int .i64 (leastN N), .int .i64 k] w' fun y w3 => y = .returned (.tuple #[]) ∧ QGoQ w0 w3 f (addD D e) g b (addN D N) (n + 1)
theorem QF.adding (h : QF w0 f D g n) (t : QTb w0 b g M N) (hb : Below w0.heap.size w0 w) (hq : w0.heap.size ≤ q) (hw : w.heap[q]? = some (.cells (ecells g e 0) 180)) (hE : D.E (D.nx + 1) = none) (h0 : 0 ≤ D.nx) (hl : ¬ leastN N < 0) (hL : Live D N) (hn : n < 1000) (hk : g.K k = none) (hk0 : 0 < k) (hk1 : k < 100000) : ∃ w2, AdS w0 w w2 f b q n g D N k e := by
  have hB := h.below hb
  obtain ⟨w2, hrun, pm, g2⟩ := hB.map.put Tryz.underlying142 (by unfold maxLen; omega) k (wf_few (by omega) (by omega)) (wp q)
  rw [hk] at pm
  obtain ⟨g', a1, a2, a3, a4, a5, a6, a7⟩ := h.newEnt hq hb hE hk hk0 hk1 hw pm g2
  have hx : Ext w0 (newE D e) g g' := ⟨a2, fun i x hi _ => by
    rw [a3]
    show (if i = k then some (D.nx + 1) else g.K i) = some x
    rw [if_neg (fun e9 => by rw [e9, hk] at hi; cases hi)]
    exact hi, a4⟩
  have hLn : Live (newE D e) N := fun i hi hp => by
    show (if N[i].1 = D.nx + 1 then some e else D.E N[i].1).isSome = true
    split
    · rfl
    · exact hL i hi hp
  have wt2 : Wt (fun i => (g.kap i).isSome = true ∨ i = b) w0 w2 := (Wt.below _ hb).trans (Wt.grown g2 (.inl (by rw [h.tm]; rfl)))
  have hbk : w2.heap[b]? = w0.heap[b]? := by
    rw [g2.block b (t.below hb).tab.lt (fun x => by have := h.tm; rw [← Option.some.inj x, t.off] at this; cases this)]
    exact hb.block b t.tab.lt
  have t2 : QTb w2 b g' M N := t.other hx hbk hLn
  refine ⟨w2, hrun, ((t2.least_ok a1).mono ?_)⟩
  rintro y w3 ⟨rfl, b3⟩
  refine ⟨rfl, ?_⟩
  rcases least_lt (N := N) with hx9 | ⟨j, hj, hjL, hj0⟩
  · omega
  have hj8 : j < 8 := by have := t.len; omega
  rw [hj]
  refine ((a1.below b3).give_go (t2.below b3) hj8 (k := k) (d := D.nx + 1) (by rw [a3]; exact if_pos rfl) (by omega) (show (newE D e).E (D.nx + 1) = some e from if_pos rfl) (show (newE D e).R (D.nx + 1) = some 0 from if_pos rfl) (by omega) (by omega)).mono ?_
  rintro y w4 ⟨rfl, c1, c2, hG⟩
  rw [newE_inc] at c1
  have hN : addN D N = N.set j (D.nx + 1, false) := by unfold addN; rw [hj, show (j : Int).toNat = j by omega]
  rw [hN]
  refine ⟨rfl, ⟨⟨g', _, c1, c2, ⟨a2, fun i x hi _ => by
    rw [a3]
    show (if i = k then some (D.nx + 1) else g.K i) = some x
    rw [if_neg (fun e9 => by rw [e9, hk] at hi; cases hi)]
    exact hi, a4⟩, a7⟩, ?_⟩⟩
  have hw4 := hG.wt
  refine ⟨hw4.os.trans (b3.os.trans wt2.os), hw4.tape.trans (b3.tape.trans wt2.tape), hw4.output.trans (b3.output.trans wt2.output), Nat.le_trans wt2.size (Nat.le_trans b3.size hw4.size), fun i hi hA => ?_⟩
  have hsz := wt2.size
  have hsz3 := b3.size
  rw [hw4.block i (by omega) (fun hx => hA (by
    rcases hx with hx | hx
    · rw [a2 i hi] at hx; exact .inl hx
    · exact .inr hx)), b3.block i (by omega)]
  exact wt2.block i hi hA
set_option maxRecDepth 100000 in
set_option maxHeartbeats 4000000 in
theorem QF.add_ok (h : QF w0 f D g n) (t : QTb w0 b g M N) (hb : Below w0.heap.size w0 w) (hq : w0.heap.size ≤ q) (hw : w.heap[q]? = some (.cells (ecells g e 0) 180)) (hE : D.E (D.nx + 1) = none) (h0 : 0 ≤ D.nx) (hl : ¬ leastN N < 0) (hL : Live D N) (hn : n < 1000) :
    Calls Tryz.prog 105 #[wp f, wp b, wp q] w fun x w' => x = .returned (.int .i64 (leastN N)) ∧ QGoQ w0 w' f (addD D e) g b (addN D N) (n + 1) := by
  have hB := h.below hb
  have c1 := hB.cells.2
  have h8 := ent_ne
  have h7 := ent_nil
  have HA : Aside (∀ k : Int, g.K k = none → 0 < k → k < 100000 → ∃ w2, AdS w0 w w2 f b q n g D N k e) := fun k hk hk0 hk1 => h.adding t hb hq hw hE h0 hl hL hn hk hk0 hk1
  have HK : Aside (∀ i : Nat, (∀ j : Nat, 1 ≤ j → j ≤ i → (g.K j).isSome = true) → i ≤ n) := fun i hi => h.kfew hi
  have HL : Aside (∀ k : Int, 0 ≤ k → k < 100000 → (Instr.lookup 142 (.map (some g.gO)) (.int .i64 k) false).run Tryz.prog w = .ok (gv g k) w) := fun k h0 h1 => hB.look h0 h1
  have h9 := fil_ne f
  have hen : ∀ q (W : World), (binOp BinOp.neq 149 (wp q) (.pointer none)).run Tryz.prog W = .ok (.bool true) W := fun q W => by kernel_rfl
  have hel : ∀ (W : World), (binOp BinOp.neq 149 (.pointer none) (.pointer none)).run Tryz.prog W = .ok (.bool false) W := fun W => by kernel_rfl
  have HN : Aside (n < 1000) := hn
  clear h t hb hq hw hE h0 hl hL hn hB
  go_enter Tryz.func105, Tryz.ntmps105
  go_wp2_with fail
  go_loopg [7] n (fun mm s7 wr => ∃ i : Nat, Aside (i + mm = n) ∧ s7 = .int .i64 ((i : Int) + 1) ∧ Aside (∀ j : Nat, 1 ≤ j → j ≤ i → (g.K j).isSome = true) ∧ wr = w)
  case atStart => exact ⟨0, (show 0 + n = n by omega), rfl, fun j h1 h2 => by omega, rfl⟩
  case round =>
    obtain ⟨i, HI, rfl, hall, hwr⟩ := hrel
    subst hwr
    have hi9 : (i : Int) < 1000 := by have := HI.out; have := HN.out; omega
    have hlk := HL.out ((i : Int) + 1) (by omega) (by omega)
    cases hK : g.K ((i : Int) + 1) with
    | some d =>
      rw [gv_some hK] at hlk
      have HX : Aside (∀ j : Nat, 1 ≤ j → j ≤ i + 1 → (g.K j).isSome = true) := fun j h1 h2 => by
        by_cases e1 : j = i + 1
        · subst e1; rw [show ((i + 1 : Nat) : Int) = (i : Int) + 1 by omega, hK]; rfl
        · exact hall.out j h1 (by omega)
      have HI2 : Aside (i + 1 ≤ n) := HK.out (i + 1) HX.out
      clear hK
      go_wp2_with fail
      go_roundg (n - (i + 1))
      case measure => have := HI.out; have := HI2.out; omega
      case rel => exact ⟨i + 1, (show i + 1 + (n - (i + 1)) = n by have := HI2.out; omega), by rw [show ((i + 1 : Nat) : Int) + 1 = (i : Int) + 1 + 1 by omega], HX, rfl⟩
    | none =>
      rw [gv_none hK] at hlk
      obtain ⟨w2, A⟩ := HA.out ((i : Int) + 1) hK (by omega) (by omega)
      have hrun := A.run
      have hLs := A.least
      clear A hK
      go_wp2_with (first
        | (go_at_call 106; refine hLs.mono ?_; rintro y w3 ⟨rfl, hGv⟩)
        | (go_at_call 78; refine hGv.mono ?_; rintro y w4 ⟨rfl, hG⟩))
      go_ret
      exact ⟨rfl, hG⟩
end
end Go.Proofs.YtjkneekfijibiabGreatDoor

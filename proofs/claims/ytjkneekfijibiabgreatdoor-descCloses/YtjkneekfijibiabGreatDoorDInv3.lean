/- Package desc: Dup, Dup2, by their Go texts. -/
import Derived.Test.YtjkneekfijibiabGreatDoorDInv2
namespace Go.Proofs.YtjkneekfijibiabGreatDoor
open Go.RowKit Go.Maps

section
variable {w w' w2 : World} {f b n : Nat} {D D' : DS} {g g' : QG} {M N N' : Ns} {d k : Int} {e : En}
/-- give, for what is asked: a table's number is of an ENTRY. -/
theorem QF.give_go (h : QF w f D g n) (t : QTb w b g M N) {i : Nat} (hi : i < 8) (hk : g.K k = some d) (hd : 0 < d) (he : D.E d = some e) {c : Int} (hc : D.R d = some c) (hc0 : 0 ≤ c) (hc1 : c < 100000) :
    Calls Tryz.prog 78 #[wp f, wp b, .int .i64 (i : Int), .int .i64 k] w fun x w' => x = .returned (.tuple #[]) ∧ QF w' f (incR D d) g n ∧ QTb w' b g (M.set i (k, false)) (N.set i (d, false)) ∧ QGo w w' f (incR D d) g b (N.set i (d, false)) := by
  rw [incR_eq hc]
  refine (h.give_ok t hi hk hd he hc hc0 hc1).mono ?_
  rintro x w' ⟨rfl, a1, a2, wt⟩
  exact ⟨rfl, a1, a2, ⟨g, n, _, a1, a2, Ext.refl _ _ _⟩, wt⟩
theorem dupD_inc (hx : dupE N k = 0) : dupD D N k = incR D (N.getD k.toNat (0, false)).1 := if_pos hx

set_option maxRecDepth 100000 in
set_option maxHeartbeats 4000000 in
theorem QF.dup_ok (h : QF w f D g n) (t : QTb w b g M N) (x : Int) (hC : Cnted D N) :
    Calls Tryz.prog 43 #[wp f, wp b, .int .i64 x] w fun y w' => y = .returned (.tuple #[.int .i64 (dupK N x), uev (dupE N x)]) ∧ QGo w w' f (dupD D N x) g b (dupN N x) := by
  have hs : ∀ w', Below w.heap.size w w' → QGo w w' f D g b N := fun w' hb => h.same t hb
  have hLs : ∀ V, Below w.heap.size w V → Calls Tryz.prog 106 #[wp b] V fun y w' => y = .returned (.tuple #[.int .i64 (leastN N), .bool (decide (0 ≤ leastN N))]) ∧ Below w.heap.size w w' := fun V hV => by
    refine ((t.below hV).least_ok (h.below hV)).mono ?_
    rintro y w' ⟨rfl, b1⟩
    exact ⟨rfl, hV.trans (b1.mono hV.size)⟩
  by_cases hx : hasN N x = true
  · obtain ⟨i, rfl, hi, hiL, h0⟩ := hasN_at hx t.len
    have hF := h.find_yes t hi hiL h0
    obtain ⟨e, c, he, hc, hc0, hc1⟩ := hC i hiL h0
    have hM : i < M.length := by have := t.tab.len; omega
    have hk := t.keyOf hM hiL h0
    rcases least_lt (N := N) with hl | ⟨j, hl, hjL, hj0⟩
    · have e1 : dupE N i = 12 := by unfold dupE; rw [if_pos hx, hl]; rfl
      have e2 : dupD D N i = D := by unfold dupD; rw [if_neg (by rw [e1]; decide)]
      have e3 : dupN N i = N := by unfold dupN; rw [if_neg (by rw [e1]; decide)]
      have e4 : dupK N i = 0 := by unfold dupK; rw [if_neg (by rw [e1]; decide)]
      rw [e1, e2, e3, e4]
      rw [hl] at hLs
      generalize g.B N[i].1 = q at *
      clear h t hC e1 e2 e3 e4 hl he hc hc0 hc1 hk h0 hx
      go_enter Tryz.func43, Tryz.ntmps43
      go_wp2_with (first
        | (go_at_call 77; refine hF.mono ?_; rintro y w1 ⟨rfl, b1⟩)
        | (go_at_call 106; refine (hLs _ b1).mono ?_; rintro y w2 ⟨rfl, b2⟩))
      go_ret2
      exact ⟨rfl, hs _ b2⟩
    · have hj8 : j < 8 := by have := t.len; omega
      have e1 : dupE N i = 0 := by unfold dupE; rw [if_pos hx, hl, if_neg (by omega)]
      have e2 : dupD D N i = incR D N[i].1 := by rw [dupD_inc e1, getD_in hiL]
      have e3 : dupN N i = N.set j (N[i].1, false) := by unfold dupN; rw [if_pos e1, getD_in hiL, hl, show (j : Int).toNat = j by omega]
      have e4 : dupK N i = j := by unfold dupK; rw [if_pos e1, hl]
      rw [e1, e2, e3, e4]
      rw [hl, show decide ((0 : Int) ≤ (j : Int)) = true by simp] at hLs
      have hcell : ∀ V, Below w.heap.size w V → V.cell? ⟨b, i * 2, none⟩ = some (.int .i64 M[i].1) ∧ Calls Tryz.prog 78 #[wp f, wp b, .int .i64 (j : Int), .int .i64 M[i].1] V fun x w' => x = .returned (.tuple #[]) ∧ QGo w w' f (incR D N[i].1) g b (N.set j (N[i].1, false)) := fun V hV => by
        refine ⟨((t.below hV).tab.at hi).1, ((h.below hV).give_go (t.below hV) hj8 hk h0 he hc hc0 hc1).mono ?_⟩
        rintro x w' ⟨rfl, _, _, hG⟩
        exact ⟨rfl, hG.upon hV⟩
      generalize incR D N[i].1 = D2 at *
      generalize N.set j (N[i].1, false) = N2 at *
      generalize g.B N[i].1 = q at *
      generalize M[i].1 = X at *
      have hi8 : (i : Int) < 8 := by omega
      clear h t hC e1 e2 e3 e4 hl he hc hc0 hc1 hk h0 hx hj0 hs
      go_enter Tryz.func43, Tryz.ntmps43
      go_upto_region 7 with (first
        | (go_at_call 77; refine hF.mono ?_; rintro y w1 ⟨rfl, b1⟩)
        | (go_at_call 106; refine (hLs _ b1).mono ?_; rintro y w2 ⟨rfl, b2⟩))
      obtain ⟨c0, hGv⟩ := hcell _ b2
      clear hcell hLs hF
      go_wp2_with (go_at_call 78; refine hGv.mono ?_; rintro y w3 ⟨rfl, hG⟩)
      go_ret2
      exact ⟨rfl, hG⟩
  · have hx' : hasN N x = false := by simpa using hx
    have e1 : dupE N x = 7 := if_neg hx
    have e2 : dupD D N x = D := by unfold dupD; rw [if_neg (by rw [e1]; decide)]
    have e3 : dupN N x = N := by unfold dupN; rw [if_neg (by rw [e1]; decide)]
    have e4 : dupK N x = 0 := by unfold dupK; rw [if_neg (by rw [e1]; decide)]
    rw [e1, e2, e3, e4]
    have hF := h.find_no t x hx'
    clear h t hx hx' e1 e2 e3 e4 hC hLs
    go_enter Tryz.func43, Tryz.ntmps43
    go_wp2_with (go_at_call 77; refine hF.mono ?_; rintro y w1 ⟨rfl, b1⟩)
    go_ret2
    exact ⟨rfl, hs _ b1⟩
set_option maxRecDepth 100000 in
set_option maxHeartbeats 4000000 in
theorem QF.dup2_no (h : QF w f D g n) (t : QTb w b g M N) (x y : Int) (hx : hasN N x = false) : Calls Tryz.prog 83 #[wp f, wp b, .int .i64 x, .int .i64 y] w fun z w' => z = .returned (uer 7) ∧ QGo w w' f D g b N := by
  have hF := h.find_no t x hx
  have hs : ∀ w', Below w.heap.size w w' → QGo w w' f D g b N := fun w' hb => h.same t hb
  clear h t hx
  go_enter Tryz.func83, Tryz.ntmps83
  go_wp2_with (go_at_call 77; refine hF.mono ?_; rintro y w1 ⟨rfl, b1⟩)
  go_ret
  exact ⟨rfl, hs _ b1⟩
set_option maxRecDepth 100000 in
set_option maxHeartbeats 4000000 in
theorem QF.dup2_range (h : QF w f D g n) (t : QTb w b g M N) (x y : Int) (hx : hasN N x = true) (hy : ¬ (0 ≤ y ∧ y ≤ 7)) : Calls Tryz.prog 83 #[wp f, wp b, .int .i64 x, .int .i64 y] w fun z w' => z = .returned (uer 2) ∧ QGo w w' f D g b N := by
  obtain ⟨i, rfl, hi, hiL, h0⟩ := hasN_at hx t.len
  have hF := h.find_yes t hi hiL h0
  have hs : ∀ w', Below w.heap.size w w' → QGo w w' f D g b N := fun w' hb => h.same t hb
  generalize g.B N[i].1 = q at *
  clear h t hx h0
  by_cases hy0 : y < 0
  · clear hy
    go_enter Tryz.func83, Tryz.ntmps83
    go_wp2_with (go_at_call 77; refine hF.mono ?_; rintro y w1 ⟨rfl, b1⟩)
    go_ret
    exact ⟨rfl, hs _ b1⟩
  · have hy8 : 8 ≤ y := by omega
    clear hy
    go_enter Tryz.func83, Tryz.ntmps83
    go_wp2_with (go_at_call 77; refine hF.mono ?_; rintro y w1 ⟨rfl, b1⟩)
    go_ret
    exact ⟨rfl, hs _ b1⟩
set_option maxRecDepth 100000 in
set_option maxHeartbeats 4000000 in
theorem QF.dup2_same (h : QF w f D g n) (t : QTb w b g M N) (x : Int) (hx : hasN N x = true) : Calls Tryz.prog 83 #[wp f, wp b, .int .i64 x, .int .i64 x] w fun z w' => z = .returned .nilIface ∧ QGo w w' f D g b N := by
  obtain ⟨i, rfl, hi, hiL, h0⟩ := hasN_at hx t.len
  have hF := h.find_yes t hi hiL h0
  have hs : ∀ w', Below w.heap.size w w' → QGo w w' f D g b N := fun w' hb => h.same t hb
  generalize g.B N[i].1 = q at *
  clear h t hx h0
  have hi8 : (i : Int) < 8 := by omega
  go_enter Tryz.func83, Tryz.ntmps83
  go_wp2_with (go_at_call 77; refine hF.mono ?_; rintro y w1 ⟨rfl, b1⟩)
  go_ret
  exact ⟨rfl, hs _ b1⟩
set_option maxRecDepth 100000 in
set_option maxHeartbeats 4000000 in
theorem QF.dup2_go (h : QF w f D g n) (t : QTb w b g M N) {i j : Nat} (hi : i < 8) (hj : j < 8) (hiL : i < N.length) (hjL : j < N.length) (hne : i ≠ j) (h0 : 0 < N[i].1) (hC : Cnted D N) {D2 : DS}
    (hD2 : (N[j].1 = 0 ∧ D2 = incR D N[i].1) ∨ (0 < N[j].1 ∧ D2 = closeK (incR D N[i].1) N[j].1 ∧ (∃ e c, Cl (incR D N[i].1) N[j].1 e c))) (hl : Live D2 (N.set j (N[i].1, false))) :
    Calls Tryz.prog 83 #[wp f, wp b, .int .i64 (i : Int), .int .i64 (j : Int)] w fun z w' => z = .returned .nilIface ∧ QGo w w' f D2 g b (N.set j (N[i].1, false)) := by
  have hF := h.find_yes t hi hiL h0
  obtain ⟨e, c, he, hc, hc0, hc1⟩ := hC i hiL h0
  have hM : i < M.length := by have := t.tab.len; omega
  have hMj : j < M.length := by have := t.tab.len; omega
  have hk := t.keyOf hM hiL h0
  have hcell : ∀ V, Below w.heap.size w V → V.cell? ⟨b, i * 2, none⟩ = some (.int .i64 M[i].1) ∧ V.cell? ⟨b, j * 2, none⟩ = some (.int .i64 M[j].1) ∧ Calls Tryz.prog 78 #[wp f, wp b, .int .i64 (j : Int), .int .i64 M[i].1] V fun x w' => x = .returned (.tuple #[]) ∧ Calls Tryz.prog 131 #[wp f, .int .i64 M[j].1] w' fun y w2 => y = .returned (.tuple #[]) ∧ QGo w w2 f D2 g b (N.set j (N[i].1, false)) := fun V hV => by
    refine ⟨((t.below hV).tab.at hi).1, ((t.below hV).tab.at hj).1, ((h.below hV).give_go (t.below hV) hj hk h0 he hc hc0 hc1).mono ?_⟩
    rintro x w' ⟨rfl, a1, a2, hG⟩
    refine ⟨rfl, ?_⟩
    rcases hD2 with ⟨z0, rfl⟩ | ⟨z0, rfl, e2, c2, hcl⟩
    · have hz := (t.pos h j hMj hjL).2.2 z0
      rw [hz]
      refine a1.leave_none.mono ?_
      rintro y w2 ⟨rfl, rfl⟩
      exact ⟨rfl, hG.upon hV⟩
    · refine (a1.leave_ok (t.keyOf hMj hjL z0) hcl).mono ?_
      rintro y w2 ⟨rfl, ⟨g', n', b1, b2⟩, wt2⟩
      have hsz := hG.wt.size
      have hsV := hV.size
      refine ⟨rfl, ⟨⟨g', n', _, b1, a2.other b2 (wt2.block b a2.tab.lt (by rw [t.off]; simp)) hl, ⟨fun x hx => b2.kap x (by omega), b2.key, b2.r⟩⟩, (Wt.below _ hV).trans (hG.wt.trans (wt2.mono (fun x hx => .inl hx)))⟩⟩
  generalize N.set j (N[i].1, false) = N2 at *
  generalize g.B N[i].1 = q at *
  generalize M[i].1 = X at *
  generalize M[j].1 = Y at *
  have hi8 : (i : Int) < 8 := by omega
  have hj8 : (j : Int) < 8 := by omega
  have hij : ((i : Int) == (j : Int)) = false := by simp; omega
  clear h t hC hD2 hl he hc hc0 hc1 hk h0 hne
  go_enter Tryz.func83, Tryz.ntmps83
  go_upto_region 8 with (go_at_call 77; refine hF.mono ?_; rintro y w1 ⟨rfl, b1⟩)
  obtain ⟨c0, c1, hGv⟩ := hcell _ b1
  clear hcell hF
  go_wp2_with (first
    | (go_at_call 78; refine hGv.mono ?_; rintro y w3 ⟨rfl, hLv⟩)
    | (go_at_call 131; refine hLv.mono ?_; rintro y w4 ⟨rfl, hG⟩))
  go_ret
  exact ⟨rfl, hG⟩
end
end Go.Proofs.YtjkneekfijibiabGreatDoor

namespace Go.Proofs.YtjkneekfijibiabGreatDoor
open Go.RowKit Go.Maps

/-- A table that is forked: all its numbers are doubled. -/
def forkD (D : DS) (N : Ns) : DS := N.foldl (fun D x => if 0 < x.1 then incR D x.1 else D) D
/-- Numbers freed, so many looked at: all, or those that are MARKED. -/
noncomputable def freeS (all : Bool) (D : DS) (N : Ns) : Nat → DS × Ns
  | 0 => (D, N)
  | i + 1 => if 0 < (N.getD i (0, false)).1 ∧ (all = true ∨ (N.getD i (0, false)).2 = true) then (closeK (freeS all D N i).1 (N.getD i (0, false)).1, (freeS all D N i).2.set i (0, false)) else freeS all D N i
section
variable {D : DS} {Ts : List Ns} {k j i : Nat} {d : Int} {e : En}
theorem Inv.seek (h : Inv D Ts k) (hj : j < Ts.length) (x a : Int) : Inv (seekD D Ts[j] x a) Ts k := by
  unfold seekD
  split
  · rename_i hz
    unfold seekE at hz
    split at hz
    · cases he : D.E (Ts[j].getD x.toNat (0, false)).1 with
      | none => exact h
      | some e =>
        rw [he] at hz
        simp only at hz ⊢
        have hok := h.core.ent _ e he
        by_cases hk : e.kind = 1
        · rw [if_neg (fun z => z hk)] at hz
          by_cases ha : 0 ≤ a ∧ a ≤ 200
          · refine h.putE he ⟨hok.kind, fun hk => ?_, hok.frm, hok.into, hok.pipe⟩
            have := hok.file hk
            exact ⟨this.1, this.2.1, this.2.2.1, this.2.2.2.1, ha.1, ha.2⟩
          · rw [if_neg ha] at hz; omega
        · rw [if_pos hk] at hz; omega
    · omega
  · exact h
theorem readS_end {T : Wd} {x a c : Int} (hs : Sm k T) (h0 : 0 ≤ a) (h1 : a ≤ 200) : a + (readS T x a c).length ≤ 200 := by
  unfold readS
  split
  · rename_i b y e
    have := (hs.2 x b y e).2
    split
    · simp; omega
    · rw [List.length_take, List.length_drop]; omega
  · simp; omega
theorem Inv.read (h : Inv D Ts k) (hj : j < Ts.length) (x a : Int) : Inv (readO D Ts[j] x a).2.2 Ts k := by
  unfold readO
  split
  · split
    · exact h
    · rename_i e he
      have hok := h.core.ent _ e he
      split
      · exact h
      · split
        · rename_i hk
          refine h.putE he ⟨hok.kind, fun hk => ?_, hok.frm, hok.into, hok.pipe⟩
          obtain ⟨a1, a2, a3, a4, a5, a6⟩ := hok.file hk
          have := readS_end (x := e.node) (c := a) h.core.sm a5 a6
          exact ⟨a1, a2, a3, a4, by simp only; omega, this⟩
        · rename_i hk
          obtain ⟨a1, a2, p, a3, a4, a5, a6, a7, a8⟩ := hok.pipe hk
          rw [a3]
          exact h.putP a3 ⟨by simp; omega, a5, a6, a7, a8⟩
  · exact h
theorem writeE_len {T : Wd} {x a : Int} {s : List UInt8} (h : writeE T x a s = 0) : a + s.length ≤ 200 := by
  unfold writeE at h
  split at h
  · omega
  · split at h
    · omega
    · split at h
      · omega
      · omega
theorem Inv.write (h : Inv D Ts k) (hj : j < Ts.length) (x : Int) (s : List UInt8) (a : Int) : Inv (writeO D Ts[j] x s a).2.2 Ts (k + 1) := by
  have h1 := h.more (Nat.le_succ k)
  unfold writeO
  split
  · split
    · exact h1
    · rename_i e he
      have hok := h.core.ent _ e he
      split
      · exact h1
      · split
        · rename_i hk
          split
          · exact h1
          · split
            · exact h1
            · rename_i hE
              have hE' : writeE D.T e.node e.pos s = 0 := by omega
              have h2 := h.putT (h.core.lv.write e.node e.pos s) (h.core.sm.write e.node e.pos s)
              refine h2.putE (D := { D with T := writeN D.T e.node e.pos s }) he ⟨hok.kind, fun hk => ?_, hok.frm, hok.into, hok.pipe⟩
              obtain ⟨a1, a2, a3, a4, a5, a6⟩ := hok.file hk
              have := writeE_len hE'
              exact ⟨a1, a2, a3, a4, by simp only; omega, this⟩
        · rename_i hk
          obtain ⟨a1, a2, p, a3, a4, a5, a6, a7, a8⟩ := hok.pipe hk
          rw [a3]
          exact h1.putP a3 ⟨wrB_len _ _ _ a4, a5, a6, a7, a8⟩
  · exact h1
theorem Inv.dupO (h : Inv D Ts k) (hj : j < Ts.length) (x : Int) : Inv (dupD D Ts[j] x) (Ts.set j (dupN Ts[j] x)) k := by
  by_cases hz : dupE Ts[j] x = 0
  · have hx : hasN Ts[j] x = true := by
      unfold dupE at hz
      by_cases e1 : hasN Ts[j] x = true
      · exact e1
      · rw [if_neg e1] at hz; omega
    obtain ⟨i, rfl, hi, hiL, h0⟩ := hasN_at hx (h.len hj)
    unfold dupE at hz
    rw [if_pos hx] at hz
    rcases least_lt (N := Ts[j]) with hl | ⟨y, hl, hyL, hy0⟩
    · rw [hl] at hz; simp at hz
    have e0 : dupE Ts[j] i = 0 := by unfold dupE; rw [if_pos hx]; exact hz
    have e1 : dupD D Ts[j] i = incR D Ts[j][i].1 := by unfold dupD; rw [if_pos e0, getD_in hiL]; rfl
    have e2 : dupN Ts[j] i = Ts[j].set y (Ts[j][i].1, false) := by unfold dupN; rw [if_pos e0, getD_in hiL, hl, show (y : Int).toNat = y by omega]
    rw [e1, e2]
    exact h.dup hj hyL hy0 h0 (cntS_pos hj hiL) false
  · rw [show dupD D Ts[j] x = D from if_neg hz, show dupN Ts[j] x = Ts[j] from if_neg hz]
    exact h.setSelf hj
/-- A new pipe, and its two ends. -/
theorem Inv.pipe (h : Inv D Ts k) (hn : D.nx < 890) (hj : j < Ts.length) (hl1 : ¬ leastN Ts[j] < 0) (hl2 : ¬ leastN (pipeN1 D Ts[j]) < 0) : Inv (pipeD D) (Ts.set j (pipeN D Ts[j])) k := by
  have g := h.core.giv
  obtain ⟨n1, n2, n3⟩ := g.new
  have g0 := g.n0
  have hz : cntS (D.nx + 1) Ts = 0 := by
    have := h.core.cE (D.nx + 1) (by omega)
    rw [n1] at this
    simp at this
    exact this
  have h0 : Inv (pipeD0 D) Ts k := by
    refine ⟨⟨g.pipe0 (by omega), h.core.lv, h.core.sm, fun x ex hx => (h.core.ent x ex hx).keep (by show D.nx ≤ D.nx + 1; omega) (fun p y a b c d e f => ?_), h.core.cE, h.core.cR⟩, h.tab, h.few⟩
    have : p ≠ D.nx + 1 := fun e => by rw [e, n3] at a; cases a
    exact ⟨y, (if_neg this).trans a, b, c, d, e, f⟩
  have hP0 : (pipeD0 D).P (D.nx + 1) = some ([], 1, 1) := if_pos rfl
  have h1 : Inv (pipeD1 D) (Ts.set j (pipeN1 D Ts[j])) k := h0.add (D := pipeD0 D) (e := ⟨2, 1, 0, D.nx + 1, 0⟩) (by show D.nx + 1 < 899; omega) hj hl1 ⟨.inr (.inl rfl), fun z => by simp at z, fun _ => rfl, fun z => by simp at z, fun _ => ⟨by simp only; omega, by show D.nx + 1 ≤ D.nx + 1 + 1; omega, _, hP0, by simp, by simp, by simp, by simp, by simp⟩⟩
  have hj1 : j < (Ts.set j (pipeN1 D Ts[j])).length := by rw [List.length_set]; exact hj
  have hg1 := getT_set hj (pipeN1 D Ts[j]) hj1
  have h2 := h1.add (D := pipeD1 D) (j := j) (e := ⟨3, 2, 0, D.nx + 1, 0⟩) (by show D.nx + 1 + 1 < 899; omega) hj1 (by rw [hg1]; exact hl2) ⟨.inr (.inr rfl), fun z => by simp at z, fun z => by simp at z, fun _ => rfl, fun _ => ⟨by simp only; omega, by show D.nx + 1 ≤ D.nx + 1 + 1 + 1; omega, _, hP0, by simp, by simp, by simp, by simp, by simp⟩⟩
  rw [hg1, set_setT] at h2
  exact h2
theorem InvC.fork : ∀ (l : Ns) {D : DS} {C : Int → Nat}, InvC D C k → (∀ x ∈ l, 0 < x.1 → 0 < C x.1) → InvC (forkD D l) (fun d => C d + cntN d l) k
  | [], D, C, h, _ => h.congr (fun d _ => by simp [cntN])
  | x :: l, D, C, h, hl => by
    unfold forkD
    rw [List.foldl_cons]
    by_cases hx : 0 < x.1
    · rw [if_pos hx]
      refine (InvC.fork l (h.inc hx (hl x List.mem_cons_self hx)) (fun y hy h0 => ?_)).congr (fun d hd => ?_)
      · show 0 < (if y.1 = x.1 then C x.1 + 1 else C y.1)
        split
        · omega
        · exact hl y (List.mem_cons_of_mem _ hy) h0
      · simp only [cntN, List.filter_cons]
        by_cases e1 : d = x.1
        · simp [e1]; omega
        · simp [e1, Ne.symm e1]
    · rw [if_neg hx]
      refine (InvC.fork l h (fun y hy h0 => hl y (List.mem_cons_of_mem _ hy) h0)).congr (fun d hd => ?_)
      simp only [cntN, List.filter_cons]
      rw [if_neg (by simp; omega)]
theorem Inv.fork (h : Inv D Ts k) (hf : Ts.length < 8) (hj : j < Ts.length) : Inv (forkD D Ts[j]) (Ts ++ [Ts[j]]) k := by
  refine ⟨(InvC.fork Ts[j] h.core (fun x hx h0 => ?_)).congr (fun d hd => ?_), fun N hN => ?_, by rw [List.length_append]; simp; omega⟩
  · obtain ⟨i, hi, rfl⟩ := List.getElem_of_mem hx
    exact cntS_pos hj hi
  · simp [cntS]
  · rcases List.mem_append.1 hN with h1 | h1
    · exact h.tab N h1
    · rw [List.mem_singleton.1 h1]; exact h.tab _ (List.getElem_mem hj)
theorem freeS_tab (all : Bool) (D : DS) (N : Ns) : ∀ i, (freeS all D N i).2.length = N.length ∧ ∀ x, i ≤ x → (freeS all D N i).2[x]? = N[x]?
  | 0 => ⟨rfl, fun _ _ => rfl⟩
  | i + 1 => by
    obtain ⟨h1, h2⟩ := freeS_tab all D N i
    rw [freeS]
    split
    · refine ⟨by simp only [List.length_set]; exact h1, fun x hx => ?_⟩
      simp only
      rw [List.getElem?_set_ne (by omega)]
      exact h2 x (by omega)
    · exact ⟨h1, fun x hx => h2 x (by omega)⟩
theorem freeS_at {all : Bool} {N : Ns} {i : Nat} (hi : i < N.length) (h : i < (freeS all D N i).2.length) : (freeS all D N i).2[i] = N[i] := by
  have := (freeS_tab all D N i).2 i (Nat.le_refl _)
  rw [List.getElem?_eq_getElem h, List.getElem?_eq_getElem hi] at this
  exact Option.some.inj this
theorem Inv.free (h : Inv D Ts k) (hk : k ≤ 900) (hj : j < Ts.length) (all : Bool) : ∀ i, i ≤ 8 → Inv (freeS all D Ts[j] i).1 (Ts.set j (freeS all D Ts[j] i).2) k
  | 0, _ => h.setSelf hj
  | i + 1, hi => by
    have ih := Inv.free h hk hj all i (by omega)
    rw [freeS]
    split
    · rename_i hc
      have hiN : i < Ts[j].length := by rw [h.len hj]; omega
      have hiF : i < (freeS all D Ts[j] i).2.length := by rw [(freeS_tab all D Ts[j] i).1]; exact hiN
      have hj1 : j < (Ts.set j (freeS all D Ts[j] i).2).length := by rw [List.length_set]; exact hj
      have hg1 := getT_set hj (freeS all D Ts[j] i).2 hj1
      have hgi : (Ts.set j (freeS all D Ts[j] i).2)[j][i]'(by rw [hg1]; exact hiF) = Ts[j][i] := by
        simp only [hg1]
        exact freeS_at hiN hiF
      have hD : Ts[j].getD i (0, false) = Ts[j][i] := by rw [List.getD_eq_getElem?_getD, List.getElem?_eq_getElem hiN]; rfl
      rw [hD] at hc ⊢
      have h2 := ih.close hk hj1 (i := i) (by rw [hg1]; exact hiF) (by rw [hgi]; exact hc.1)
      rw [hgi, hg1, set_setT] at h2
      exact h2
    · exact ih
end
end Go.Proofs.YtjkneekfijibiabGreatDoor

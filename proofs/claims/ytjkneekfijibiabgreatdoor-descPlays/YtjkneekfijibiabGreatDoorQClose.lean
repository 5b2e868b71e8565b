/- Package desc: the least number that is free; how many are open; by their Go texts. -/
import Derived.Test.YtjkneekfijibiabGreatDoorQFind
import Derived.Test.YtjkneekfijibiabGreatDoorUAddT
import Derived.Test.YtjkneekfijibiabGreatDoorDInv2
namespace Go.Proofs.YtjkneekfijibiabGreatDoor
open Go.RowKit Go.Maps

section
variable {w w' w2 : World} {f b n : Nat} {D D' : DS} {g g' : QG} {M N N' : Ns} {d k : Int} {e : En}
set_option maxHeartbeats 1000000 in
theorem least1_ok (w : World) (X : Int) (Y : Bool) : Calls Tryz.prog 139 #[.agg #[.int .i64 X, .bool Y]] w fun e w' => e = .returned (.bool (X == 0)) ∧ Below w.heap.size w w' := by
  have bA : Below w.heap.size w (w.alloc (.cells #[.int .i64 X, .bool Y] 66)) := (Below.refl _ w).alloc (Nat.le_refl _) _
  obtain ⟨c0, c1⟩ := new_pair w (.int .i64 X) (.bool Y) 66
  go_enter Tryz.func139, Tryz.ntmps139
  go_wp2_with (go_at_call 94; refine (isFree_ok _ X Y).mono ?_; rintro e w2 ⟨rfl, b2⟩)
  go_ret
  exact ⟨rfl, bA.trans (b2.mono bA.size)⟩

set_option maxRecDepth 100000 in
set_option maxHeartbeats 2000000 in
theorem QT.index_ok (h : QT w b M) : Calls Tryz.prog 138 #[.slice (some ⟨b, 0, none⟩) 8 8, .func (.func 139) #[] #[]] w fun e w' => e = .returned (.int .i64 (leastN M)) ∧ Below w.heap.size w w' := by
  have HL : Aside (M.length = 8) := h.len
  go_enter Tryz.func138, Tryz.ntmps138
  go_wp2_with fail
  go_loopg [5, 8] 8 (fun g _ s8 wx => ∃ i : Nat, Aside (i + g = 8) ∧ s8 = .int .i64 (i : Int) ∧ Aside (∀ j (hj : j < M.length), j < i → M[j].1 ≠ 0) ∧ Below w.heap.size w wx)
  case atStart => exact ⟨0, rfl, rfl, (fun j _ hj => by omega), Below.refl _ _⟩
  case round =>
    obtain ⟨i, HI, rfl, HN, hb⟩ := hrel
    have hi9 : i ≤ 8 := by have := HI.out; omega
    have hi9' : (i : Int) ≤ 8 := by omega
    by_cases hlt : (i : Int) < 8
    · have hiL : i < M.length := by have := HL.out; omega
      obtain ⟨c0, c1⟩ := (h.below hb).at (i := i) (by omega)
      have HX0 : Aside (M[i].1 = 0 → leastN M = i) := fun e => least_at hiL (fun j hj => HN.out j (by omega) hj) e
      have HX1 : Aside (M[i].1 ≠ 0 → ∀ j (hj : j < M.length), j < i + 1 → M[j].1 ≠ 0) := fun e j hj hji => by
        by_cases e2 : j = i
        · subst e2; exact e
        · exact HN.out j hj (by omega)
      generalize M[i].1 = X at *
      generalize M[i].2 = Y at *
      have hsz := hb.size
      clear h hiL
      by_cases hX : X = 0
      · have E9 : Aside (leastN M = i) := HX0.out hX
        subst hX
        go_wp2_with (go_at_call 139; refine (least1_ok _ 0 Y).mono ?_; rintro e w2 ⟨rfl, b2⟩)
        go_ret
        exact ⟨by rw [E9.out]; rfl, hb.trans (b2.mono hsz)⟩
      · have hX' : (X == 0) = false := by simpa using hX
        clear hX
        go_wp2_with (go_at_call 139; refine (least1_ok _ X Y).mono ?_; rintro e w2 ⟨rfl, b2⟩)
        go_roundg (7 - i)
        case measure => have := HI.out; omega
        case rel => exact ⟨i + 1, (show i + 1 + (7 - i) = 8 by omega), by rfl, HX1.out (by simpa using hX'), hb.trans (b2.mono hsz)⟩
    · have e9 : leastN M = -1 := least_none (fun x hx => by
        obtain ⟨j, hj, rfl⟩ := List.getElem_of_mem hx
        exact HN.out j hj (by have := HL.out; omega))
      have E9 : Aside (leastN M = -1) := e9
      clear e9
      go_wp2_with fail
      go_ret
      exact ⟨by rw [E9.out]; rfl, hb⟩
set_option maxRecDepth 100000 in
set_option maxHeartbeats 2000000 in
theorem QT.least_ok (h : QT w b M) : Calls Tryz.prog 106 #[wp b] w fun e w' => e = .returned (.tuple #[.int .i64 (leastN M), .bool (decide (0 ≤ leastN M))]) ∧ Below w.heap.size w w' := by
  have hI := h.index_ok
  generalize leastN M = L at *
  clear h
  go_enter Tryz.func106, Tryz.ntmps106
  go_wp2_with (go_at_call 138; refine hI.mono ?_; rintro e w2 ⟨rfl, b2⟩)
  go_ret2
  exact ⟨rfl, b2⟩
theorem QTb.least_ok (t : QTb w b g M N) (h : QF w f D g n) : Calls Tryz.prog 106 #[wp b] w fun e w' => e = .returned (.tuple #[.int .i64 (leastN N), .bool (decide (0 ≤ leastN N))]) ∧ Below w.heap.size w w' := by
  rw [← (t.eqs h).2]; exact t.tab.least_ok

set_option maxRecDepth 100000 in
set_option maxHeartbeats 2000000 in
theorem QF.open_ok (h : QF w f D g n) : Calls Tryz.prog 36 #[wp f] w fun e w' => e = .returned (.int .i64 (n : Int)) ∧ w' = w := by
  have c1 := h.cells.2
  have h9 := fil_ne f
  have hl := h.map
  go_enter Tryz.func36, Tryz.ntmps36
  go_wp2_with (refine wpList_klen rfl _ 142 rfl 149 Tryz.underlying142 g.gO _ _ rfl hl ?_)
  go_ret
  exact ⟨rfl, rfl⟩
theorem map_ne (g : Nat) (w : World) : (binOp BinOp.eql 142 (.map (some g)) (.map none)).run Tryz.prog w = .ok (.bool false) w := by kernel_rfl
set_option maxRecDepth 100000 in
set_option maxHeartbeats 4000000 in
theorem QF.room_ok (h : QF w f D g n) (t : QTb w b g M N) (x : Nat) (hx : x ≤ 2) (hn : n < 1000) : Calls Tryz.prog 103 #[wp f, wp b, .int .i64 (x : Int)] w fun e w' => e = .returned (.bool (decide (usedN N + x ≤ 8) && decide (n + x ≤ 40))) ∧ Below w.heap.size w w' := by
  have hU := t.used_ok h
  have hul := used_le N
  rw [t.len] at hul
  have c1 := h.cells.2
  have h8 := tab_ne b
  have h9 := fil_ne f
  have h7 := map_ne g.gO
  have hO : ∀ V, Below w.heap.size w V → Calls Tryz.prog 36 #[wp f] V fun e w' => e = .returned (.int .i64 (n : Int)) ∧ w' = V := fun V hV => (h.below hV).open_ok
  generalize usedN N = U at *
  have hU8 : (U : Int) ≤ 8 := by omega
  have hx8 : (x : Int) ≤ 2 := by omega
  have hn8 : (n : Int) < 1000 := by omega
  by_cases hu : U + x ≤ 8
  · have e1 : decide (U + x ≤ 8) = true := by simpa using hu
    have e2 : (U : Int) + (x : Int) ≤ 8 := by omega
    have E3 : Aside (decide ((n : Int) + (x : Int) ≤ 40) = decide (n + x ≤ 40)) := by
      show decide ((n : Int) + (x : Int) ≤ 40) = decide (n + x ≤ 40)
      by_cases hh : n + x ≤ 40
      · rw [decide_eq_true hh, decide_eq_true (by omega)]
      · rw [decide_eq_false hh, decide_eq_false (by omega)]
    rw [e1, Bool.true_and]
    rw [← E3.out]
    clear h t hul hu e1 E3
    go_enter Tryz.func103, Tryz.ntmps103
    go_wp2_with (first
      | (go_at_call 32; refine hU.mono ?_; rintro e w1 ⟨rfl, b1⟩)
      | (go_at_call 36; refine (hO _ b1).mono ?_; rintro e w2 ⟨rfl, hw2⟩; subst w2))
    go_ret
    exact ⟨rfl, b1⟩
  · have e1 : decide (U + x ≤ 8) = false := by simpa using hu
    have e2 : ¬ ((U : Int) + (x : Int) ≤ 8) := by omega
    rw [e1, Bool.false_and]
    clear h t hul hu e1
    go_enter Tryz.func103, Tryz.ntmps103
    go_wp2_with (go_at_call 32; refine hU.mono ?_; rintro e w1 ⟨rfl, b1⟩)
    go_ret
    exact ⟨rfl, b1⟩
theorem isUse_ok (w : World) (x : Int) : Calls Tryz.prog 102 #[.int .i64 x] w fun e w' => e = .returned (.bool (decide (1 ≤ x) && decide (x ≤ 3))) ∧ w' = w := by
  go_enter Tryz.func102, Tryz.ntmps102
  by_cases h1 : 1 ≤ x
  · go_wp2_with fail
    go_ret
    exact ⟨by simp [h1], rfl⟩
  · go_wp2_with fail
    go_ret
    exact ⟨by simp; omega, rfl⟩
theorem QF.isFile_ok (h : QF w f D g n) (he : D.E d = some e) : Calls Tryz.prog 108 #[wp (g.B d)] w fun x w' => x = .returned (.bool (e.kind == 1)) ∧ w' = w := by
  obtain ⟨c, h1, _⟩ := h.ent d e he
  obtain ⟨c0, _⟩ := h.ecell he h1
  go_enter Tryz.func108, Tryz.ntmps108
  go_wp2_with fail
  go_ret
  exact ⟨rfl, rfl⟩
end
end Go.Proofs.YtjkneekfijibiabGreatDoor

namespace Go.Proofs.YtjkneekfijibiabGreatDoor
open Go.RowKit Go.Maps

section
variable {w w' w2 : World} {f b n : Nat} {D D' : DS} {g g' : QG} {M N N' : Ns} {d k : Int} {e : En}
theorem ent_put2 {W : World} {i : Nat} {a b c d e x : Value} {t : TypeId} (h : W.heap[i]? = some (.cells #[a, b, c, d, e, x] t)) (v : Value) : (W.setCell ⟨i, 2, none⟩ v).heap[i]? = some (.cells #[a, b, v, d, e, x] t) := by
  rw [heap_cell_same W i 2 v _ _ _ h]; rfl
theorem ent_put4 {W : World} {i : Nat} {a b c d e x : Value} {t : TypeId} (h : W.heap[i]? = some (.cells #[a, b, c, d, e, x] t)) (v : Value) : (W.setCell ⟨i, 4, none⟩ v).heap[i]? = some (.cells #[a, b, c, d, v, x] t) := by
  rw [heap_cell_same W i 4 v _ _ _ h]; rfl
/-- An ENTRY's count turned. -/
theorem QF.count (h : QF w f D g n) (he : D.E d = some e) (c' : Int) : QF (w.setCell ⟨g.B d, 2, none⟩ (.int .i64 c')) f { D with R := fun i => if i = d then some c' else D.R i } g n := by
  obtain ⟨c, h1, h2, h3⟩ := h.ent d e he
  exact h.putR he c' (ent_put2 h2 _) (tgrown_set _ _ _ _)
/-- An ENTRY's place turned. -/
theorem QF.place (h : QF w f D g n) (he : D.E d = some e) (a : Int) : QF (w.setCell ⟨g.B d, 4, none⟩ (.int .i64 a)) f { D with E := fun i => if i = d then some { e with pos := a } else D.E i } g n := by
  obtain ⟨c, h1, h2, h3⟩ := h.ent d e he
  exact h.putE he h1 { e with pos := a } (ent_put4 h2 _) (tgrown_set _ _ _ _)
theorem QF.offTab (h : QF w f D g n) (hb : g.kap b = none) (hg : w.grownBy w' (some b)) : QF w' f D g n :=
  h.keep (fun i hi => hg.block i (h.lt i hi) (fun x => by rw [Option.some.inj x, hb] at hi; cases hi)) hg.size
theorem QTb.offOwn (t : QTb w b g M N) {x : Nat} (hx : (g.kap x).isSome = true) (hg : w.grownBy w' (some x)) : QTb w' b g M N :=
  t.keep (hg.block b t.tab.lt (fun e => by rw [← Option.some.inj e, t.off] at hx; cases hx))
theorem QT.put_grown (w : World) (b i : Nat) (u v : Value) : w.grownBy ((w.setCell ⟨b, i * 2, none⟩ u).setCell ⟨b, i * 2 + 1, none⟩ v) (some b) := tgrown_trans (tgrown_set _ _ _ _) (tgrown_set _ _ _ _)

set_option maxRecDepth 100000 in
set_option maxHeartbeats 4000000 in
theorem QF.give_ok (h : QF w f D g n) (t : QTb w b g M N) {i : Nat} (hi : i < 8) (hk : g.K k = some d) (hd : 0 < d) (he : D.E d = some e) {c : Int} (hc : D.R d = some c) (hc0 : 0 ≤ c) (hc1 : c < 100000) :
    Calls Tryz.prog 78 #[wp f, wp b, .int .i64 (i : Int), .int .i64 k] w fun x w' => x = .returned (.tuple #[]) ∧ QF w' f { D with R := fun j => if j = d then some (c + 1) else D.R j } g n ∧ QTb w' b g (M.set i (k, false)) (N.set i (d, false)) ∧ Wt (fun i => (g.kap i).isSome = true ∨ i = b) w w' := by
  obtain ⟨_, hk0, hk1⟩ := h.key k d hk
  obtain ⟨t0, t1⟩ := t.tab.at hi
  have z0 := t.tab.free (i * 2)
  have z1 := t.tab.free (i * 2 + 1)
  have hT1 := t.set (i := i) (k, false) (d, false) (t.tab.put hi (k, false) ⟨by omega, hk1, fun e => by omega⟩) ⟨rfl, .inr ⟨hd, hk⟩⟩
  have g1 := QT.put_grown w b i (.int .i64 k) (.bool false)
  have h1 := h.offTab t.off g1
  obtain ⟨W, hW⟩ : ∃ W, (w.setCell ⟨b, i * 2, none⟩ (.int .i64 k)).setCell ⟨b, i * 2 + 1, none⟩ (.bool false) = W := ⟨_, rfl⟩
  simp only at hT1
  rw [hW] at hT1 g1 h1
  have c1 := h1.cells.2
  have hlk := h1.look (k := k) (by omega) hk1
  rw [gv_some hk] at hlk
  obtain ⟨_, _, e2, _, _, _, ez⟩ := h1.ecell he hc
  have ez2 := ez 2
  have h2 := h1.count he (c + 1)
  obtain ⟨_, _, _, hkb⟩ := h.ent d e he
  have g2 := tgrown_set W (g.B d) 2 (.int .i64 (c + 1))
  have hT2 := hT1.offOwn (by rw [hkb]; rfl) g2
  have wt : Wt (fun i => (g.kap i).isSome = true ∨ i = b) w (W.setCell ⟨g.B d, 2, none⟩ (.int .i64 (c + 1))) := (Wt.grown g1 (.inr rfl)).trans (Wt.grown g2 (.inl (by rw [hkb]; rfl)))
  have hw1 : wrap64 (c + 1) = c + 1 := by unfold wrap64; omega
  have hi8 : (i : Int) < 8 := by omega
  generalize N.set i (d, false) = N2 at *
  generalize M.set i (k, false) = M2 at *
  generalize (M[i]'(by rw [t.tab.len]; exact hi)).1 = X at *
  generalize (M[i]'(by rw [t.tab.len]; exact hi)).2 = Y at *
  generalize ({ D with R := fun j => if j = d then some (c + 1) else D.R j } : DS) = D2 at *
  generalize g.B d = q at *
  clear h t hk he hc hT1 g1 h1 ez hkb g2 hc0 hc1
  go_enter Tryz.func78, Tryz.ntmps78
  go_upto_region 1 with fail
  clear t0 t1 z0 z1 hW
  go_wp2_with fail
  go_end0
  exact ⟨rfl, h2, hT2, wt⟩
set_option maxRecDepth 100000 in
set_option maxHeartbeats 4000000 in
theorem QF.shut_file (h : QF w f D g n) {q : Nat} {kd pr cn nd ps : Int} {pp : Value} (hq : w.heap[q]? = some (.cells #[.int .i64 kd, .int .i64 pr, .int .i64 cn, .int .i64 nd, .int .i64 ps, pp] 180)) (hqk : g.kap q = some (.ent d)) (hkd : kd = 1) (hT : TrLv D.T) (hn0 : 0 ≤ nd) (hn1 : nd < 100000) :
    Calls Tryz.prog 159 #[wp f, wp q] w fun x w' => x = .returned (.tuple #[]) ∧ (∃ g', QF w' f { D with T := holdN D.T nd (-1) } g' n ∧ (∀ i, i < w.heap.size → g'.kap i = g.kap i) ∧ g'.K = g.K ∧ g'.r = g.r) ∧ Wt (fun i => (g.kap i).isSome = true) w w' := by
  subst hkd
  have hqc : ∀ {V : World}, V.heap[q]? = w.heap[q]? → V.cell? ⟨q, 0, none⟩ = some (.int .i64 1) ∧ V.cell? ⟨q, 3, none⟩ = some (.int .i64 nd) := fun {V} hV => by
    rw [hq] at hV
    exact ⟨by rw [cell_of_row _ _ _ _ _ _ hV]; rfl, by rw [cell_of_row _ _ _ _ _ _ hV]; rfl⟩
  obtain ⟨e0, e3⟩ := hqc (V := w) rfl
  have c0 := h.cells.1
  have hfb : f < w.heap.size := h.lt f (by rw [h.tf]; rfl)
  have hqb : q < w.heap.size := h.lt q (by rw [hqk]; rfl)
  have hDr : ∀ V, Below w.heap.size w V → Calls Tryz.prog 59 #[wp g.r, .int .i64 nd] V fun x w' => (∃ z, x = .returned (uev z)) ∧ ((∃ g', QF w' f { D with T := holdN D.T nd (-1) } g' n ∧ (∀ i, i < w.heap.size → g'.kap i = g.kap i) ∧ g'.K = g.K ∧ g'.r = g.r) ∧ Wt (fun i => (g.kap i).isSome = true) w w') ∧ w'.cell? ⟨f, 0, none⟩ = some (wp g.r) ∧ w'.cell? ⟨q, 3, none⟩ = some (.int .i64 nd) := fun V hV => by
    have hV' := h.below hV
    obtain ⟨O, p, hO⟩ := hV'.tree
    refine (p.drop_ok hT nd (wf_few hn0 (by omega))).mono ?_
    rintro x w' ⟨rfl, p', st⟩
    obtain ⟨g', a1, a2, a3, a4, _⟩ := hV'.turn hO p' st
    refine ⟨⟨_, rfl⟩, ⟨⟨g', a1, fun i hi => a2 i (Nat.lt_of_lt_of_le hi hV.size), a3, a4⟩, (Wt.below _ hV).trans (st.wt.mono (fun i hi => by rw [hO i hi]; rfl))⟩, ?_, ?_⟩
    · have := a1.cells.1
      rw [a4] at this
      exact this
    · exact (hqc ((st.wt.block q (Nat.lt_of_lt_of_le hqb hV.size) (fun o => tag_ne hqk (hO q o) (by simp) rfl)).trans (hV.block q hqb))).2
  have hI : Calls Tryz.prog 108 #[wp q] w fun x w' => x = .returned (.bool true) ∧ w' = w := by
    clear hDr
    go_enter Tryz.func108, Tryz.ntmps108
    go_wp2_with fail
    go_ret
    exact ⟨rfl, rfl⟩
  generalize ({ D with T := holdN D.T nd (-1) } : DS) = D2 at *
  clear h hq hqk hT hn0 hn1 hqc hfb hqb
  go_enter Tryz.func159, Tryz.ntmps159
  go_upto_region 1 with (go_at_call 108; refine hI.mono ?_; rintro x w1 ⟨rfl, hw1⟩; subst w1)
  go_region_held3 (fun w' => w'.cell? ⟨f, 0, none⟩ = some (wp g.r) ∧ w'.cell? ⟨q, 3, none⟩ = some (.int .i64 nd)) (first | exact ⟨c0, e3⟩ | exact ⟨k0, k3⟩) (first
    | (go_at_call 59; refine (hDr _ ⟨by rfl, by rfl, by rfl, by exact Nat.le_refl _, fun _ _ => by rfl⟩).mono ?_; rintro x w2 ⟨⟨z, rfl⟩, hR, k0, k3⟩))
  all_goals
    go_wp2_with fail
    refine bodyPost_ret (results_none rfl _ _ _) rfl ?_
    exact ⟨rfl, hR⟩
set_option maxRecDepth 100000 in
set_option maxHeartbeats 4000000 in
theorem QF.shut_end (h : QF w f D g n) {q : Nat} {kd pr cn nd ps p : Int} {x : Pi} (hq : w.heap[q]? = some (.cells #[.int .i64 kd, .int .i64 pr, .int .i64 cn, .int .i64 nd, .int .i64 ps, wp (g.Q p)] 180)) (hqk : g.kap q = some (.ent d)) (hkd : kd ≠ 1) (hp : D.P p = some x) (hF : 0 ≤ x.2.1 ∧ x.2.1 < 1000) (hI : 0 ≤ x.2.2 ∧ x.2.2 < 1000) :
    Calls Tryz.prog 159 #[wp f, wp q] w fun y w' => y = .returned (.tuple #[]) ∧ QF w' f { D with P := fun i => if i = p then some (turnP x kd) else D.P i } g n ∧ Wt (fun i => (g.kap i).isSome = true) w w' := by
  have hqc : ∀ {V : World}, V.heap[q]? = w.heap[q]? → V.cell? ⟨q, 0, none⟩ = some (.int .i64 kd) ∧ V.cell? ⟨q, 5, none⟩ = some (wp (g.Q p)) := fun {V} hV => by
    rw [hq] at hV
    exact ⟨by rw [cell_of_row _ _ _ _ _ _ hV]; rfl, by rw [cell_of_row _ _ _ _ _ _ hV]; rfl⟩
  obtain ⟨e0, e5⟩ := hqc (V := w) rfl
  have hqb : q < w.heap.size := h.lt q (by rw [hqk]; rfl)
  have hDr : ∀ V, Below w.heap.size w V → Calls Tryz.prog 176 #[wp (g.Q p), .int .i64 kd] V fun y w' => (∃ z, y = .returned (uev z)) ∧ (QF w' f { D with P := fun i => if i = p then some (turnP x kd) else D.P i } g n ∧ Wt (fun i => (g.kap i).isSome = true) w w') ∧ w'.cell? ⟨q, 0, none⟩ = some (.int .i64 kd) ∧ w'.cell? ⟨q, 5, none⟩ = some (wp (g.Q p)) := fun V hV => by
    have hV' := h.below hV
    obtain ⟨tb, tk⟩ := hV'.pipe p x hp
    refine (tb.close_ok kd hF.1 hF.2 hI.1 hI.2).mono ?_
    rintro y w' ⟨rfl, tb', hg⟩
    have hb : w'.heap[q]? = w.heap[q]? := (hg.block q (Nat.lt_of_lt_of_le hqb hV.size) (fun e => tag_ne hqk tk (by simp) (Option.some.inj e))).trans (hV.block q hqb)
    exact ⟨⟨_, rfl⟩, ⟨hV'.piped hp (x' := turnP x kd) tb' hg, (Wt.below _ hV).trans (Wt.grown hg (by rw [tk]; rfl))⟩, hqc hb⟩
  have hkd' : (kd == 1) = false := by simpa using hkd
  have hIs : Calls Tryz.prog 108 #[wp q] w fun x w' => x = .returned (.bool false) ∧ w' = w := by
    clear hDr
    go_enter Tryz.func108, Tryz.ntmps108
    go_wp2_with fail
    go_ret
    exact ⟨rfl, rfl⟩
  generalize ({ D with P := fun i => if i = p then some (turnP x kd) else D.P i } : DS) = D2 at *
  clear h hq hqk hqc hqb hp hF hI hkd
  generalize g.Q p = Q at *
  go_enter Tryz.func159, Tryz.ntmps159
  go_upto_region 2 with (go_at_call 108; refine hIs.mono ?_; rintro x w1 ⟨rfl, hw1⟩; subst w1)
  go_region_held3 (fun w' => w'.cell? ⟨q, 0, none⟩ = some (.int .i64 kd) ∧ w'.cell? ⟨q, 5, none⟩ = some (wp Q)) (first | exact ⟨e0, e5⟩ | exact ⟨k0, k5⟩) (first
    | (go_at_call 176; refine (hDr _ ⟨by rfl, by rfl, by rfl, by exact Nat.le_refl _, fun _ _ => by rfl⟩).mono ?_; rintro x w2 ⟨⟨z, rfl⟩, hR, k0, k5⟩))
  all_goals
    go_wp2_with fail
    go_end0
    exact ⟨rfl, hR⟩
end
end Go.Proofs.YtjkneekfijibiabGreatDoor

namespace Go.Proofs.YtjkneekfijibiabGreatDoor
open Go.RowKit Go.Maps

section
variable {w w' w2 : World} {f b n : Nat} {D D' : DS} {g g' : QG} {M N N' : Ns} {d k : Int} {e : En}
set_option maxRecDepth 100000 in
set_option maxHeartbeats 4000000 in
theorem QF.leave_none (h : QF w f D g n) : Calls Tryz.prog 131 #[wp f, .int .i64 0] w fun x w' => x = .returned (.tuple #[]) ∧ w' = w := by
  have c1 := h.cells.2
  have hlk := h.look (k := 0) (by omega) (by omega)
  rw [gv_none h.k0] at hlk
  have h9 := fil_ne f
  have h8 := ent_nil
  clear h
  go_enter Tryz.func131, Tryz.ntmps131
  go_wp2_with fail
  refine bodyPost_ret (results_none rfl _ _ _) rfl ?_
  exact ⟨rfl, rfl⟩
set_option maxRecDepth 100000 in
set_option maxHeartbeats 4000000 in
theorem QF.leave_more (h : QF w f D g n) (hk : g.K k = some d) {c : Int} (hc : CanClose D d e c) (hm : 0 < c - 1) : Calls Tryz.prog 131 #[wp f, .int .i64 k] w fun x w' => x = .returned (.tuple #[]) ∧ (∃ g' n', QF w' f (closeK D d) g' n' ∧ Ext w (closeK D d) g g') ∧ Wt (fun i => (g.kap i).isSome = true) w w' := by
  obtain ⟨_, hk0, hk1⟩ := h.key k d hk
  have c1 := h.cells.2
  have hlk := h.look (k := k) (by omega) hk1
  rw [gv_some hk] at hlk
  have h9 := fil_ne f
  have h8 := ent_ne (g.B d)
  obtain ⟨_, _, e2, _, _, _, ez⟩ := h.ecell hc.ent hc.cnt
  have ez2 := ez 2
  obtain ⟨_, _, _, hkb⟩ := h.ent d e hc.ent
  have h1 := h.count hc.ent (c - 1)
  have g1 := tgrown_set w (g.B d) 2 (.int .i64 (c - 1))
  obtain ⟨_, _, e2', _, _, _, _⟩ := h1.ecell hc.ent (if_pos rfl)
  rw [closeK_more hc hm]
  have hfin : (∃ g' n', QF (w.setCell ⟨g.B d, 2, none⟩ (.int .i64 (c - 1))) f { D with R := fun i => if i = d then some (c - 1) else D.R i } g' n' ∧ Ext w { D with R := fun i => if i = d then some (c - 1) else D.R i } g g') ∧ Wt (fun i => (g.kap i).isSome = true) w (w.setCell ⟨g.B d, 2, none⟩ (.int .i64 (c - 1))) := ⟨⟨g, n, h1, Ext.refl _ _ _⟩, Wt.grown g1 (by rw [hkb]; rfl)⟩
  have hw1 : wrap64 (c - 1) = c - 1 := by have := hc.c0; have := hc.c1; unfold wrap64; omega
  have hz : ((c - 1 : Int) == 0) = false := by simp; omega
  generalize ({ D with R := fun i => if i = d then some (c - 1) else D.R i } : DS) = D2 at *
  generalize g.B d = q at *
  clear h hk hc hm ez hkb h1 g1
  go_enter Tryz.func131, Tryz.ntmps131
  go_wp2_with fail
  go_end0
  exact ⟨rfl, hfin⟩
/-- Behind the map's deletion. -/
structure LvS (w w2 w3 : World) (f : Nat) (g : QG) (D : DS) (k d c : Int) (e : En) : Prop where
  c1 : w.cell? ⟨f, 1, none⟩ = some (.map (some g.gO))
  lk : (Instr.lookup 142 (.map (some g.gO)) (.int .i64 k) false).run Tryz.prog w = .ok (wp (g.B d)) w
  e2 : w.cell? ⟨g.B d, 2, none⟩ = some (.int .i64 c)
  ez : w.frozen? ⟨g.B d, 2, none⟩ = false
  e2' : (w.setCell ⟨g.B d, 2, none⟩ (.int .i64 (c - 1))).cell? ⟨g.B d, 2, none⟩ = some (.int .i64 (c - 1))
  c1' : (w.setCell ⟨g.B d, 2, none⟩ (.int .i64 (c - 1))).cell? ⟨f, 1, none⟩ = some (.map (some g.gO))
  del : ∀ ty, (Builtin.delete_ #[142, 3] ty #[.map (some g.gO), .int .i64 k]).run Tryz.prog (w.setCell ⟨g.B d, 2, none⟩ (.int .i64 (c - 1))) = .ok (.tuple #[]) w3
  wt : Wt (fun i => (g.kap i).isSome = true) w w3
  tag : g.kap (g.B d) = some (.ent d)
  blk : w3.heap[g.B d]? = some (.cells (ecells g e (c - 1)) 180)
  st : ∃ n', QF w3 f { D with E := fun i => if i = d then none else D.E i, R := fun i => if i = d then none else if i = d then some (c - 1) else D.R i } { g with K := fun i => if i = k then none else g.K i } n'
theorem QF.leaving (h : QF w f D g n) (hk : g.K k = some d) {c : Int} (hc : CanClose D d e c) : ∃ w3, LvS w w w3 f g D k d c e := by
  obtain ⟨_, hk0, hk1⟩ := h.key k d hk
  have hlk := h.look (k := k) (by omega) hk1
  rw [gv_some hk] at hlk
  obtain ⟨_, _, e2, _, _, _, ez⟩ := h.ecell hc.ent hc.cnt
  obtain ⟨c9, hc9, hblk, hkb⟩ := h.ent d e hc.ent
  have h1 := h.count hc.ent (c - 1)
  have g1 := tgrown_set w (g.B d) 2 (.int .i64 (c - 1))
  obtain ⟨_, _, e2', _, _, _, _⟩ := h1.ecell hc.ent (if_pos rfl)
  obtain ⟨w3, hdel, pm, g3⟩ := del_run h1.map Tryz.underlying142 k (wf_few (by omega) (by omega))
  have h3 := h1.gone hk pm g3
  refine ⟨w3, h.cells.2, hlk, e2, ez 2, e2', h1.cells.2, hdel, (Wt.grown g1 (by rw [hkb]; rfl)).trans (Wt.grown g3 (by rw [h.tm]; rfl)), hkb, ?_, _, h3⟩
  rw [g3.block _ (h1.lt _ (by rw [hkb]; rfl)) (fun x => tag_ne hkb h.tm (by simp) (Option.some.inj x))]
  exact ent_put2 hblk _
theorem ext_gone {w3 : World} (hk : g.K k = some d) (hE : D'.E d = none) (hg : g'.K = fun i => if i = k then none else g.K i) (hka : ∀ i, i < w.heap.size → g'.kap i = g.kap i) (hr : g'.r = g.r) (_ : w3 = w3) : Ext w D' g g' := by
  refine ⟨hka, fun i x hi hx => ?_, hr⟩
  rw [hg]
  show (if i = k then none else g.K i) = some x
  by_cases e1 : i = k
  · rw [e1, hk] at hi
    rw [← Option.some.inj hi, hE] at hx
    cases hx
  · rw [if_neg e1]; exact hi
set_option maxRecDepth 100000 in
set_option maxHeartbeats 4000000 in
theorem QF.leave_last (h : QF w f D g n) (hk : g.K k = some d) {c : Int} (hc : Cl D d e c) (hm : ¬ 0 < c - 1) : Calls Tryz.prog 131 #[wp f, .int .i64 k] w fun x w' => x = .returned (.tuple #[]) ∧ (∃ g' n', QF w' f (closeK D d) g' n' ∧ Ext w (closeK D d) g g') ∧ Wt (fun i => (g.kap i).isSome = true) w w' := by
  obtain ⟨w3, L⟩ := h.leaving hk hc.toCanClose
  obtain ⟨n', h3⟩ := L.st
  have hsz := L.wt.size
  have hSh : Calls Tryz.prog 159 #[wp f, wp (g.B d)] w3 fun x w' => x = .returned (.tuple #[]) ∧ (∃ g' n', QF w' f (closeK D d) g' n' ∧ Ext w (closeK D d) g g') ∧ Wt (fun i => (g.kap i).isSome = true) w w' := by
    by_cases hkd : e.kind = 1
    · have hpv : pv g e = .pointer none := if_pos hkd
      have hnd := hc.node hkd
      refine (h3.shut_file (q := g.B d) L.blk L.tag hkd hc.lv hnd.1 hnd.2).mono ?_
      rintro x w' ⟨rfl, ⟨g', a1, a2, a3, a4⟩, wt⟩
      rw [closeK_file hc.toCanClose hm hkd]
      exact ⟨rfl, ⟨g', n', a1, ext_gone (w3 := w3) hk (if_pos rfl) a3 (fun i hi => a2 i (by omega)) a4 rfl⟩, L.wt.trans wt⟩
    · obtain ⟨q0, q1, p, hp, hpl, f0, f1, i0, i1⟩ := hc.pipe hkd
      have hpv : pv g e = wp (g.Q e.pipe) := if_neg hkd
      have hblk := L.blk
      rw [ecells, hpv] at hblk
      refine (h3.shut_end (q := g.B d) (p := e.pipe) hblk L.tag hkd hp ⟨f0, f1⟩ ⟨i0, i1⟩).mono ?_
      rintro x w' ⟨rfl, a1, wt⟩
      rw [closeK_end hc.toCanClose hm hkd, hp]
      exact ⟨rfl, ⟨_, n', a1, ext_gone (w3 := w3) hk (if_pos rfl) rfl (fun i hi => rfl) rfl rfl⟩, L.wt.trans wt⟩
  have hc1 : c = 1 := by have := hc.c0; omega
  subst hc1
  have c1 := L.c1
  have hlk := L.lk
  have e2 := L.e2
  have ez := L.ez
  have e2' := L.e2'
  have c1' := L.c1'
  have hdel := L.del
  have h9 := fil_ne f
  have h8 := ent_ne (g.B d)
  generalize closeK D d = D2 at *
  simp only [show (1 : Int) - 1 = 0 by omega] at e2' c1' hdel
  generalize g.B d = q at *
  clear h hk hc hm L h3 hsz
  go_enter Tryz.func131, Tryz.ntmps131
  go_wp2_with (go_at_call 159; refine hSh.mono ?_; rintro x w4 ⟨rfl, hR⟩)
  go_end0
  exact ⟨rfl, hR⟩
theorem QF.leave_ok (h : QF w f D g n) (hk : g.K k = some d) {c : Int} (hc : Cl D d e c) : Calls Tryz.prog 131 #[wp f, .int .i64 k] w fun x w' => x = .returned (.tuple #[]) ∧ (∃ g' n', QF w' f (closeK D d) g' n' ∧ Ext w (closeK D d) g g') ∧ Wt (fun i => (g.kap i).isSome = true) w w' := by
  by_cases hm : 0 < c - 1
  · exact h.leave_more hk hc.toCanClose hm
  · exact h.leave_last hk hc hm

set_option maxRecDepth 100000 in
set_option maxHeartbeats 4000000 in
theorem QF.free_ok (h : QF w f D g n) (t : QTb w b g M N) {i : Nat} (hi : i < 8) (hiL : i < N.length) (h0 : 0 < N[i].1) {c : Int} (hc : Cl D N[i].1 e c) (hl : Live (closeK D N[i].1) (N.set i (0, false))) :
    Calls Tryz.prog 101 #[wp f, wp b, .int .i64 (i : Int)] w fun x w' => x = .returned (.tuple #[]) ∧ QGo w w' f (closeK D N[i].1) g b (N.set i (0, false)) := by
  have hM : i < M.length := by have := t.tab.len; omega
  have hk := t.keyOf hM hiL h0
  obtain ⟨t0, t1⟩ := t.tab.at hi
  have z0 := t.tab.free (i * 2)
  have z1 := t.tab.free (i * 2 + 1)
  have hT1 := t.set (i := i) (0, false) (0, false) (t.tab.put hi (0, false) ⟨by simp, by simp, fun _ => rfl⟩) ⟨rfl, .inl ⟨rfl, rfl⟩⟩
  have g1 := QT.put_grown w b i (.int .i64 0) (.bool false)
  have h1 := h.offTab t.off g1
  obtain ⟨W, hW⟩ : ∃ W, (w.setCell ⟨b, i * 2, none⟩ (.int .i64 0)).setCell ⟨b, i * 2 + 1, none⟩ (.bool false) = W := ⟨_, rfl⟩
  simp only at hT1
  rw [hW] at hT1 g1 h1
  have hL := h1.leave_ok hk hc
  have hfin : ∀ w', (∃ g' n', QF w' f (closeK D N[i].1) g' n' ∧ Ext W (closeK D N[i].1) g g') → Wt (fun i => (g.kap i).isSome = true) W w' → QGo w w' f (closeK D N[i].1) g b (N.set i (0, false)) := fun w' hx wt => by
    obtain ⟨g', n', a1, a2⟩ := hx
    have hsz : W.heap.size = w.heap.size := by rw [← hW]; simp [World.setCell]
    refine ⟨⟨g', n', _, a1, hT1.other a2 (wt.block b hT1.tab.lt (by rw [t.off]; simp)) hl, ⟨fun j hj => a2.kap j (by omega), a2.key, a2.r⟩⟩, (Wt.grown g1 (.inr rfl)).trans (wt.mono (fun j hj => .inl hj))⟩
  generalize closeK D N[i].1 = D2 at *
  generalize N.set i (0, false) = N2 at *
  generalize M[i].1 = X at *
  generalize M[i].2 = Y at *
  have hi8 : (i : Int) < 8 := by omega
  clear h t hk hc hT1 g1 h1 hl h0
  go_enter Tryz.func101, Tryz.ntmps101
  go_upto_region 2 with fail
  clear t0 t1 z0 z1 hW
  go_wp2_with (go_at_call 131; refine hL.mono ?_; rintro x w4 ⟨rfl, hR, wt⟩)
  go_end0
  exact ⟨rfl, hfin _ hR wt⟩
end
end Go.Proofs.YtjkneekfijibiabGreatDoor

namespace Go.Proofs.YtjkneekfijibiabGreatDoor
open Go.RowKit Go.Maps

section
variable {w w' w2 : World} {f b n : Nat} {D D' : DS} {g g' : QG} {M N N' : Ns} {d k : Int} {e : En}
theorem QF.same (h : QF w f D g n) (t : QTb w b g M N) (hb : Below w.heap.size w w') : QGo w w' f D g b N := ⟨⟨g, n, M, h.below hb, t.below hb, Ext.refl _ _ _⟩, Wt.below _ hb⟩
theorem QGo.upon (hb : Below w.heap.size w w') (h : QGo w' w2 f D' g b N') : QGo w w2 f D' g b N' := by
  obtain ⟨⟨g', n', M', a, c, x⟩, wt⟩ := h
  exact ⟨⟨g', n', M', a, c, ⟨fun i hi => x.kap i (Nat.lt_of_lt_of_le hi hb.size), x.key, x.r⟩⟩, (Wt.below _ hb).trans wt⟩
set_option maxRecDepth 100000 in
set_option maxHeartbeats 4000000 in
theorem QF.close_no (h : QF w f D g n) (t : QTb w b g M N) (x : Int) (hx : hasN N x = false) : Calls Tryz.prog 47 #[wp f, wp b, .int .i64 x] w fun y w' => y = .returned (uer 7) ∧ QGo w w' f D g b N := by
  have hF := h.find_no t x hx
  have hs : ∀ w', Below w.heap.size w w' → QGo w w' f D g b N := fun w' hb => h.same t hb
  clear h t hx
  go_enter Tryz.func47, Tryz.ntmps47
  go_wp2_with (go_at_call 77; refine hF.mono ?_; rintro y w1 ⟨rfl, b1⟩)
  go_ret
  exact ⟨rfl, hs _ b1⟩
set_option maxRecDepth 100000 in
set_option maxHeartbeats 4000000 in
theorem QF.close_ok (h : QF w f D g n) (t : QTb w b g M N) {i : Nat} (hi : i < 8) (hiL : i < N.length) (h0 : 0 < N[i].1) {c : Int} (hc : Cl D N[i].1 e c) (hl : Live (closeK D N[i].1) (N.set i (0, false))) :
    Calls Tryz.prog 47 #[wp f, wp b, .int .i64 (i : Int)] w fun y w' => y = .returned .nilIface ∧ QGo w w' f (closeK D N[i].1) g b (N.set i (0, false)) := by
  have hF := h.find_yes t hi hiL h0
  have hFr : ∀ V, Below w.heap.size w V → Calls Tryz.prog 101 #[wp f, wp b, .int .i64 (i : Int)] V fun x w' => x = .returned (.tuple #[]) ∧ QGo w w' f (closeK D N[i].1) g b (N.set i (0, false)) := fun V hV => by
    refine ((h.below hV).free_ok (t.below hV) hi hiL h0 hc hl).mono ?_
    rintro x w' ⟨rfl, hG⟩
    exact ⟨rfl, hG.upon hV⟩
  generalize closeK D N[i].1 = D2 at *
  generalize N.set i (0, false) = N2 at *
  generalize g.B N[i].1 = q at *
  clear h t hc hl h0
  go_enter Tryz.func47, Tryz.ntmps47
  go_wp2_with (first
    | (go_at_call 77; refine hF.mono ?_; rintro y w1 ⟨rfl, b1⟩)
    | (go_at_call 101; refine (hFr _ b1).mono ?_; rintro y w2 ⟨rfl, hG⟩))
  go_ret
  exact ⟨rfl, hG⟩
set_option maxRecDepth 100000 in
set_option maxHeartbeats 4000000 in
theorem QF.mark_ok (h : QF w f D g n) (t : QTb w b g M N) (x : Int) (c : Bool) : Calls Tryz.prog 85 #[wp f, wp b, .int .i64 x, .bool c] w fun y w' => y = .returned (uev (if hasN N x = true then 0 else 7)) ∧ QGo w w' f D g b (markN N x c) := by
  by_cases hx : hasN N x = true
  · obtain ⟨i, rfl, hi, hiL, h0⟩ := hasN_at hx t.len
    rw [if_pos hx]
    have hmN : markN N i c = N.set i (N[i].1, c) := by
      unfold markN
      rw [if_pos hx, getD_in hiL, show (i : Int).toNat = i by omega]
    rw [hmN]
    have hM : i < M.length := by have := t.tab.len; omega
    have hk := t.keyOf hM hiL h0
    obtain ⟨_, hk0, _⟩ := h.key _ _ hk
    have hF := h.find_yes t hi hiL h0
    have hfin : ∀ V, Below w.heap.size w V → (∃ u, V.cell? ⟨b, i * 2 + 1, none⟩ = some u) ∧ V.frozen? ⟨b, i * 2 + 1, none⟩ = false ∧ QGo w (V.setCell ⟨b, i * 2 + 1, none⟩ (.bool c)) f D g b (N.set i (N[i].1, c)) := fun V hV => by
      have tV := t.below hV
      have t2 := tV.set (i := i) (M[i].1, c) (N[i].1, c) (tV.tab.mark hi c (by omega)) ⟨rfl, .inr ⟨h0, hk⟩⟩
      have gg := tgrown_set V b (i * 2 + 1) (.bool c)
      exact ⟨⟨_, (tV.tab.at hi).2⟩, tV.tab.free _, ⟨⟨g, n, _, (h.below hV).offTab t.off gg, t2, Ext.refl _ _ _⟩, (Wt.below _ hV).trans (Wt.grown gg (.inr rfl))⟩⟩
    generalize N.set i (N[i].1, c) = N2 at *
    generalize g.B N[i].1 = q at *
    have hi8 : (i : Int) < 8 := by omega
    clear h t hx hmN hk h0
    go_enter Tryz.func85, Tryz.ntmps85
    go_upto_region 4 with (go_at_call 77; refine hF.mono ?_; rintro y w1 ⟨rfl, b1⟩)
    obtain ⟨⟨u, c1⟩, z1, hG⟩ := hfin _ b1
    clear hfin hF
    go_wp2_with fail
    go_ret
    exact ⟨rfl, hG⟩
  · have hx' : hasN N x = false := by simpa using hx
    rw [if_neg hx, show markN N x c = N from if_neg hx]
    have hF := h.find_no t x hx'
    have hs : ∀ w', Below w.heap.size w w' → QGo w w' f D g b N := fun w' hb => h.same t hb
    clear h t hx hx'
    go_enter Tryz.func85, Tryz.ntmps85
    go_wp2_with (go_at_call 77; refine hF.mono ?_; rintro y w1 ⟨rfl, b1⟩)
    go_ret
    exact ⟨rfl, hs _ b1⟩
set_option maxRecDepth 100000 in
set_option maxHeartbeats 4000000 in
theorem QF.seek_ok (h : QF w f D g n) (t : QTb w b g M N) (x a : Int) (hL : Live D N) : Calls Tryz.prog 46 #[wp f, wp b, .int .i64 x, .int .i64 a] w fun y w' => y = .returned (uev (seekE D N x a)) ∧ QGo w w' f (seekD D N x a) g b N := by
  by_cases hx : hasN N x = true
  · obtain ⟨i, rfl, hi, hiL, h0⟩ := hasN_at hx t.len
    obtain ⟨e, he⟩ := Option.isSome_iff_exists.1 (hL i hiL h0)
    have hF := h.find_yes t hi hiL h0
    have hI : ∀ V, Below w.heap.size w V → Calls Tryz.prog 108 #[wp (g.B N[i].1)] V fun x w' => x = .returned (.bool (e.kind == 1)) ∧ w' = V := fun V hV => (h.below hV).isFile_ok he
    have hE1 : seekE D N i a = if e.kind ≠ 1 then 6 else if 0 ≤ a ∧ a ≤ 200 then 0 else 2 := by
      unfold seekE; rw [if_pos hx, getD_in hiL, he]
    have hD0 : seekE D N i a ≠ 0 → seekD D N i a = D := fun h => if_neg h
    by_cases hk : e.kind = 1
    · rw [hk] at hI
      rw [if_neg (fun z => z hk)] at hE1
      by_cases ha : 0 ≤ a ∧ a ≤ 200
      · rw [if_pos ha] at hE1
        have hD1 : seekD D N i a = { D with E := fun j => if j = N[i].1 then some { e with pos := a } else D.E j } := by
          unfold seekD; rw [if_pos hE1, getD_in hiL, he]
        rw [hE1, hD1]
        obtain ⟨c, hc, _, hkb⟩ := h.ent _ e he
        have hfin : ∀ V, Below w.heap.size w V → (∃ u, V.cell? ⟨g.B N[i].1, 4, none⟩ = some u) ∧ V.frozen? ⟨g.B N[i].1, 4, none⟩ = false ∧ QGo w (V.setCell ⟨g.B N[i].1, 4, none⟩ (.int .i64 a)) f { D with E := fun j => if j = N[i].1 then some { e with pos := a } else D.E j } g b N := fun V hV => by
          have hV' := h.below hV
          obtain ⟨_, _, _, _, e4, _, ez⟩ := hV'.ecell he hc
          have gg := tgrown_set V (g.B N[i].1) 4 (.int .i64 a)
          exact ⟨⟨_, e4⟩, ez 4, ⟨⟨g, n, M, hV'.place he a, (t.below hV).offOwn (by rw [hkb]; rfl) gg, Ext.refl _ _ _⟩, (Wt.below _ hV).trans (Wt.grown gg (.inl (by rw [hkb]; rfl)))⟩⟩
        generalize ({ D with E := fun j => if j = N[i].1 then some { e with pos := a } else D.E j } : DS) = D2 at *
        generalize g.B N[i].1 = q at *
        obtain ⟨ha0, ha1⟩ := ha
        clear h t hx hE1 hD1 hD0 hkb hk hc he h0 hL
        go_enter Tryz.func46, Tryz.ntmps46
        go_upto_region 8 with (first
          | (go_at_call 77; refine hF.mono ?_; rintro y w1 ⟨rfl, b1⟩)
          | (go_at_call 108; refine (hI _ b1).mono ?_; rintro y w2 ⟨rfl, hw2⟩; subst w2))
        obtain ⟨⟨u, c1⟩, z1, hG⟩ := hfin _ b1
        clear hfin hF hI
        go_wp2_with fail
        go_ret
        exact ⟨rfl, hG⟩
      · rw [if_neg ha] at hE1
        rw [hD0 (by rw [hE1]; decide), hE1]
        have hs : ∀ w', Below w.heap.size w w' → QGo w w' f D g b N := fun w' hb => h.same t hb
        generalize g.B N[i].1 = q at *
        clear h t hx hE1 hD0 hk he h0 hL
        by_cases ha0 : a < 0
        · clear ha
          go_enter Tryz.func46, Tryz.ntmps46
          go_wp2_with (first
            | (go_at_call 77; refine hF.mono ?_; rintro y w1 ⟨rfl, b1⟩)
            | (go_at_call 108; refine (hI _ b1).mono ?_; rintro y w2 ⟨rfl, hw2⟩; subst w2))
          go_ret
          exact ⟨rfl, hs _ b1⟩
        · have ha1 : 200 < a := by omega
          clear ha
          go_enter Tryz.func46, Tryz.ntmps46
          go_wp2_with (first
            | (go_at_call 77; refine hF.mono ?_; rintro y w1 ⟨rfl, b1⟩)
            | (go_at_call 108; refine (hI _ b1).mono ?_; rintro y w2 ⟨rfl, hw2⟩; subst w2))
          go_ret
          exact ⟨rfl, hs _ b1⟩
    · rw [if_pos hk] at hE1
      rw [hD0 (by rw [hE1]; decide), hE1]
      have hk' : (e.kind == 1) = false := by simpa using hk
      rw [hk'] at hI
      have hs : ∀ w', Below w.heap.size w w' → QGo w w' f D g b N := fun w' hb => h.same t hb
      generalize g.B N[i].1 = q at *
      clear h t hx hE1 hD0 hk hk' he h0 hL
      go_enter Tryz.func46, Tryz.ntmps46
      go_wp2_with (first
        | (go_at_call 77; refine hF.mono ?_; rintro y w1 ⟨rfl, b1⟩)
        | (go_at_call 108; refine (hI _ b1).mono ?_; rintro y w2 ⟨rfl, hw2⟩; subst w2))
      go_ret
      exact ⟨rfl, hs _ b1⟩
  · have hx' : hasN N x = false := by simpa using hx
    have hE1 : seekE D N x a = 7 := if_neg hx
    rw [show seekD D N x a = D from if_neg (by rw [hE1]; decide), hE1]
    have hF := h.find_no t x hx'
    have hs : ∀ w', Below w.heap.size w w' → QGo w w' f D g b N := fun w' hb => h.same t hb
    clear h t hx hx' hE1
    go_enter Tryz.func46, Tryz.ntmps46
    go_wp2_with (go_at_call 77; refine hF.mono ?_; rintro y w1 ⟨rfl, b1⟩)
    go_ret
    exact ⟨rfl, hs _ b1⟩
end
end Go.Proofs.YtjkneekfijibiabGreatDoor

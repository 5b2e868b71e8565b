/- The document's own files: Close of a file's last number, by its Go text. -/
import Derived.Test.YtjkneekfijibiabGreatDoorDClose3
namespace Go.Proofs.YtjkneekfijibiabGreatDoor
open Go.RowKit Go.Maps

theorem holdN_dir {T : Wd} {n by' : Int} {k : Int} {C : List (Nm × Int)} (h : holdN T n by' k = some (.dir C)) : T k = some (.dir C) := by
  unfold holdN at h
  cases hn : T n with
  | none => rw [hn] at h; exact h
  | some nd => cases nd with
    | dir C9 => rw [hn] at h; exact h
    | file b x =>
      rw [hn] at h
      simp only at h
      by_cases hs : (x : Int) + by' < 0
      · rw [if_pos hs] at h; exact h
      · rw [if_neg hs] at h
        have h2 := sweepT_sub h
        by_cases e : k = n
        · subst e; rw [setT_same] at h2; cases h2
        · rw [setT_other _ e] at h2; exact h2
theorem town_hold {r gN : Nat} {T : Wd} {G : Int → Nat} {n by' : Int} : ∀ i, town r gN (holdN T n by') G i → town r gN T G i := by
  rintro i (e | e | ⟨k, C, e, e2⟩)
  · exact .inl e
  · exact .inr (.inl e)
  · exact .inr (.inr ⟨k, C, holdN_dir e, e2⟩)
section
variable {w w' : World} {f r gN s gE gR gP sE sR sP b : Nat} {D : DS} {G : Int → Nat} {N : Ns}
set_option maxRecDepth 100000 in
set_option maxHeartbeats 4000000 in
theorem RFt.close_file (h : RFt w f D r gN s G gE gR gP sE sR sP b N) {i : Nat} (hi : i < 8) (hiL : i < N.length) {e : En} {c : Int} (hc : CanClose D N[i].1 e c) (hs : sR < 1000) (hm : ¬ 0 < c - 1) (hn : hasN N i = true) (hk : e.kind = 1)
    (hT : TrOk D.T) (hsz : s ≤ 1000) (hC : ∀ k C, D.T k = some (.dir C) → C.length ≤ 1000) (hx : ∀ b x, D.T e.node = some (.file b x) → x + 1 ≤ 1000) :
    Calls Tryz.prog 87 #[wp f, wp b, .int .i64 (i : Int)] w fun e w' => e = .returned (.int .i64 0) ∧ RGo w w' f D (closeK D N[i].1) r gN G gE gR gP b (N.set i (0, false)) := by
  have hH := h.tab.has_ok i
  rw [hn] at hH
  obtain ⟨W, w2, w4, w5, L⟩ := h.last hi hiL hc hs
  have hD : closeK D N[i].1 = { T := holdN D.T e.node (-1), E := fun j => if j = N[i].1 then none else D.E j, R := fun j => if j = N[i].1 then none else if j = N[i].1 then some (c - 1) else D.R j, P := D.P, nx := D.nx } := by
    unfold closeK
    rw [hc.ent, hc.cnt]
    simp only
    rw [if_neg hm, if_pos hk]
  have hwn : (Lit.int .i64 e.node).wf = true := wf_few (by have := (hc.node hk).1; omega) (by have := (hc.node hk).2; omega)
  obtain ⟨sE5, sR5, h5, wt5, hl5, ho5⟩ := L.fin
  have hHd : ∀ V, Below w5.heap.size w5 V → Calls Tryz.prog 58 #[wp r, .int .i64 e.node, .int .i64 (-1)] V fun x w' => ∃ t, x = .returned (.int .i64 t) ∧ RGo w w' f D (closeK D N[i].1) r gN G gE gR gP b (N.set i (0, false)) ∧ w'.cell? ⟨w2.heap.size, 2, none⟩ = some (.int .i64 e.node) ∧ w'.cell? ⟨f, 0, none⟩ = some (wp r) := fun V hV => by
    have h6 := h5.below hV
    refine (h6.tree.hold_ok hT e.node (-1) hwn hsz hC ⟨by omega, by omega⟩ hx).mono ?_
    rintro x w' ⟨rfl, s', ht, hw⟩
    have h7 := h6.turn ht hw town_hold
    refine ⟨_, rfl, ⟨s', sE5, sR5, sP, ?_, ?_⟩, ?_, h7.toRFm.cells.1⟩
    · rw [hD]
      exact h7
    rotate_left
    · have hb := (hw.block w2.heap.size (Nat.lt_of_lt_of_le hl5 hV.size) (fun e => ho5 (.inr (.inr (.inr (.inr e)))))).trans ((hV.block _ hl5).trans L.cells)
      rw [cell_of_row _ _ _ _ _ _ hb]; rfl
    · exact wt5.trans ((Wt.below _ hV).trans (hw.mono (fun j hj => .inl (.inr (.inr (.inr (.inr hj)))))))
  have hcells : ∀ V, Below w5.heap.size w5 V → V.cell? ⟨w2.heap.size, 0, none⟩ = some (.int .i64 e.kind) ∧ V.cell? ⟨w2.heap.size, 2, none⟩ = some (.int .i64 e.node) ∧ V.cell? ⟨f, 0, none⟩ = some (wp r) := fun V hV => by
    have hb := (hV.block _ hl5).trans L.cells
    refine ⟨by rw [cell_of_row _ _ _ _ _ _ hb]; rfl, by rw [cell_of_row _ _ _ _ _ _ hb]; rfl, (h5.below hV).toRFm.cells.1⟩
  obtain ⟨Y, t1⟩ := L.t1
  have t0 := L.t0
  have z0 := L.z0
  have z1 := L.z1
  have eW := L.eW
  have d1 := L.d1
  have l1 := L.l1
  have r1 := L.r1
  have d2 := L.d2
  have d3 := L.d3
  have l2 := L.l2
  have l3 := L.l3
  have d4 := L.d4
  have r4 := L.r4
  have d5 := L.d5
  have r5 := L.r5
  have hw1 : wrap64 (c - 1) = c - 1 := by have := hc.c0; have := hc.c1; unfold wrap64; omega
  have hm0 : ¬ (0 : Int) < c - 1 := hm
  obtain ⟨q0, q1, q2⟩ := hcells w5 (Below.refl _ _)
  have hi8 : (i : Int) < 8 := by omega
  generalize closeK D N[i].1 = D2 at *
  generalize N.set i (0, false) = N2 at *
  generalize N[i].1 = X at *
  obtain ⟨kd, pr, nd, pi, ps⟩ := e
  simp only at hk hHd hcells t0 l1 l3 d4 r4 q0 q1 q2
  subst hk
  clear h hc hD L h5 wt5 hs hsz hC hx hT hwn hn hcells hl5 ho5
  go_enter Tryz.func87, Tryz.ntmps87
  go_upto_region 5 with (go_at_call 35; refine hH.mono ?_; rintro e w1 ⟨rfl, hw1⟩; subst w1)
  clear t0 t1 z0 z1 eW hH
  go_upto_region 12 with fail
  clear d1 l1 r1 d2 l2 l3 d4 r4 d5 r5
  go_region_held3 (fun w' => w'.cell? ⟨w2.heap.size, 2, none⟩ = some (.int .i64 nd) ∧ w'.cell? ⟨f, 0, none⟩ = some (wp r)) (first | exact ⟨q1, q2⟩ | exact ⟨q3, q4⟩) (first
    | (go_at_call 58; refine (hHd _ ⟨by rfl, by rfl, by rfl, by exact Nat.le_refl _, fun _ _ => by rfl⟩).mono ?_; rintro e w6 ⟨t, rfl, hR, q3, q4⟩))
  all_goals
    go_wp2_with fail
    go_ret
    exact ⟨rfl, hR⟩
end
end Go.Proofs.YtjkneekfijibiabGreatDoor

namespace Go.Proofs.YtjkneekfijibiabGreatDoor
open Go.RowKit Go.Maps

section
variable {w w' : World} {f r gN s gE gR gP sE sR sP b : Nat} {D : DS} {G : Int → Nat} {N : Ns}
set_option maxRecDepth 100000 in
set_option maxHeartbeats 4000000 in
theorem RFt.close_end (h : RFt w f D r gN s G gE gR gP sE sR sP b N) {i : Nat} (hi : i < 8) (hiL : i < N.length) {e : En} {c : Int} (hc : CanClose D N[i].1 e c) (hs : sR < 1000) (hm : ¬ 0 < c - 1) (hn : hasN N i = true) (hk : e.kind ≠ 1) (hsP : sP < 1000) :
    Calls Tryz.prog 87 #[wp f, wp b, .int .i64 (i : Int)] w fun e w' => e = .returned (.int .i64 0) ∧ RGo w w' f D (closeK D N[i].1) r gN G gE gR gP b (N.set i (0, false)) := by
  have hH := h.tab.has_ok i
  rw [hn] at hH
  obtain ⟨W, w2, w4, w5, L⟩ := h.last hi hiL hc hs
  obtain ⟨hp0, hp1, p, hp, hpl, hpF, hpF', hpI, hpI'⟩ := hc.pipe hk
  have hD : closeK D N[i].1 = { T := D.T, E := fun j => if j = N[i].1 then none else D.E j, R := fun j => if j = N[i].1 then none else if j = N[i].1 then some (c - 1) else D.R j, P := fun j => if j = e.pipe then some (turnP p e.kind) else D.P j, nx := D.nx } := by
    unfold closeK
    rw [hc.ent, hc.cnt]
    simp only
    rw [if_neg hm, if_neg hk, hp]
    rfl
  have hwp : (Lit.int .i64 e.pipe).wf = true := wf_few (by omega) (by omega)
  obtain ⟨sE5, sR5, h5, wt5, hl5, ho5⟩ := L.fin
  have hne5 : w2.heap.size ≠ w5.heap.size := by omega
  obtain ⟨B, F, I⟩ := p
  simp only at hpl hpF hpF' hpI hpI'
  have hA : Below w5.heap.size w5 (w5.alloc (.cells #[tx B, .int .i64 F, .int .i64 I] 220)).drew := below_dr ((Below.refl _ w5).alloc (Nat.le_refl _) _)
  have hAo : ∀ o, Below w5.heap.size w5 (w5.alloc o).drew := fun o => below_dr ((Below.refl _ w5).alloc (Nat.le_refl _) _)
  have hl6 : (Instr.lookup 86 (.map (some gP)) (.int .i64 e.pipe) false).run Tryz.prog w5.drew = .ok (piv (B, F, I)) w5.drew := (h5.below (below_dr (Below.refl _ w5))).toRFm.lookP hwp hp
  have hl7 : ∀ o, (Instr.lookup 86 (.map (some gP)) (.int .i64 e.pipe) false).run Tryz.prog (w5.alloc o).drew = .ok (piv (B, F, I)) (w5.alloc o).drew := fun o => (h5.below (hAo o)).toRFm.lookP hwp hp
  have hcells : ∀ V, Below w5.heap.size w5 V → V.cell? ⟨w2.heap.size, 0, none⟩ = some (.int .i64 e.kind) ∧ V.cell? ⟨w2.heap.size, 3, none⟩ = some (.int .i64 e.pipe) ∧ V.cell? ⟨f, 3, none⟩ = some (.map (some gP)) := fun V hV => by
    have hb := (hV.block _ hl5).trans L.cells
    refine ⟨by rw [cell_of_row _ _ _ _ _ _ hb]; rfl, by rw [cell_of_row _ _ _ _ _ _ hb]; rfl, (h5.below hV).toRFm.cells.2.2.2.1⟩
  have hRt : Rt (w5.alloc (.cells #[tx B, .int .i64 F, .int .i64 I] 220)).drew w5.heap.size F I B := by
    have hb : (w5.alloc (.cells #[tx B, .int .i64 F, .int .i64 I] 220)).drew.heap[w5.heap.size]? = some (.cells #[tx B, .int .i64 F, .int .i64 I] 220) := by
      show (w5.heap.push _)[w5.heap.size]? = _
      rw [Array.getElem?_push, if_pos rfl]
    exact ⟨hpl, by rw [cell_of_row _ _ _ _ _ _ hb]; rfl, by rw [cell_of_row _ _ _ _ _ _ hb]; rfl, by rw [cell_of_row _ _ _ _ _ _ hb]; rfl, fun k hk => by unfold World.frozen?; simp only [hb]; simp⟩
  have hTn := hRt.close_ok e.kind hpF hpF' hpI hpI'
  have hfin : ∀ w7, (w5.alloc (.cells #[tx B, .int .i64 F, .int .i64 I] 220)).drew.grownBy w7 (some w5.heap.size) → Below w5.heap.size w5 w7 ∧ ∃ w8, (Instr.mapUpdate 86 (.map (some gP)) (.int .i64 e.pipe) (.agg #[tx B, .int .i64 (clF F e.kind), .int .i64 (clI I e.kind)])).run Tryz.prog w7.drew = .ok () w8 ∧ RGo w w8 f D (closeK D N[i].1) r gN G gE gR gP b (N.set i (0, false)) := fun w7 g7 => by
    have b7 : Below w5.heap.size w5 w7 := hA.grown g7 hA.size (fun k e => by have := Option.some.inj e; omega)
    have h8 := h5.below (below_dr b7)
    obtain ⟨w8, r8, pm8, g8⟩ := h8.mP.put Tryz.underlying86 (by unfold maxLen; omega) e.pipe hwp (piv (turnP (B, F, I) e.kind))
    have h9 := h8.putP g8 pm8
    refine ⟨b7, w8, r8, ⟨s, sE5, sR5, _, (by rw [hD]; exact h9), ?_⟩⟩
    exact wt5.trans ((Wt.below _ (below_dr b7)).trans (Wt.grown g8 (.inl (.inr (.inr (.inr (.inl rfl)))))))
  obtain ⟨Y, t1⟩ := L.t1
  have t0 := L.t0
  have z0 := L.z0
  have z1 := L.z1
  have eW := L.eW
  have d1 := L.d1
  have l1 := L.l1
  have r1 := L.r1
  have d2 := L.d2
  have d3 := L.d3
  have l2 := L.l2
  have l3 := L.l3
  have d4 := L.d4
  have r4 := L.r4
  have d5 := L.d5
  have r5 := L.r5
  have hw1 : wrap64 (c - 1) = c - 1 := by have := hc.c0; have := hc.c1; unfold wrap64; omega
  obtain ⟨q0, q1, q2⟩ := hcells w5 (Below.refl _ _)
  have q3 : ∀ o, (w5.alloc o).cell? ⟨w2.heap.size, 3, none⟩ = some (.int .i64 e.pipe) := fun o => (hcells _ (hAo o)).2.1
  have q4 : ∀ o, (w5.alloc o).cell? ⟨f, 3, none⟩ = some (.map (some gP)) := fun o => (hcells _ (hAo o)).2.2
  have q5 : ∀ o, (w5.alloc o).cell? ⟨w2.heap.size, 0, none⟩ = some (.int .i64 e.kind) := fun o => (hcells _ (hAo o)).1
  have hi8 : (i : Int) < 8 := by omega
  have hk' : (e.kind == 1) = false := by simpa using hk
  generalize closeK D N[i].1 = D2 at *
  generalize N.set i (0, false) = N2 at *
  generalize N[i].1 = X at *
  obtain ⟨kd, pr, nd, pi, ps⟩ := e
  simp only at hk hk' hcells t0 l1 l3 d4 r4 q0 q1 q2 q3 q4 q5 hl6 hl7 hTn hfin
  clear h hc hD L h5 wt5 hs hn hl5 ho5 hp hpl hpF hpF' hpI hpI' hp0 hp1 hwp hA hAo hk hRt hsP
  go_enter Tryz.func87, Tryz.ntmps87
  go_upto_region 5 with (go_at_call 35; refine hH.mono ?_; rintro e w1 ⟨rfl, hw1⟩; subst w1)
  clear t0 t1 z0 z1 eW hH
  go_upto_region 14 with fail
  clear d1 l1 r1 d2 l2 l3 d4 r4 d5 r5
  go_region
  all_goals
    go_upto_region 16 with (go_at_call 132; refine hTn.mono ?_; rintro e w7 ⟨rfl, rt7, g7⟩)
    obtain ⟨b7, w8, r8, hR⟩ := hfin w7 g7
    obtain ⟨v0, v1, v2⟩ := hcells w7 b7
    have u0 := rt7.text
    have u1 := rt7.frm
    have u2 := rt7.int
    clear hl6 hl7 q0 q1 q2 q3 q4 q5 hTn rt7 g7 hfin hcells b7
    go_region
    all_goals
      go_wp2_with fail
      go_ret
      exact ⟨rfl, hR⟩
end
end Go.Proofs.YtjkneekfijibiabGreatDoor

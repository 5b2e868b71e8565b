/- The document's own files: what Close leaves, plainly and in memory. -/
import Derived.Test.YtjkneekfijibiabGreatDoorDDup
import Derived.Deep.RegionHeld3
namespace Go.Proofs.YtjkneekfijibiabGreatDoor
open Go.RowKit Go.Maps

section
variable {w w' : World} {f r gN s gE gR gP sE sR sP b : Nat} {D : DS} {G : Int → Nat} {N : Ns}
theorem RFt.delE (h : RFt w f D r gN s G gE gR gP sE sR sP b N) {k : Int} {z : Nat} (hg : w.grownBy w' (some gE)) (hm : PMap w' gE z (fun i => if i = k then none else (D.E i).map env)) : RFt w' f { D with E := fun i => if i = k then none else D.E i } r gN s G gE gR gP z sR sP b N := by
  obtain ⟨n1, n2, n3⟩ := h.toRFm.fe
  have hk : ∀ i, i < w.heap.size → i ≠ gE → w'.heap[i]? = w.heap[i]? := fun i hi hne => hg.block i hi (fun e => hne (Option.some.inj e))
  refine ⟨⟨(hk f (h.toRFm.lt (.inl rfl)) n1).trans h.head, h.tree.keep (fun i ht => hk i (h.tree.lt ht) (h.apart i ht).2.1), ?_, h.mR.keep (hk _ h.mR.lt (Ne.symm h.er)), h.mP.keep (hk _ h.mP.lt (Ne.symm h.ep)), h.er, h.ep, h.rp, h.apart⟩, h.tab.keep (hk b h.tab.lt (fun e => h.off (.inr (.inl e)))), h.off⟩
  have e2 : (fun i => (if i = k then none else D.E i).map env) = fun i => if i = k then none else (D.E i).map env := by
    funext i
    split <;> rfl
  show PMap w' gE z (fun i => (if i = k then none else D.E i).map env)
  rw [e2]
  exact hm
theorem RFt.delR (h : RFt w f D r gN s G gE gR gP sE sR sP b N) {k : Int} {z : Nat} (hg : w.grownBy w' (some gR)) (hm : PMap w' gR z (fun i => if i = k then none else (D.R i).map (.int .i64 ·))) : RFt w' f { D with R := fun i => if i = k then none else D.R i } r gN s G gE gR gP sE z sP b N := by
  obtain ⟨n1, n2, n3⟩ := h.toRFm.fe
  have hk : ∀ i, i < w.heap.size → i ≠ gR → w'.heap[i]? = w.heap[i]? := fun i hi hne => hg.block i hi (fun e => hne (Option.some.inj e))
  refine ⟨⟨(hk f (h.toRFm.lt (.inl rfl)) n2).trans h.head, h.tree.keep (fun i ht => hk i (h.tree.lt ht) (h.apart i ht).2.2.1), h.mE.keep (hk _ h.mE.lt h.er), ?_, h.mP.keep (hk _ h.mP.lt (Ne.symm h.rp)), h.er, h.ep, h.rp, h.apart⟩, h.tab.keep (hk b h.tab.lt (fun e => h.off (.inr (.inr (.inl e))))), h.off⟩
  have e2 : (fun i => (if i = k then none else D.R i).map (Value.int .i64 ·)) = fun i => if i = k then none else (D.R i).map (.int .i64 ·) := by
    funext i
    split <;> rfl
  show PMap w' gR z (fun i => (if i = k then none else D.R i).map (Value.int .i64 ·))
  rw [e2]
  exact hm
theorem RFt.putP (h : RFt w f D r gN s G gE gR gP sE sR sP b N) {k : Int} {p : Pi} {z : Nat} (hg : w.grownBy w' (some gP)) (hm : PMap w' gP z (fun i => if i = k then some (piv p) else (D.P i).map piv)) : RFt w' f { D with P := fun i => if i = k then some p else D.P i } r gN s G gE gR gP sE sR z b N := by
  obtain ⟨n1, n2, n3⟩ := h.toRFm.fe
  have hk : ∀ i, i < w.heap.size → i ≠ gP → w'.heap[i]? = w.heap[i]? := fun i hi hne => hg.block i hi (fun e => hne (Option.some.inj e))
  refine ⟨⟨(hk f (h.toRFm.lt (.inl rfl)) n3).trans h.head, h.tree.keep (fun i ht => hk i (h.tree.lt ht) (h.apart i ht).2.2.2), h.mE.keep (hk _ h.mE.lt h.ep), h.mR.keep (hk _ h.mR.lt h.rp), ?_, h.er, h.ep, h.rp, h.apart⟩, h.tab.keep (hk b h.tab.lt (fun e => h.off (.inr (.inr (.inr (.inl e)))))), h.off⟩
  have e2 : (fun i => (if i = k then some p else D.P i).map piv) = fun i => if i = k then some (piv p) else (D.P i).map piv := by
    funext i
    split <;> rfl
  show PMap w' gP z (fun i => (if i = k then some p else D.P i).map piv)
  rw [e2]
  exact hm
/-- The tree turned: its directories are those that were. -/
theorem RFt.turn (h : RFt w f D r gN s G gE gR gP sE sR sP b N) {T' : Wd} {s' : Nat} (ht : RTr w' r gN s' T' G) (hw : Wt (town r gN D.T G) w w') (hsub : ∀ i, town r gN T' G i → town r gN D.T G i) : RFt w' f { D with T := T' } r gN s' G gE gR gP sE sR sP b N := by
  have hk : ∀ i, i < w.heap.size → ¬ town r gN D.T G i → w'.heap[i]? = w.heap[i]? := fun i hi hn => hw.block i hi hn
  have ha := h.apart
  refine ⟨⟨(hk f (h.toRFm.lt (.inl rfl)) (fun e => (ha f e).1 rfl)).trans h.head, ht, h.mE.keep (hk _ h.mE.lt (fun e => (ha _ e).2.1 rfl)), h.mR.keep (hk _ h.mR.lt (fun e => (ha _ e).2.2.1 rfl)), h.mP.keep (hk _ h.mP.lt (fun e => (ha _ e).2.2.2 rfl)), h.er, h.ep, h.rp, fun i hi => ha i (hsub i hi)⟩, h.tab.keep (hk b h.tab.lt (fun e => h.off (.inr (.inr (.inr (.inr e)))))), fun hb => h.off ?_⟩
  rcases hb with e | e | e | e | e
  · exact .inl e
  · exact .inr (.inl e)
  · exact .inr (.inr (.inl e))
  · exact .inr (.inr (.inr (.inl e)))
  · exact .inr (.inr (.inr (.inr (hsub b e))))
theorem RFm.lookP (h : RFm w f D r gN s G gE gR gP sE sR sP) {k : Int} (hw : (Lit.int .i64 k).wf = true) {p : Pi} (he : D.P k = some p) : (Instr.lookup 86 (.map (some gP)) (.int .i64 k) false).run Tryz.prog w = .ok (piv p) w := by
  rw [h.mP.look Tryz.underlying86 (zero_pi _) k hw, he]; rfl
end
end Go.Proofs.YtjkneekfijibiabGreatDoor

namespace Go.Proofs.YtjkneekfijibiabGreatDoor
open Go.RowKit Go.Maps

section
variable {w w' : World} {f r gN s gE gR gP sE sR sP b : Nat} {D : DS} {G : Int → Nat} {N : Ns}
set_option maxRecDepth 100000 in
set_option maxHeartbeats 4000000 in
theorem RFt.close_more (h : RFt w f D r gN s G gE gR gP sE sR sP b N) {i : Nat} (hi : i < 8) (hiL : i < N.length) {e : En} {c : Int} (hc : CanClose D N[i].1 e c) (hs : sR < 1000) (hm : 0 < c - 1) (hn : hasN N i = true) :
    Calls Tryz.prog 87 #[wp f, wp b, .int .i64 (i : Int)] w fun e w' => e = .returned (.int .i64 0) ∧ RGo w w' f D (closeK D N[i].1) r gN G gE gR gP b (N.set i (0, false)) := by
  have hH := h.tab.has_ok i
  rw [hn] at hH
  have hwk : (Lit.int .i64 N[i].1).wf = true := wf_few (by have := hc.k0; omega) (by have := hc.k1; omega)
  have hD : closeK D N[i].1 = { D with R := fun j => if j = N[i].1 then some (c - 1) else D.R j } := by
    unfold closeK
    rw [hc.ent, hc.cnt]
    exact if_pos hm
  rw [hD]
  obtain ⟨t0, t1⟩ := h.tab.at hi
  have z0 := h.tab.free (i * 2)
  have z1 := h.tab.free (i * 2 + 1)
  obtain ⟨h1, g1⟩ := h.putT hi (0, false)
  obtain ⟨W, hW⟩ : ∃ W, (w.setCell ⟨b, i * 2, none⟩ (.int .i64 0)).setCell ⟨b, i * 2 + 1, none⟩ (.bool false) = W := ⟨_, rfl⟩
  rw [hW] at h1 g1
  have d1 := h1.toRFm.cells.2.2.1
  have hlk := h1.toRFm.lookR hwk hc.cnt
  obtain ⟨w5, hrun, pm5, g5⟩ := h1.mR.put Tryz.underlying85 (by unfold maxLen; omega) N[i].1 hwk (.int .i64 (c - 1))
  have h5 := h1.putR g5 pm5
  have d5 := h5.toRFm.cells.2.2.1
  have hlk5 := h5.toRFm.lookR (k := N[i].1) (c := c - 1) hwk (if_pos rfl)
  have hfin : RGo w w5 f D { D with R := fun j => if j = N[i].1 then some (c - 1) else D.R j } r gN G gE gR gP b (N.set i (0, false)) := ⟨s, sE, _, sP, h5, (Wt.grown g1 (.inr rfl)).trans (Wt.grown g5 (.inl (.inr (.inr (.inl rfl)))))⟩
  have hw1 : wrap64 (c - 1) = c - 1 := by have := hc.c0; have := hc.c1; unfold wrap64; omega
  generalize ({ D with R := fun j => if j = N[i].1 then some (c - 1) else D.R j } : DS) = D2 at *
  generalize N.set i (0, false) = N2 at *
  generalize N[i].1 = X at *
  generalize N[i].2 = Y at *
  have hi8 : (i : Int) < 8 := by omega
  clear h hc h1 g1 pm5 g5 h5 hD hwk hs hn
  go_enter Tryz.func87, Tryz.ntmps87
  go_upto_region 5 with (go_at_call 35; refine hH.mono ?_; rintro e w1 ⟨rfl, hw1⟩; subst w1)
  clear t0 t1 z0 z1 hW hH
  go_wp2_with fail
  go_ret
  exact ⟨rfl, hfin⟩
end
end Go.Proofs.YtjkneekfijibiabGreatDoor

namespace Go.Proofs.YtjkneekfijibiabGreatDoor
open Go.RowKit Go.Maps

section
variable {w w' : World} {f r gN s gE gR gP sE sR sP b : Nat} {D : DS} {G : Int → Nat} {N : Ns}
/-- Up to the map's two deletions. -/
structure LastS (w W w2 w4 w5 : World) (f r gN s : Nat) (G : Int → Nat) (gE gR gP b i : Nat) (D : DS) (N : Ns) (X c : Int) (e : En) (sP : Nat) : Prop where
  t0 : w.cell? ⟨b, i * 2, none⟩ = some (.int .i64 X)
  t1 : ∃ Y, w.cell? ⟨b, i * 2 + 1, none⟩ = some (.bool Y)
  z0 : w.frozen? ⟨b, i * 2, none⟩ = false
  z1 : w.frozen? ⟨b, i * 2 + 1, none⟩ = false
  eW : (w.setCell ⟨b, i * 2, none⟩ (.int .i64 0)).setCell ⟨b, i * 2 + 1, none⟩ (.bool false) = W
  d1 : W.cell? ⟨f, 2, none⟩ = some (.map (some gR))
  l1 : (Instr.lookup 85 (.map (some gR)) (.int .i64 X) false).run Tryz.prog W = .ok (.int .i64 c) W
  r1 : (Instr.mapUpdate 85 (.map (some gR)) (.int .i64 X) (.int .i64 (c - 1))).run Tryz.prog W = .ok () w2
  d2 : w2.cell? ⟨f, 2, none⟩ = some (.map (some gR))
  d3 : w2.cell? ⟨f, 1, none⟩ = some (.map (some gE))
  l2 : (Instr.lookup 85 (.map (some gR)) (.int .i64 X) false).run Tryz.prog w2 = .ok (.int .i64 (c - 1)) w2
  l3 : (Instr.lookup 84 (.map (some gE)) (.int .i64 X) false).run Tryz.prog w2 = .ok (env e) w2
  d4 : (w2.alloc (.cells #[.int .i64 e.kind, .int .i64 e.prot, .int .i64 e.node, .int .i64 e.pipe, .int .i64 e.pos] 213)).cell? ⟨f, 1, none⟩ = some (.map (some gE))
  r4 : ∀ ty, (Builtin.delete_ #[84, 3] ty #[.map (some gE), .int .i64 X]).run Tryz.prog (w2.alloc (.cells #[.int .i64 e.kind, .int .i64 e.prot, .int .i64 e.node, .int .i64 e.pipe, .int .i64 e.pos] 213)) = .ok (.tuple #[]) w4
  d5 : w4.cell? ⟨f, 2, none⟩ = some (.map (some gR))
  r5 : ∀ ty, (Builtin.delete_ #[85, 3] ty #[.map (some gR), .int .i64 X]).run Tryz.prog w4 = .ok (.tuple #[]) w5
  cells : w5.heap[w2.heap.size]? = some (.cells #[.int .i64 e.kind, .int .i64 e.prot, .int .i64 e.node, .int .i64 e.pipe, .int .i64 e.pos] 213)
  fin : ∃ sE sR, RFt w5 f { D with E := fun j => if j = X then none else D.E j, R := fun j => if j = X then none else if j = X then some (c - 1) else D.R j } r gN s G gE gR gP sE sR sP b (N.set i (0, false)) ∧ Wt (fun i => fown f r gN D.T G gE gR gP i ∨ i = b) w w5 ∧ w2.heap.size < w5.heap.size ∧ ¬ fown f r gN D.T G gE gR gP w2.heap.size
theorem RFt.last (h : RFt w f D r gN s G gE gR gP sE sR sP b N) {i : Nat} (hi : i < 8) (hiL : i < N.length) {e : En} {c : Int} (hc : CanClose D N[i].1 e c) (hs : sR < 1000) : ∃ W w2 w4 w5, LastS w W w2 w4 w5 f r gN s G gE gR gP b i D N N[i].1 c e sP := by
  have hwk : (Lit.int .i64 N[i].1).wf = true := wf_few (by have := hc.k0; omega) (by have := hc.k1; omega)
  obtain ⟨t0, t1⟩ := h.tab.at hi
  obtain ⟨h1, g1⟩ := h.putT hi (0, false)
  obtain ⟨W, hW⟩ : ∃ W, (w.setCell ⟨b, i * 2, none⟩ (.int .i64 0)).setCell ⟨b, i * 2 + 1, none⟩ (.bool false) = W := ⟨_, rfl⟩
  rw [hW] at h1 g1
  obtain ⟨w2, r1, pm2, g2⟩ := h1.mR.put Tryz.underlying85 (by unfold maxLen; omega) N[i].1 hwk (.int .i64 (c - 1))
  have h2 := h1.putR g2 pm2
  have hA : Below w2.heap.size w2 (w2.alloc (.cells #[.int .i64 e.kind, .int .i64 e.prot, .int .i64 e.node, .int .i64 e.pipe, .int .i64 e.pos] 213)) := (Below.refl _ w2).alloc (Nat.le_refl _) _
  have h3 := h2.below hA
  obtain ⟨w4, r4, pm4, g4⟩ := del_run h3.mE Tryz.underlying84 N[i].1 hwk
  have h4 := h3.delE g4 pm4
  obtain ⟨w5, r5, pm5, g5⟩ := del_run h4.mR Tryz.underlying85 N[i].1 hwk
  have h5 := h4.delR g5 pm5
  have hsz : (w2.alloc (.cells #[.int .i64 e.kind, .int .i64 e.prot, .int .i64 e.node, .int .i64 e.pipe, .int .i64 e.pos] 213)).heap.size = w2.heap.size + 1 := by show (w2.heap.push _).size = _; rw [Array.size_push]
  have hn1 : w2.heap.size ≠ gE := fun e => by have := h2.mE.lt; omega
  have hn2 : w2.heap.size ≠ gR := fun e => by have := h2.mR.lt; omega
  refine ⟨W, w2, w4, w5, t0, ⟨_, t1⟩, h.tab.free _, h.tab.free _, hW, h1.toRFm.cells.2.2.1, h1.toRFm.lookR hwk hc.cnt, r1, h2.toRFm.cells.2.2.1, h2.toRFm.cells.2.1, h2.toRFm.lookR hwk (if_pos rfl), h2.toRFm.lookE hwk hc.ent, h3.toRFm.cells.2.1, r4, h4.toRFm.cells.2.2.1, r5, ?_, _, _, h5, ?_, ?_, ?_⟩
  · rw [g5.block _ (by have := g4.size; omega) (fun e => hn2 (Option.some.inj e)), g4.block _ (by omega) (fun e => hn1 (Option.some.inj e))]
    exact new_five _ _ _ _ _ _ _
  · exact (Wt.grown g1 (.inr rfl)).trans ((Wt.grown g2 (.inl (.inr (.inr (.inl rfl))))).trans ((Wt.below _ hA).trans ((Wt.grown g4 (.inl (.inr (.inl rfl)))).trans (Wt.grown g5 (.inl (.inr (.inr (.inl rfl))))))))
  · have := g4.size; have := g5.size; omega
  · intro hf
    have := h2.toRFm.lt hf
    omega
end
end Go.Proofs.YtjkneekfijibiabGreatDoor

namespace Go.Proofs.YtjkneekfijibiabGreatDoor
open Go.RowKit Go.Maps

theorem holdN_dir {T : Wd} {n by' : Int} {k : Int} {C : List (Nm × Int)} (h : holdN T n by' k = some (.dir C)) : T k = some (.dir C) := by
  unfold holdN at h
  cases hn : T n with
  | none => rw [hn] at h; exact h
  | some nd => cases nd with
    | dir C9 => rw [hn] at h; exact h
    | file b x =>
      rw [hn] at h
      simp only at h
      by_cases hs : (x : Int) + by' < 0
      · rw [if_pos hs] at h; exact h
      · rw [if_neg hs] at h
        have h2 := sweepT_sub h
        by_cases e : k = n
        · subst e; rw [setT_same] at h2; cases h2
        · rw [setT_other _ e] at h2; exact h2
theorem town_hold {r gN : Nat} {T : Wd} {G : Int → Nat} {n by' : Int} : ∀ i, town r gN (holdN T n by') G i → town r gN T G i := by
  rintro i (e | e | ⟨k, C, e, e2⟩)
  · exact .inl e
  · exact .inr (.inl e)
  · exact .inr (.inr ⟨k, C, holdN_dir e, e2⟩)
section
variable {w w' : World} {f r gN s gE gR gP sE sR sP b : Nat} {D : DS} {G : Int → Nat} {N : Ns}
set_option maxRecDepth 100000 in
set_option maxHeartbeats 4000000 in
theorem RFt.close_file (h : RFt w f D r gN s G gE gR gP sE sR sP b N) {i : Nat} (hi : i < 8) (hiL : i < N.length) {e : En} {c : Int} (hc : CanClose D N[i].1 e c) (hs : sR < 1000) (hm : ¬ 0 < c - 1) (hn : hasN N i = true) (hk : e.kind = 1)
    (hT : TrOk D.T) (hsz : s ≤ 1000) (hC : ∀ k C, D.T k = some (.dir C) → C.length ≤ 1000) (hx : ∀ b x, D.T e.node = some (.file b x) → x + 1 ≤ 1000) :
    Calls Tryz.prog 87 #[wp f, wp b, .int .i64 (i : Int)] w fun e w' => e = .returned (.int .i64 0) ∧ RGo w w' f D (closeK D N[i].1) r gN G gE gR gP b (N.set i (0, false)) := by
  have hH := h.tab.has_ok i
  rw [hn] at hH
  obtain ⟨W, w2, w4, w5, L⟩ := h.last hi hiL hc hs
  have hD : closeK D N[i].1 = { T := holdN D.T e.node (-1), E := fun j => if j = N[i].1 then none else D.E j, R := fun j => if j = N[i].1 then none else if j = N[i].1 then some (c - 1) else D.R j, P := D.P, nx := D.nx } := by
    unfold closeK
    rw [hc.ent, hc.cnt]
    simp only
    rw [if_neg hm, if_pos hk]
  have hwn : (Lit.int .i64 e.node).wf = true := wf_few (by have := (hc.node hk).1; omega) (by have := (hc.node hk).2; omega)
  obtain ⟨sE5, sR5, h5, wt5, hl5, ho5⟩ := L.fin
  have hHd : ∀ V, Below w5.heap.size w5 V → Calls Tryz.prog 58 #[wp r, .int .i64 e.node, .int .i64 (-1)] V fun x w' => ∃ t, x = .returned (.int .i64 t) ∧ RGo w w' f D (closeK D N[i].1) r gN G gE gR gP b (N.set i (0, false)) ∧ w'.cell? ⟨w2.heap.size, 2, none⟩ = some (.int .i64 e.node) ∧ w'.cell? ⟨f, 0, none⟩ = some (wp r) := fun V hV => by
    have h6 := h5.below hV
    refine (h6.tree.hold_ok hT e.node (-1) hwn hsz hC ⟨by omega, by omega⟩ hx).mono ?_
    rintro x w' ⟨rfl, s', ht, hw⟩
    have h7 := h6.turn ht hw town_hold
    refine ⟨_, rfl, ⟨s', sE5, sR5, sP, ?_, ?_⟩, ?_, h7.toRFm.cells.1⟩
    · rw [hD]
      exact h7
    rotate_left
    · have hb := (hw.block w2.heap.size (Nat.lt_of_lt_of_le hl5 hV.size) (fun e => ho5 (.inr (.inr (.inr (.inr e)))))).trans ((hV.block _ hl5).trans L.cells)
      rw [cell_of_row _ _ _ _ _ _ hb]; rfl
    · exact wt5.trans ((Wt.below _ hV).trans (hw.mono (fun j hj => .inl (.inr (.inr (.inr (.inr hj)))))))
  have hcells : ∀ V, Below w5.heap.size w5 V → V.cell? ⟨w2.heap.size, 0, none⟩ = some (.int .i64 e.kind) ∧ V.cell? ⟨w2.heap.size, 2, none⟩ = some (.int .i64 e.node) ∧ V.cell? ⟨f, 0, none⟩ = some (wp r) := fun V hV => by
    have hb := (hV.block _ hl5).trans L.cells
    refine ⟨by rw [cell_of_row _ _ _ _ _ _ hb]; rfl, by rw [cell_of_row _ _ _ _ _ _ hb]; rfl, (h5.below hV).toRFm.cells.1⟩
  obtain ⟨Y, t1⟩ := L.t1
  have t0 := L.t0
  have z0 := L.z0
  have z1 := L.z1
  have eW := L.eW
  have d1 := L.d1
  have l1 := L.l1
  have r1 := L.r1
  have d2 := L.d2
  have d3 := L.d3
  have l2 := L.l2
  have l3 := L.l3
  have d4 := L.d4
  have r4 := L.r4
  have d5 := L.d5
  have r5 := L.r5
  have hw1 : wrap64 (c - 1) = c - 1 := by have := hc.c0; have := hc.c1; unfold wrap64; omega
  have hm0 : ¬ (0 : Int) < c - 1 := hm
  obtain ⟨q0, q1, q2⟩ := hcells w5 (Below.refl _ _)
  have hi8 : (i : Int) < 8 := by omega
  generalize closeK D N[i].1 = D2 at *
  generalize N.set i (0, false) = N2 at *
  generalize N[i].1 = X at *
  obtain ⟨kd, pr, nd, pi, ps⟩ := e
  simp only at hk hHd hcells t0 l1 l3 d4 r4 q0 q1 q2
  subst hk
  clear h hc hD L h5 wt5 hs hsz hC hx hT hwn hn hcells hl5 ho5
  go_enter Tryz.func87, Tryz.ntmps87
  go_upto_region 5 with (go_at_call 35; refine hH.mono ?_; rintro e w1 ⟨rfl, hw1⟩; subst w1)
  clear t0 t1 z0 z1 eW hH
  go_upto_region 12 with fail
  clear d1 l1 r1 d2 l2 l3 d4 r4 d5 r5
  go_region_held3 (fun w' => w'.cell? ⟨w2.heap.size, 2, none⟩ = some (.int .i64 nd) ∧ w'.cell? ⟨f, 0, none⟩ = some (wp r)) (first | exact ⟨q1, q2⟩ | exact ⟨q3, q4⟩) (first
    | (go_at_call 58; refine (hHd _ ⟨by rfl, by rfl, by rfl, by exact Nat.le_refl _, fun _ _ => by rfl⟩).mono ?_; rintro e w6 ⟨t, rfl, hR, q3, q4⟩))
  all_goals
    go_wp2_with fail
    go_ret
    exact ⟨rfl, hR⟩
end
end Go.Proofs.YtjkneekfijibiabGreatDoor

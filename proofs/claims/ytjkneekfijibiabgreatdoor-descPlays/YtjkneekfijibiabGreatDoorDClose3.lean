/- The document's own files: Dup, by its Go text. -/
import Derived.Test.YtjkneekfijibiabGreatDoorDSeek
import Derived.Deep.RegionHeld3
namespace Go.Proofs.YtjkneekfijibiabGreatDoor
open Go.RowKit Go.Maps

section
variable {w w' : World} {f r gN s gE gR gP sE sR sP b : Nat} {D : DS} {G : Int → Nat} {N : Ns}
/-- The counts turned; the table turned. -/
theorem RFt.putR (h : RFt w f D r gN s G gE gR gP sE sR sP b N) {k c : Int} {z : Nat} (hg : w.grownBy w' (some gR)) (hm : PMap w' gR z (fun i => if i = k then some (.int .i64 c) else (D.R i).map (.int .i64 ·))) : RFt w' f { D with R := fun i => if i = k then some c else D.R i } r gN s G gE gR gP sE z sP b N := by
  obtain ⟨n1, n2, n3⟩ := h.toRFm.fe
  have hk : ∀ i, i < w.heap.size → i ≠ gR → w'.heap[i]? = w.heap[i]? := fun i hi hne => hg.block i hi (fun e => hne (Option.some.inj e))
  refine ⟨⟨(hk f (h.toRFm.lt (.inl rfl)) n2).trans h.head, h.tree.keep (fun i ht => hk i (h.tree.lt ht) (h.apart i ht).2.2.1), h.mE.keep (hk _ h.mE.lt h.er), ?_, h.mP.keep (hk _ h.mP.lt (Ne.symm h.rp)), h.er, h.ep, h.rp, h.apart⟩, h.tab.keep (hk b h.tab.lt (fun e => h.off (.inr (.inr (.inl e))))), h.off⟩
  have e2 : (fun i => (if i = k then some c else D.R i).map (Value.int .i64 ·)) = fun i => if i = k then some (.int .i64 c) else (D.R i).map (.int .i64 ·) := by
    funext i
    split <;> rfl
  show PMap w' gR z (fun i => (if i = k then some c else D.R i).map (Value.int .i64 ·))
  rw [e2]
  exact hm
theorem RFt.putT (h : RFt w f D r gN s G gE gR gP sE sR sP b N) {i : Nat} (hi : i < 8) (x : Int × Bool) : RFt ((w.setCell ⟨b, i * 2, none⟩ (.int .i64 x.1)).setCell ⟨b, i * 2 + 1, none⟩ (.bool x.2)) f D r gN s G gE gR gP sE sR sP b (N.set i x) ∧ w.grownBy ((w.setCell ⟨b, i * 2, none⟩ (.int .i64 x.1)).setCell ⟨b, i * 2 + 1, none⟩ (.bool x.2)) (some b) := by
  have g := tgrown_trans (tgrown_set w b (i * 2) (.int .i64 x.1)) (tgrown_set _ b (i * 2 + 1) (.bool x.2))
  exact ⟨⟨h.toRFm.keep (fun j hj => g.block j (h.toRFm.lt hj) (fun e => h.off (by rw [← Option.some.inj e]; exact hj))), h.tab.put hi x, h.off⟩, g⟩
theorem RFm.lookR (h : RFm w f D r gN s G gE gR gP sE sR sP) {k : Int} (hw : (Lit.int .i64 k).wf = true) {c : Int} (he : D.R k = some c) : (Instr.lookup 85 (.map (some gR)) (.int .i64 k) false).run Tryz.prog w = .ok (.int .i64 c) w := by
  rw [h.mR.look Tryz.underlying85 (zero_num _) k hw, he]; rfl
set_option maxRecDepth 100000 in
set_option maxHeartbeats 4000000 in
theorem RFt.dup_ok (h : RFt w f D r gN s G gE gR gP sE sR sP b N) (n : Int) (hE : ∀ i (hi : i < N.length), 0 < N[i].1 → N[i].1 < 100000 ∧ ∃ c, D.R N[i].1 = some c ∧ 0 ≤ c ∧ c < 100000) (hs : sR < 1000) :
    Calls Tryz.prog 82 #[wp f, wp b, .int .i64 n] w fun e w' => e = .returned (.tuple #[.int .i64 (dupK N n), .int .i64 (dupE N n)]) ∧ RGo w w' f D (dupD D N n) r gN G gE gR gP b (dupN N n) := by
  have hH := h.tab.has_ok n
  have hLs := h.tab.least_ok
  by_cases hn : hasN N n = true
  · rw [hn] at hH
    obtain ⟨i, rfl, hi, hiL, hpos⟩ := hasN_at hn h.tab.2
    obtain ⟨hk1, c, hc, hc0, hc1⟩ := hE i hiL hpos
    rcases least_lt (N := N) with hl | ⟨k, hl, hkL, hk0⟩
    · have e1 : dupE N i = 12 := by unfold dupE; rw [if_pos hn, hl]; rfl
      have e2 : dupD D N i = D := by unfold dupD; rw [if_neg (by rw [e1]; decide)]
      have e3 : dupN N i = N := by unfold dupN; rw [if_neg (by rw [e1]; decide)]
      have e4 : dupK N i = 0 := by unfold dupK; rw [if_neg (by rw [e1]; decide)]
      rw [e1, e2, e3, e4]
      rw [hl] at hLs
      have hfin : ∀ V, Below w.heap.size w V → RGo w V f D D r gN G gE gR gP b N := fun V hV => h.same hV
      clear h hn hE e1 e2 e3 e4 hc hc0 hc1 hs hl hk1 hpos
      go_enter Tryz.func82, Tryz.ntmps82
      go_wp2_with (first
        | (go_at_call 35; refine hH.mono ?_; rintro e w1 ⟨rfl, hw1⟩; subst w1)
        | (go_at_call 128; refine hLs.mono ?_; rintro e w2 ⟨rfl, b2⟩))
      go_ret2
      exact ⟨rfl, hfin _ b2⟩
    · have hk8 : k < 8 := by have := h.tab.2; omega
      have e1 : dupE N i = 0 := by unfold dupE; rw [if_pos hn, hl, if_neg (by omega)]
      have hki : k ≠ i := fun e => by subst e; omega
      have e2 : dupD D N i = { D with R := fun j => if j = N[i].1 then some (c + 1) else D.R j } := by
        unfold dupD
        rw [if_pos e1, getD_in hiL]
        congr 1
        funext j
        split
        · rename_i e; rw [e, hc]; rfl
        · rfl
      have e3 : dupN N i = N.set k (N[i].1, false) := by unfold dupN; rw [if_pos e1, getD_in hiL, hl, show (k : Int).toNat = k by omega]
      have e4 : dupK N i = k := by unfold dupK; rw [if_pos e1, hl]
      rw [e1, e2, e3, e4]
      rw [hl] at hLs
      have hwk : (Lit.int .i64 N[i].1).wf = true := wf_few (by omega) (by omega)
      have HT : Aside (∀ V, Below w.heap.size w V → V.cell? ⟨b, i * 2, none⟩ = some (.int .i64 N[i].1) ∧ (∃ u, V.cell? ⟨b, k * 2, none⟩ = some u) ∧ (∃ u, V.cell? ⟨b, k * 2 + 1, none⟩ = some u) ∧ V.frozen? ⟨b, k * 2, none⟩ = false ∧ V.frozen? ⟨b, k * 2 + 1, none⟩ = false) := fun V hV => by
        have t := h.tab.below hV
        exact ⟨(t.at hi).1, ⟨_, (t.at hk8).1⟩, ⟨_, (t.at hk8).2⟩, t.free _, t.free _⟩
      have HP : Aside (∀ V, Below w.heap.size w V → ∀ W, W = (V.setCell ⟨b, k * 2, none⟩ (.int .i64 N[i].1)).setCell ⟨b, k * 2 + 1, none⟩ (.bool false) → W.cell? ⟨b, i * 2, none⟩ = some (.int .i64 N[i].1) ∧ W.cell? ⟨f, 2, none⟩ = some (.map (some gR)) ∧ (Instr.lookup 85 (.map (some gR)) (.int .i64 N[i].1) false).run Tryz.prog W.drew.drew = .ok (.int .i64 c) W.drew.drew ∧ ∃ w5, (Instr.mapUpdate 85 (.map (some gR)) (.int .i64 N[i].1) (.int .i64 (c + 1))).run Tryz.prog W.drew.drew = .ok () w5 ∧ RGo w w5 f D { D with R := fun j => if j = N[i].1 then some (c + 1) else D.R j } r gN G gE gR gP b (N.set k (N[i].1, false))) := fun V hV W hW => by
        have h1 := h.below hV
        obtain ⟨h2, g2⟩ := h1.putT hk8 (N[i].1, false)
        rw [← hW] at h2 g2
        have h3 := h2.below (below_dr (below_dr (Below.refl _ W)))
        obtain ⟨w5, hrun, pm5, g5⟩ := h3.mR.put Tryz.underlying85 (by unfold maxLen; omega) N[i].1 hwk (.int .i64 (c + 1))
        have hn9 : (N.set k (N[i].1, false))[i]'(by rw [List.length_set]; exact hiL) = N[i] := List.getElem_set_ne hki _
        refine ⟨by rw [(h2.tab.at hi).1]; simp only [hn9], h2.toRFm.cells.2.2.1, h3.toRFm.lookR hwk hc, w5, hrun, ⟨s, sE, _, sP, h3.putR g5 pm5, ?_⟩⟩
        refine (Wt.below _ hV).trans ((Wt.grown g2 (.inr rfl)).trans ((Wt.below _ (below_dr (below_dr (Below.refl _ W)))).trans (Wt.grown g5 (.inl (.inr (.inr (.inl rfl)))))))
      generalize ({ D with R := fun j => if j = N[i].1 then some (c + 1) else D.R j } : DS) = D2 at *
      generalize N.set k (N[i].1, false) = N2 at *
      generalize N[i].1 = X at *
      have hk8' : (k : Int) < 8 := by omega
      have hi8 : (i : Int) < 8 := by omega
      have hw1 : wrap64 (c + 1) = c + 1 := by unfold wrap64; omega
      have hw2 : IntKind.i64.wrap (c + 1) = c + 1 := by rw [IntKind.wrap_i64]; omega
      clear h hn hE e1 e2 e3 e4 hc hs hl hk1 hwk hk0 hc1 hc0
      go_enter Tryz.func82, Tryz.ntmps82
      go_upto_region 6 with (first
        | (go_at_call 35; refine hH.mono ?_; rintro e w1 ⟨rfl, hw1⟩; subst w1)
        | (go_at_call 128; refine hLs.mono ?_; rintro e w2 ⟨rfl, b2⟩))
      obtain ⟨c0, ⟨u1, c1⟩, ⟨u2, c2⟩, z1, z2⟩ := HT.out _ b2
      go_region
      all_goals
        obtain ⟨W, hW⟩ : ∃ W, (w2.setCell ⟨b, k * 2, none⟩ (.int .i64 X)).setCell ⟨b, k * 2 + 1, none⟩ (.bool false) = W := ⟨_, rfl⟩
        rw [hW]
        obtain ⟨d0, d1, hlk, w5, hrun, hR5⟩ := HP.out _ b2 W hW.symm
        clear c0 c1 c2 z1 z2 hH hLs hW
        go_upto_region 7 with fail
        go_region
        all_goals
          go_wp2_with fail
          go_ret2
          exact ⟨rfl, hR5⟩
  · have hn' : hasN N n = false := by simpa using hn
    rw [hn'] at hH
    have e1 : dupE N n = 7 := if_neg hn
    have e2 : dupD D N n = D := by unfold dupD; rw [if_neg (by rw [e1]; decide)]
    have e3 : dupN N n = N := by unfold dupN; rw [if_neg (by rw [e1]; decide)]
    have e4 : dupK N n = 0 := by unfold dupK; rw [if_neg (by rw [e1]; decide)]
    rw [e1, e2, e3, e4]
    have hfin := h.same (Below.refl _ w)
    clear h hn hn' e1 e2 e3 e4 hE hLs
    go_enter Tryz.func82, Tryz.ntmps82
    go_wp2_with (go_at_call 35; refine hH.mono ?_; rintro e w1 ⟨rfl, hw1⟩; subst w1)
    go_ret2
    exact ⟨rfl, hfin⟩
end
end Go.Proofs.YtjkneekfijibiabGreatDoor

namespace Go.Proofs.YtjkneekfijibiabGreatDoor
open Go.RowKit Go.Maps

section
variable {w w' : World} {f r gN s gE gR gP sE sR sP b : Nat} {D : DS} {G : Int → Nat} {N : Ns}
theorem RFt.delE (h : RFt w f D r gN s G gE gR gP sE sR sP b N) {k : Int} {z : Nat} (hg : w.grownBy w' (some gE)) (hm : PMap w' gE z (fun i => if i = k then none else (D.E i).map env)) : RFt w' f { D with E := fun i => if i = k then none else D.E i } r gN s G gE gR gP z sR sP b N := by
  obtain ⟨n1, n2, n3⟩ := h.toRFm.fe
  have hk : ∀ i, i < w.heap.size → i ≠ gE → w'.heap[i]? = w.heap[i]? := fun i hi hne => hg.block i hi (fun e => hne (Option.some.inj e))
  refine ⟨⟨(hk f (h.toRFm.lt (.inl rfl)) n1).trans h.head, h.tree.keep (fun i ht => hk i (h.tree.lt ht) (h.apart i ht).2.1), ?_, h.mR.keep (hk _ h.mR.lt (Ne.symm h.er)), h.mP.keep (hk _ h.mP.lt (Ne.symm h.ep)), h.er, h.ep, h.rp, h.apart⟩, h.tab.keep (hk b h.tab.lt (fun e => h.off (.inr (.inl e)))), h.off⟩
  have e2 : (fun i => (if i = k then none else D.E i).map env) = fun i => if i = k then none else (D.E i).map env := by
    funext i
    split <;> rfl
  show PMap w' gE z (fun i => (if i = k then none else D.E i).map env)
  rw [e2]
  exact hm
theorem RFt.delR (h : RFt w f D r gN s G gE gR gP sE sR sP b N) {k : Int} {z : Nat} (hg : w.grownBy w' (some gR)) (hm : PMap w' gR z (fun i => if i = k then none else (D.R i).map (.int .i64 ·))) : RFt w' f { D with R := fun i => if i = k then none else D.R i } r gN s G gE gR gP sE z sP b N := by
  obtain ⟨n1, n2, n3⟩ := h.toRFm.fe
  have hk : ∀ i, i < w.heap.size → i ≠ gR → w'.heap[i]? = w.heap[i]? := fun i hi hne => hg.block i hi (fun e => hne (Option.some.inj e))
  refine ⟨⟨(hk f (h.toRFm.lt (.inl rfl)) n2).trans h.head, h.tree.keep (fun i ht => hk i (h.tree.lt ht) (h.apart i ht).2.2.1), h.mE.keep (hk _ h.mE.lt h.er), ?_, h.mP.keep (hk _ h.mP.lt (Ne.symm h.rp)), h.er, h.ep, h.rp, h.apart⟩, h.tab.keep (hk b h.tab.lt (fun e => h.off (.inr (.inr (.inl e))))), h.off⟩
  have e2 : (fun i => (if i = k then none else D.R i).map (Value.int .i64 ·)) = fun i => if i = k then none else (D.R i).map (.int .i64 ·) := by
    funext i
    split <;> rfl
  show PMap w' gR z (fun i => (if i = k then none else D.R i).map (Value.int .i64 ·))
  rw [e2]
  exact hm
theorem RFt.putP (h : RFt w f D r gN s G gE gR gP sE sR sP b N) {k : Int} {p : Pi} {z : Nat} (hg : w.grownBy w' (some gP)) (hm : PMap w' gP z (fun i => if i = k then some (piv p) else (D.P i).map piv)) : RFt w' f { D with P := fun i => if i = k then some p else D.P i } r gN s G gE gR gP sE sR z b N := by
  obtain ⟨n1, n2, n3⟩ := h.toRFm.fe
  have hk : ∀ i, i < w.heap.size → i ≠ gP → w'.heap[i]? = w.heap[i]? := fun i hi hne => hg.block i hi (fun e => hne (Option.some.inj e))
  refine ⟨⟨(hk f (h.toRFm.lt (.inl rfl)) n3).trans h.head, h.tree.keep (fun i ht => hk i (h.tree.lt ht) (h.apart i ht).2.2.2), h.mE.keep (hk _ h.mE.lt h.ep), h.mR.keep (hk _ h.mR.lt h.rp), ?_, h.er, h.ep, h.rp, h.apart⟩, h.tab.keep (hk b h.tab.lt (fun e => h.off (.inr (.inr (.inr (.inl e)))))), h.off⟩
  have e2 : (fun i => (if i = k then some p else D.P i).map piv) = fun i => if i = k then some (piv p) else (D.P i).map piv := by
    funext i
    split <;> rfl
  show PMap w' gP z (fun i => (if i = k then some p else D.P i).map piv)
  rw [e2]
  exact hm
/-- The tree turned: its directories are those that were. -/
theorem RFt.turn (h : RFt w f D r gN s G gE gR gP sE sR sP b N) {T' : Wd} {s' : Nat} (ht : RTr w' r gN s' T' G) (hw : Wt (town r gN D.T G) w w') (hsub : ∀ i, town r gN T' G i → town r gN D.T G i) : RFt w' f { D with T := T' } r gN s' G gE gR gP sE sR sP b N := by
  have hk : ∀ i, i < w.heap.size → ¬ town r gN D.T G i → w'.heap[i]? = w.heap[i]? := fun i hi hn => hw.block i hi hn
  have ha := h.apart
  refine ⟨⟨(hk f (h.toRFm.lt (.inl rfl)) (fun e => (ha f e).1 rfl)).trans h.head, ht, h.mE.keep (hk _ h.mE.lt (fun e => (ha _ e).2.1 rfl)), h.mR.keep (hk _ h.mR.lt (fun e => (ha _ e).2.2.1 rfl)), h.mP.keep (hk _ h.mP.lt (fun e => (ha _ e).2.2.2 rfl)), h.er, h.ep, h.rp, fun i hi => ha i (hsub i hi)⟩, h.tab.keep (hk b h.tab.lt (fun e => h.off (.inr (.inr (.inr (.inr e)))))), fun hb => h.off ?_⟩
  rcases hb with e | e | e | e | e
  · exact .inl e
  · exact .inr (.inl e)
  · exact .inr (.inr (.inl e))
  · exact .inr (.inr (.inr (.inl e)))
  · exact .inr (.inr (.inr (.inr (hsub b e))))
theorem RFm.lookP (h : RFm w f D r gN s G gE gR gP sE sR sP) {k : Int} (hw : (Lit.int .i64 k).wf = true) {p : Pi} (he : D.P k = some p) : (Instr.lookup 86 (.map (some gP)) (.int .i64 k) false).run Tryz.prog w = .ok (piv p) w := by
  rw [h.mP.look Tryz.underlying86 (zero_pi _) k hw, he]; rfl
end
end Go.Proofs.YtjkneekfijibiabGreatDoor

namespace Go.Proofs.YtjkneekfijibiabGreatDoor
open Go.RowKit Go.Maps

section
variable {w w' : World} {f r gN s gE gR gP sE sR sP b : Nat} {D : DS} {G : Int → Nat} {N : Ns}
set_option maxRecDepth 100000 in
set_option maxHeartbeats 4000000 in
theorem RFt.close_more (h : RFt w f D r gN s G gE gR gP sE sR sP b N) {i : Nat} (hi : i < 8) (hiL : i < N.length) {e : En} {c : Int} (hc : CanClose D N[i].1 e c) (hs : sR < 1000) (hm : 0 < c - 1) (hn : hasN N i = true) :
    Calls Tryz.prog 87 #[wp f, wp b, .int .i64 (i : Int)] w fun e w' => e = .returned (.int .i64 0) ∧ RGo w w' f D (closeK D N[i].1) r gN G gE gR gP b (N.set i (0, false)) := by
  have hH := h.tab.has_ok i
  rw [hn] at hH
  have hwk : (Lit.int .i64 N[i].1).wf = true := wf_few (by have := hc.k0; omega) (by have := hc.k1; omega)
  have hD : closeK D N[i].1 = { D with R := fun j => if j = N[i].1 then some (c - 1) else D.R j } := by
    unfold closeK
    rw [hc.ent, hc.cnt]
    exact if_pos hm
  rw [hD]
  obtain ⟨t0, t1⟩ := h.tab.at hi
  have z0 := h.tab.free (i * 2)
  have z1 := h.tab.free (i * 2 + 1)
  obtain ⟨h1, g1⟩ := h.putT hi (0, false)
  obtain ⟨W, hW⟩ : ∃ W, (w.setCell ⟨b, i * 2, none⟩ (.int .i64 0)).setCell ⟨b, i * 2 + 1, none⟩ (.bool false) = W := ⟨_, rfl⟩
  rw [hW] at h1 g1
  have d1 := h1.toRFm.cells.2.2.1
  have hlk := h1.toRFm.lookR hwk hc.cnt
  obtain ⟨w5, hrun, pm5, g5⟩ := h1.mR.put Tryz.underlying85 (by unfold maxLen; omega) N[i].1 hwk (.int .i64 (c - 1))
  have h5 := h1.putR g5 pm5
  have d5 := h5.toRFm.cells.2.2.1
  have hlk5 := h5.toRFm.lookR (k := N[i].1) (c := c - 1) hwk (if_pos rfl)
  have hfin : RGo w w5 f D { D with R := fun j => if j = N[i].1 then some (c - 1) else D.R j } r gN G gE gR gP b (N.set i (0, false)) := ⟨s, sE, _, sP, h5, (Wt.grown g1 (.inr rfl)).trans (Wt.grown g5 (.inl (.inr (.inr (.inl rfl)))))⟩
  have hw1 : wrap64 (c - 1) = c - 1 := by have := hc.c0; have := hc.c1; unfold wrap64; omega
  generalize ({ D with R := fun j => if j = N[i].1 then some (c - 1) else D.R j } : DS) = D2 at *
  generalize N.set i (0, false) = N2 at *
  generalize N[i].1 = X at *
  generalize N[i].2 = Y at *
  have hi8 : (i : Int) < 8 := by omega
  clear h hc h1 g1 pm5 g5 h5 hD hwk hs hn
  go_enter Tryz.func87, Tryz.ntmps87
  go_upto_region 5 with (go_at_call 35; refine hH.mono ?_; rintro e w1 ⟨rfl, hw1⟩; subst w1)
  clear t0 t1 z0 z1 hW hH
  go_wp2_with fail
  go_ret
  exact ⟨rfl, hfin⟩
end
end Go.Proofs.YtjkneekfijibiabGreatDoor

namespace Go.Proofs.YtjkneekfijibiabGreatDoor
open Go.RowKit Go.Maps

section
variable {w w' : World} {f r gN s gE gR gP sE sR sP b : Nat} {D : DS} {G : Int → Nat} {N : Ns}
/-- Up to the map's two deletions. -/
structure LastS (w W w2 w4 w5 : World) (f r gN s : Nat) (G : Int → Nat) (gE gR gP b i : Nat) (D : DS) (N : Ns) (X c : Int) (e : En) (sP : Nat) : Prop where
  t0 : w.cell? ⟨b, i * 2, none⟩ = some (.int .i64 X)
  t1 : ∃ Y, w.cell? ⟨b, i * 2 + 1, none⟩ = some (.bool Y)
  z0 : w.frozen? ⟨b, i * 2, none⟩ = false
  z1 : w.frozen? ⟨b, i * 2 + 1, none⟩ = false
  eW : (w.setCell ⟨b, i * 2, none⟩ (.int .i64 0)).setCell ⟨b, i * 2 + 1, none⟩ (.bool false) = W
  d1 : W.cell? ⟨f, 2, none⟩ = some (.map (some gR))
  l1 : (Instr.lookup 85 (.map (some gR)) (.int .i64 X) false).run Tryz.prog W = .ok (.int .i64 c) W
  r1 : (Instr.mapUpdate 85 (.map (some gR)) (.int .i64 X) (.int .i64 (c - 1))).run Tryz.prog W = .ok () w2
  d2 : w2.cell? ⟨f, 2, none⟩ = some (.map (some gR))
  d3 : w2.cell? ⟨f, 1, none⟩ = some (.map (some gE))
  l2 : (Instr.lookup 85 (.map (some gR)) (.int .i64 X) false).run Tryz.prog w2 = .ok (.int .i64 (c - 1)) w2
  l3 : (Instr.lookup 84 (.map (some gE)) (.int .i64 X) false).run Tryz.prog w2 = .ok (env e) w2
  d4 : (w2.alloc (.cells #[.int .i64 e.kind, .int .i64 e.prot, .int .i64 e.node, .int .i64 e.pipe, .int .i64 e.pos] 213)).cell? ⟨f, 1, none⟩ = some (.map (some gE))
  r4 : ∀ ty, (Builtin.delete_ #[84, 3] ty #[.map (some gE), .int .i64 X]).run Tryz.prog (w2.alloc (.cells #[.int .i64 e.kind, .int .i64 e.prot, .int .i64 e.node, .int .i64 e.pipe, .int .i64 e.pos] 213)) = .ok (.tuple #[]) w4
  d5 : w4.cell? ⟨f, 2, none⟩ = some (.map (some gR))
  r5 : ∀ ty, (Builtin.delete_ #[85, 3] ty #[.map (some gR), .int .i64 X]).run Tryz.prog w4 = .ok (.tuple #[]) w5
  cells : w5.heap[w2.heap.size]? = some (.cells #[.int .i64 e.kind, .int .i64 e.prot, .int .i64 e.node, .int .i64 e.pipe, .int .i64 e.pos] 213)
  fin : ∃ sE sR, RFt w5 f { D with E := fun j => if j = X then none else D.E j, R := fun j => if j = X then none else if j = X then some (c - 1) else D.R j } r gN s G gE gR gP sE sR sP b (N.set i (0, false)) ∧ Wt (fun i => fown f r gN D.T G gE gR gP i ∨ i = b) w w5 ∧ w2.heap.size < w5.heap.size ∧ ¬ fown f r gN D.T G gE gR gP w2.heap.size
theorem RFt.last (h : RFt w f D r gN s G gE gR gP sE sR sP b N) {i : Nat} (hi : i < 8) (hiL : i < N.length) {e : En} {c : Int} (hc : CanClose D N[i].1 e c) (hs : sR < 1000) : ∃ W w2 w4 w5, LastS w W w2 w4 w5 f r gN s G gE gR gP b i D N N[i].1 c e sP := by
  have hwk : (Lit.int .i64 N[i].1).wf = true := wf_few (by have := hc.k0; omega) (by have := hc.k1; omega)
  obtain ⟨t0, t1⟩ := h.tab.at hi
  obtain ⟨h1, g1⟩ := h.putT hi (0, false)
  obtain ⟨W, hW⟩ : ∃ W, (w.setCell ⟨b, i * 2, none⟩ (.int .i64 0)).setCell ⟨b, i * 2 + 1, none⟩ (.bool false) = W := ⟨_, rfl⟩
  rw [hW] at h1 g1
  obtain ⟨w2, r1, pm2, g2⟩ := h1.mR.put Tryz.underlying85 (by unfold maxLen; omega) N[i].1 hwk (.int .i64 (c - 1))
  have h2 := h1.putR g2 pm2
  have hA : Below w2.heap.size w2 (w2.alloc (.cells #[.int .i64 e.kind, .int .i64 e.prot, .int .i64 e.node, .int .i64 e.pipe, .int .i64 e.pos] 213)) := (Below.refl _ w2).alloc (Nat.le_refl _) _
  have h3 := h2.below hA
  obtain ⟨w4, r4, pm4, g4⟩ := del_run h3.mE Tryz.underlying84 N[i].1 hwk
  have h4 := h3.delE g4 pm4
  obtain ⟨w5, r5, pm5, g5⟩ := del_run h4.mR Tryz.underlying85 N[i].1 hwk
  have h5 := h4.delR g5 pm5
  have hsz : (w2.alloc (.cells #[.int .i64 e.kind, .int .i64 e.prot, .int .i64 e.node, .int .i64 e.pipe, .int .i64 e.pos] 213)).heap.size = w2.heap.size + 1 := by show (w2.heap.push _).size = _; rw [Array.size_push]
  have hn1 : w2.heap.size ≠ gE := fun e => by have := h2.mE.lt; omega
  have hn2 : w2.heap.size ≠ gR := fun e => by have := h2.mR.lt; omega
  refine ⟨W, w2, w4, w5, t0, ⟨_, t1⟩, h.tab.free _, h.tab.free _, hW, h1.toRFm.cells.2.2.1, h1.toRFm.lookR hwk hc.cnt, r1, h2.toRFm.cells.2.2.1, h2.toRFm.cells.2.1, h2.toRFm.lookR hwk (if_pos rfl), h2.toRFm.lookE hwk hc.ent, h3.toRFm.cells.2.1, r4, h4.toRFm.cells.2.2.1, r5, ?_, _, _, h5, ?_, ?_, ?_⟩
  · rw [g5.block _ (by have := g4.size; omega) (fun e => hn2 (Option.some.inj e)), g4.block _ (by omega) (fun e => hn1 (Option.some.inj e))]
    exact new_five _ _ _ _ _ _ _
  · exact (Wt.grown g1 (.inr rfl)).trans ((Wt.grown g2 (.inl (.inr (.inr (.inl rfl))))).trans ((Wt.below _ hA).trans ((Wt.grown g4 (.inl (.inr (.inl rfl)))).trans (Wt.grown g5 (.inl (.inr (.inr (.inl rfl))))))))
  · have := g4.size; have := g5.size; omega
  · intro hf
    have := h2.toRFm.lt hf
    omega
end
end Go.Proofs.YtjkneekfijibiabGreatDoor

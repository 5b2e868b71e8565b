/- The document's own files that are open, plainly and in memory. -/
import Derived.Test.YtjkneekfijibiabGreatDoorDFds3
import Derived.Test.YtjkneekfijibiabGreatDoorTubesS
import Derived.Test.YtjkneekfijibiabGreatDoorWWrite2
namespace Go.Proofs.YtjkneekfijibiabGreatDoor
open Go.RowKit Go.Maps

abbrev env (e : En) : Value := .agg #[.int .i64 e.kind, .int .i64 e.prot, .int .i64 e.node, .int .i64 e.pipe, .int .i64 e.pos]
abbrev en0 : Value := .agg #[.int .i64 0, .int .i64 0, .int .i64 0, .int .i64 0, .int .i64 0]
abbrev piv (p : Pi) : Value := .agg #[tx p.1, .int .i64 p.2.1, .int .i64 p.2.2]
abbrev pi0 : Value := .agg #[tx [], .int .i64 0, .int .i64 0]
theorem zero_en (w : World) : (zeroValue 213).run Tryz.prog w = .ok en0 w := by kernel_rfl
theorem zero_pi (w : World) : (zeroValue 220).run Tryz.prog w = .ok pi0 w := by kernel_rfl
/-- In memory. -/
structure RFm (w : World) (f : Nat) (D : DS) (r gN s : Nat) (G : Int → Nat) (gE gR gP sE sR sP : Nat) : Prop where
  head : w.heap[f]? = some (.cells #[wp r, .map (some gE), .map (some gR), .map (some gP), .int .i64 D.nx] 88)
  tree : RTr w r gN s D.T G
  mE : PMap w gE sE (fun k => (D.E k).map env)
  mR : PMap w gR sR (fun k => (D.R k).map (.int .i64 ·))
  mP : PMap w gP sP (fun k => (D.P k).map piv)
  er : gE ≠ gR
  ep : gE ≠ gP
  rp : gR ≠ gP
  apart : ∀ i, town r gN D.T G i → i ≠ f ∧ i ≠ gE ∧ i ≠ gR ∧ i ≠ gP
/-- Its blocks. -/
def fown (f r gN : Nat) (T : Wd) (G : Int → Nat) (gE gR gP : Nat) (i : Nat) : Prop := i = f ∨ i = gE ∨ i = gR ∨ i = gP ∨ town r gN T G i
section
variable {w w' : World} {f r gN s gE gR gP sE sR sP b : Nat} {D : DS} {G : Int → Nat} {N : Ns}
theorem RFm.cells (h : RFm w f D r gN s G gE gR gP sE sR sP) : w.cell? ⟨f, 0, none⟩ = some (wp r) ∧ w.cell? ⟨f, 1, none⟩ = some (.map (some gE)) ∧ w.cell? ⟨f, 2, none⟩ = some (.map (some gR)) ∧ w.cell? ⟨f, 3, none⟩ = some (.map (some gP)) ∧ w.cell? ⟨f, 4, none⟩ = some (.int .i64 D.nx) :=
  ⟨by rw [cell_of_row _ _ _ _ _ _ h.head]; rfl, by rw [cell_of_row _ _ _ _ _ _ h.head]; rfl, by rw [cell_of_row _ _ _ _ _ _ h.head]; rfl, by rw [cell_of_row _ _ _ _ _ _ h.head]; rfl, by rw [cell_of_row _ _ _ _ _ _ h.head]; rfl⟩
theorem RFm.lt (h : RFm w f D r gN s G gE gR gP sE sR sP) {i : Nat} (hi : fown f r gN D.T G gE gR gP i) : i < w.heap.size := by
  rcases hi with rfl | rfl | rfl | rfl | ht
  · exact World.block_lt_of_cell? w _ h.cells.1
  · exact h.mE.lt
  · exact h.mR.lt
  · exact h.mP.lt
  · exact h.tree.lt ht
theorem RFm.keep (h : RFm w f D r gN s G gE gR gP sE sR sP) (hk : ∀ i, fown f r gN D.T G gE gR gP i → w'.heap[i]? = w.heap[i]?) : RFm w' f D r gN s G gE gR gP sE sR sP :=
  ⟨(hk f (.inl rfl)).trans h.head, h.tree.keep (fun i ht => hk i (.inr (.inr (.inr (.inr ht))))), h.mE.keep (hk _ (.inr (.inl rfl))), h.mR.keep (hk _ (.inr (.inr (.inl rfl)))), h.mP.keep (hk _ (.inr (.inr (.inr (.inl rfl))))), h.er, h.ep, h.rp, h.apart⟩
theorem RFm.below (h : RFm w f D r gN s G gE gR gP sE sR sP) (hb : Below w.heap.size w w') : RFm w' f D r gN s G gE gR gP sE sR sP := h.keep (fun i hi => hb.block i (h.lt hi))
theorem RFm.fe (h : RFm w f D r gN s G gE gR gP sE sR sP) : f ≠ gE ∧ f ≠ gR ∧ f ≠ gP := by
  refine ⟨fun e => ?_, fun e => ?_, fun e => ?_⟩
  · obtain ⟨es, cl, hm⟩ := h.mE.isMap; rw [← e, h.head] at hm; cases hm
  · obtain ⟨es, cl, hm⟩ := h.mR.isMap; rw [← e, h.head] at hm; cases hm
  · obtain ⟨es, cl, hm⟩ := h.mP.isMap; rw [← e, h.head] at hm; cases hm
/-- A table beside it. -/
structure RFt (w : World) (f : Nat) (D : DS) (r gN s : Nat) (G : Int → Nat) (gE gR gP sE sR sP : Nat) (b : Nat) (N : Ns) : Prop extends RFm w f D r gN s G gE gR gP sE sR sP where
  tab : FdT w b N
  off : ¬ fown f r gN D.T G gE gR gP b
theorem RFt.below (h : RFt w f D r gN s G gE gR gP sE sR sP b N) (hb : Below w.heap.size w w') : RFt w' f D r gN s G gE gR gP sE sR sP b N := ⟨h.toRFm.below hb, h.tab.below hb, h.off⟩
end
end Go.Proofs.YtjkneekfijibiabGreatDoor

namespace Go.Proofs.YtjkneekfijibiabGreatDoor
open Go.RowKit Go.Maps

section
variable {w w' : World} {b : Nat} {N : Ns} {i : Nat}
theorem FdT.free (h : FdT w b N) (o : Nat) : w.frozen? ⟨b, o, none⟩ = false := by
  simp [World.frozen?, h.1]
theorem FdT.put (h : FdT w b N) (hi : i < 8) (x : Int × Bool) : FdT ((w.setCell ⟨b, i * 2, none⟩ (.int .i64 x.1)).setCell ⟨b, i * 2 + 1, none⟩ (.bool x.2)) b (N.set i x) := by
  refine ⟨?_, by rw [List.length_set]; exact h.2⟩
  have h1 := heap_cell_same w b (i * 2) (.int .i64 x.1) _ _ _ h.1
  have h2 := heap_cell_same _ b (i * 2 + 1) (.bool x.2) _ _ _ h1
  rw [h2, ← nv_put N i x (by rw [h.2]; exact hi), Nat.mul_comm]
  simp
theorem FdT.mark (h : FdT w b N) (hi : i < 8) (c : Bool) : FdT (w.setCell ⟨b, i * 2 + 1, none⟩ (.bool c)) b (N.set i ((N[i]'(by rw [h.2]; exact hi)).1, c)) := by
  refine ⟨?_, by rw [List.length_set]; exact h.2⟩
  have hiL : i < N.length := by rw [h.2]; exact hi
  have h2 := heap_cell_same w b (i * 2 + 1) (.bool c) _ _ _ h.1
  rw [h2, ← nv_put N i (N[i].1, c) hiL, Nat.mul_comm]
  have e : (nv N).set (2 * i) (.int .i64 N[i].1) = nv N := by
    obtain ⟨e1, _⟩ := nv_at N i hiL
    obtain ⟨hl, he⟩ := List.getElem?_eq_some_iff.1 e1
    rw [← he, List.set_getElem_self]
  simp [e]
end
end Go.Proofs.YtjkneekfijibiabGreatDoor

namespace Go.Proofs.YtjkneekfijibiabGreatDoor
open Go.RowKit Go.Maps

/-- What a call of the document's leaves. -/
def RGo (w w' : World) (f : Nat) (D D' : DS) (r gN : Nat) (G : Int → Nat) (gE gR gP b : Nat) (N' : Ns) : Prop :=
  ∃ s sE sR sP, RFt w' f D' r gN s G gE gR gP sE sR sP b N' ∧ Wt (fun i => fown f r gN D.T G gE gR gP i ∨ i = b) w w'
section
variable {w w' : World} {f r gN s gE gR gP sE sR sP b : Nat} {D : DS} {G : Int → Nat} {N : Ns}
theorem RFt.same (h : RFt w f D r gN s G gE gR gP sE sR sP b N) (hb : Below w.heap.size w w') : RGo w w' f D D r gN G gE gR gP b N := ⟨s, sE, sR, sP, h.below hb, Wt.below _ hb⟩
theorem mark_wt (w : World) (b o : Nat) (v : Value) (A : Nat → Prop) (hA : A b) : Wt A w (w.setCell ⟨b, o, none⟩ v) := Wt.grown (tgrown_set w b o v) hA

set_option maxHeartbeats 1000000 in
theorem RFt.mark_ok (h : RFt w f D r gN s G gE gR gP sE sR sP b N) (n : Int) (c : Bool) :
    Calls Tryz.prog 86 #[wp f, wp b, .int .i64 n, .bool c] w fun e w' => e = .returned (.int .i64 (if hasN N n = true then 0 else 7)) ∧ RGo w w' f D D r gN G gE gR gP b (markN N n c) := by
  have hH := h.tab.has_ok n
  by_cases hn : hasN N n = true
  · rw [hn] at hH
    rw [if_pos hn]
    obtain ⟨i, rfl, hi, hiL, _⟩ := hasN_at hn h.tab.2
    have hmN : markN N i c = N.set i (N[i].1, c) := by
      unfold markN
      rw [if_pos hn, List.getD_eq_getElem?_getD, show (i : Int).toNat = i by omega, List.getElem?_eq_getElem hiL]; rfl
    rw [hmN]
    have hfz := h.tab.free (i * 2 + 1)
    obtain ⟨c0, c1⟩ := h.tab.at hi
    have hfin : RGo w (w.setCell ⟨b, i * 2 + 1, none⟩ (.bool c)) f D D r gN G gE gR gP b (N.set i (N[i].1, c)) := ⟨s, sE, sR, sP, ⟨h.toRFm.keep (fun j hj => (tgrown_set w b (i * 2 + 1) (.bool c)).block j (h.toRFm.lt hj) (fun e => h.off (by rw [← Option.some.inj e]; exact hj))), h.tab.mark hi c, h.off⟩, mark_wt _ _ _ _ _ (.inr rfl)⟩
    have hi8 : (i : Int) < 8 := by omega
    generalize N.set i (N[i].1, c) = N2 at *
    generalize N[i].1 = X at *
    generalize N[i].2 = Y at *
    clear h hn hmN
    go_enter Tryz.func86, Tryz.ntmps86
    go_wp2_with (go_at_call 35; refine hH.mono ?_; rintro e w1 ⟨rfl, hw1⟩; subst w1)
    go_ret
    exact ⟨rfl, hfin⟩
  · have hn' : hasN N n = false := by simpa using hn
    rw [hn'] at hH
    rw [if_neg hn, show markN N n c = N from if_neg hn]
    have hfin := h.same (Below.refl _ w)
    clear h hn hn'
    go_enter Tryz.func86, Tryz.ntmps86
    go_wp2_with (go_at_call 35; refine hH.mono ?_; rintro e w1 ⟨rfl, hw1⟩; subst w1)
    go_ret
    exact ⟨rfl, hfin⟩
/-- The map of ENTRIES turned. -/
theorem RFt.putE (h : RFt w f D r gN s G gE gR gP sE sR sP b N) {k : Int} {e : En} {z : Nat} (hg : w.grownBy w' (some gE)) (hm : PMap w' gE z (fun i => if i = k then some (env e) else (D.E i).map env)) : RGo w w' f D { D with E := fun i => if i = k then some e else D.E i } r gN G gE gR gP b N := by
  obtain ⟨n1, n2, n3⟩ := h.toRFm.fe
  have hk : ∀ i, i < w.heap.size → i ≠ gE → w'.heap[i]? = w.heap[i]? := fun i hi hne => hg.block i hi (fun e => hne (Option.some.inj e))
  refine ⟨s, z, sR, sP, ⟨⟨(hk f (h.toRFm.lt (.inl rfl)) n1).trans h.head, h.tree.keep (fun i ht => hk i (h.tree.lt ht) (h.apart i ht).2.1), ?_, h.mR.keep (hk _ h.mR.lt (Ne.symm h.er)), h.mP.keep (hk _ h.mP.lt (Ne.symm h.ep)), h.er, h.ep, h.rp, h.apart⟩, h.tab.keep (hk b h.tab.lt (fun e => h.off (.inr (.inl e)))), h.off⟩, Wt.grown hg (.inl (.inr (.inl rfl)))⟩
  have e2 : (fun i => (if i = k then some e else D.E i).map env) = fun i => if i = k then some (env e) else (D.E i).map env := by
    funext i
    split <;> rfl
  show PMap w' gE z (fun i => (if i = k then some e else D.E i).map env)
  rw [e2]
  exact hm
end
end Go.Proofs.YtjkneekfijibiabGreatDoor

namespace Go.Proofs.YtjkneekfijibiabGreatDoor
open Go.RowKit Go.Maps

section
variable {w w' : World} {f r gN s gE gR gP sE sR sP b : Nat} {D : DS} {G : Int → Nat} {N : Ns}
theorem RFm.lookE (h : RFm w f D r gN s G gE gR gP sE sR sP) {k : Int} (hw : (Lit.int .i64 k).wf = true) {e : En} (he : D.E k = some e) : (Instr.lookup 84 (.map (some gE)) (.int .i64 k) false).run Tryz.prog w = .ok (env e) w := by
  rw [h.mE.look Tryz.underlying84 (zero_en _) k hw, he]; rfl
theorem RGo.trans (hb : Below w.heap.size w w') {w2 : World} {D' : DS} {N' : Ns} (_h : RFt w f D r gN s G gE gR gP sE sR sP b N) (hg : RGo w' w2 f D D' r gN G gE gR gP b N') : RGo w w2 f D D' r gN G gE gR gP b N' := by
  obtain ⟨s', sE', sR', sP', a, c⟩ := hg
  exact ⟨s', sE', sR', sP', a, (Wt.below _ hb).trans c⟩

set_option maxRecDepth 100000 in
set_option maxHeartbeats 4000000 in
theorem RFt.seek_ok (h : RFt w f D r gN s G gE gR gP sE sR sP b N) (n a : Int) (hE : ∀ i (hi : i < N.length), 0 < N[i].1 → N[i].1 < 100000 ∧ ∃ e, D.E N[i].1 = some e) (hs : sE < 1000) :
    Calls Tryz.prog 90 #[wp f, wp b, .int .i64 n, .int .i64 a] w fun e w' => e = .returned (.int .i64 (seekE D N n a)) ∧ RGo w w' f D (seekD D N n a) r gN G gE gR gP b N := by
  have hH := h.tab.has_ok n
  by_cases hn : hasN N n = true
  · rw [hn] at hH
    obtain ⟨i, rfl, hi, hiL, hpos⟩ := hasN_at hn h.tab.2
    obtain ⟨hk1, e, he⟩ := hE i hiL hpos
    have hwk : (Lit.int .i64 N[i].1).wf = true := wf_few (by omega) (by omega)
    obtain ⟨c0, c1⟩ := h.tab.at hi
    obtain ⟨f0, f1, f2, f3, f4⟩ := h.toRFm.cells
    have hbl := h.tab.lt
    have hfl := h.toRFm.lt (i := f) (.inl rfl)
    have ca : ∀ o, (w.alloc o).cell? ⟨b, i * 2, none⟩ = w.cell? ⟨b, i * 2, none⟩ := fun o => World.cell?_alloc_lt _ _ ⟨b, i * 2, none⟩ hbl
    have cf : ∀ o, (w.alloc o).cell? ⟨f, 1, none⟩ = w.cell? ⟨f, 1, none⟩ := fun o => World.cell?_alloc_lt _ _ ⟨f, 1, none⟩ hfl
    rw [c0] at ca
    rw [f1] at cf
    have hA : ∀ o, Below w.heap.size w (w.alloc o) := fun o => (Below.refl _ w).alloc (Nat.le_refl _) o
    have hl1 : (Instr.lookup 84 (.map (some gE)) (.int .i64 N[i].1) false).run Tryz.prog w.drew = .ok (env e) w.drew := (h.toRFm.below (below_dr (Below.refl _ w))).lookE hwk he
    have hl2 : ∀ o, (Instr.lookup 84 (.map (some gE)) (.int .i64 N[i].1) false).run Tryz.prog (w.alloc o).drew = .ok (env e) (w.alloc o).drew := fun o => (h.toRFm.below (below_dr (hA o))).lookE hwk he
    have hse : seekE D N (i : Int) a = if e.kind ≠ 1 then 6 else if 0 ≤ a ∧ a ≤ 200 then 0 else 2 := by
      unfold seekE
      rw [if_pos hn, getD_in hiL, he]
    have hi8 : (i : Int) < 8 := by omega
    have hIn := in_ok
    by_cases hk : e.kind = 1
    · by_cases hr : 0 ≤ a ∧ a ≤ 200
      · have e1 : seekE D N i a = 0 := by rw [hse, if_neg (fun h => h hk), if_pos hr]
        have e2 : seekD D N i a = { D with E := fun j => if j = N[i].1 then some { e with pos := a } else D.E j } := by unfold seekD; rw [if_pos e1, getD_in hiL, he]
        rw [e1, e2]
        have hI : ∀ V, Calls Tryz.prog 95 #[.int .i64 a, .int .i64 0, .int .i64 200] V fun e w' => e = .returned (.bool true) ∧ w' = V := fun V => by
          have := in_ok V a 0 200
          rw [show (decide (0 ≤ a) && decide (a ≤ 200)) = true by simp; exact hr] at this
          exact this
        have hfin : ∀ V, Below w.heap.size w V → ∃ w5, (Instr.mapUpdate 84 (.map (some gE)) (.int .i64 N[i].1) (env { e with pos := a })).run Tryz.prog V.drew = .ok () w5 ∧ RGo w w5 f D { D with E := fun j => if j = N[i].1 then some { e with pos := a } else D.E j } r gN G gE gR gP b N := fun V hV => by
          have hB := below_dr hV
          have h9 := h.below hB
          obtain ⟨w5, hrun, pm5, g5⟩ := h9.mE.put Tryz.underlying84 (by unfold maxLen; omega) N[i].1 hwk (env { e with pos := a })
          exact ⟨w5, hrun, RGo.trans hB h (h9.putE g5 pm5)⟩
        have hcl : ∀ V, Below w.heap.size w V → V.cell? ⟨b, i * 2, none⟩ = some (.int .i64 N[i].1) ∧ V.cell? ⟨f, 1, none⟩ = some (.map (some gE)) := fun V hV => by
          exact ⟨by rw [hV.cell (p := ⟨b, i * 2, none⟩) hbl]; exact c0, by rw [hV.cell (p := ⟨f, 1, none⟩) hfl]; exact f1⟩
        generalize ({ D with E := fun j => if j = N[i].1 then some { e with pos := a } else D.E j } : DS) = D2 at *
        generalize N[i].1 = X at *
        clear h hn hE hse e1 e2 hIn hr hwk hbl hfl c1 f0 f2 f3 f4 hk1 hpos hs
        obtain ⟨kd, pr, nd, pi, ps⟩ := e
        simp only at hk
        subst hk
        have HF : Aside (∀ V, Below w.heap.size w V → ∃ w5, (Instr.mapUpdate 84 (.map (some gE)) (.int .i64 X) (.agg #[.int .i64 1, .int .i64 pr, .int .i64 nd, .int .i64 pi, .int .i64 a])).run Tryz.prog V.drew = .ok () w5 ∧ RGo w w5 f D D2 r gN G gE gR gP b N) := hfin
        have HCL : Aside (∀ V, Below w.heap.size w V → V.cell? ⟨b, i * 2, none⟩ = some (.int .i64 X) ∧ V.cell? ⟨f, 1, none⟩ = some (.map (some gE))) := hcl
        clear hfin hcl
        go_enter Tryz.func90, Tryz.ntmps90
        go_upto_region 3 with (go_at_call 35; refine hH.mono ?_; rintro e w1 ⟨rfl, hw1⟩; subst w1)
        go_region
        all_goals
          go_upto_region 9 with (go_at_call 95; refine (hI _).mono ?_; rintro e w1 ⟨rfl, hw1⟩; subst w1)
          obtain ⟨w5, hrun, hR5⟩ := HF.out _ (below_dr (hA (.cells #[.int .i64 1, .int .i64 pr, .int .i64 nd, .int .i64 pi, .int .i64 a] 213)))
          clear hl1 hl2 hI hH
          go_region
          all_goals
            go_wp2_with fail
            go_ret
            exact ⟨rfl, hR5⟩
      · have e1 : seekE D N i a = 2 := by rw [hse, if_neg (fun h => h hk), if_neg hr]
        have e2 : seekD D N i a = D := by unfold seekD; rw [if_neg (by rw [e1]; decide)]
        rw [e1, e2]
        have hfin : ∀ V, Below w.heap.size w V → RGo w V f D D r gN G gE gR gP b N := fun V hV => h.same hV
        have hI : ∀ V, Calls Tryz.prog 95 #[.int .i64 a, .int .i64 0, .int .i64 200] V fun e w' => e = .returned (.bool false) ∧ w' = V := fun V => by
          have := in_ok V a 0 200
          rw [show (decide (0 ≤ a) && decide (a ≤ 200)) = false by simp only [Bool.and_eq_false_iff, decide_eq_false_iff_not]; omega] at this
          exact this
        generalize N[i].1 = X at *
        clear h hn hE hse e1 e2 hIn hr hwk hbl hfl c1 f0 f2 f3 f4 hk1 hpos hs
        obtain ⟨kd, pr, nd, pi, ps⟩ := e
        simp only at hk
        subst hk
        go_enter Tryz.func90, Tryz.ntmps90
        go_upto_region 3 with (go_at_call 35; refine hH.mono ?_; rintro e w1 ⟨rfl, hw1⟩; subst w1)
        go_region
        all_goals
          go_wp2_with (go_at_call 95; refine (hI _).mono ?_; rintro e w1 ⟨rfl, hw1⟩; subst w1)
          go_ret
          exact ⟨rfl, hfin _ (below_dr (hA _))⟩
    · have e1 : seekE D N i a = 6 := by rw [hse, if_pos hk]
      have e2 : seekD D N i a = D := by unfold seekD; rw [if_neg (by rw [e1]; decide)]
      rw [e1, e2]
      have hfin : ∀ V, Below w.heap.size w V → RGo w V f D D r gN G gE gR gP b N := fun V hV => h.same hV
      have hk' : (e.kind == 1) = false := by simpa using hk
      generalize N[i].1 = X at *
      clear h hn hE hse e1 e2 hIn hwk hbl hfl c1 f0 f2 f3 f4 hk1 hpos hs hk
      obtain ⟨kd, pr, nd, pi, ps⟩ := e
      go_enter Tryz.func90, Tryz.ntmps90
      go_upto_region 3 with (go_at_call 35; refine hH.mono ?_; rintro e w1 ⟨rfl, hw1⟩; subst w1)
      go_region
      all_goals
        go_wp2_with fail
        go_ret
        exact ⟨rfl, hfin _ (below_dr (hA _))⟩
  · have hn' : hasN N n = false := by simpa using hn
    rw [hn'] at hH
    have e1 : seekE D N n a = 7 := if_neg hn
    have e2 : seekD D N n a = D := by unfold seekD; rw [if_neg (by rw [e1]; decide)]
    rw [e1, e2]
    have hfin := h.same (Below.refl _ w)
    clear h hn hn' e1 e2 hE
    go_enter Tryz.func90, Tryz.ntmps90
    go_wp2_with (go_at_call 35; refine hH.mono ?_; rintro e w1 ⟨rfl, hw1⟩; subst w1)
    go_ret
    exact ⟨rfl, hfin⟩
end
end Go.Proofs.YtjkneekfijibiabGreatDoor

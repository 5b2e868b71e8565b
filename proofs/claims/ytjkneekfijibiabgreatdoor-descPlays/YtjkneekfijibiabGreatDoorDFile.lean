/- The document's own files: Write of a file, by its Go text. -/
import Derived.Test.YtjkneekfijibiabGreatDoorDWrite
import Derived.Deep.RegionHeld3
import Derived.Test.YtjkneekfijibiabGreatDoorWMake2
namespace Go.Proofs.YtjkneekfijibiabGreatDoor
open Go.RowKit Go.Maps

theorem writeN_dir {T : Wd} {n a k : Int} {x : List UInt8} {C : List (Nm × Int)} (h : writeN T n a x k = some (.dir C)) : T k = some (.dir C) := by
  unfold writeN at h
  by_cases hh : writeE T n a x ≠ 0 ∨ x = []
  · rw [if_pos hh] at h; exact h
  · rw [if_neg hh] at h
    cases hn : T n with
    | none => rw [hn] at h; exact h
    | some nd => cases nd with
      | dir C9 => rw [hn] at h; exact h
      | file b y =>
        rw [hn] at h
        simp only at h
        by_cases e : k = n
        · subst e; rw [setT_same] at h; cases h
        · rw [setT_other _ e] at h; exact h
theorem town_write {r gN : Nat} {T : Wd} {G : Int → Nat} {n a : Int} {x : List UInt8} : ∀ i, town r gN (writeN T n a x) G i → town r gN T G i := by
  rintro i (e | e | ⟨k, C, e, e2⟩)
  · exact .inl e
  · exact .inr (.inl e)
  · exact .inr (.inr ⟨k, C, writeN_dir e, e2⟩)
section
variable {w w' : World} {f r gN s gE gR gP sE sR sP b : Nat} {D : DS} {G : Int → Nat} {N : Ns}
/-- Behind the tree's own Write: what is open, and what a block beside it holds. -/
structure WroteS (w W w6 : World) (f r gN s : Nat) (G : Int → Nat) (gE gR gP b i : Nat) (D : DS) (N : Ns) (X : Int) (e : En) (x : List UInt8) : Prop where
  own : w6.heap[w.heap.size]? = some (.cells #[.int .i64 e.kind, .int .i64 e.prot, .int .i64 e.node, .int .i64 e.pipe, .int .i64 e.pos] 213)
  f0 : w6.cell? ⟨f, 0, none⟩ = some (wp r)
  late : ∀ V2, w6.setCell ⟨w.heap.size, 4, none⟩ (.int .i64 (e.pos + (x.length : Int))) = V2 → V2.cell? ⟨b, i * 2, none⟩ = some (.int .i64 X) ∧ V2.cell? ⟨f, 1, none⟩ = some (.map (some gE)) ∧ V2.heap[w.heap.size]? = some (.cells #[.int .i64 e.kind, .int .i64 e.prot, .int .i64 e.node, .int .i64 e.pipe, .int .i64 (e.pos + (x.length : Int))] 213) ∧ ∃ w8, (Instr.mapUpdate 84 (.map (some gE)) (.int .i64 X) (env { e with pos := e.pos + x.length })).run Tryz.prog V2.drew = .ok () w8 ∧ RGo w w8 f D { D with T := writeN D.T e.node e.pos x, E := fun j => if j = X then some { e with pos := e.pos + x.length } else D.E j } r gN G gE gR gP b N
theorem RFt.wrote (h : RFt w f D r gN s G gE gR gP sE sR sP b N) {i : Nat} (hi : i < 8) (hiL : i < N.length) {e : En} {x : List UInt8} (h0 : 0 < N[i].1) (h1 : N[i].1 < 100000) (hs : sE < 1000) {W V w6 : World} (hA : Below w.heap.size w W) (hi1 : W.heap[w.heap.size]? = some (.cells #[.int .i64 e.kind, .int .i64 e.prot, .int .i64 e.node, .int .i64 e.pipe, .int .i64 e.pos] 213)) (hV : Below W.heap.size W V) (ht : RTr w6 r gN s (writeN D.T e.node e.pos x) G) (g6 : V.grownBy w6 (some gN)) : WroteS w W w6 f r gN s G gE gR gP b i D N N[i].1 e x := by
  have hwk : (Lit.int .i64 N[i].1).wf = true := wf_few (by omega) (by omega)
  have bV := hA.trans (hV.mono hA.size)
  have hV2 := h.below bV
  have h6 := hV2.turn ht (Wt.grown g6 (.inr (.inl rfl))) town_write
  have hil : w.heap.size < W.heap.size := (Array.getElem?_eq_some_iff.1 hi1).1
  have hgN : gN < w.heap.size := h.tree.lt (.inr (.inl rfl))
  have o6 : w6.heap[w.heap.size]? = some (.cells #[.int .i64 e.kind, .int .i64 e.prot, .int .i64 e.node, .int .i64 e.pipe, .int .i64 e.pos] 213) := by
    rw [g6.block _ (Nat.lt_of_lt_of_le hil hV.size) (fun e => by have := Option.some.inj e; omega), hV.block _ hil]
    exact hi1
  refine ⟨o6, h6.toRFm.cells.1, fun V2 eV => ?_⟩
  have g7 := tgrown_set w6 w.heap.size 4 (.int .i64 (e.pos + (x.length : Int)))
  rw [eV] at g7
  have hns : ∀ j, fown f r gN (writeN D.T e.node e.pos x) G gE gR gP j → j ≠ w.heap.size := fun j hj e => by
    have hj' : fown f r gN D.T G gE gR gP j := by
      rcases hj with e | e | e | e | e
      · exact .inl e
      · exact .inr (.inl e)
      · exact .inr (.inr (.inl e))
      · exact .inr (.inr (.inr (.inl e)))
      · exact .inr (.inr (.inr (.inr (town_write j e))))
    have := h.toRFm.lt hj'
    omega
  have h7 : RFt V2 f { D with T := writeN D.T e.node e.pos x } r gN s G gE gR gP sE sR sP b N := ⟨h6.toRFm.keep (fun j hj => g7.block j (h6.toRFm.lt hj) (fun e => hns j hj (Option.some.inj e))), h6.tab.keep (g7.block b h6.tab.lt (fun e => by have := h.tab.lt; have := Option.some.inj e; omega)), h6.off⟩
  have h8 := h7.below (below_dr (Below.refl _ V2))
  obtain ⟨w8, r8, pm8, g8⟩ := h8.mE.put Tryz.underlying84 (by unfold maxLen; omega) N[i].1 hwk (env { e with pos := e.pos + x.length })
  have h9 := h8.putE' g8 pm8
  refine ⟨(h7.tab.at hi).1, h7.toRFm.cells.2.1, by rw [← eV]; exact five_put o6 _, w8, r8, s, _, sR, sP, h9, ?_⟩
  have wt1 : Wt (fun i => fown f r gN D.T G gE gR gP i ∨ i = b) w w6 := (Wt.below _ bV).trans (Wt.grown g6 (.inl (.inr (.inr (.inr (.inr (.inr (.inl rfl))))))))
  have wt2 : Wt (fun i => fown f r gN D.T G gE gR gP i ∨ i = b) w V2 := ⟨g7.os.trans wt1.os, g7.tape.trans wt1.tape, g7.output.trans wt1.output, Nat.le_trans wt1.size g7.size, fun j hj hn => (g7.block j (Nat.lt_of_lt_of_le hj wt1.size) (fun e => by have := Option.some.inj e; omega)).trans (wt1.block j hj hn)⟩
  exact wt2.trans ((Wt.below _ (below_dr (Below.refl _ V2))).trans (Wt.grown g8 (.inl (.inr (.inl rfl)))))
end
end Go.Proofs.YtjkneekfijibiabGreatDoor

namespace Go.Proofs.YtjkneekfijibiabGreatDoor
open Go.RowKit Go.Maps

section
variable {w w' : World} {f r gN s gE gR gP sE sR sP b : Nat} {D : DS} {G : Int → Nat} {N : Ns}
set_option maxRecDepth 100000 in
set_option maxHeartbeats 4000000 in
theorem RFt.write_file (h : RFt w f D r gN s G gE gR gP sE sR sP b N) {i : Nat} (hi : i < 8) (hiL : i < N.length) {e : En} (x : List UInt8) (a : Int) (h0 : 0 < N[i].1) (h1 : N[i].1 < 100000) (he : D.E N[i].1 = some e) (hn : hasN N i = true) (hk : e.kind = 1) (hpr : e.prot = 2 ∨ e.prot = 3) (hnd : 0 ≤ e.node ∧ e.node < 100000) (hps : 0 ≤ e.pos ∧ e.pos < 100000) (hT : TrOk D.T) (hs : sE < 1000) (hsz : s < maxLen) (hl : x.length < 100000) (hlim : ¬ tooMuch x a e.pos) (hE : writeE D.T e.node e.pos x = 0) (ha : a < 9223372036854775808) :
    Calls Tryz.prog 89 #[wp f, wp b, .int .i64 (i : Int), tx x, .int .i64 a] w fun y w' => y = .returned (.tuple #[.int .i64 (x.length : Int), .int .i64 0]) ∧ RGo w w' f D { D with T := writeN D.T e.node e.pos x, E := fun j => if j = N[i].1 then some { e with pos := e.pos + x.length } else D.E j } r gN G gE gR gP b N := by
  have hH := h.tab.has_ok i
  rw [hn] at hH
  obtain ⟨c0, ca, f1, cf, l1, l2⟩ := h.looks hi hiL h0 h1 he
  have hA : Below w.heap.size w (w.alloc (.cells #[.int .i64 e.kind, .int .i64 e.prot, .int .i64 e.node, .int .i64 e.pipe, .int .i64 e.pos] 213)).drew := below_dr ((Below.refl _ w).alloc (Nat.le_refl _) _)
  have hwn : (Lit.int .i64 e.node).wf = true := wf_few (by omega) (by omega)
  have hnf := new_five w (.int .i64 e.kind) (.int .i64 e.prot) (.int .i64 e.node) (.int .i64 e.pipe) (.int .i64 e.pos) 213
  obtain ⟨W, hW⟩ : ∃ W, (w.alloc (.cells #[.int .i64 e.kind, .int .i64 e.prot, .int .i64 e.node, .int .i64 e.pipe, .int .i64 e.pos] 213)).drew = W := ⟨_, rfl⟩
  have hi1 : W.heap[w.heap.size]? = some (.cells #[.int .i64 e.kind, .int .i64 e.prot, .int .i64 e.node, .int .i64 e.pipe, .int .i64 e.pos] 213) := by rw [← hW]; exact hnf
  rw [hW] at hA
  have hWr : ∀ V, Below W.heap.size W V → Calls Tryz.prog 60 #[wp r, .int .i64 e.node, .int .i64 e.pos, tx x] V fun y w6 => y = .returned (.int .i64 0) ∧ WroteS w W w6 f r gN s G gE gR gP b i D N N[i].1 e x := fun V hV => by
    have bV := hA.trans (hV.mono hA.size)
    refine ((h.below bV).tree.write_ok hT e.node e.pos x hwn hsz hl).mono ?_
    rintro y w6 ⟨rfl, ht, g6⟩
    exact ⟨by rw [hE], h.wrote hi hiL h0 h1 hs hA hi1 hV ht g6⟩
  have q2 := (h.below hA).toRFm.cells.1
  have hi8 : (i : Int) < 8 := by omega
  have hw1 : wrap64 (e.pos + (x.length : Int)) = e.pos + (x.length : Int) := by unfold wrap64; omega
  obtain ⟨m0, m1, m2, m3, m4, m5⟩ := five_at hi1
  have HW : Aside ((w.alloc (.cells #[.int .i64 e.kind, .int .i64 e.prot, .int .i64 e.node, .int .i64 e.pipe, .int .i64 e.pos] 213)).drew = W) := hW
  have hps' := hps
  generalize N[i].1 = X at *
  clear h hn he h0 h1 hs hT hwn hl hW hnf hnd hsz hE hi1 hA hps
  obtain ⟨kd, pr, nd, pi, ps⟩ := e
  simp only at hk hpr hWr hw1 hps' m0 m1 m2 m3 m4 HW l1 l2 hlim
  subst hk
  have hcond : (x = []) ∨ (x ≠ [] ∧ ¬ a < (x.length : Int) ∧ ¬ a - (x.length : Int) < ps) := by
    by_cases e : x = []
    · exact .inl e
    · exact .inr ⟨e, fun h => hlim ⟨e, .inl h⟩, fun h => hlim ⟨e, .inr h⟩⟩
  have hp2 : ¬ pr < 2 := by omega
  go_enter Tryz.func89, Tryz.ntmps89
  go_upto_region 3 with (go_at_call 35; refine hH.mono ?_; rintro e w1 ⟨rfl, hw1⟩; subst w1)
  go_region
  all_goals
    rw [HW.out]
    clear c0 ca f1 cf l1 l2 hH
    go_upto_region 11 with fail
    go_cut [75] (fun t wc => t = .bool false ∧ wc = W)
    case first =>
      as_aux_lemma =>
        rcases hcond with e | ⟨e, ea, eb⟩
        · subst e
          go_wp2_with fail
          go_meet
          case rel => exact ⟨rfl, rfl⟩
        · have hne : (x == []) = false := by simpa using e
          have hw2 : wrap64 (a - (x.length : Int)) = a - (x.length : Int) := by unfold wrap64; omega
          clear hWr hps' e
          go_wp2_with fail
          go_meet
          case rel => exact ⟨by simp; omega, rfl⟩
    case rest =>
      obtain ⟨rfl, hwc⟩ := hcut
      subst wc
      go_upto_region 13 with fail
      go_region_held3 (fun w' => w'.cell? ⟨w.heap.size, 2, none⟩ = some (.int .i64 nd) ∧ w'.cell? ⟨w.heap.size, 4, none⟩ = some (.int .i64 ps) ∧ w'.cell? ⟨f, 0, none⟩ = some (wp r)) (first | exact ⟨m2, m4, q2⟩ | exact ⟨(five_at S6.own).2.2.1, (five_at S6.own).2.2.2.2.1, S6.f0⟩) (first
        | (go_at_call 60; refine (hWr _ ⟨by rfl, by rfl, by rfl, by exact Nat.le_refl _, fun _ _ => by rfl⟩).mono ?_; rintro e w6 ⟨rfl, S6⟩))
      all_goals
        obtain ⟨p0, p1, p2, p3, p4, p5⟩ := five_at S6.own
        obtain ⟨V2, hV2⟩ : ∃ V2, w6.setCell ⟨w.heap.size, 4, none⟩ (.int .i64 (ps + (x.length : Int))) = V2 := ⟨_, rfl⟩
        obtain ⟨x0, x1, b1, w8, r8, hR⟩ := S6.late V2 hV2
        obtain ⟨v0, v1, v2, v3, v4, v5⟩ := five_at b1
        simp only at p0 p1 p2 p3 p4 v0 v1 v2 v3 v4 r8
        clear m0 m1 m2 m3 m4 m5 q2 hWr b1 S6 hcond hlim
        go_upto_region 17 with fail
        clear p0 p1 p2 p3 p4 p5 hV2
        go_region
        all_goals
          go_wp2_with fail
          go_ret2
          exact ⟨rfl, hR⟩
end
end Go.Proofs.YtjkneekfijibiabGreatDoor

namespace Go.Proofs.YtjkneekfijibiabGreatDoor
open Go.RowKit Go.Maps

section
variable {w w' : World} {f r gN s gE gR gP sE sR sP b : Nat} {D : DS} {G : Int → Nat} {N : Ns}
set_option maxRecDepth 100000 in
set_option maxHeartbeats 4000000 in
theorem RFt.write_limit (h : RFt w f D r gN s G gE gR gP sE sR sP b N) {i : Nat} (hi : i < 8) (hiL : i < N.length) {e : En} (x : List UInt8) (a : Int) (h0 : 0 < N[i].1) (h1 : N[i].1 < 100000) (he : D.E N[i].1 = some e) (hn : hasN N i = true) (hk : e.kind = 1) (hpr : e.prot = 2 ∨ e.prot = 3) (hps : 0 ≤ e.pos ∧ e.pos < 100000) (_hl : x.length < 100000) (hlim : tooMuch x a e.pos) (_ha : a < 9223372036854775808) :
    Calls Tryz.prog 89 #[wp f, wp b, .int .i64 (i : Int), tx x, .int .i64 a] w fun y w' => y = .returned (.tuple #[.int .i64 0, .int .i64 4]) ∧ RGo w w' f D D r gN G gE gR gP b N := by
  have hH := h.tab.has_ok i
  rw [hn] at hH
  obtain ⟨c0, ca, f1, cf, l1, l2⟩ := h.looks hi hiL h0 h1 he
  have hA : ∀ o, Below w.heap.size w (w.alloc o) := fun o => (Below.refl _ w).alloc (Nat.le_refl _) o
  have hfin : ∀ V, Below w.heap.size w V → RGo w V f D D r gN G gE gR gP b N := fun V hV => h.same hV
  have hi8 : (i : Int) < 8 := by omega
  obtain ⟨hx, hor⟩ := hlim
  have hne : (x == []) = false := by simpa using hx
  generalize N[i].1 = X at *
  clear h hn he h0 h1 hx
  obtain ⟨kd, pr, nd, pi, ps⟩ := e
  simp only at hk hpr hps hor
  subst hk
  have hp2 : ¬ pr < 2 := by omega
  by_cases ha1 : a < (x.length : Int)
  · clear hor hpr hps _ha
    go_enter Tryz.func89, Tryz.ntmps89
    go_upto_region 3 with (go_at_call 35; refine hH.mono ?_; rintro e w1 ⟨rfl, hw1⟩; subst w1)
    go_region
    all_goals
      go_wp2_with fail
      go_ret2
      exact ⟨rfl, hfin _ (below_dr (hA _))⟩
  · have hb1 : a - (x.length : Int) < ps := hor.resolve_left ha1
    have hw2 : wrap64 (a - (x.length : Int)) = a - (x.length : Int) := by unfold wrap64; omega
    clear hor hpr hps _ha _hl
    go_enter Tryz.func89, Tryz.ntmps89
    go_upto_region 3 with (go_at_call 35; refine hH.mono ?_; rintro e w1 ⟨rfl, hw1⟩; subst w1)
    go_region
    all_goals
      go_wp2_with fail
      go_ret2
      exact ⟨rfl, hfin _ (below_dr (hA _))⟩
set_option maxRecDepth 100000 in
set_option maxHeartbeats 4000000 in
theorem RFt.write_bad (h : RFt w f D r gN s G gE gR gP sE sR sP b N) {i : Nat} (hi : i < 8) (hiL : i < N.length) {e : En} (x : List UInt8) (a : Int) (h0 : 0 < N[i].1) (h1 : N[i].1 < 100000) (he : D.E N[i].1 = some e) (hn : hasN N i = true) (hk : e.kind = 1) (hpr : e.prot = 2 ∨ e.prot = 3) (hnd : 0 ≤ e.node ∧ e.node < 100000) (hps : 0 ≤ e.pos ∧ e.pos < 100000) (hT : TrOk D.T) (hsz : s < maxLen) (hl : x.length < 100000) (hlim : ¬ tooMuch x a e.pos) (hE : writeE D.T e.node e.pos x ≠ 0) (ha : a < 9223372036854775808) :
    Calls Tryz.prog 89 #[wp f, wp b, .int .i64 (i : Int), tx x, .int .i64 a] w fun y w' => y = .returned (.tuple #[.int .i64 0, .int .i64 (writeE D.T e.node e.pos x)]) ∧ RGo w w' f D D r gN G gE gR gP b N := by
  have hH := h.tab.has_ok i
  rw [hn] at hH
  obtain ⟨c0, ca, f1, cf, l1, l2⟩ := h.looks hi hiL h0 h1 he
  have hA : Below w.heap.size w (w.alloc (.cells #[.int .i64 e.kind, .int .i64 e.prot, .int .i64 e.node, .int .i64 e.pipe, .int .i64 e.pos] 213)).drew := below_dr ((Below.refl _ w).alloc (Nat.le_refl _) _)
  have hwn : (Lit.int .i64 e.node).wf = true := wf_few (by omega) (by omega)
  have hnf := new_five w (.int .i64 e.kind) (.int .i64 e.prot) (.int .i64 e.node) (.int .i64 e.pipe) (.int .i64 e.pos) 213
  obtain ⟨W, hW⟩ : ∃ W, (w.alloc (.cells #[.int .i64 e.kind, .int .i64 e.prot, .int .i64 e.node, .int .i64 e.pipe, .int .i64 e.pos] 213)).drew = W := ⟨_, rfl⟩
  have hi1 : W.heap[w.heap.size]? = some (.cells #[.int .i64 e.kind, .int .i64 e.prot, .int .i64 e.node, .int .i64 e.pipe, .int .i64 e.pos] 213) := by rw [← hW]; exact hnf
  rw [hW] at hA
  obtain ⟨Er, hEr⟩ : ∃ Er, writeE D.T e.node e.pos x = Er := ⟨_, rfl⟩
  have hTn : writeN D.T e.node e.pos x = D.T := by unfold writeN; rw [if_pos (.inl hE)]
  rw [hEr] at hE ⊢
  have hil : w.heap.size < W.heap.size := (Array.getElem?_eq_some_iff.1 hi1).1
  have hWr : ∀ V, Below W.heap.size W V → Calls Tryz.prog 60 #[wp r, .int .i64 e.node, .int .i64 e.pos, tx x] V fun y w6 => y = .returned (.int .i64 Er) ∧ RGo w w6 f D D r gN G gE gR gP b N ∧ w6.heap[w.heap.size]? = some (.cells #[.int .i64 e.kind, .int .i64 e.prot, .int .i64 e.node, .int .i64 e.pipe, .int .i64 e.pos] 213) ∧ w6.cell? ⟨f, 0, none⟩ = some (wp r) := fun V hV => by
    have bV := hA.trans (hV.mono hA.size)
    have hh := h.below bV
    refine (hh.tree.write_ok hT e.node e.pos x hwn hsz hl).mono ?_
    rintro y w6 ⟨rfl, ht, g6⟩
    rw [hTn] at ht
    have h6 := hh.turn (T' := D.T) ht (Wt.grown g6 (.inr (.inl rfl))) (fun i hi => hi)
    have hgN : gN < w.heap.size := h.tree.lt (.inr (.inl rfl))
    refine ⟨by rw [hEr], ⟨s, sE, sR, sP, h6, (Wt.below _ bV).trans (Wt.grown g6 (.inl (.inr (.inr (.inr (.inr (.inr (.inl rfl))))))))⟩, ?_, h6.toRFm.cells.1⟩
    rw [g6.block _ (Nat.lt_of_lt_of_le hil hV.size) (fun e => by have := Option.some.inj e; omega), hV.block _ hil]
    exact hi1
  have q2 := (h.below hA).toRFm.cells.1
  have hi8 : (i : Int) < 8 := by omega
  obtain ⟨m0, m1, m2, m3, m4, m5⟩ := five_at hi1
  have HW : Aside ((w.alloc (.cells #[.int .i64 e.kind, .int .i64 e.prot, .int .i64 e.node, .int .i64 e.pipe, .int .i64 e.pos] 213)).drew = W) := hW
  have hE' : (Er == 0) = false := by simpa using hE
  generalize N[i].1 = X at *
  clear h hn he h0 h1 hT hwn hW hnf hnd hsz hi1 hA hEr hTn hE hil
  obtain ⟨kd, pr, nd, pi, ps⟩ := e
  simp only at hk hpr hWr hps m0 m1 m2 m3 m4 HW l1 l2 hlim
  subst hk
  have hcond : (x = []) ∨ (x ≠ [] ∧ ¬ a < (x.length : Int) ∧ ¬ a - (x.length : Int) < ps) := by
    by_cases e : x = []
    · exact .inl e
    · exact .inr ⟨e, fun h => hlim ⟨e, .inl h⟩, fun h => hlim ⟨e, .inr h⟩⟩
  have hp2 : ¬ pr < 2 := by omega
  go_enter Tryz.func89, Tryz.ntmps89
  go_upto_region 3 with (go_at_call 35; refine hH.mono ?_; rintro e w1 ⟨rfl, hw1⟩; subst w1)
  go_region
  all_goals
    rw [HW.out]
    clear c0 ca f1 cf l1 l2 hH
    go_upto_region 11 with fail
    go_cut [75] (fun t wc => t = .bool false ∧ wc = W)
    case first =>
      as_aux_lemma =>
        rcases hcond with e | ⟨e, ea, eb⟩
        · subst e
          go_wp2_with fail
          go_meet
          case rel => exact ⟨rfl, rfl⟩
        · have hne : (x == []) = false := by simpa using e
          have hw2 : wrap64 (a - (x.length : Int)) = a - (x.length : Int) := by unfold wrap64; omega
          clear hWr hps e
          go_wp2_with fail
          go_meet
          case rel => exact ⟨by simp; omega, rfl⟩
    case rest =>
      obtain ⟨rfl, hwc⟩ := hcut
      subst wc
      go_upto_region 13 with fail
      go_region_held3 (fun w' => w'.cell? ⟨w.heap.size, 2, none⟩ = some (.int .i64 nd) ∧ w'.cell? ⟨w.heap.size, 4, none⟩ = some (.int .i64 ps) ∧ w'.cell? ⟨f, 0, none⟩ = some (wp r)) (first | exact ⟨m2, m4, q2⟩ | exact ⟨(five_at o6).2.2.1, (five_at o6).2.2.2.2.1, z6⟩) (first
        | (go_at_call 60; refine (hWr _ ⟨by rfl, by rfl, by rfl, by exact Nat.le_refl _, fun _ _ => by rfl⟩).mono ?_; rintro e w6 ⟨rfl, hR, o6, z6⟩))
      all_goals
        clear hWr o6 z6 hcond hlim
        go_wp2_with fail
        go_ret2
        exact ⟨rfl, hR⟩
end
end Go.Proofs.YtjkneekfijibiabGreatDoor

namespace Go.Proofs.YtjkneekfijibiabGreatDoor
open Go.RowKit Go.Maps

section
variable {w w' : World} {f r gN s gE gR gP sE sR sP b : Nat} {D : DS} {G : Int → Nat} {N : Ns} {m : Int}
theorem RFt.find1 (h : RFt w f D r gN s G gE gR gP sE sR sP b N) (hT : TrOk D.T) (p : List UInt8) (hp : p.length < 100000) (hm : w.cell? ⟨2, 0, none⟩ = some (.int .i64 m)) :
    Calls Tryz.prog 49 #[wp r, tx p] w fun e w' => e = .returned (.tuple #[.int .i64 (findT D.T p).1, .int .i64 (findT D.T p).2]) ∧ Below w.heap.size w w' := h.tree.find_ok hT p hp m hm
theorem RFt.make1 (h : RFt w f D r gN s G gE gR gP sE sR sP b N) (hT : TrOk D.T) (p : List UInt8) (hp : p.length < 100000) (hm : w.cell? ⟨2, 0, none⟩ = some (.int .i64 m)) (hC : ∀ k C, D.T k = some (.dir C) → C.length < maxLen) (hE : makeE D.T s p = 0) :
    Calls Tryz.prog 51 #[wp r, tx p, .bool false] w fun e w' => ∃ k, IsFree D.T k ∧ e = .returned (.tuple #[.int .i64 k, .int .i64 0]) ∧ RFt w' f { D with T := makeN D.T p false k } r gN (s + 1) G gE gR gP sE sR sP b N ∧ Wt (town r gN D.T G) w w' := by
  refine (h.tree.make_ok hT p false hp m hm hC hE).mono ?_
  rintro e w' ⟨k, hk, rfl, g, ht, _, hw⟩
  have hG : (fun i => if i = k ∧ false = true then g else G i) = G := by funext i; simp
  rw [hG] at ht
  refine ⟨k, hk, rfl, h.turn ht hw (fun i hi => ?_), hw⟩
  obtain ⟨_, ⟨C, hd, hlk⟩, _, _⟩ := makeE_zero hT hE
  have hdk : (placeT D.T p).1 ≠ k := fun e => by rw [e, hk.none] at hd; cases hd
  rcases hi with e | e | ⟨j, C', e, e2⟩
  · exact .inl e
  · exact .inr (.inl e)
  · refine .inr (.inr ?_)
    unfold makeN at e
    rw [addT_eq (show setT D.T k (newNd false) (placeT D.T p).1 = some (.dir C) by rw [setT_other _ hdk]; exact hd)] at e
    by_cases e3 : j = (placeT D.T p).1
    · exact ⟨j, C, by rw [e3]; exact hd, e2⟩
    · rw [setT_other _ e3] at e
      by_cases e4 : j = k
      · rw [e4, setT_same] at e; simp [newNd] at e
      · rw [setT_other _ e4] at e
        exact ⟨j, C', e, e2⟩
theorem RFt.hold1 (h : RFt w f D r gN s G gE gR gP sE sR sP b N) (hT : TrOk D.T) (n : Int) (hw : (Lit.int .i64 n).wf = true) (hs : s ≤ 1000) (hC : ∀ k C, D.T k = some (.dir C) → C.length ≤ 1000) (hx : ∀ b x, D.T n = some (.file b x) → x + 1 ≤ 1000) :
    Calls Tryz.prog 58 #[wp r, .int .i64 n, .int .i64 1] w fun e w' => e = .returned (.int .i64 (holdE D.T n 1)) ∧ ∃ s', RFt w' f { D with T := holdN D.T n 1 } r gN s' G gE gR gP sE sR sP b N ∧ Wt (town r gN D.T G) w w' := by
  refine (h.tree.hold_ok hT n 1 hw hs hC ⟨by omega, by omega⟩ hx).mono ?_
  rintro e w' ⟨rfl, s', ht, hw⟩
  exact ⟨rfl, s', h.turn ht hw town_hold, hw⟩
theorem wt_town {T : Wd} {A : Nat → Prop} (hw : Wt (town r gN T G) w w') (hA : ∀ i, town r gN T G i → A i) : Wt A w w' := hw.mono hA

set_option maxRecDepth 100000 in
set_option maxHeartbeats 4000000 in
theorem RFt.file_arg (h : RFt w f D r gN s G gE gR gP sE sR sP b N) (p : List UInt8) (pr : Int) (mk : Bool) (hp : ¬ (1 ≤ pr ∧ pr ≤ 3)) :
    Calls Tryz.prog 79 #[wp f, wp b, tx p, .int .i64 pr, .bool mk] w fun y w' => y = .returned (.tuple #[.int .i64 0, .int .i64 1]) ∧ RGo w w' f D D r gN G gE gR gP b N := by
  have hI := in_ok w pr 1 3
  rw [show (decide (1 ≤ pr) && decide (pr ≤ 3)) = false by simp only [Bool.and_eq_false_iff, decide_eq_false_iff_not]; omega] at hI
  have hfin := h.same (Below.refl _ w)
  clear h hp
  go_enter Tryz.func79, Tryz.ntmps79
  go_wp2_with (go_at_call 95; refine hI.mono ?_; rintro e w1 ⟨rfl, hw1⟩; subst w1)
  go_ret2
  exact ⟨rfl, hfin⟩
set_option maxRecDepth 100000 in
set_option maxHeartbeats 4000000 in
theorem RFt.file_full (h : RFt w f D r gN s G gE gR gP sE sR sP b N) (p : List UInt8) (pr : Int) (mk : Bool) (hp : 1 ≤ pr ∧ pr ≤ 3) (hr : ¬ roomy N sE) (hs : sE < 1000) :
    Calls Tryz.prog 79 #[wp f, wp b, tx p, .int .i64 pr, .bool mk] w fun y w' => y = .returned (.tuple #[.int .i64 0, .int .i64 12]) ∧ RGo w w' f D D r gN G gE gR gP b N := by
  have hI := in_ok w pr 1 3
  rw [show (decide (1 ≤ pr) && decide (pr ≤ 3)) = true by simp; exact hp] at hI
  have hLs := h.tab.least_ok
  have hfin : ∀ V, Below w.heap.size w V → V.cell? ⟨f, 1, none⟩ = some (.map (some gE)) ∧ (∀ ty, (Builtin.len_ #[84] ty #[.map (some gE)]).run Tryz.prog V = .ok (.int .i64 sE) V) ∧ RGo w V f D D r gN G gE gR gP b N := fun V hV => by
    have h2 := h.below hV
    exact ⟨h2.toRFm.cells.2.1, fun ty => h2.mE.len Tryz.underlying84 ty, h.same hV⟩
  by_cases hl : leastN N < 0
  · generalize leastN N = L at *
    clear h hp hr
    go_enter Tryz.func79, Tryz.ntmps79
    go_wp2_with (first
      | (go_at_call 95; refine hI.mono ?_; rintro e w1 ⟨rfl, hw1⟩; subst w1)
      | (go_at_call 128; refine hLs.mono ?_; rintro e w2 ⟨rfl, b2⟩))
    go_ret2
    exact ⟨rfl, (hfin _ b2).2.2⟩
  · have h40 : (40 : Int) ≤ (sE : Int) := by unfold roomy at hr; omega
    generalize leastN N = L at *
    clear h hp hr
    go_enter Tryz.func79, Tryz.ntmps79
    go_wp2_with (first
      | (go_at_call 95; refine hI.mono ?_; rintro e w1 ⟨rfl, hw1⟩; subst w1)
      | (go_at_call 128; refine hLs.mono ?_; rintro e w2 ⟨rfl, b2⟩; obtain ⟨c1, l1, hG⟩ := hfin _ b2))
    go_ret2
    exact ⟨rfl, hG⟩
end
end Go.Proofs.YtjkneekfijibiabGreatDoor

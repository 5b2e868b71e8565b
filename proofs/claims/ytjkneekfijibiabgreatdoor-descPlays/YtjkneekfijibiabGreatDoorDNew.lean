/- The document's own files: File of a directory, and of what is made, by its Go text. -/
import Derived.Test.YtjkneekfijibiabGreatDoorDFile3
namespace Go.Proofs.YtjkneekfijibiabGreatDoor
open Go.RowKit Go.Maps

section
variable {w w' w2 : World} {f r gN s gE gR gP sE sR sP b : Nat} {D D1 D2 : DS} {G : Int → Nat} {N N1 N2 : Ns} {m : Int}
set_option maxRecDepth 100000 in
set_option maxHeartbeats 4000000 in
theorem RFt.file_dir (h : RFt w f D r gN s G gE gR gP sE sR sP b N) (p : List UInt8) (pr : Int) (mk : Bool) (hp : 1 ≤ pr ∧ pr ≤ 3) (hr : roomy N sE) (hT : TrOk D.T) (hpl : p.length < 100000) (hm : w.cell? ⟨2, 0, none⟩ = some (.int .i64 m)) (hE : (findT D.T p).2 = 0) (hh : holdE D.T (findT D.T p).1 1 ≠ 0) (hN : holdN D.T (findT D.T p).1 1 = D.T)
    (hk : 0 ≤ (findT D.T p).1 ∧ (findT D.T p).1 < 100000) (hs : s ≤ 1000) (hC : ∀ k C, D.T k = some (.dir C) → C.length ≤ 1000) (hx : ∀ b x, D.T (findT D.T p).1 = some (.file b x) → x + 1 ≤ 1000) :
    Calls Tryz.prog 79 #[wp f, wp b, tx p, .int .i64 pr, .bool mk] w fun y w' => y = .returned (.tuple #[.int .i64 0, .int .i64 (holdE D.T (findT D.T p).1 1)]) ∧ RGo w w' f D D r gN G gE gR gP b N := by
  obtain ⟨hI, hLs, hat⟩ := h.ahead hp
  have hF : ∀ V, Below w.heap.size w V → Calls Tryz.prog 49 #[wp r, tx p] V fun e w' => e = .returned (.tuple #[.int .i64 (findT D.T p).1, .int .i64 (findT D.T p).2]) ∧ Below w.heap.size w w' := fun V hV => by
    refine ((h.below hV).find1 (m := m) hT p hpl (by rw [hV.cell (p := ⟨2, 0, none⟩) (World.block_lt_of_cell? w _ hm)]; exact hm)).mono ?_
    rintro e w' ⟨rfl, b'⟩
    exact ⟨rfl, hV.trans (b'.mono hV.size)⟩
  rw [hE] at hF
  have hHd : ∀ V, Below w.heap.size w V → Calls Tryz.prog 58 #[wp r, .int .i64 (findT D.T p).1, .int .i64 1] V fun e w' => e = .returned (.int .i64 (holdE D.T (findT D.T p).1 1)) ∧ RGo w w' f D D r gN G gE gR gP b N := fun V hV => by
    refine ((h.below hV).hold1 hT _ (wf_few (by omega) (by omega)) hs hC hx).mono ?_
    rintro e w' ⟨rfl, s', h', hw⟩
    rw [hN] at h'
    exact ⟨rfl, s', sE, sR, sP, h', (Wt.below _ hV).trans (wt_town hw (fun i hi => .inl (.inr (.inr (.inr (.inr hi))))))⟩
  have hl : ¬ leastN N < 0 := hr.1
  have h40 : ¬ (40 : Int) ≤ (sE : Int) := by have := hr.2; omega
  generalize leastN N = L at *
  generalize holdE D.T (findT D.T p).1 1 = c at *
  generalize (findT D.T p).1 = k at *
  have hc0 : (c == 0) = false := by simpa using hh
  clear h hp hr hT hpl hm hE hh hk hs hC hx hN
  go_enter Tryz.func79, Tryz.ntmps79
  go_wp2_with (first
    | (go_at_call 95; refine hI.mono ?_; rintro e w1 ⟨rfl, hw1⟩; subst w1)
    | (go_at_call 128; refine hLs.mono ?_; rintro e w2 ⟨rfl, b2⟩; obtain ⟨c1, l1, c0⟩ := hat _ b2; have hF2 := hF _ b2)
    | (go_at_call 49; refine hF2.mono ?_; rintro e w3 ⟨rfl, b3⟩; obtain ⟨c4, l4, c5⟩ := hat _ b3; have hH2 := hHd _ b3)
    | (go_at_call 58; refine hH2.mono ?_; rintro e w4 ⟨rfl, hG⟩))
  go_ret2
  exact ⟨rfl, hG⟩
set_option maxRecDepth 100000 in
set_option maxHeartbeats 4000000 in
theorem RFt.file_unmade (h : RFt w f D r gN s G gE gR gP sE sR sP b N) (p : List UInt8) (pr : Int) (hp : 1 ≤ pr ∧ pr ≤ 3) (hr : roomy N sE) (hT : TrOk D.T) (hpl : p.length < 100000) (hm : w.cell? ⟨2, 0, none⟩ = some (.int .i64 m)) (hE : (findT D.T p).2 = 7) (hs : s < 1000) (hM : makeE D.T s p ≠ 0) :
    Calls Tryz.prog 79 #[wp f, wp b, tx p, .int .i64 pr, .bool true] w fun y w' => y = .returned (.tuple #[.int .i64 0, .int .i64 (makeE D.T s p)]) ∧ RGo w w' f D D r gN G gE gR gP b N := by
  obtain ⟨hI, hLs, hat⟩ := h.ahead hp
  have hmV : ∀ V, Below w.heap.size w V → V.cell? ⟨2, 0, none⟩ = some (.int .i64 m) := fun V hV => by rw [hV.cell (p := ⟨2, 0, none⟩) (World.block_lt_of_cell? w _ hm)]; exact hm
  have hF : ∀ V, Below w.heap.size w V → Calls Tryz.prog 49 #[wp r, tx p] V fun e w' => e = .returned (.tuple #[.int .i64 (findT D.T p).1, .int .i64 (findT D.T p).2]) ∧ Below w.heap.size w w' := fun V hV => by
    refine ((h.below hV).find1 (m := m) hT p hpl (hmV V hV)).mono ?_
    rintro e w' ⟨rfl, b'⟩
    exact ⟨rfl, hV.trans (b'.mono hV.size)⟩
  rw [hE] at hF
  have hMk : ∀ V, Below w.heap.size w V → Calls Tryz.prog 51 #[wp r, tx p, .bool false] V fun e w' => e = .returned (.tuple #[.int .i64 0, .int .i64 (makeE D.T s p)]) ∧ RGo w w' f D D r gN G gE gR gP b N := fun V hV => by
    refine ((h.below hV).tree.make_no hT p false hpl m (hmV V hV) hs hM).mono ?_
    rintro e w' ⟨rfl, b'⟩
    exact ⟨rfl, h.same (hV.trans (b'.mono hV.size))⟩
  have hl : ¬ leastN N < 0 := hr.1
  have h40 : ¬ (40 : Int) ≤ (sE : Int) := by have := hr.2; omega
  generalize leastN N = L at *
  generalize makeE D.T s p = c at *
  generalize (findT D.T p).1 = k at *
  have hc0 : (c == 0) = false := by simpa using hM
  clear h hp hr hT hpl hm hE hM hs hmV
  go_enter Tryz.func79, Tryz.ntmps79
  go_wp2_with (first
    | (go_at_call 95; refine hI.mono ?_; rintro e w1 ⟨rfl, hw1⟩; subst w1)
    | (go_at_call 128; refine hLs.mono ?_; rintro e w2 ⟨rfl, b2⟩; obtain ⟨c1, l1, c0⟩ := hat _ b2; have hF2 := hF _ b2)
    | (go_at_call 49; refine hF2.mono ?_; rintro e w3 ⟨rfl, b3⟩; obtain ⟨c4, l4, c5⟩ := hat _ b3; have hH2 := hMk _ b3)
    | (go_at_call 51; refine hH2.mono ?_; rintro e w4 ⟨rfl, hG⟩))
  go_ret2
  exact ⟨rfl, hG⟩
set_option maxRecDepth 100000 in
set_option maxHeartbeats 4000000 in
theorem RFt.file_new (h : RFt w f D r gN s G gE gR gP sE sR sP b N) (g : Given D) (p : List UInt8) (pr : Int) (hp : 1 ≤ pr ∧ pr ≤ 3) (hr : roomy N sE) (hT : TrOk D.T) (hpl : p.length < 100000) (hm : w.cell? ⟨2, 0, none⟩ = some (.int .i64 m)) (hE : (findT D.T p).2 = 7) (hs : s < 900) (hM : makeE D.T s p = 0) (hC : ∀ k C, D.T k = some (.dir C) → C.length ≤ 900)
    (hT1 : ∀ k, IsFree D.T k → TrOk (makeN D.T p false k)) (hC1 : ∀ k, IsFree D.T k → ∀ j C, makeN D.T p false k j = some (.dir C) → C.length ≤ 1000) (hk9 : ∀ k, IsFree D.T k → k < 100000) :
    Calls Tryz.prog 79 #[wp f, wp b, tx p, .int .i64 pr, .bool true] w fun y w' => ∃ k, IsFree D.T k ∧ y = .returned (.tuple #[.int .i64 (leastN N), .int .i64 0]) ∧ RGo w w' f D (addD { D with T := holdN (makeN D.T p false k) k 1 } ⟨1, pr, k, 0, 0⟩) r gN G gE gR gP b (addN D N) := by
  obtain ⟨hI, hLs, hat⟩ := h.ahead hp
  have hmV : ∀ V, Below w.heap.size w V → V.cell? ⟨2, 0, none⟩ = some (.int .i64 m) := fun V hV => by rw [hV.cell (p := ⟨2, 0, none⟩) (World.block_lt_of_cell? w _ hm)]; exact hm
  have hF : ∀ V, Below w.heap.size w V → Calls Tryz.prog 49 #[wp r, tx p] V fun e w' => e = .returned (.tuple #[.int .i64 (findT D.T p).1, .int .i64 (findT D.T p).2]) ∧ Below w.heap.size w w' := fun V hV => by
    refine ((h.below hV).find1 (m := m) hT p hpl (hmV V hV)).mono ?_
    rintro e w' ⟨rfl, b'⟩
    exact ⟨rfl, hV.trans (b'.mono hV.size)⟩
  rw [hE] at hF
  have hMk : ∀ V, Below w.heap.size w V → Calls Tryz.prog 51 #[wp r, tx p, .bool false] V fun e w' => ∃ k, e = .returned (.tuple #[.int .i64 k, .int .i64 0]) ∧ w'.cell? ⟨f, 0, none⟩ = some (wp r) ∧ Calls Tryz.prog 58 #[wp r, .int .i64 k, .int .i64 1] w' fun e2 w2 => e2 = .returned (.int .i64 0) ∧ Calls Tryz.prog 129 #[wp f, wp b, .agg #[.int .i64 1, .int .i64 pr, .int .i64 k, .int .i64 0, .int .i64 0]] w2 fun y w3 => y = .returned (.int .i64 (leastN N)) ∧ (IsFree D.T k ∧ RGo w w3 f D (addD { D with T := holdN (makeN D.T p false k) k 1 } ⟨1, pr, k, 0, 0⟩) r gN G gE gR gP b (addN D N)) := fun V hV => by
    refine ((h.below hV).make1 hT p hpl (hmV V hV) (fun k C e => by have := hC k C e; unfold maxLen; omega) hM).mono ?_
    rintro e w' ⟨k, hk, rfl, h', hw⟩
    obtain ⟨hh, h0⟩ := made_hold hT hM hk
    refine ⟨k, rfl, h'.toRFm.cells.1, ?_⟩
    refine (h'.hold1 (hT1 k hk) k (wf_few hk.pos (by have := hk9 k hk; omega)) (by omega) (hC1 k hk) (fun b x e => by have := h0 b x e; omega)).mono ?_
    rintro e2 w2 ⟨rfl, s2, h2, hw2⟩
    refine ⟨by rw [hh], ?_⟩
    have hsub1 : ∀ i, town r gN (makeN D.T p false k) G i → town r gN D.T G i := fun i hi => by
      obtain ⟨_, ⟨C, hd, hlk⟩, _, _⟩ := makeE_zero hT hM
      have hdk : (placeT D.T p).1 ≠ k := fun e => by rw [e, hk.none] at hd; cases hd
      rcases hi with e | e | ⟨j, C', e, e2⟩
      · exact .inl e
      · exact .inr (.inl e)
      · refine .inr (.inr ?_)
        unfold makeN at e
        rw [addT_eq (show setT D.T k (newNd false) (placeT D.T p).1 = some (.dir C) by rw [setT_other _ hdk]; exact hd)] at e
        by_cases e3 : j = (placeT D.T p).1
        · exact ⟨j, C, by rw [e3]; exact hd, e2⟩
        · rw [setT_other _ e3] at e
          by_cases e4 : j = k
          · rw [e4, setT_same] at e; simp [newNd] at e
          · rw [setT_other _ e4] at e
            exact ⟨j, C', e, e2⟩
    have hG : RGo w w2 f D { D with T := holdN (makeN D.T p false k) k 1 } r gN G gE gR gP b N := ⟨s2, sE, sR, sP, h2, (Wt.below _ hV).trans ((wt_town hw (fun i hi => .inl (.inr (.inr (.inr (.inr hi)))))).trans (wt_town hw2 (fun i hi => .inl (.inr (.inr (.inr (.inr (hsub1 i hi))))))))⟩
    refine (RGo.opens (fun i hi => hsub1 i (town_hold i hi)) (g.turn _) hr.1 ⟨1, pr, k, 0, 0⟩ w2 hG).mono ?_
    rintro y w3 ⟨rfl, hR⟩
    exact ⟨rfl, hk, hR⟩
  have hl : ¬ leastN N < 0 := hr.1
  have h40 : ¬ (40 : Int) ≤ (sE : Int) := by have := hr.2; omega
  generalize leastN N = L at *
  generalize (findT D.T p).1 = k at *
  clear h hp hr hT hpl hm hE hM hs hmV g hC hT1 hC1 hk9
  go_enter Tryz.func79, Tryz.ntmps79
  go_wp2_with (first
    | (go_at_call 95; refine hI.mono ?_; rintro e w1 ⟨rfl, hw1⟩; subst w1)
    | (go_at_call 128; refine hLs.mono ?_; rintro e w2 ⟨rfl, b2⟩; obtain ⟨c1, l1, c0⟩ := hat _ b2; have hF2 := hF _ b2)
    | (go_at_call 49; refine hF2.mono ?_; rintro e w3 ⟨rfl, b3⟩; obtain ⟨c4, l4, c5⟩ := hat _ b3; have hH2 := hMk _ b3)
    | (go_at_call 51; refine hH2.mono ?_; rintro e w4 ⟨k4, rfl, c6, hH3⟩)
    | (go_at_call 58; refine hH3.mono ?_; rintro e w5 ⟨rfl, hA3⟩)
    | (go_at_call 129; refine hA3.mono ?_; rintro e w6 ⟨rfl, hfree, hG2⟩))
  go_ret2
  exact ⟨k4, hfree, rfl, hG2⟩
end
end Go.Proofs.YtjkneekfijibiabGreatDoor

namespace Go.Proofs.YtjkneekfijibiabGreatDoor
open Go.RowKit Go.Maps

section
variable {w w' w2 : World} {f r gN s gE gR gP sE sR sP b : Nat} {D D1 D2 : DS} {G : Int → Nat} {N N1 N2 : Ns} {m : Int}
set_option maxRecDepth 100000 in
set_option maxHeartbeats 4000000 in
theorem RFt.dup2_no (h : RFt w f D r gN s G gE gR gP sE sR sP b N) (n t9 : Int) (hn : hasN N n = false) :
    Calls Tryz.prog 84 #[wp f, wp b, .int .i64 n, .int .i64 t9] w fun y w' => y = .returned (.int .i64 7) ∧ RGo w w' f D D r gN G gE gR gP b N := by
  have hH := h.tab.has_ok n
  rw [hn] at hH
  have hfin := h.same (Below.refl _ w)
  clear h hn
  go_enter Tryz.func84, Tryz.ntmps84
  go_wp2_with (go_at_call 35; refine hH.mono ?_; rintro e w1 ⟨rfl, hw1⟩; subst w1)
  go_ret
  exact ⟨rfl, hfin⟩
set_option maxRecDepth 100000 in
set_option maxHeartbeats 4000000 in
theorem RFt.dup2_range (h : RFt w f D r gN s G gE gR gP sE sR sP b N) (n t9 : Int) (hn : hasN N n = true) (ht : ¬ (0 ≤ t9 ∧ t9 ≤ 7)) :
    Calls Tryz.prog 84 #[wp f, wp b, .int .i64 n, .int .i64 t9] w fun y w' => y = .returned (.int .i64 2) ∧ RGo w w' f D D r gN G gE gR gP b N := by
  have hH := h.tab.has_ok n
  rw [hn] at hH
  have hI := in_ok w t9 0 7
  rw [show (decide (0 ≤ t9) && decide (t9 ≤ 7)) = false by simp only [Bool.and_eq_false_iff, decide_eq_false_iff_not]; omega] at hI
  have hfin := h.same (Below.refl _ w)
  clear h hn ht
  go_enter Tryz.func84, Tryz.ntmps84
  go_wp2_with (first
    | (go_at_call 35; refine hH.mono ?_; rintro e w1 ⟨rfl, hw1⟩; subst w1)
    | (go_at_call 95; refine hI.mono ?_; rintro e w1 ⟨rfl, hw1⟩; subst w1))
  go_ret
  exact ⟨rfl, hfin⟩
set_option maxRecDepth 100000 in
set_option maxHeartbeats 4000000 in
theorem RFt.dup2_same (h : RFt w f D r gN s G gE gR gP sE sR sP b N) (n : Int) (hn : hasN N n = true) (ht : 0 ≤ n ∧ n ≤ 7) :
    Calls Tryz.prog 84 #[wp f, wp b, .int .i64 n, .int .i64 n] w fun y w' => y = .returned (.int .i64 0) ∧ RGo w w' f D D r gN G gE gR gP b N := by
  have hH := h.tab.has_ok n
  rw [hn] at hH
  have hI := in_ok w n 0 7
  rw [show (decide (0 ≤ n) && decide (n ≤ 7)) = true by simp; exact ht] at hI
  have hfin := h.same (Below.refl _ w)
  clear h hn ht
  go_enter Tryz.func84, Tryz.ntmps84
  go_wp2_with (first
    | (go_at_call 35; refine hH.mono ?_; rintro e w1 ⟨rfl, hw1⟩; subst w1)
    | (go_at_call 95; refine hI.mono ?_; rintro e w1 ⟨rfl, hw1⟩; subst w1))
  go_ret
  exact ⟨rfl, hfin⟩
set_option maxRecDepth 100000 in
set_option maxHeartbeats 4000000 in
theorem RFt.dup2_go (h : RFt w f D r gN s G gE gR gP sE sR sP b N) {i k : Nat} (hi : i < 8) (hiL : i < N.length) (hk : k < 8) (hne : i ≠ k) (hn : hasN N i = true) {c : Int} (h0 : 0 < N[i].1) (h1 : N[i].1 < 100000) (hc : D.R N[i].1 = some c) (hc0 : 0 ≤ c) (hc1 : c < 100000) (hs : sR < 1000)
    (hcl : ∀ V, RGo w V f D { D with R := fun j => if j = N[i].1 then some (c + 1) else D.R j } r gN G gE gR gP b N → Calls Tryz.prog 87 #[wp f, wp b, .int .i64 (k : Int)] V fun y w' => ∃ t, y = .returned (.int .i64 t) ∧ RGo w w' f D D2 r gN G gE gR gP b N2) (hL2 : N2.length = 8) (hN2 : (N2[i]'(by omega)).1 = N[i].1) (_hT2 : ∀ i, town r gN D2.T G i → town r gN D.T G i) :
    Calls Tryz.prog 84 #[wp f, wp b, .int .i64 (i : Int), .int .i64 (k : Int)] w fun y w' => y = .returned (.int .i64 0) ∧ RGo w w' f D D2 r gN G gE gR gP b (N2.set k (N[i].1, false)) := by
  have hH := h.tab.has_ok i
  rw [hn] at hH
  have hI := in_ok w k 0 7
  rw [show (decide ((0 : Int) ≤ (k : Int)) && decide ((k : Int) ≤ 7)) = true by simp; omega] at hI
  have hwk : (Lit.int .i64 N[i].1).wf = true := wf_few (by omega) (by omega)
  obtain ⟨t0, t1⟩ := h.tab.at hi
  have f2 := h.toRFm.cells.2.2.1
  have h3 := h.below (below_dr (Below.refl _ w))
  have hlk : (Instr.lookup 85 (.map (some gR)) (.int .i64 N[i].1) false).run Tryz.prog w.drew = .ok (.int .i64 c) w.drew := h3.toRFm.lookR hwk hc
  obtain ⟨w5, hrun, pm5, g5⟩ := h3.mR.put Tryz.underlying85 (by unfold maxLen; omega) N[i].1 hwk (.int .i64 (c + 1))
  have hG5 : RGo w w5 f D { D with R := fun j => if j = N[i].1 then some (c + 1) else D.R j } r gN G gE gR gP b N := ⟨s, sE, _, sP, h3.putR g5 pm5, (Wt.below _ (below_dr (Below.refl _ w))).trans (Wt.grown g5 (.inl (.inr (.inr (.inl rfl)))))⟩
  have hC := hcl w5 hG5
  have hfin : ∀ V, RGo w V f D D2 r gN G gE gR gP b N2 → V.cell? ⟨b, i * 2, none⟩ = some (.int .i64 N[i].1) ∧ (∃ u, V.cell? ⟨b, k * 2, none⟩ = some u) ∧ (∃ u, V.cell? ⟨b, k * 2 + 1, none⟩ = some u) ∧ V.frozen? ⟨b, k * 2, none⟩ = false ∧ V.frozen? ⟨b, k * 2 + 1, none⟩ = false ∧ RGo w ((V.setCell ⟨b, k * 2, none⟩ (.int .i64 N[i].1)).setCell ⟨b, k * 2 + 1, none⟩ (.bool false)).drew f D D2 r gN G gE gR gP b (N2.set k (N[i].1, false)) := fun V hV => by
    obtain ⟨s', e', r', p', a, wt⟩ := hV
    obtain ⟨h7, g7⟩ := a.putT hk (N[i].1, false)
    exact ⟨by rw [(a.tab.at hi).1, hN2], ⟨_, (a.tab.at hk).1⟩, ⟨_, (a.tab.at hk).2⟩, a.tab.free _, a.tab.free _, s', e', r', p', h7.below (below_dr (Below.refl _ _)), wt.trans ((Wt.grown g7 (.inr rfl)).trans (Wt.below _ (below_dr (Below.refl _ _))))⟩
  have hw1 : wrap64 (c + 1) = c + 1 := by unfold wrap64; omega
  have hw2 : IntKind.i64.wrap (c + 1) = c + 1 := by rw [IntKind.wrap_i64]; omega
  have hik : ((i : Int) == (k : Int)) = false := by simp; omega
  have hi8 : (i : Int) < 8 := by omega
  have hk8 : (k : Int) < 8 := by omega
  generalize N2.set k (N[i].1, false) = N3 at *
  generalize N[i].1 = X at *
  generalize N[i].2 = Y at *
  clear h h3 pm5 g5 hG5 hcl hN2 hL2 _hT2 hc hwk hs hn h0 h1 hc0 hc1 hne
  go_enter Tryz.func84, Tryz.ntmps84
  go_upto_region 6 with (first
    | (go_at_call 35; refine hH.mono ?_; rintro e w1 ⟨rfl, hw1⟩; subst w1)
    | (go_at_call 95; refine hI.mono ?_; rintro e w1 ⟨rfl, hw1⟩; subst w1))
  go_region
  all_goals
    clear hlk hrun t0 t1 f2 hH hI
    go_upto_region 8 with (go_at_call 87; refine hC.mono ?_; rintro e w6 ⟨t, rfl, hG6⟩)
    obtain ⟨v0, ⟨u1, v1⟩, ⟨u2, v2⟩, y1, y2, hG⟩ := hfin _ hG6
    clear hC hfin hG6
    go_region
    all_goals
      go_wp2_with fail
      go_ret
      exact ⟨rfl, hG⟩
end
end Go.Proofs.YtjkneekfijibiabGreatDoor

namespace Go.Proofs.YtjkneekfijibiabGreatDoor
open Go.RowKit Go.Maps

section
variable {w w' : World} {r gN s : Nat} {T : Wd} {G : Int → Nat}
theorem NewFiles_ok (h : RTr w r gN s T G) : Calls Tryz.prog 26 #[wp r] w fun e w' => ∃ f gE gR gP, e = .returned (wp f) ∧ RFm w' f (noneD T) r gN s G gE gR gP 0 0 0 ∧ Below w.heap.size w w' ∧ (∀ i, w.heap.size ≤ i → ¬ town r gN T G i) ∧ w.heap.size ≤ f ∧ w.heap.size ≤ gE ∧ w.heap.size ≤ gR ∧ w.heap.size ≤ gP := by
  have hmm := @run_makeMap Tryz.prog
  go_enter Tryz.func26, Tryz.ntmps26
  go_wp2_with fail
  go_ret
  have hs1 : (w.alloc (.map #[] 0)).heap.size = w.heap.size + 1 := by show (w.heap.push _).size = _; rw [Array.size_push]
  have hs2 : ((w.alloc (.map #[] 0)).alloc (.map #[] 0)).heap.size = w.heap.size + 2 := by show (Array.push _ _).size = _; rw [Array.size_push, hs1]
  have hs3 : (((w.alloc (.map #[] 0)).alloc (.map #[] 0)).alloc (.map #[] 0)).heap.size = w.heap.size + 3 := by show (Array.push _ _).size = _; rw [Array.size_push, hs2]
  have b1 : Below w.heap.size w (w.alloc (.map #[] 0)) := (Below.refl _ w).alloc (Nat.le_refl _) _
  have b2 := b1.alloc b1.size (.map #[] 0)
  have b3 := b2.alloc b2.size (.map #[] 0)
  have b4 := b3.alloc b3.size (.cells #[wp r, .map (some w.heap.size), .map (some (w.heap.size + 1)), .map (some (w.heap.size + 2)), .int .i64 0] 88)
  have hlt : ∀ i, w.heap.size ≤ i → ¬ town r gN T G i := fun i hi ht => by have := h.lt ht; omega
  refine ⟨w.heap.size + 3, w.heap.size, w.heap.size + 1, w.heap.size + 2, by simp, ⟨?_, h.below b4, ?_, ?_, ?_, by omega, by omega, by omega, fun i ht => ?_⟩, b4, hlt, by omega, by omega, by omega, by omega⟩
  · show (Array.push _ _)[w.heap.size + 3]? = _
    rw [Array.getElem?_push, if_pos hs3.symm]
    rfl
  · refine (PMap.made w).keep ?_
    rw [show (((((w.alloc (.map #[] 0)).alloc (.map #[] 0)).alloc (.map #[] 0)).alloc (.cells #[wp r, .map (some w.heap.size), .map (some (w.heap.size + 1)), .map (some (w.heap.size + 2)), .int .i64 0] 88)).heap[w.heap.size]?) = (((w.alloc (.map #[] 0)).alloc (.map #[] 0)).alloc (.map #[] 0)).heap[w.heap.size]? from Below.heap_alloc _ _ _ (by omega), Below.heap_alloc _ _ _ (by omega), Below.heap_alloc _ _ _ (by omega)]
  · have := PMap.made (w.alloc (.map #[] 0))
    rw [hs1] at this
    refine this.keep ?_
    rw [show (((((w.alloc (.map #[] 0)).alloc (.map #[] 0)).alloc (.map #[] 0)).alloc (.cells #[wp r, .map (some w.heap.size), .map (some (w.heap.size + 1)), .map (some (w.heap.size + 2)), .int .i64 0] 88)).heap[w.heap.size + 1]?) = (((w.alloc (.map #[] 0)).alloc (.map #[] 0)).alloc (.map #[] 0)).heap[w.heap.size + 1]? from Below.heap_alloc _ _ _ (by omega), Below.heap_alloc _ _ _ (by omega)]
  · have := PMap.made ((w.alloc (.map #[] 0)).alloc (.map #[] 0))
    rw [hs2] at this
    refine this.keep ?_
    rw [show (((((w.alloc (.map #[] 0)).alloc (.map #[] 0)).alloc (.map #[] 0)).alloc (.cells #[wp r, .map (some w.heap.size), .map (some (w.heap.size + 1)), .map (some (w.heap.size + 2)), .int .i64 0] 88)).heap[w.heap.size + 2]?) = (((w.alloc (.map #[] 0)).alloc (.map #[] 0)).alloc (.map #[] 0)).heap[w.heap.size + 2]? from Below.heap_alloc _ _ _ (by omega)]
  · have := h.lt ht
    refine ⟨?_, ?_, ?_, ?_⟩ <;> omega
end
end Go.Proofs.YtjkneekfijibiabGreatDoor

/- The document's own files: File, by its Go text. -/
import Derived.Test.YtjkneekfijibiabGreatDoorDWrite4
import Derived.Test.YtjkneekfijibiabGreatDoorWMake2
namespace Go.Proofs.YtjkneekfijibiabGreatDoor
open Go.RowKit Go.Maps

section
variable {w w' : World} {f r gN s gE gR gP sE sR sP b : Nat} {D : DS} {G : Int → Nat} {N : Ns} {m : Int}
theorem RFt.find1 (h : RFt w f D r gN s G gE gR gP sE sR sP b N) (hT : TrOk D.T) (p : List UInt8) (hp : p.length < 100000) (hm : w.cell? ⟨2, 0, none⟩ = some (.int .i64 m)) :
    Calls Tryz.prog 49 #[wp r, tx p] w fun e w' => e = .returned (.tuple #[.int .i64 (findT D.T p).1, .int .i64 (findT D.T p).2]) ∧ Below w.heap.size w w' := h.tree.find_ok hT p hp m hm
theorem RFt.make1 (h : RFt w f D r gN s G gE gR gP sE sR sP b N) (hT : TrOk D.T) (p : List UInt8) (hp : p.length < 100000) (hm : w.cell? ⟨2, 0, none⟩ = some (.int .i64 m)) (hC : ∀ k C, D.T k = some (.dir C) → C.length < maxLen) (hE : makeE D.T s p = 0) :
    Calls Tryz.prog 51 #[wp r, tx p, .bool false] w fun e w' => ∃ k, IsFree D.T k ∧ e = .returned (.tuple #[.int .i64 k, .int .i64 0]) ∧ RFt w' f { D with T := makeN D.T p false k } r gN (s + 1) G gE gR gP sE sR sP b N ∧ Wt (town r gN D.T G) w w' := by
  refine (h.tree.make_ok hT p false hp m hm hC hE).mono ?_
  rintro e w' ⟨k, hk, rfl, g, ht, _, hw⟩
  have hG : (fun i => if i = k ∧ false = true then g else G i) = G := by funext i; simp
  rw [hG] at ht
  refine ⟨k, hk, rfl, h.turn ht hw (fun i hi => ?_), hw⟩
  obtain ⟨_, ⟨C, hd, hlk⟩, _, _⟩ := makeE_zero hT hE
  have hdk : (placeT D.T p).1 ≠ k := fun e => by rw [e, hk.none] at hd; cases hd
  rcases hi with e | e | ⟨j, C', e, e2⟩
  · exact .inl e
  · exact .inr (.inl e)
  · refine .inr (.inr ?_)
    unfold makeN at e
    rw [addT_eq (show setT D.T k (newNd false) (placeT D.T p).1 = some (.dir C) by rw [setT_other _ hdk]; exact hd)] at e
    by_cases e3 : j = (placeT D.T p).1
    · exact ⟨j, C, by rw [e3]; exact hd, e2⟩
    · rw [setT_other _ e3] at e
      by_cases e4 : j = k
      · rw [e4, setT_same] at e; simp [newNd] at e
      · rw [setT_other _ e4] at e
        exact ⟨j, C', e, e2⟩
theorem RFt.hold1 (h : RFt w f D r gN s G gE gR gP sE sR sP b N) (hT : TrOk D.T) (n : Int) (hw : (Lit.int .i64 n).wf = true) (hs : s ≤ 1000) (hC : ∀ k C, D.T k = some (.dir C) → C.length ≤ 1000) (hx : ∀ b x, D.T n = some (.file b x) → x + 1 ≤ 1000) :
    Calls Tryz.prog 58 #[wp r, .int .i64 n, .int .i64 1] w fun e w' => e = .returned (.int .i64 (holdE D.T n 1)) ∧ ∃ s', RFt w' f { D with T := holdN D.T n 1 } r gN s' G gE gR gP sE sR sP b N ∧ Wt (town r gN D.T G) w w' := by
  refine (h.tree.hold_ok hT n 1 hw hs hC ⟨by omega, by omega⟩ hx).mono ?_
  rintro e w' ⟨rfl, s', ht, hw⟩
  exact ⟨rfl, s', h.turn ht hw town_hold, hw⟩
theorem wt_town {T : Wd} {A : Nat → Prop} (hw : Wt (town r gN T G) w w') (hA : ∀ i, town r gN T G i → A i) : Wt A w w' := hw.mono hA

set_option maxRecDepth 100000 in
set_option maxHeartbeats 4000000 in
theorem RFt.file_arg (h : RFt w f D r gN s G gE gR gP sE sR sP b N) (p : List UInt8) (pr : Int) (mk : Bool) (hp : ¬ (1 ≤ pr ∧ pr ≤ 3)) :
    Calls Tryz.prog 79 #[wp f, wp b, tx p, .int .i64 pr, .bool mk] w fun y w' => y = .returned (.tuple #[.int .i64 0, .int .i64 1]) ∧ RGo w w' f D D r gN G gE gR gP b N := by
  have hI := in_ok w pr 1 3
  rw [show (decide (1 ≤ pr) && decide (pr ≤ 3)) = false by simp only [Bool.and_eq_false_iff, decide_eq_false_iff_not]; omega] at hI
  have hfin := h.same (Below.refl _ w)
  clear h hp
  go_enter Tryz.func79, Tryz.ntmps79
  go_wp2_with (go_at_call 95; refine hI.mono ?_; rintro e w1 ⟨rfl, hw1⟩; subst w1)
  go_ret2
  exact ⟨rfl, hfin⟩
set_option maxRecDepth 100000 in
set_option maxHeartbeats 4000000 in
theorem RFt.file_full (h : RFt w f D r gN s G gE gR gP sE sR sP b N) (p : List UInt8) (pr : Int) (mk : Bool) (hp : 1 ≤ pr ∧ pr ≤ 3) (hr : ¬ roomy N sE) (hs : sE < 1000) :
    Calls Tryz.prog 79 #[wp f, wp b, tx p, .int .i64 pr, .bool mk] w fun y w' => y = .returned (.tuple #[.int .i64 0, .int .i64 12]) ∧ RGo w w' f D D r gN G gE gR gP b N := by
  have hI := in_ok w pr 1 3
  rw [show (decide (1 ≤ pr) && decide (pr ≤ 3)) = true by simp; exact hp] at hI
  have hLs := h.tab.least_ok
  have hfin : ∀ V, Below w.heap.size w V → V.cell? ⟨f, 1, none⟩ = some (.map (some gE)) ∧ (∀ ty, (Builtin.len_ #[84] ty #[.map (some gE)]).run Tryz.prog V = .ok (.int .i64 sE) V) ∧ RGo w V f D D r gN G gE gR gP b N := fun V hV => by
    have h2 := h.below hV
    exact ⟨h2.toRFm.cells.2.1, fun ty => h2.mE.len Tryz.underlying84 ty, h.same hV⟩
  by_cases hl : leastN N < 0
  · generalize leastN N = L at *
    clear h hp hr
    go_enter Tryz.func79, Tryz.ntmps79
    go_wp2_with (first
      | (go_at_call 95; refine hI.mono ?_; rintro e w1 ⟨rfl, hw1⟩; subst w1)
      | (go_at_call 128; refine hLs.mono ?_; rintro e w2 ⟨rfl, b2⟩))
    go_ret2
    exact ⟨rfl, (hfin _ b2).2.2⟩
  · have h40 : (40 : Int) ≤ (sE : Int) := by unfold roomy at hr; omega
    generalize leastN N = L at *
    clear h hp hr
    go_enter Tryz.func79, Tryz.ntmps79
    go_wp2_with (first
      | (go_at_call 95; refine hI.mono ?_; rintro e w1 ⟨rfl, hw1⟩; subst w1)
      | (go_at_call 128; refine hLs.mono ?_; rintro e w2 ⟨rfl, b2⟩; obtain ⟨c1, l1, hG⟩ := hfin _ b2))
    go_ret2
    exact ⟨rfl, hG⟩
end
end Go.Proofs.YtjkneekfijibiabGreatDoor

namespace Go.Proofs.YtjkneekfijibiabGreatDoor
open Go.RowKit Go.Maps

section
variable {w w' : World} {f r gN s gE gR gP sE sR sP b : Nat} {D : DS} {G : Int → Nat} {N : Ns} {m : Int}
/-- Ahead of where the path leads. -/
structure AheadS (w : World) (f r gE b : Nat) (pr L : Int) (sE : Nat) (Q : World → Prop) : Prop where
  inn : Calls Tryz.prog 95 #[.int .i64 pr, .int .i64 1, .int .i64 3] w fun e w' => e = .returned (.bool true) ∧ w' = w
  least : Calls Tryz.prog 128 #[wp b] w fun e w' => e = .returned (.int .i64 L) ∧ Q w'
  at_ : ∀ V, Q V → V.cell? ⟨f, 1, none⟩ = some (.map (some gE)) ∧ (∀ ty, (Builtin.len_ #[84] ty #[.map (some gE)]).run Tryz.prog V = .ok (.int .i64 sE) V) ∧ V.cell? ⟨f, 0, none⟩ = some (wp r)
theorem RFt.ahead (h : RFt w f D r gN s G gE gR gP sE sR sP b N) {pr : Int} (hp : 1 ≤ pr ∧ pr ≤ 3) : AheadS w f r gE b pr (leastN N) sE (fun V => Below w.heap.size w V) := by
  have hI := in_ok w pr 1 3
  rw [show (decide (1 ≤ pr) && decide (pr ≤ 3)) = true by simp; exact hp] at hI
  refine ⟨hI, h.tab.least_ok, fun V hV => ?_⟩
  have h2 := h.below hV
  exact ⟨h2.toRFm.cells.2.1, fun ty => h2.mE.len Tryz.underlying84 ty, h2.toRFm.cells.1⟩

set_option maxRecDepth 100000 in
set_option maxHeartbeats 4000000 in
theorem RFt.file_no (h : RFt w f D r gN s G gE gR gP sE sR sP b N) (p : List UInt8) (pr : Int) (mk : Bool) (hp : 1 ≤ pr ∧ pr ≤ 3) (hr : roomy N sE) (hT : TrOk D.T) (hpl : p.length < 100000) (hm : w.cell? ⟨2, 0, none⟩ = some (.int .i64 m)) (hE : (findT D.T p).2 ≠ 0) (h7 : ¬ ((findT D.T p).2 = 7 ∧ mk = true)) :
    Calls Tryz.prog 79 #[wp f, wp b, tx p, .int .i64 pr, .bool mk] w fun y w' => y = .returned (.tuple #[.int .i64 0, .int .i64 (findT D.T p).2]) ∧ RGo w w' f D D r gN G gE gR gP b N := by
  obtain ⟨hI, hLs, hat⟩ := h.ahead hp
  have hF : ∀ V, Below w.heap.size w V → Calls Tryz.prog 49 #[wp r, tx p] V fun e w' => e = .returned (.tuple #[.int .i64 (findT D.T p).1, .int .i64 (findT D.T p).2]) ∧ RGo w w' f D D r gN G gE gR gP b N := fun V hV => by
    refine ((h.below hV).find1 (m := m) hT p hpl (by rw [hV.cell (p := ⟨2, 0, none⟩) (World.block_lt_of_cell? w _ hm)]; exact hm)).mono ?_
    rintro e w' ⟨rfl, b'⟩
    exact ⟨rfl, h.same (hV.trans (b'.mono hV.size))⟩
  have hl : ¬ leastN N < 0 := hr.1
  have h40 : ¬ (40 : Int) ≤ (sE : Int) := by have := hr.2; omega
  generalize leastN N = L at *
  generalize (findT D.T p).1 = k at *
  generalize (findT D.T p).2 = c at *
  have hc0 : (c == 0) = false := by simpa using hE
  have hE2 : c ≠ 0 := hE
  clear h hp hr hT hpl hm hE
  by_cases hc7 : c = 7
  · have hmk : mk = false := by
      cases mk with
      | false => rfl
      | true => exact absurd ⟨hc7, rfl⟩ h7
    subst hc7
    subst hmk
    clear h7 hE2 hc0
    go_enter Tryz.func79, Tryz.ntmps79
    go_wp2_with (first
      | (go_at_call 95; refine hI.mono ?_; rintro e w1 ⟨rfl, hw1⟩; subst w1)
      | (go_at_call 128; refine hLs.mono ?_; rintro e w2 ⟨rfl, b2⟩; obtain ⟨c1, l1, c0⟩ := hat _ b2; have hF2 := hF _ b2)
      | (go_at_call 49; refine hF2.mono ?_; rintro e w3 ⟨rfl, hG⟩))
    go_ret2
    exact ⟨rfl, hG⟩
  · have hc7' : (c == 7) = false := by simpa using hc7
    clear h7 hE2 hc7
    go_enter Tryz.func79, Tryz.ntmps79
    go_wp2_with (first
      | (go_at_call 95; refine hI.mono ?_; rintro e w1 ⟨rfl, hw1⟩; subst w1)
      | (go_at_call 128; refine hLs.mono ?_; rintro e w2 ⟨rfl, b2⟩; obtain ⟨c1, l1, c0⟩ := hat _ b2; have hF2 := hF _ b2)
      | (go_at_call 49; refine hF2.mono ?_; rintro e w3 ⟨rfl, hG⟩))
    go_ret2
    exact ⟨rfl, hG⟩
end
end Go.Proofs.YtjkneekfijibiabGreatDoor

namespace Go.Proofs.YtjkneekfijibiabGreatDoor
open Go.RowKit Go.Maps

section
variable {w w' w2 : World} {f r gN s gE gR gP sE sR sP b : Nat} {D D1 D2 : DS} {G : Int → Nat} {N N1 N2 : Ns} {m : Int}
theorem RGo.upon (hT : ∀ i, town r gN D1.T G i → town r gN D.T G i) (h1 : RGo w w' f D D1 r gN G gE gR gP b N1) (h2 : RGo w' w2 f D1 D2 r gN G gE gR gP b N2) : RGo w w2 f D D2 r gN G gE gR gP b N2 := by
  obtain ⟨_, _, _, _, _, a⟩ := h1
  obtain ⟨s', e', r', p', c, d⟩ := h2
  refine ⟨s', e', r', p', c, a.trans (d.mono (fun i hi => ?_))⟩
  rcases hi with (e | e | e | e | e) | e
  · exact .inl (.inl e)
  · exact .inl (.inr (.inl e))
  · exact .inl (.inr (.inr (.inl e)))
  · exact .inl (.inr (.inr (.inr (.inl e))))
  · exact .inl (.inr (.inr (.inr (.inr (hT i e)))))
  · exact .inr e
/-- A file held, and a number for it. -/
theorem RGo.opens (hT : ∀ i, town r gN D1.T G i → town r gN D.T G i) (g : Given D1) (hl : ¬ leastN N < 0) (e : En) (V : World) (hV : RGo w V f D D1 r gN G gE gR gP b N) : Calls Tryz.prog 129 #[wp f, wp b, env e] V fun y w' => y = .returned (.int .i64 (leastN N)) ∧ RGo w w' f D (addD D1 e) r gN G gE gR gP b (addN D1 N) := by
  have hV' := hV
  obtain ⟨s', e', r', p', a, c⟩ := hV'
  refine (a.add_given g e hl).mono ?_
  rintro x w' ⟨rfl, hR⟩
  exact ⟨rfl, RGo.upon hT hV hR⟩

set_option maxRecDepth 100000 in
set_option maxHeartbeats 4000000 in
theorem RFt.file_open (h : RFt w f D r gN s G gE gR gP sE sR sP b N) (g : Given D) (p : List UInt8) (pr : Int) (mk : Bool) (hp : 1 ≤ pr ∧ pr ≤ 3) (hr : roomy N sE) (hT : TrOk D.T) (hpl : p.length < 100000) (hm : w.cell? ⟨2, 0, none⟩ = some (.int .i64 m)) (hE : (findT D.T p).2 = 0) (hh : holdE D.T (findT D.T p).1 1 = 0)
    (hk : 0 ≤ (findT D.T p).1 ∧ (findT D.T p).1 < 100000) (hs : s ≤ 1000) (hC : ∀ k C, D.T k = some (.dir C) → C.length ≤ 1000) (hx : ∀ b x, D.T (findT D.T p).1 = some (.file b x) → x + 1 ≤ 1000) :
    Calls Tryz.prog 79 #[wp f, wp b, tx p, .int .i64 pr, .bool mk] w fun y w' => y = .returned (.tuple #[.int .i64 (leastN N), .int .i64 0]) ∧ RGo w w' f D (addD { D with T := holdN D.T (findT D.T p).1 1 } ⟨1, pr, (findT D.T p).1, 0, 0⟩) r gN G gE gR gP b (addN { D with T := holdN D.T (findT D.T p).1 1 } N) := by
  obtain ⟨hI, hLs, hat⟩ := h.ahead hp
  have hF : ∀ V, Below w.heap.size w V → Calls Tryz.prog 49 #[wp r, tx p] V fun e w' => e = .returned (.tuple #[.int .i64 (findT D.T p).1, .int .i64 (findT D.T p).2]) ∧ Below w.heap.size w w' := fun V hV => by
    refine ((h.below hV).find1 (m := m) hT p hpl (by rw [hV.cell (p := ⟨2, 0, none⟩) (World.block_lt_of_cell? w _ hm)]; exact hm)).mono ?_
    rintro e w' ⟨rfl, b'⟩
    exact ⟨rfl, hV.trans (b'.mono hV.size)⟩
  rw [hE] at hF
  have hHd : ∀ V, Below w.heap.size w V → Calls Tryz.prog 58 #[wp r, .int .i64 (findT D.T p).1, .int .i64 1] V fun e w' => e = .returned (.int .i64 0) ∧ RGo w w' f D { D with T := holdN D.T (findT D.T p).1 1 } r gN G gE gR gP b N := fun V hV => by
    refine ((h.below hV).hold1 hT _ (wf_few (by omega) (by omega)) hs hC hx).mono ?_
    rintro e w' ⟨rfl, s', h', hw⟩
    exact ⟨by rw [hh], s', sE, sR, sP, h', (Wt.below _ hV).trans (wt_town hw (fun i hi => .inl (.inr (.inr (.inr (.inr hi))))))⟩
  have hAd := fun V => RGo.opens (w := w) (f := f) (gE := gE) (gR := gR) (gP := gP) (b := b) (D := D) (D1 := { D with T := holdN D.T (findT D.T p).1 1 }) (r := r) (gN := gN) (G := G) (N := N) (fun i hi => town_hold i hi) (g.turn _) hr.1 ⟨1, pr, (findT D.T p).1, 0, 0⟩ V
  have hl : ¬ leastN N < 0 := hr.1
  have h40 : ¬ (40 : Int) ≤ (sE : Int) := by have := hr.2; omega
  generalize addN { D with T := holdN D.T (findT D.T p).1 1 } N = N2 at *
  generalize addD { D with T := holdN D.T (findT D.T p).1 1 } ⟨1, pr, (findT D.T p).1, 0, 0⟩ = D2 at *
  generalize ({ D with T := holdN D.T (findT D.T p).1 1 } : DS) = D1 at *
  generalize leastN N = L at *
  generalize (findT D.T p).1 = k at *
  clear h hp hr hT hpl hm hE hh hk hs hC hx g
  go_enter Tryz.func79, Tryz.ntmps79
  go_wp2_with (first
    | (go_at_call 95; refine hI.mono ?_; rintro e w1 ⟨rfl, hw1⟩; subst w1)
    | (go_at_call 128; refine hLs.mono ?_; rintro e w2 ⟨rfl, b2⟩; obtain ⟨c1, l1, c0⟩ := hat _ b2; have hF2 := hF _ b2)
    | (go_at_call 49; refine hF2.mono ?_; rintro e w3 ⟨rfl, b3⟩; obtain ⟨c4, l4, c5⟩ := hat _ b3; have hH2 := hHd _ b3)
    | (go_at_call 58; refine hH2.mono ?_; rintro e w4 ⟨rfl, hG⟩; have hA2 := hAd _ hG)
    | (go_at_call 129; refine hA2.mono ?_; rintro e w5 ⟨rfl, hG2⟩))
  go_ret2
  exact ⟨rfl, hG2⟩
end
end Go.Proofs.YtjkneekfijibiabGreatDoor

namespace Go.Proofs.YtjkneekfijibiabGreatDoor
open Go.RowKit Go.Maps

section
variable {w w' w2 : World} {f r gN s gE gR gP sE sR sP b : Nat} {D D1 D2 : DS} {G : Int → Nat} {N N1 N2 : Ns} {m : Int}
set_option maxRecDepth 100000 in
set_option maxHeartbeats 4000000 in
theorem RFt.file_dir (h : RFt w f D r gN s G gE gR gP sE sR sP b N) (p : List UInt8) (pr : Int) (mk : Bool) (hp : 1 ≤ pr ∧ pr ≤ 3) (hr : roomy N sE) (hT : TrOk D.T) (hpl : p.length < 100000) (hm : w.cell? ⟨2, 0, none⟩ = some (.int .i64 m)) (hE : (findT D.T p).2 = 0) (hh : holdE D.T (findT D.T p).1 1 ≠ 0) (hN : holdN D.T (findT D.T p).1 1 = D.T)
    (hk : 0 ≤ (findT D.T p).1 ∧ (findT D.T p).1 < 100000) (hs : s ≤ 1000) (hC : ∀ k C, D.T k = some (.dir C) → C.length ≤ 1000) (hx : ∀ b x, D.T (findT D.T p).1 = some (.file b x) → x + 1 ≤ 1000) :
    Calls Tryz.prog 79 #[wp f, wp b, tx p, .int .i64 pr, .bool mk] w fun y w' => y = .returned (.tuple #[.int .i64 0, .int .i64 (holdE D.T (findT D.T p).1 1)]) ∧ RGo w w' f D D r gN G gE gR gP b N := by
  obtain ⟨hI, hLs, hat⟩ := h.ahead hp
  have hF : ∀ V, Below w.heap.size w V → Calls Tryz.prog 49 #[wp r, tx p] V fun e w' => e = .returned (.tuple #[.int .i64 (findT D.T p).1, .int .i64 (findT D.T p).2]) ∧ Below w.heap.size w w' := fun V hV => by
    refine ((h.below hV).find1 (m := m) hT p hpl (by rw [hV.cell (p := ⟨2, 0, none⟩) (World.block_lt_of_cell? w _ hm)]; exact hm)).mono ?_
    rintro e w' ⟨rfl, b'⟩
    exact ⟨rfl, hV.trans (b'.mono hV.size)⟩
  rw [hE] at hF
  have hHd : ∀ V, Below w.heap.size w V → Calls Tryz.prog 58 #[wp r, .int .i64 (findT D.T p).1, .int .i64 1] V fun e w' => e = .returned (.int .i64 (holdE D.T (findT D.T p).1 1)) ∧ RGo w w' f D D r gN G gE gR gP b N := fun V hV => by
    refine ((h.below hV).hold1 hT _ (wf_few (by omega) (by omega)) hs hC hx).mono ?_
    rintro e w' ⟨rfl, s', h', hw⟩
    rw [hN] at h'
    exact ⟨rfl, s', sE, sR, sP, h', (Wt.below _ hV).trans (wt_town hw (fun i hi => .inl (.inr (.inr (.inr (.inr hi))))))⟩
  have hl : ¬ leastN N < 0 := hr.1
  have h40 : ¬ (40 : Int) ≤ (sE : Int) := by have := hr.2; omega
  generalize leastN N = L at *
  generalize holdE D.T (findT D.T p).1 1 = c at *
  generalize (findT D.T p).1 = k at *
  have hc0 : (c == 0) = false := by simpa using hh
  clear h hp hr hT hpl hm hE hh hk hs hC hx hN
  go_enter Tryz.func79, Tryz.ntmps79
  go_wp2_with (first
    | (go_at_call 95; refine hI.mono ?_; rintro e w1 ⟨rfl, hw1⟩; subst w1)
    | (go_at_call 128; refine hLs.mono ?_; rintro e w2 ⟨rfl, b2⟩; obtain ⟨c1, l1, c0⟩ := hat _ b2; have hF2 := hF _ b2)
    | (go_at_call 49; refine hF2.mono ?_; rintro e w3 ⟨rfl, b3⟩; obtain ⟨c4, l4, c5⟩ := hat _ b3; have hH2 := hHd _ b3)
    | (go_at_call 58; refine hH2.mono ?_; rintro e w4 ⟨rfl, hG⟩))
  go_ret2
  exact ⟨rfl, hG⟩
set_option maxRecDepth 100000 in
set_option maxHeartbeats 4000000 in
theorem RFt.file_unmade (h : RFt w f D r gN s G gE gR gP sE sR sP b N) (p : List UInt8) (pr : Int) (hp : 1 ≤ pr ∧ pr ≤ 3) (hr : roomy N sE) (hT : TrOk D.T) (hpl : p.length < 100000) (hm : w.cell? ⟨2, 0, none⟩ = some (.int .i64 m)) (hE : (findT D.T p).2 = 7) (hs : s < 1000) (hM : makeE D.T s p ≠ 0) :
    Calls Tryz.prog 79 #[wp f, wp b, tx p, .int .i64 pr, .bool true] w fun y w' => y = .returned (.tuple #[.int .i64 0, .int .i64 (makeE D.T s p)]) ∧ RGo w w' f D D r gN G gE gR gP b N := by
  obtain ⟨hI, hLs, hat⟩ := h.ahead hp
  have hmV : ∀ V, Below w.heap.size w V → V.cell? ⟨2, 0, none⟩ = some (.int .i64 m) := fun V hV => by rw [hV.cell (p := ⟨2, 0, none⟩) (World.block_lt_of_cell? w _ hm)]; exact hm
  have hF : ∀ V, Below w.heap.size w V → Calls Tryz.prog 49 #[wp r, tx p] V fun e w' => e = .returned (.tuple #[.int .i64 (findT D.T p).1, .int .i64 (findT D.T p).2]) ∧ Below w.heap.size w w' := fun V hV => by
    refine ((h.below hV).find1 (m := m) hT p hpl (hmV V hV)).mono ?_
    rintro e w' ⟨rfl, b'⟩
    exact ⟨rfl, hV.trans (b'.mono hV.size)⟩
  rw [hE] at hF
  have hMk : ∀ V, Below w.heap.size w V → Calls Tryz.prog 51 #[wp r, tx p, .bool false] V fun e w' => e = .returned (.tuple #[.int .i64 0, .int .i64 (makeE D.T s p)]) ∧ RGo w w' f D D r gN G gE gR gP b N := fun V hV => by
    refine ((h.below hV).tree.make_no hT p false hpl m (hmV V hV) hs hM).mono ?_
    rintro e w' ⟨rfl, b'⟩
    exact ⟨rfl, h.same (hV.trans (b'.mono hV.size))⟩
  have hl : ¬ leastN N < 0 := hr.1
  have h40 : ¬ (40 : Int) ≤ (sE : Int) := by have := hr.2; omega
  generalize leastN N = L at *
  generalize makeE D.T s p = c at *
  generalize (findT D.T p).1 = k at *
  have hc0 : (c == 0) = false := by simpa using hM
  clear h hp hr hT hpl hm hE hM hs hmV
  go_enter Tryz.func79, Tryz.ntmps79
  go_wp2_with (first
    | (go_at_call 95; refine hI.mono ?_; rintro e w1 ⟨rfl, hw1⟩; subst w1)
    | (go_at_call 128; refine hLs.mono ?_; rintro e w2 ⟨rfl, b2⟩; obtain ⟨c1, l1, c0⟩ := hat _ b2; have hF2 := hF _ b2)
    | (go_at_call 49; refine hF2.mono ?_; rintro e w3 ⟨rfl, b3⟩; obtain ⟨c4, l4, c5⟩ := hat _ b3; have hH2 := hMk _ b3)
    | (go_at_call 51; refine hH2.mono ?_; rintro e w4 ⟨rfl, hG⟩))
  go_ret2
  exact ⟨rfl, hG⟩
set_option maxRecDepth 100000 in
set_option maxHeartbeats 4000000 in
theorem RFt.file_new (h : RFt w f D r gN s G gE gR gP sE sR sP b N) (g : Given D) (p : List UInt8) (pr : Int) (hp : 1 ≤ pr ∧ pr ≤ 3) (hr : roomy N sE) (hT : TrOk D.T) (hpl : p.length < 100000) (hm : w.cell? ⟨2, 0, none⟩ = some (.int .i64 m)) (hE : (findT D.T p).2 = 7) (hs : s < 900) (hM : makeE D.T s p = 0) (hC : ∀ k C, D.T k = some (.dir C) → C.length ≤ 900)
    (hT1 : ∀ k, IsFree D.T k → TrOk (makeN D.T p false k)) (hC1 : ∀ k, IsFree D.T k → ∀ j C, makeN D.T p false k j = some (.dir C) → C.length ≤ 1000) (hk9 : ∀ k, IsFree D.T k → k < 100000) :
    Calls Tryz.prog 79 #[wp f, wp b, tx p, .int .i64 pr, .bool true] w fun y w' => ∃ k, IsFree D.T k ∧ y = .returned (.tuple #[.int .i64 (leastN N), .int .i64 0]) ∧ RGo w w' f D (addD { D with T := holdN (makeN D.T p false k) k 1 } ⟨1, pr, k, 0, 0⟩) r gN G gE gR gP b (addN D N) := by
  obtain ⟨hI, hLs, hat⟩ := h.ahead hp
  have hmV : ∀ V, Below w.heap.size w V → V.cell? ⟨2, 0, none⟩ = some (.int .i64 m) := fun V hV => by rw [hV.cell (p := ⟨2, 0, none⟩) (World.block_lt_of_cell? w _ hm)]; exact hm
  have hF : ∀ V, Below w.heap.size w V → Calls Tryz.prog 49 #[wp r, tx p] V fun e w' => e = .returned (.tuple #[.int .i64 (findT D.T p).1, .int .i64 (findT D.T p).2]) ∧ Below w.heap.size w w' := fun V hV => by
    refine ((h.below hV).find1 (m := m) hT p hpl (hmV V hV)).mono ?_
    rintro e w' ⟨rfl, b'⟩
    exact ⟨rfl, hV.trans (b'.mono hV.size)⟩
  rw [hE] at hF
  have hMk : ∀ V, Below w.heap.size w V → Calls Tryz.prog 51 #[wp r, tx p, .bool false] V fun e w' => ∃ k, e = .returned (.tuple #[.int .i64 k, .int .i64 0]) ∧ w'.cell? ⟨f, 0, none⟩ = some (wp r) ∧ Calls Tryz.prog 58 #[wp r, .int .i64 k, .int .i64 1] w' fun e2 w2 => e2 = .returned (.int .i64 0) ∧ Calls Tryz.prog 129 #[wp f, wp b, .agg #[.int .i64 1, .int .i64 pr, .int .i64 k, .int .i64 0, .int .i64 0]] w2 fun y w3 => y = .returned (.int .i64 (leastN N)) ∧ (IsFree D.T k ∧ RGo w w3 f D (addD { D with T := holdN (makeN D.T p false k) k 1 } ⟨1, pr, k, 0, 0⟩) r gN G gE gR gP b (addN D N)) := fun V hV => by
    refine ((h.below hV).make1 hT p hpl (hmV V hV) (fun k C e => by have := hC k C e; unfold maxLen; omega) hM).mono ?_
    rintro e w' ⟨k, hk, rfl, h', hw⟩
    obtain ⟨hh, h0⟩ := made_hold hT hM hk
    refine ⟨k, rfl, h'.toRFm.cells.1, ?_⟩
    refine (h'.hold1 (hT1 k hk) k (wf_few hk.pos (by have := hk9 k hk; omega)) (by omega) (hC1 k hk) (fun b x e => by have := h0 b x e; omega)).mono ?_
    rintro e2 w2 ⟨rfl, s2, h2, hw2⟩
    refine ⟨by rw [hh], ?_⟩
    have hsub1 : ∀ i, town r gN (makeN D.T p false k) G i → town r gN D.T G i := fun i hi => by
      obtain ⟨_, ⟨C, hd, hlk⟩, _, _⟩ := makeE_zero hT hM
      have hdk : (placeT D.T p).1 ≠ k := fun e => by rw [e, hk.none] at hd; cases hd
      rcases hi with e | e | ⟨j, C', e, e2⟩
      · exact .inl e
      · exact .inr (.inl e)
      · refine .inr (.inr ?_)
        unfold makeN at e
        rw [addT_eq (show setT D.T k (newNd false) (placeT D.T p).1 = some (.dir C) by rw [setT_other _ hdk]; exact hd)] at e
        by_cases e3 : j = (placeT D.T p).1
        · exact ⟨j, C, by rw [e3]; exact hd, e2⟩
        · rw [setT_other _ e3] at e
          by_cases e4 : j = k
          · rw [e4, setT_same] at e; simp [newNd] at e
          · rw [setT_other _ e4] at e
            exact ⟨j, C', e, e2⟩
    have hG : RGo w w2 f D { D with T := holdN (makeN D.T p false k) k 1 } r gN G gE gR gP b N := ⟨s2, sE, sR, sP, h2, (Wt.below _ hV).trans ((wt_town hw (fun i hi => .inl (.inr (.inr (.inr (.inr hi)))))).trans (wt_town hw2 (fun i hi => .inl (.inr (.inr (.inr (.inr (hsub1 i hi))))))))⟩
    refine (RGo.opens (fun i hi => hsub1 i (town_hold i hi)) (g.turn _) hr.1 ⟨1, pr, k, 0, 0⟩ w2 hG).mono ?_
    rintro y w3 ⟨rfl, hR⟩
    exact ⟨rfl, hk, hR⟩
  have hl : ¬ leastN N < 0 := hr.1
  have h40 : ¬ (40 : Int) ≤ (sE : Int) := by have := hr.2; omega
  generalize leastN N = L at *
  generalize (findT D.T p).1 = k at *
  clear h hp hr hT hpl hm hE hM hs hmV g hC hT1 hC1 hk9
  go_enter Tryz.func79, Tryz.ntmps79
  go_wp2_with (first
    | (go_at_call 95; refine hI.mono ?_; rintro e w1 ⟨rfl, hw1⟩; subst w1)
    | (go_at_call 128; refine hLs.mono ?_; rintro e w2 ⟨rfl, b2⟩; obtain ⟨c1, l1, c0⟩ := hat _ b2; have hF2 := hF _ b2)
    | (go_at_call 49; refine hF2.mono ?_; rintro e w3 ⟨rfl, b3⟩; obtain ⟨c4, l4, c5⟩ := hat _ b3; have hH2 := hMk _ b3)
    | (go_at_call 51; refine hH2.mono ?_; rintro e w4 ⟨k4, rfl, c6, hH3⟩)
    | (go_at_call 58; refine hH3.mono ?_; rintro e w5 ⟨rfl, hA3⟩)
    | (go_at_call 129; refine hA3.mono ?_; rintro e w6 ⟨rfl, hfree, hG2⟩))
  go_ret2
  exact ⟨k4, hfree, rfl, hG2⟩
end
end Go.Proofs.YtjkneekfijibiabGreatDoor

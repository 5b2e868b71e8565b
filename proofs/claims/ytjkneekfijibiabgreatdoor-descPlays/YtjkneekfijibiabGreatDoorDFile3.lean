/- The document's own files: File, found or made, by its Go text. -/
import Derived.Test.YtjkneekfijibiabGreatDoorDFile
namespace Go.Proofs.YtjkneekfijibiabGreatDoor
open Go.RowKit Go.Maps

section
variable {w w' : World} {f r gN s gE gR gP sE sR sP b : Nat} {D : DS} {G : Int → Nat} {N : Ns} {m : Int}
/-- Ahead of where the path leads. -/
structure AheadS (w : World) (f r gE b : Nat) (pr L : Int) (sE : Nat) (Q : World → Prop) : Prop where
  inn : Calls Tryz.prog 95 #[.int .i64 pr, .int .i64 1, .int .i64 3] w fun e w' => e = .returned (.bool true) ∧ w' = w
  least : Calls Tryz.prog 128 #[wp b] w fun e w' => e = .returned (.int .i64 L) ∧ Q w'
  at_ : ∀ V, Q V → V.cell? ⟨f, 1, none⟩ = some (.map (some gE)) ∧ (∀ ty, (Builtin.len_ #[84] ty #[.map (some gE)]).run Tryz.prog V = .ok (.int .i64 sE) V) ∧ V.cell? ⟨f, 0, none⟩ = some (wp r)
theorem RFt.ahead (h : RFt w f D r gN s G gE gR gP sE sR sP b N) {pr : Int} (hp : 1 ≤ pr ∧ pr ≤ 3) : AheadS w f r gE b pr (leastN N) sE (fun V => Below w.heap.size w V) := by
  have hI := in_ok w pr 1 3
  rw [show (decide (1 ≤ pr) && decide (pr ≤ 3)) = true by simp; exact hp] at hI
  refine ⟨hI, h.tab.least_ok, fun V hV => ?_⟩
  have h2 := h.below hV
  exact ⟨h2.toRFm.cells.2.1, fun ty => h2.mE.len Tryz.underlying84 ty, h2.toRFm.cells.1⟩

set_option maxRecDepth 100000 in
set_option maxHeartbeats 4000000 in
theorem RFt.file_no (h : RFt w f D r gN s G gE gR gP sE sR sP b N) (p : List UInt8) (pr : Int) (mk : Bool) (hp : 1 ≤ pr ∧ pr ≤ 3) (hr : roomy N sE) (hT : TrOk D.T) (hpl : p.length < 100000) (hm : w.cell? ⟨2, 0, none⟩ = some (.int .i64 m)) (hE : (findT D.T p).2 ≠ 0) (h7 : ¬ ((findT D.T p).2 = 7 ∧ mk = true)) :
    Calls Tryz.prog 79 #[wp f, wp b, tx p, .int .i64 pr, .bool mk] w fun y w' => y = .returned (.tuple #[.int .i64 0, .int .i64 (findT D.T p).2]) ∧ RGo w w' f D D r gN G gE gR gP b N := by
  obtain ⟨hI, hLs, hat⟩ := h.ahead hp
  have hF : ∀ V, Below w.heap.size w V → Calls Tryz.prog 49 #[wp r, tx p] V fun e w' => e = .returned (.tuple #[.int .i64 (findT D.T p).1, .int .i64 (findT D.T p).2]) ∧ RGo w w' f D D r gN G gE gR gP b N := fun V hV => by
    refine ((h.below hV).find1 (m := m) hT p hpl (by rw [hV.cell (p := ⟨2, 0, none⟩) (World.block_lt_of_cell? w _ hm)]; exact hm)).mono ?_
    rintro e w' ⟨rfl, b'⟩
    exact ⟨rfl, h.same (hV.trans (b'.mono hV.size))⟩
  have hl : ¬ leastN N < 0 := hr.1
  have h40 : ¬ (40 : Int) ≤ (sE : Int) := by have := hr.2; omega
  generalize leastN N = L at *
  generalize (findT D.T p).1 = k at *
  generalize (findT D.T p).2 = c at *
  have hc0 : (c == 0) = false := by simpa using hE
  have hE2 : c ≠ 0 := hE
  clear h hp hr hT hpl hm hE
  by_cases hc7 : c = 7
  · have hmk : mk = false := by
      cases mk with
      | false => rfl
      | true => exact absurd ⟨hc7, rfl⟩ h7
    subst hc7
    subst hmk
    clear h7 hE2 hc0
    go_enter Tryz.func79, Tryz.ntmps79
    go_wp2_with (first
      | (go_at_call 95; refine hI.mono ?_; rintro e w1 ⟨rfl, hw1⟩; subst w1)
      | (go_at_call 128; refine hLs.mono ?_; rintro e w2 ⟨rfl, b2⟩; obtain ⟨c1, l1, c0⟩ := hat _ b2; have hF2 := hF _ b2)
      | (go_at_call 49; refine hF2.mono ?_; rintro e w3 ⟨rfl, hG⟩))
    go_ret2
    exact ⟨rfl, hG⟩
  · have hc7' : (c == 7) = false := by simpa using hc7
    clear h7 hE2 hc7
    go_enter Tryz.func79, Tryz.ntmps79
    go_wp2_with (first
      | (go_at_call 95; refine hI.mono ?_; rintro e w1 ⟨rfl, hw1⟩; subst w1)
      | (go_at_call 128; refine hLs.mono ?_; rintro e w2 ⟨rfl, b2⟩; obtain ⟨c1, l1, c0⟩ := hat _ b2; have hF2 := hF _ b2)
      | (go_at_call 49; refine hF2.mono ?_; rintro e w3 ⟨rfl, hG⟩))
    go_ret2
    exact ⟨rfl, hG⟩
end
end Go.Proofs.YtjkneekfijibiabGreatDoor

namespace Go.Proofs.YtjkneekfijibiabGreatDoor
open Go.RowKit Go.Maps

section
variable {w w' w2 : World} {f r gN s gE gR gP sE sR sP b : Nat} {D D1 D2 : DS} {G : Int → Nat} {N N1 N2 : Ns} {m : Int}
theorem RGo.upon (hT : ∀ i, town r gN D1.T G i → town r gN D.T G i) (h1 : RGo w w' f D D1 r gN G gE gR gP b N1) (h2 : RGo w' w2 f D1 D2 r gN G gE gR gP b N2) : RGo w w2 f D D2 r gN G gE gR gP b N2 := by
  obtain ⟨_, _, _, _, _, a⟩ := h1
  obtain ⟨s', e', r', p', c, d⟩ := h2
  refine ⟨s', e', r', p', c, a.trans (d.mono (fun i hi => ?_))⟩
  rcases hi with (e | e | e | e | e) | e
  · exact .inl (.inl e)
  · exact .inl (.inr (.inl e))
  · exact .inl (.inr (.inr (.inl e)))
  · exact .inl (.inr (.inr (.inr (.inl e))))
  · exact .inl (.inr (.inr (.inr (.inr (hT i e)))))
  · exact .inr e
/-- A file held, and a number for it. -/
theorem RGo.opens (hT : ∀ i, town r gN D1.T G i → town r gN D.T G i) (g : Given D1) (hl : ¬ leastN N < 0) (e : En) (V : World) (hV : RGo w V f D D1 r gN G gE gR gP b N) : Calls Tryz.prog 129 #[wp f, wp b, env e] V fun y w' => y = .returned (.int .i64 (leastN N)) ∧ RGo w w' f D (addD D1 e) r gN G gE gR gP b (addN D1 N) := by
  have hV' := hV
  obtain ⟨s', e', r', p', a, c⟩ := hV'
  refine (a.add_given g e hl).mono ?_
  rintro x w' ⟨rfl, hR⟩
  exact ⟨rfl, RGo.upon hT hV hR⟩

set_option maxRecDepth 100000 in
set_option maxHeartbeats 4000000 in
theorem RFt.file_open (h : RFt w f D r gN s G gE gR gP sE sR sP b N) (g : Given D) (p : List UInt8) (pr : Int) (mk : Bool) (hp : 1 ≤ pr ∧ pr ≤ 3) (hr : roomy N sE) (hT : TrOk D.T) (hpl : p.length < 100000) (hm : w.cell? ⟨2, 0, none⟩ = some (.int .i64 m)) (hE : (findT D.T p).2 = 0) (hh : holdE D.T (findT D.T p).1 1 = 0)
    (hk : 0 ≤ (findT D.T p).1 ∧ (findT D.T p).1 < 100000) (hs : s ≤ 1000) (hC : ∀ k C, D.T k = some (.dir C) → C.length ≤ 1000) (hx : ∀ b x, D.T (findT D.T p).1 = some (.file b x) → x + 1 ≤ 1000) :
    Calls Tryz.prog 79 #[wp f, wp b, tx p, .int .i64 pr, .bool mk] w fun y w' => y = .returned (.tuple #[.int .i64 (leastN N), .int .i64 0]) ∧ RGo w w' f D (addD { D with T := holdN D.T (findT D.T p).1 1 } ⟨1, pr, (findT D.T p).1, 0, 0⟩) r gN G gE gR gP b (addN { D with T := holdN D.T (findT D.T p).1 1 } N) := by
  obtain ⟨hI, hLs, hat⟩ := h.ahead hp
  have hF : ∀ V, Below w.heap.size w V → Calls Tryz.prog 49 #[wp r, tx p] V fun e w' => e = .returned (.tuple #[.int .i64 (findT D.T p).1, .int .i64 (findT D.T p).2]) ∧ Below w.heap.size w w' := fun V hV => by
    refine ((h.below hV).find1 (m := m) hT p hpl (by rw [hV.cell (p := ⟨2, 0, none⟩) (World.block_lt_of_cell? w _ hm)]; exact hm)).mono ?_
    rintro e w' ⟨rfl, b'⟩
    exact ⟨rfl, hV.trans (b'.mono hV.size)⟩
  rw [hE] at hF
  have hHd : ∀ V, Below w.heap.size w V → Calls Tryz.prog 58 #[wp r, .int .i64 (findT D.T p).1, .int .i64 1] V fun e w' => e = .returned (.int .i64 0) ∧ RGo w w' f D { D with T := holdN D.T (findT D.T p).1 1 } r gN G gE gR gP b N := fun V hV => by
    refine ((h.below hV).hold1 hT _ (wf_few (by omega) (by omega)) hs hC hx).mono ?_
    rintro e w' ⟨rfl, s', h', hw⟩
    exact ⟨by rw [hh], s', sE, sR, sP, h', (Wt.below _ hV).trans (wt_town hw (fun i hi => .inl (.inr (.inr (.inr (.inr hi))))))⟩
  have hAd := fun V => RGo.opens (w := w) (f := f) (gE := gE) (gR := gR) (gP := gP) (b := b) (D := D) (D1 := { D with T := holdN D.T (findT D.T p).1 1 }) (r := r) (gN := gN) (G := G) (N := N) (fun i hi => town_hold i hi) (g.turn _) hr.1 ⟨1, pr, (findT D.T p).1, 0, 0⟩ V
  have hl : ¬ leastN N < 0 := hr.1
  have h40 : ¬ (40 : Int) ≤ (sE : Int) := by have := hr.2; omega
  generalize addN { D with T := holdN D.T (findT D.T p).1 1 } N = N2 at *
  generalize addD { D with T := holdN D.T (findT D.T p).1 1 } ⟨1, pr, (findT D.T p).1, 0, 0⟩ = D2 at *
  generalize ({ D with T := holdN D.T (findT D.T p).1 1 } : DS) = D1 at *
  generalize leastN N = L at *
  generalize (findT D.T p).1 = k at *
  clear h hp hr hT hpl hm hE hh hk hs hC hx g
  go_enter Tryz.func79, Tryz.ntmps79
  go_wp2_with (first
    | (go_at_call 95; refine hI.mono ?_; rintro e w1 ⟨rfl, hw1⟩; subst w1)
    | (go_at_call 128; refine hLs.mono ?_; rintro e w2 ⟨rfl, b2⟩; obtain ⟨c1, l1, c0⟩ := hat _ b2; have hF2 := hF _ b2)
    | (go_at_call 49; refine hF2.mono ?_; rintro e w3 ⟨rfl, b3⟩; obtain ⟨c4, l4, c5⟩ := hat _ b3; have hH2 := hHd _ b3)
    | (go_at_call 58; refine hH2.mono ?_; rintro e w4 ⟨rfl, hG⟩; have hA2 := hAd _ hG)
    | (go_at_call 129; refine hA2.mono ?_; rintro e w5 ⟨rfl, hG2⟩))
  go_ret2
  exact ⟨rfl, hG2⟩
end
end Go.Proofs.YtjkneekfijibiabGreatDoor

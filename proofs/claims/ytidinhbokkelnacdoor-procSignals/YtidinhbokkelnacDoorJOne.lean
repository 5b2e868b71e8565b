/- One table of processes, call for call; the statements' own facts about it. -/
import Derived.Test.YtidinhbokkelnacDoorJProg8
import Derived.Test.YtidinhbokkelnacDoorJProg4
namespace Go.Proofs.YtidinhbokkelnacDoor
open Go.RowKit Go.Maps Go.Sort

/-- How many there are. -/
def cnQ (P : Ps) : Nat := (pidsJ P).length
/-- A table, apart from all that was there at first. -/
structure TJ (w0 : World) (t g : Nat) (w : World) (P : Ps) : Prop where
  a : QJ w t g P (cnQ P)
  bel : Below w0.heap.size w0 w
  ft : w0.heap.size ≤ t
  fg : w0.heap.size ≤ g
section
variable {w0 w w' : World} {t g : Nat} {P P1 : Ps} {n k sig : Int}
theorem QJ.cnq {c : Nat} (h : QJ w t g P c) : c = cnQ P := h.toQM.num.one h.ok.pidsN
theorem TJ.stay (h : TJ w0 t g w P) (hb : Below w.heap.size w w') : TJ w0 t g w' P := ⟨h.a.below hb, h.bel.trans (hb.mono h.bel.size), h.ft, h.fg⟩
theorem TJ.turn (h : TJ w0 t g w P) (ho : QJo w t g P1 w') : TJ w0 t g w' P1 := by
  obtain ⟨c, a, hw⟩ := ho
  have hc := a.cnq
  subst hc
  have hs := h.bel.size
  have hg := h.fg
  exact ⟨a, ⟨hw.os.trans h.bel.os, hw.tape.trans h.bel.tape, hw.output.trans h.bel.output, Nat.le_trans hs hw.size, fun i hi => (hw.block i (by omega) (by omega)).trans (h.bel.block i hi)⟩, h.ft, h.fg⟩
theorem TJ.new (w0 w : World) (hb : Below w0.heap.size w0 w) : Calls Tryd.prog 6 #[] w fun e w' => ∃ t g, e = .returned (wp t) ∧ TJ w0 t g w' firstJ := by
  refine (newT_ok w).mono ?_
  rintro e w1 ⟨t, g, rfl, h1, b1, l1, l2⟩
  have hc := h1.cnq
  rw [hc] at h1
  have := hb.size
  exact ⟨t, g, rfl, h1, hb.trans (b1.mono hb.size), by omega, by omega⟩
theorem TJ.fork (h : TJ w0 t g w P) (n : Int) (hn : (Lit.int .i64 n).wf = true) : Calls Tryd.prog 16 #[wp t, .int .i64 n] w fun e w' => e = .returned (.tuple #[.int .i64 (forkK P n (cnQ P)), uev (forkE P n (cnQ P))]) ∧ TJ w0 t g w' (forkQ P n (cnQ P)) ∧ WtG g w w' := by
  refine (h.a.fork n hn).mono ?_
  rintro e w' ⟨rfl, ho⟩
  exact ⟨rfl, h.turn ho, ho.choose_spec.2⟩
theorem TJ.exit (h : TJ w0 t g w P) (n k : Int) (hn : (Lit.int .i64 n).wf = true) : Calls Tryd.prog 13 #[wp t, .int .i64 n, .int .i64 k] w fun e w' => e = .returned (uev (exitE P n)) ∧ TJ w0 t g w' (if exitE P n = 0 then exitP P n k else P) ∧ WtG g w w' := by
  refine (h.a.exit n k hn).mono ?_
  rintro e w' ⟨rfl, ho⟩
  exact ⟨rfl, h.turn ho, ho.choose_spec.2⟩
theorem TJ.wait (h : TJ w0 t g w P) (n : Int) (hn : (Lit.int .i64 n).wf = true) : Calls Tryd.prog 14 #[wp t, .int .i64 n] w fun e w' => e = .returned (.tuple #[.int .i64 (waitO P n).1, .int .i64 (waitO P n).2.1, uev (waitO P n).2.2.1]) ∧ TJ w0 t g w' (waitO P n).2.2.2 ∧ WtG g w w' := by
  refine (h.a.wait n hn).mono ?_
  rintro e w' ⟨rfl, ho⟩
  exact ⟨rfl, h.turn ho, ho.choose_spec.2⟩
theorem TJ.kill (h : TJ w0 t g w P) (n k : Int) (hn : (Lit.int .i64 n).wf = true) : Calls Tryd.prog 19 #[wp t, .int .i64 n, .int .i64 k] w fun e w' => e = .returned (uev (killE P n k)) ∧ TJ w0 t g w' (if killE P n k = 0 then killP P n k else P) ∧ WtG g w w' := by
  refine (h.a.kill n k hn).mono ?_
  rintro e w' ⟨rfl, ho⟩
  exact ⟨rfl, h.turn ho, ho.choose_spec.2⟩
theorem TJ.ignore (h : TJ w0 t g w P) (n k : Int) (on : Bool) (hn : (Lit.int .i64 n).wf = true) : Calls Tryd.prog 18 #[wp t, .int .i64 n, .int .i64 k, .bool on] w fun e w' => e = .returned (uev (ignoreE P n k)) ∧ TJ w0 t g w' (if ignoreE P n k = 0 then ignoreP P n k on else P) ∧ WtG g w w' := by
  refine (h.a.ignore n k on hn).mono ?_
  rintro e w' ⟨rfl, ho⟩
  exact ⟨rfl, h.turn ho, ho.choose_spec.2⟩
theorem TJ.take (h : TJ w0 t g w P) (hT : Tab64 w0) (n : Int) (hn : (Lit.int .i64 n).wf = true) : Calls Tryd.prog 20 #[wp t, .int .i64 n] w fun e w' => e = .returned (.int .i64 (takeS P n)) ∧ TJ w0 t g w' (takeP P n) ∧ WtG g w w' := by
  refine (h.a.take (hT.keep (h.bel.block _ hT.lt)) n hn).mono ?_
  rintro e w' ⟨rfl, ho⟩
  exact ⟨rfl, h.turn ho, ho.choose_spec.2⟩
theorem TJ.state (h : TJ w0 t g w P) (n : Int) (hn : (Lit.int .i64 n).wf = true) : Calls Tryd.prog 21 #[wp t, .int .i64 n] w fun e w' => e = .returned (.int .i64 (stJ P n)) ∧ TJ w0 t g w' P ∧ Below w.heap.size w w' := by
  refine (h.a.toQM.state n hn).mono ?_
  rintro e w' ⟨rfl, hb⟩
  exact ⟨rfl, h.stay hb, hb⟩
theorem TJ.parent (h : TJ w0 t g w P) (n : Int) (hn : (Lit.int .i64 n).wf = true) : Calls Tryd.prog 12 #[wp t, .int .i64 n] w fun e w' => e = .returned (.int .i64 (parJ P n)) ∧ TJ w0 t g w' P ∧ Below w.heap.size w w' := by
  refine (h.a.toQM.parent n hn).mono ?_
  rintro e w' ⟨rfl, hb⟩
  exact ⟨rfl, h.stay hb, hb⟩
theorem TJ.runs (h : TJ w0 t g w P) (n : Int) (hn : (Lit.int .i64 n).wf = true) : Calls Tryd.prog 11 #[wp t, .int .i64 n] w fun e w' => e = .returned (uev (if runsJ P n = true then 0 else 7)) ∧ TJ w0 t g w' P ∧ Below w.heap.size w w' := by
  refine (h.a.toQM.runs n hn).mono ?_
  rintro e w' ⟨rfl, hb⟩
  exact ⟨rfl, h.stay hb, hb⟩
end
/-- The first two. -/
def twoJ (ig wt : Int → Bool) : Ps := setJ firstJ 2 ⟨1, 1, 0, wt, ig⟩
theorem free2 : FreeJ firstJ 2 := ⟨by omega, rfl, fun j h1 h2 => by
  have : j = 1 := by omega
  subst this; rfl⟩
theorem fork2 : forkE firstJ 1 (cnQ firstJ) = 0 ∧ forkK firstJ 1 (cnQ firstJ) = 2 ∧ forkQ firstJ 1 (cnQ firstJ) = twoJ noSig noSig := by
  have hE : forkE firstJ 1 (cnQ firstJ) = 0 := by kernel_rfl
  refine ⟨hE, ?_, ?_⟩
  · unfold forkK; rw [if_pos hE, leastJ_eq free2 (by omega)]
  · unfold forkQ; rw [if_pos hE, leastJ_eq free2 (by omega)]; rfl
theorem exit2 : exitE (twoJ noSig noSig) 2 = 0 ∧ stJ (exitP (twoJ noSig noSig) 2 9) 2 = 2 ∧ (waitO (exitP (twoJ noSig noSig) 2 9) 1).1 = 2 ∧ (waitO (exitP (twoJ noSig noSig) 2 9) 1).2.1 = 9 ∧ (waitO (exitP (twoJ noSig noSig) 2 9) 1).2.2.1 = 0 ∧ stJ (waitO (exitP (twoJ noSig noSig) 2 9) 1).2.2.2 2 = 0 := by
  refine ⟨by kernel_rfl, by kernel_rfl, by kernel_rfl, by kernel_rfl, by kernel_rfl, by kernel_rfl⟩
theorem tableJ_ne (b : Nat) (w : World) : (binOp BinOp.eql 24 (wp b) (.pointer none)).run Tryd.prog w = .ok (.bool false) w := by kernel_rfl
set_option maxRecDepth 100000 in
set_option maxHeartbeats 2000000 in
theorem forked_ok (w : World) : Calls Tryd.prog 5 #[] w fun e w' => e = .returned (.bool true) ∧ Below w.heap.size w w' := by
  have hN := TJ.new w w (Below.refl _ _)
  have hF := fun t g V (S : TJ w t g V firstJ) => S.fork 1 (by decide)
  simp only [fork2, uev_zero] at hF
  obtain ⟨e1, e2, e3, e4, e5, e6⟩ := exit2
  have hX := fun t g V (S : TJ w t g V (twoJ noSig noSig)) => S.exit 2 9 (by decide)
  simp only [e1, uev_zero, if_true] at hX
  have hS := fun t g V (S : TJ w t g V (exitP (twoJ noSig noSig) 2 9)) => S.state 2 (by decide)
  simp only [e2] at hS
  have hW := fun t g V (S : TJ w t g V (exitP (twoJ noSig noSig) 2 9)) => S.wait 1 (by decide)
  simp only [e3, e4, e5, uev_zero] at hW
  have hS2 := fun t g V (S : TJ w t g V (waitO (exitP (twoJ noSig noSig) 2 9) 1).2.2.2) => S.state 2 (by decide)
  simp only [e6] at hS2
  clear e1 e2 e3 e4 e5 e6
  have hne := tableJ_ne
  generalize (waitO (exitP (twoJ noSig noSig) 2 9) 1).2.2.2 = P3 at *
  generalize exitP (twoJ noSig noSig) 2 9 = P2 at *
  generalize twoJ noSig noSig = P1 at *
  go_enter Tryd.func5, Tryd.ntmps5
  go_wp2_with (first
    | (go_at_call 6; refine hN.mono ?_; rintro e w1 ⟨t, g, rfl, S1⟩)
    | (go_at_call 16; refine (hF t g _ S1).mono ?_; rintro e w2 ⟨rfl, S2, _⟩)
    | (go_at_call 13; refine (hX t g _ S2).mono ?_; rintro e w3 ⟨rfl, S3, _⟩)
    | (go_at_call 21; refine (hS2 t g _ S5).mono ?_; rintro e w6 ⟨rfl, S6, _⟩)
    | (go_at_call 21; refine (hS t g _ S3).mono ?_; rintro e w4 ⟨rfl, S4, _⟩)
    | (go_at_call 14; refine (hW t g _ S4).mono ?_; rintro e w5 ⟨rfl, S5, _⟩))
  go_ret
  exact ⟨rfl, S6.bel⟩
end Go.Proofs.YtidinhbokkelnacDoor

/- The document's own files: Dup2, by its Go text. -/
import Derived.Test.YtjkneekfijibiabGreatDoorDFile4
import Derived.Test.YtjkneekfijibiabGreatDoorDAbs
import Derived.Test.YtjkneekfijibiabGreatDoorWFile
namespace Go.Proofs.YtjkneekfijibiabGreatDoor
open Go.RowKit Go.Maps

section
variable {w w' w2 : World} {f r gN s gE gR gP sE sR sP b : Nat} {D D1 D2 : DS} {G : Int → Nat} {N N1 N2 : Ns} {m : Int}
set_option maxRecDepth 100000 in
set_option maxHeartbeats 4000000 in
theorem RFt.dup2_no (h : RFt w f D r gN s G gE gR gP sE sR sP b N) (n t9 : Int) (hn : hasN N n = false) :
    Calls Tryz.prog 84 #[wp f, wp b, .int .i64 n, .int .i64 t9] w fun y w' => y = .returned (.int .i64 7) ∧ RGo w w' f D D r gN G gE gR gP b N := by
  have hH := h.tab.has_ok n
  rw [hn] at hH
  have hfin := h.same (Below.refl _ w)
  clear h hn
  go_enter Tryz.func84, Tryz.ntmps84
  go_wp2_with (go_at_call 35; refine hH.mono ?_; rintro e w1 ⟨rfl, hw1⟩; subst w1)
  go_ret
  exact ⟨rfl, hfin⟩
set_option maxRecDepth 100000 in
set_option maxHeartbeats 4000000 in
theorem RFt.dup2_range (h : RFt w f D r gN s G gE gR gP sE sR sP b N) (n t9 : Int) (hn : hasN N n = true) (ht : ¬ (0 ≤ t9 ∧ t9 ≤ 7)) :
    Calls Tryz.prog 84 #[wp f, wp b, .int .i64 n, .int .i64 t9] w fun y w' => y = .returned (.int .i64 2) ∧ RGo w w' f D D r gN G gE gR gP b N := by
  have hH := h.tab.has_ok n
  rw [hn] at hH
  have hI := in_ok w t9 0 7
  rw [show (decide (0 ≤ t9) && decide (t9 ≤ 7)) = false by simp only [Bool.and_eq_false_iff, decide_eq_false_iff_not]; omega] at hI
  have hfin := h.same (Below.refl _ w)
  clear h hn ht
  go_enter Tryz.func84, Tryz.ntmps84
  go_wp2_with (first
    | (go_at_call 35; refine hH.mono ?_; rintro e w1 ⟨rfl, hw1⟩; subst w1)
    | (go_at_call 95; refine hI.mono ?_; rintro e w1 ⟨rfl, hw1⟩; subst w1))
  go_ret
  exact ⟨rfl, hfin⟩
set_option maxRecDepth 100000 in
set_option maxHeartbeats 4000000 in
theorem RFt.dup2_same (h : RFt w f D r gN s G gE gR gP sE sR sP b N) (n : Int) (hn : hasN N n = true) (ht : 0 ≤ n ∧ n ≤ 7) :
    Calls Tryz.prog 84 #[wp f, wp b, .int .i64 n, .int .i64 n] w fun y w' => y = .returned (.int .i64 0) ∧ RGo w w' f D D r gN G gE gR gP b N := by
  have hH := h.tab.has_ok n
  rw [hn] at hH
  have hI := in_ok w n 0 7
  rw [show (decide (0 ≤ n) && decide (n ≤ 7)) = true by simp; exact ht] at hI
  have hfin := h.same (Below.refl _ w)
  clear h hn ht
  go_enter Tryz.func84, Tryz.ntmps84
  go_wp2_with (first
    | (go_at_call 35; refine hH.mono ?_; rintro e w1 ⟨rfl, hw1⟩; subst w1)
    | (go_at_call 95; refine hI.mono ?_; rintro e w1 ⟨rfl, hw1⟩; subst w1))
  go_ret
  exact ⟨rfl, hfin⟩
set_option maxRecDepth 100000 in
set_option maxHeartbeats 4000000 in
theorem RFt.dup2_go (h : RFt w f D r gN s G gE gR gP sE sR sP b N) {i k : Nat} (hi : i < 8) (hiL : i < N.length) (hk : k < 8) (hne : i ≠ k) (hn : hasN N i = true) {c : Int} (h0 : 0 < N[i].1) (h1 : N[i].1 < 100000) (hc : D.R N[i].1 = some c) (hc0 : 0 ≤ c) (hc1 : c < 100000) (hs : sR < 1000)
    (hcl : ∀ V, RGo w V f D { D with R := fun j => if j = N[i].1 then some (c + 1) else D.R j } r gN G gE gR gP b N → Calls Tryz.prog 87 #[wp f, wp b, .int .i64 (k : Int)] V fun y w' => ∃ t, y = .returned (.int .i64 t) ∧ RGo w w' f D D2 r gN G gE gR gP b N2) (hL2 : N2.length = 8) (hN2 : (N2[i]'(by omega)).1 = N[i].1) (_hT2 : ∀ i, town r gN D2.T G i → town r gN D.T G i) :
    Calls Tryz.prog 84 #[wp f, wp b, .int .i64 (i : Int), .int .i64 (k : Int)] w fun y w' => y = .returned (.int .i64 0) ∧ RGo w w' f D D2 r gN G gE gR gP b (N2.set k (N[i].1, false)) := by
  have hH := h.tab.has_ok i
  rw [hn] at hH
  have hI := in_ok w k 0 7
  rw [show (decide ((0 : Int) ≤ (k : Int)) && decide ((k : Int) ≤ 7)) = true by simp; omega] at hI
  have hwk : (Lit.int .i64 N[i].1).wf = true := wf_few (by omega) (by omega)
  obtain ⟨t0, t1⟩ := h.tab.at hi
  have f2 := h.toRFm.cells.2.2.1
  have h3 := h.below (below_dr (Below.refl _ w))
  have hlk : (Instr.lookup 85 (.map (some gR)) (.int .i64 N[i].1) false).run Tryz.prog w.drew = .ok (.int .i64 c) w.drew := h3.toRFm.lookR hwk hc
  obtain ⟨w5, hrun, pm5, g5⟩ := h3.mR.put Tryz.underlying85 (by unfold maxLen; omega) N[i].1 hwk (.int .i64 (c + 1))
  have hG5 : RGo w w5 f D { D with R := fun j => if j = N[i].1 then some (c + 1) else D.R j } r gN G gE gR gP b N := ⟨s, sE, _, sP, h3.putR g5 pm5, (Wt.below _ (below_dr (Below.refl _ w))).trans (Wt.grown g5 (.inl (.inr (.inr (.inl rfl)))))⟩
  have hC := hcl w5 hG5
  have hfin : ∀ V, RGo w V f D D2 r gN G gE gR gP b N2 → V.cell? ⟨b, i * 2, none⟩ = some (.int .i64 N[i].1) ∧ (∃ u, V.cell? ⟨b, k * 2, none⟩ = some u) ∧ (∃ u, V.cell? ⟨b, k * 2 + 1, none⟩ = some u) ∧ V.frozen? ⟨b, k * 2, none⟩ = false ∧ V.frozen? ⟨b, k * 2 + 1, none⟩ = false ∧ RGo w ((V.setCell ⟨b, k * 2, none⟩ (.int .i64 N[i].1)).setCell ⟨b, k * 2 + 1, none⟩ (.bool false)).drew f D D2 r gN G gE gR gP b (N2.set k (N[i].1, false)) := fun V hV => by
    obtain ⟨s', e', r', p', a, wt⟩ := hV
    obtain ⟨h7, g7⟩ := a.putT hk (N[i].1, false)
    exact ⟨by rw [(a.tab.at hi).1, hN2], ⟨_, (a.tab.at hk).1⟩, ⟨_, (a.tab.at hk).2⟩, a.tab.free _, a.tab.free _, s', e', r', p', h7.below (below_dr (Below.refl _ _)), wt.trans ((Wt.grown g7 (.inr rfl)).trans (Wt.below _ (below_dr (Below.refl _ _))))⟩
  have hw1 : wrap64 (c + 1) = c + 1 := by unfold wrap64; omega
  have hw2 : IntKind.i64.wrap (c + 1) = c + 1 := by rw [IntKind.wrap_i64]; omega
  have hik : ((i : Int) == (k : Int)) = false := by simp; omega
  have hi8 : (i : Int) < 8 := by omega
  have hk8 : (k : Int) < 8 := by omega
  generalize N2.set k (N[i].1, false) = N3 at *
  generalize N[i].1 = X at *
  generalize N[i].2 = Y at *
  clear h h3 pm5 g5 hG5 hcl hN2 hL2 _hT2 hc hwk hs hn h0 h1 hc0 hc1 hne
  go_enter Tryz.func84, Tryz.ntmps84
  go_upto_region 6 with (first
    | (go_at_call 35; refine hH.mono ?_; rintro e w1 ⟨rfl, hw1⟩; subst w1)
    | (go_at_call 95; refine hI.mono ?_; rintro e w1 ⟨rfl, hw1⟩; subst w1))
  go_region
  all_goals
    clear hlk hrun t0 t1 f2 hH hI
    go_upto_region 8 with (go_at_call 87; refine hC.mono ?_; rintro e w6 ⟨t, rfl, hG6⟩)
    obtain ⟨v0, ⟨u1, v1⟩, ⟨u2, v2⟩, y1, y2, hG⟩ := hfin _ hG6
    clear hC hfin hG6
    go_region
    all_goals
      go_wp2_with fail
      go_ret
      exact ⟨rfl, hG⟩
end
end Go.Proofs.YtjkneekfijibiabGreatDoor

namespace Go.Proofs.YtjkneekfijibiabGreatDoor
open Go.RowKit Go.Maps

/-- What File comes to: the number, what is told, what is open then, the table. -/
inductive FileO (D : DS) (N : Ns) (n s : Nat) (p : List UInt8) (pr : Int) (mk : Bool) : Int → Int → DS → Ns → Prop
  | arg (hp : ¬ (1 ≤ pr ∧ pr ≤ 3)) : FileO D N n s p pr mk 0 1 D N
  | full (hp : 1 ≤ pr ∧ pr ≤ 3) (hr : ¬ roomy N n) : FileO D N n s p pr mk 0 12 D N
  | no (hp : 1 ≤ pr ∧ pr ≤ 3) (hr : roomy N n) (hE : (findT D.T p).2 ≠ 0) (h7 : ¬ ((findT D.T p).2 = 7 ∧ mk = true)) : FileO D N n s p pr mk 0 (findT D.T p).2 D N
  | dir (hp : 1 ≤ pr ∧ pr ≤ 3) (hr : roomy N n) (hE : (findT D.T p).2 = 0) (hh : holdE D.T (findT D.T p).1 1 ≠ 0) : FileO D N n s p pr mk 0 (holdE D.T (findT D.T p).1 1) D N
  | opened (hp : 1 ≤ pr ∧ pr ≤ 3) (hr : roomy N n) (hE : (findT D.T p).2 = 0) (hh : holdE D.T (findT D.T p).1 1 = 0) : FileO D N n s p pr mk (leastN N) 0 (addD { D with T := holdN D.T (findT D.T p).1 1 } ⟨1, pr, (findT D.T p).1, 0, 0⟩) (addN D N)
  | unmade (hp : 1 ≤ pr ∧ pr ≤ 3) (hr : roomy N n) (hE : (findT D.T p).2 = 7) (hm : mk = true) (hM : makeE D.T s p ≠ 0) : FileO D N n s p pr mk 0 (makeE D.T s p) D N
  | made (hp : 1 ≤ pr ∧ pr ≤ 3) (hr : roomy N n) (hE : (findT D.T p).2 = 7) (hm : mk = true) (hM : makeE D.T s p = 0) (k : Int) (hk : IsFree D.T k) : FileO D N n s p pr mk (leastN N) 0 (addD { D with T := holdN (makeN D.T p false k) k 1 } ⟨1, pr, k, 0, 0⟩) (addN D N)
theorem FileO.one {D : DS} {N : Ns} {n s : Nat} {p : List UInt8} {pr : Int} {mk : Bool} {k c k' c' : Int} {E E' : DS} {L L' : Ns} (h : FileO D N n s p pr mk k c E L) (h' : FileO D N n s p pr mk k' c' E' L') : k = k' ∧ c = c' ∧ E = E' ∧ L = L' := by
  cases h with
  | made hp hr hE hm hM k hk =>
    cases h' with
    | made hp' hr' hE' hm' hM' k' hk' => obtain rfl := hk.same hk'; exact ⟨rfl, rfl, rfl, rfl⟩
    | no hp' hr' hE' h7 => exact absurd ⟨hE, hm⟩ h7
    | _ => first | contradiction | (exfalso; omega)
  | no hp hr hE h7 =>
    cases h' with
    | no => exact ⟨rfl, rfl, rfl, rfl⟩
    | made hp' hr' hE' hm' hM' k' hk' => exact absurd ⟨hE', hm'⟩ h7
    | unmade hp' hr' hE' hm' hM' => exact absurd ⟨hE', hm'⟩ h7
    | _ => first | contradiction | (exfalso; omega)
  | unmade hp hr hE hm hM =>
    cases h' with
    | unmade => exact ⟨rfl, rfl, rfl, rfl⟩
    | no hp' hr' hE' h7 => exact absurd ⟨hE, hm⟩ h7
    | _ => first | contradiction | (exfalso; omega)
  | _ => cases h' <;> first | exact ⟨rfl, rfl, rfl, rfl⟩ | contradiction | (exfalso; omega)
/-- Numbers that are 0 or more. -/
theorem used_least : ∀ {N : Ns}, (∀ x ∈ N, 0 ≤ x.1) → (leastN N < 0 ↔ N.length ≤ usedN N)
  | [], _ => by simp [leastN, usedN]
  | x :: N, h => by
    have ih := used_least (N := N) (fun y hy => h y (List.mem_cons_of_mem _ hy))
    have hx := h x List.mem_cons_self
    have hl := used_le N
    rw [leastN]
    unfold usedN at ih hl ⊢
    by_cases e : x.1 = 0
    · rw [if_pos e, List.filter_cons_of_neg (by simp; omega), List.length_cons]
      constructor
      · intro h9; omega
      · intro h9; omega
    · rw [if_neg e, List.filter_cons_of_pos (by simp; omega), List.length_cons, List.length_cons]
      rcases least_lt (N := N) with h9 | ⟨i, h9, _⟩
      · rw [h9] at ih
        rw [if_pos h9]
        constructor
        · intro _; have := ih.1 (by omega); omega
        · intro _; omega
      · rw [if_neg (by omega)]
        constructor
        · intro h8; omega
        · intro h8; have := ih.2 (by omega); omega
end Go.Proofs.YtjkneekfijibiabGreatDoor

namespace Go.Proofs.YtjkneekfijibiabGreatDoor
open Go.RowKit Go.Maps

/-- An ENTRY that is one. -/
structure EnOk (D : DS) (e : En) : Prop where
  kind : e.kind = 1 ∨ e.kind = 2 ∨ e.kind = 3
  file : e.kind = 1 → 1 ≤ e.prot ∧ e.prot ≤ 3 ∧ 0 ≤ e.node ∧ e.node < 1000 ∧ 0 ≤ e.pos ∧ e.pos ≤ 200
  frm : e.kind = 2 → e.prot = 1
  into : e.kind = 3 → e.prot = 2
  pipe : e.kind ≠ 1 → 0 < e.pipe ∧ e.pipe ≤ D.nx ∧ ∃ p, D.P e.pipe = some p ∧ p.1.length ≤ 16 ∧ 0 ≤ p.2.1 ∧ p.2.1 < 1000 ∧ 0 ≤ p.2.2 ∧ p.2.2 < 1000
/-- What Read comes to: the text, what is told, what is open then. -/
def readO (D : DS) (N : Ns) (x a : Int) : List UInt8 × Int × DS := if hasN N x = true then (match D.E (N.getD x.toNat (0, false)).1 with
  | none => ([], 7, D)
  | some e => if e.prot = 2 then ([], 13, D) else if e.kind = 1 then (readS D.T e.node e.pos a, readE D.T e.node e.pos a, { D with E := fun j => if j = (N.getD x.toNat (0, false)).1 then some { e with pos := e.pos + (readS D.T e.node e.pos a).length } else D.E j }) else match D.P e.pipe with
    | none => ([], 7, D)
    | some p => (p.1.take a.toNat, rdE p.2.2 p.1 a, { D with P := fun j => if j = e.pipe then some (p.1.drop a.toNat, p.2.1, p.2.2) else D.P j })) else ([], 7, D)
open Classical in
/-- What Write comes to: how many bytes, what is told, what is open then. -/
noncomputable def writeO (D : DS) (N : Ns) (x : Int) (s : List UInt8) (a : Int) : Int × Int × DS := if hasN N x = true then (match D.E (N.getD x.toNat (0, false)).1 with
  | none => (0, 7, D)
  | some e => if e.prot = 1 then (0, 13, D) else if e.kind = 1 then (if tooMuch s a e.pos then (0, 4, D) else if writeE D.T e.node e.pos s ≠ 0 then (0, writeE D.T e.node e.pos s, D) else ((s.length : Int), 0, { D with T := writeN D.T e.node e.pos s, E := fun j => if j = (N.getD x.toNat (0, false)).1 then some { e with pos := e.pos + s.length } else D.E j })) else match D.P e.pipe with
    | none => (0, 7, D)
    | some p => ((wrN p.2.1 p.1 s : Int), wrE p.2.1 p.1 s, { D with P := fun j => if j = e.pipe then some (wrB p.2.1 p.1 s, p.2.1, p.2.2) else D.P j })) else (0, 7, D)
section
variable {D : DS} {N : Ns} {i : Nat} {e : En} {a : Int} {s : List UInt8}
theorem readO_no {x : Int} (h : hasN N x = false) : readO D N x a = ([], 7, D) := if_neg (by rw [h]; simp)
theorem writeO_no {x : Int} (h : hasN N x = false) : writeO D N x s a = (0, 7, D) := if_neg (by rw [h]; simp)
theorem hasN_yes (hi : i < 8) (hiL : i < N.length) (h0 : 0 < N[i].1) : hasN N i = true := by
  unfold hasN
  rw [getD_in hiL]
  simp [h0]
  omega
variable (hi : i < 8) (hiL : i < N.length) (h0 : 0 < N[i].1) (he : D.E N[i].1 = some e)
include hi h0 he
theorem readO_false (hp : e.prot = 2) : readO D N i a = ([], 13, D) := by
  unfold readO; rw [if_pos (hasN_yes hi hiL h0), getD_in hiL, he]; simp only; rw [if_pos hp]
theorem readO_file (hk : e.kind = 1) (hp : e.prot ≠ 2) : readO D N i a = (readS D.T e.node e.pos a, readE D.T e.node e.pos a, { D with E := fun j => if j = N[i].1 then some { e with pos := e.pos + (readS D.T e.node e.pos a).length } else D.E j }) := by
  unfold readO; rw [if_pos (hasN_yes hi hiL h0), getD_in hiL, he]; simp only; rw [if_neg hp, if_pos hk]
theorem readO_end (hk : e.kind ≠ 1) (hp : e.prot ≠ 2) {p : Pi} (hP : D.P e.pipe = some p) : readO D N i a = (p.1.take a.toNat, rdE p.2.2 p.1 a, { D with P := fun j => if j = e.pipe then some (p.1.drop a.toNat, p.2.1, p.2.2) else D.P j }) := by
  unfold readO; rw [if_pos (hasN_yes hi hiL h0), getD_in hiL, he]; simp only; rw [if_neg hp, if_neg hk, hP]
theorem writeO_false (hp : e.prot = 1) : writeO D N i s a = (0, 13, D) := by
  unfold writeO; rw [if_pos (hasN_yes hi hiL h0), getD_in hiL, he]; simp only; rw [if_pos hp]
theorem writeO_limit (hk : e.kind = 1) (hp : e.prot ≠ 1) (hl : tooMuch s a e.pos) : writeO D N i s a = (0, 4, D) := by
  unfold writeO; rw [if_pos (hasN_yes hi hiL h0), getD_in hiL, he]; simp only; rw [if_neg hp, if_pos hk, if_pos hl]
theorem writeO_bad (hk : e.kind = 1) (hp : e.prot ≠ 1) (hl : ¬ tooMuch s a e.pos) (hE : writeE D.T e.node e.pos s ≠ 0) : writeO D N i s a = (0, writeE D.T e.node e.pos s, D) := by
  unfold writeO; rw [if_pos (hasN_yes hi hiL h0), getD_in hiL, he]; simp only; rw [if_neg hp, if_pos hk, if_neg hl, if_pos hE]
theorem writeO_file (hk : e.kind = 1) (hp : e.prot ≠ 1) (hl : ¬ tooMuch s a e.pos) (hE : writeE D.T e.node e.pos s = 0) : writeO D N i s a = ((s.length : Int), 0, { D with T := writeN D.T e.node e.pos s, E := fun j => if j = N[i].1 then some { e with pos := e.pos + s.length } else D.E j }) := by
  unfold writeO; rw [if_pos (hasN_yes hi hiL h0), getD_in hiL, he]; simp only; rw [if_neg hp, if_pos hk, if_neg hl, if_neg (fun h => h hE)]
theorem writeO_end (hk : e.kind ≠ 1) (hp : e.prot ≠ 1) {p : Pi} (hP : D.P e.pipe = some p) : writeO D N i s a = ((wrN p.2.1 p.1 s : Int), wrE p.2.1 p.1 s, { D with P := fun j => if j = e.pipe then some (wrB p.2.1 p.1 s, p.2.1, p.2.2) else D.P j }) := by
  unfold writeO; rw [if_pos (hasN_yes hi hiL h0), getD_in hiL, he]; simp only; rw [if_neg hp, if_neg hk, hP]
end
end Go.Proofs.YtjkneekfijibiabGreatDoor

namespace Go.Proofs.YtjkneekfijibiabGreatDoor
open Go.RowKit Go.Maps

/-- How many names of one node lead to k. -/
def cnt1 : Option Nd → Int → Nat
  | some (.dir C), k => (C.filter (fun x => decide (x.2 = k))).length
  | _, _ => 0
def cntTo (T : Wd) (k : Int) : Nat → Nat
  | 0 => 0
  | m + 1 => cntTo T k m + cnt1 (T m) k
/-- How many names lead to k. -/
def cntT (T : Wd) (k : Int) : Nat := cntTo T k 64

theorem cntTo_same {T T' : Wd} {k : Int} : ∀ m : Nat, (∀ i : Nat, i < m → cnt1 (T' i) k = cnt1 (T i) k) → cntTo T' k m = cntTo T k m
  | 0, _ => rfl
  | m + 1, h => by rw [cntTo, cntTo, cntTo_same m (fun i hi => h i (by omega)), h m (by omega)]
theorem cntTo_one {T T' : Wd} {k : Int} {d : Nat} (hd : ∀ i : Nat, i ≠ d → cnt1 (T' i) k = cnt1 (T i) k) : ∀ m : Nat, d < m → cntTo T' k m + cnt1 (T d) k = cntTo T k m + cnt1 (T' d) k
  | 0, h => by omega
  | m + 1, h => by
    rw [cntTo, cntTo]
    by_cases e : m = d
    · subst e
      rw [cntTo_same m (fun i hi => hd i (by omega))]; omega
    · have := cntTo_one hd m (by omega)
      rw [hd m e]; omega
/-- One node turned. -/
theorem cntT_one {T T' : Wd} {k d : Int} (h0 : 0 ≤ d) (h1 : d < 64) (h : ∀ i, i ≠ d → cnt1 (T' i) k = cnt1 (T i) k) : cntT T' k + cnt1 (T d) k = cntT T k + cnt1 (T' d) k := by
  obtain ⟨e, rfl⟩ : ∃ e : Nat, d = e := ⟨d.toNat, by omega⟩
  exact cntTo_one (fun i hi => h i (by omega)) 64 (by omega)
theorem cntT_same {T T' : Wd} {k : Int} (h : ∀ i, cnt1 (T' i) k = cnt1 (T i) k) : cntT T' k = cntT T k := cntTo_same 64 (fun i _ => h i)

theorem cntTo_pos {T : Wd} {k : Int} : ∀ m : Nat, cntTo T k m ≠ 0 → ∃ i : Nat, i < m ∧ cnt1 (T i) k ≠ 0
  | 0, h => absurd rfl h
  | m + 1, h => by
    rw [cntTo] at h
    by_cases e : cnt1 (T m) k = 0
    · obtain ⟨i, hi, h2⟩ := cntTo_pos (T := T) (k := k) m (fun e0 => h (by rw [e0, e]))
      exact ⟨i, by omega, h2⟩
    · exact ⟨m, by omega, e⟩
theorem cntTo_ge {T : Wd} {k : Int} {i : Nat} : ∀ m : Nat, i < m → cnt1 (T i) k ≤ cntTo T k m
  | 0, h => by omega
  | m + 1, h => by
    rw [cntTo]
    by_cases e : i = m
    · subst e; omega
    · have := cntTo_ge (T := T) (k := k) m (show i < m by omega); omega

theorem cnt1_pos {C : List (Nm × Int)} {k : Int} (h : cnt1 (some (.dir C)) k ≠ 0) : ∃ s, (s, k) ∈ C := by
  unfold cnt1 at h
  obtain ⟨⟨s, n⟩, hx⟩ := List.exists_mem_of_length_pos (Nat.pos_of_ne_zero h)
  rw [List.mem_filter] at hx
  have e : n = k := by simpa using hx.2
  exact ⟨s, by rw [← e]; exact hx.1⟩
theorem cnt1_mem {C : List (Nm × Int)} {s : Nm} {k : Int} (h : (s, k) ∈ C) : cnt1 (some (.dir C)) k ≠ 0 := by
  unfold cnt1
  exact Nat.ne_of_gt (List.length_pos_of_mem (List.mem_filter.2 ⟨h, by simp⟩))
theorem mem_lookup : ∀ {C : List (Nm × Int)} {s : Nm} {n : Int}, (C.map (·.1)).Nodup → (s, n) ∈ C → C.lookup s = some n
  | (a, b) :: C, s, n, hn, h => by
    rw [List.map_cons, List.nodup_cons] at hn
    rcases List.mem_cons.1 h with e | h
    · cases e; simp [List.lookup]
    · have hne : s ≠ a := fun e => hn.1 (by rw [← e]; exact List.mem_map.2 ⟨(s, n), h, rfl⟩)
      have : (s == a) = false := by simp [hne]
      rw [List.lookup, this]
      exact mem_lookup hn.2 h
/-- Led, by its count. -/
theorem led_cnt {T : Wd} (hT : TrOk T) (n : Int) : Led T n ↔ n = 0 ∨ cntT T n ≠ 0 := by
  unfold Led
  constructor
  · rintro (h | ⟨k, C, s, hk, hl⟩)
    · exact .inl h
    · right
      have hkey := hT.key k (by rw [hk]; rfl)
      obtain ⟨e, rfl⟩ : ∃ e : Nat, k = e := ⟨k.toNat, by omega⟩
      have h1 := cnt1_mem (lookup_mem hl)
      have h2 := cntTo_ge (T := T) (k := n) (i := e) 64 (by omega)
      rw [hk] at h2
      unfold cntT; omega
  · rintro (h | h)
    · exact .inl h
    · right
      obtain ⟨i, _, hi⟩ := cntTo_pos 64 h
      cases hd : T (i : Int) with
      | none => rw [hd] at hi; exact absurd rfl hi
      | some nd => cases nd with
        | file b x => rw [hd] at hi; exact absurd rfl hi
        | dir C =>
          rw [hd] at hi
          obtain ⟨s, hs⟩ := cnt1_pos hi
          exact ⟨i, C, s, hd, mem_lookup (hT.nodup _ _ hd) hs⟩

/-- What holds of every tree besides: nothing leads to the first node, and all are led to, or held. -/
structure TrLv (T : Wd) : Prop extends TrOk T where
  nr : cntT T 0 = 0
  lv : ∀ k nd, T k = some nd → k = 0 ∨ cntT T k ≠ 0 ∨ heldT nd ≠ 0

/-- One node gone. -/
def eraT (T : Wd) (n : Int) : Wd := fun k => if k = n then none else T k
theorem eraT_other {T : Wd} {n k : Int} (h : k ≠ n) : eraT T n k = T k := if_neg h
theorem eraT_same (T : Wd) (n : Int) : eraT T n n = none := if_pos rfl

theorem cnt_set_none {T : Wd} {n : Int} {x : Nd} (h : T n = none) (hx : ∀ k, cnt1 (some x) k = 0) (k : Int) : cntT (setT T n x) k = cntT T k := cntT_same (fun i => by
  by_cases e : i = n
  · subst e; rw [setT_same, h, hx]; rfl
  · rw [setT_other _ e])
theorem cnt_setF {T : Wd} {n : Int} {b b' : List UInt8} {x x' : Nat} (h : T n = some (.file b x)) (k : Int) : cntT (setT T n (.file b' x')) k = cntT T k := cntT_same (fun i => by
  by_cases e : i = n
  · subst e; rw [setT_same, h]; rfl
  · rw [setT_other _ e])
theorem cnt_era {T : Wd} {n : Int} (h : ∀ k, cnt1 (T n) k = 0) (k : Int) : cntT (eraT T n) k = cntT T k := cntT_same (fun i => by
  by_cases e : i = n
  · subst e; rw [eraT_same, h]; rfl
  · rw [eraT_other e])
theorem cnt_add {T : Wd} (hT : TrOk T) {d n : Int} {nm : Nm} {C : List (Nm × Int)} (hd : T d = some (.dir C)) (k : Int) : cntT (addT T d nm n) k = cntT T k + if k = n then 1 else 0 := by
  have hkey := hT.key d (by rw [hd]; rfl)
  rw [addT_eq hd]
  have h1 := cntT_one (T := T) (T' := setT T d (.dir ((nm, n) :: C))) (k := k) hkey.1 hkey.2 (fun i hi => by rw [setT_other _ hi])
  rw [setT_same, hd] at h1
  have h2 : cnt1 (some (.dir ((nm, n) :: C))) k = cnt1 (some (.dir C)) k + if k = n then 1 else 0 := by
    simp only [cnt1, List.filter_cons]
    by_cases e : n = k
    · subst e; simp
    · simp [e, Ne.symm e]
  omega
theorem filter_cnt {nm : Nm} {n : Int} : ∀ {C : List (Nm × Int)}, (C.map (·.1)).Nodup → C.lookup nm = some n → ∀ k, ((C.filter (fun x => x.1 != nm)).filter (fun x => decide (x.2 = k))).length + (if k = n then 1 else 0) = (C.filter (fun x => decide (x.2 = k))).length
  | (a, b) :: C, hn, hl, k => by
    rw [List.map_cons, List.nodup_cons] at hn
    by_cases e : nm = a
    · subst e
      have hb : b = n := by simpa [List.lookup] using hl
      subst hb
      have hf := filter_same hn.1
      simp only [List.filter_cons, bne_self_eq_false, Bool.false_eq_true, if_false, hf]
      by_cases e2 : b = k
      · simp [e2]
      · simp [e2, Ne.symm e2]
    · have hne : (nm == a) = false := by simp [e]
      rw [List.lookup, hne] at hl
      have ih := filter_cnt hn.2 hl k
      have hbne : (a != nm) = true := by simp [Ne.symm e]
      simp only [List.filter_cons, hbne, if_true]
      by_cases e2 : b = k
      · simp only [e2, decide_true, if_true, List.length_cons]; omega
      · simp only [e2, decide_false, Bool.false_eq_true, if_false]; omega
theorem cnt_del {T : Wd} (hT : TrOk T) {d n : Int} {nm : Nm} {C : List (Nm × Int)} (hd : T d = some (.dir C)) (hl : C.lookup nm = some n) (k : Int) : cntT (delT T d nm) k + (if k = n then 1 else 0) = cntT T k := by
  have hkey := hT.key d (by rw [hd]; rfl)
  rw [delT_eq hd]
  have h1 := cntT_one (T := T) (T' := setT T d (.dir (C.filter (fun x => x.1 != nm)))) (k := k) hkey.1 hkey.2 (fun i hi => by rw [setT_other _ hi])
  rw [setT_same, hd] at h1
  have h2 := filter_cnt (hT.nodup d C hd) hl k
  simp only [cnt1] at h1
  omega

/-- What goes when all but n are led to, or held. -/
theorem sweep_one {T : Wd} (hT : TrOk T) (n : Int) (hl : ∀ k nd, k ≠ n → T k = some nd → k = 0 ∨ cntT T k ≠ 0 ∨ heldT nd ≠ 0) (nd : Nd) (hn : T n = some nd) (h0 : n ≠ 0) :
    sweepT T = if cntT T n = 0 ∧ heldT nd = 0 then eraT T n else T := by
  have hk : ∀ k, k ≠ n → sweepT T k = T k := fun k hk => sweepT_stay (fun nd h => by
    rcases hl k nd hk h with e | e | e
    · exact .inl ((led_cnt hT k).2 (.inl e))
    · exact .inl ((led_cnt hT k).2 (.inr e))
    · exact .inr e)
  funext k
  by_cases e : k = n
  · subst e
    by_cases hz : cntT T k = 0 ∧ heldT nd = 0
    · rw [if_pos hz, eraT_same]
      exact sweepT_go hn (fun h => by
        rcases h with h | h
        · rcases (led_cnt hT k).1 h with e | e
          · exact h0 e
          · exact e hz.1
        · exact h hz.2)
    · rw [if_neg hz]
      refine sweepT_stay (fun nd' h' => ?_)
      rw [hn] at h'; cases h'
      by_cases e1 : cntT T k = 0
      · exact .inr (fun e2 => hz ⟨e1, e2⟩)
      · exact .inl ((led_cnt hT k).2 (.inr e1))
  · rw [hk k e]
    split
    · rw [eraT_other e]
    · rfl
/-- And where all are led to, or held, nothing goes. -/
theorem sweep_none {T : Wd} (hT : TrOk T) (hl : ∀ k nd, T k = some nd → k = 0 ∨ cntT T k ≠ 0 ∨ heldT nd ≠ 0) : sweepT T = T := by
  funext k
  exact sweepT_stay (fun nd h => by
    rcases hl k nd h with e | e | e
    · exact .inl ((led_cnt hT k).2 (.inl e))
    · exact .inl ((led_cnt hT k).2 (.inr e))
    · exact .inr e)
end Go.Proofs.YtjkneekfijibiabGreatDoor

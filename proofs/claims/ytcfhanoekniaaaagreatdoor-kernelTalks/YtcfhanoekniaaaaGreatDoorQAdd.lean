/- What File comes to, plainly. -/
import Derived.Test.YtcfhanoekniaaaaGreatDoorQTab
import Derived.Test.YtcfhanoekniaaaaGreatDoorUWrite
import Derived.Test.YtcfhanoekniaaaaGreatDoorJRow
import Derived.Maps.RangeWalk
import Derived.Test.YtcfhanoekniaaaaGreatDoorUTree
import Derived.Sort.KeysCollected
import Derived.Maps.Views
import Derived.Test.YtcfhanoekniaaaaGreatDoorShelfW
import Derived.Test.YtcfhanoekniaaaaGreatDoorQGive
import Derived.Test.YtcfhanoekniaaaaGreatDoorUNew
namespace Go.Proofs.YtcfhanoekniaaaaGreatDoor
open Go.RowKit Go.Maps

/-- Numbers that are 0 or more. -/
theorem used_least : ∀ {N : Ns}, (∀ x ∈ N, 0 ≤ x.1) → (leastN N < 0 ↔ N.length ≤ usedN N)
  | [], _ => by simp [leastN, usedN]
  | x :: N, h => by
    have ih := used_least (N := N) (fun y hy => h y (List.mem_cons_of_mem _ hy))
    have hx := h x List.mem_cons_self
    have hl := used_le N
    rw [leastN]
    unfold usedN at ih hl ⊢
    by_cases e : x.1 = 0
    · rw [if_pos e, List.filter_cons_of_neg (by simp; omega), List.length_cons]
      constructor
      · intro h9; omega
      · intro h9; omega
    · rw [if_neg e, List.filter_cons_of_pos (by simp; omega), List.length_cons, List.length_cons]
      rcases least_lt (N := N) with h9 | ⟨i, h9, _⟩
      · rw [h9] at ih
        rw [if_pos h9]
        constructor
        · intro _; have := ih.1 (by omega); omega
        · intro _; omega
      · rw [if_neg (by omega)]
        constructor
        · intro h8; omega
        · intro h8; have := ih.2 (by omega); omega
end Go.Proofs.YtcfhanoekniaaaaGreatDoor

namespace Go.Proofs.YtcfhanoekniaaaaGreatDoor
open Go.RowKit Go.Maps

/-- An ENTRY that is one. -/
structure EnOk (D : DS) (e : En) : Prop where
  kind : e.kind = 1 ∨ e.kind = 2 ∨ e.kind = 3
  file : e.kind = 1 → 1 ≤ e.prot ∧ e.prot ≤ 3 ∧ 0 ≤ e.node ∧ e.node < 1000 ∧ 0 ≤ e.pos ∧ e.pos ≤ 200
  frm : e.kind = 2 → e.prot = 1
  into : e.kind = 3 → e.prot = 2
  pipe : e.kind ≠ 1 → 0 < e.pipe ∧ e.pipe ≤ D.nx ∧ ∃ p, D.P e.pipe = some p ∧ p.1.length ≤ 16 ∧ 0 ≤ p.2.1 ∧ p.2.1 < 1000 ∧ 0 ≤ p.2.2 ∧ p.2.2 < 1000
/-- What Read comes to: the text, what is told, what is open then. -/
def readO (D : DS) (N : Ns) (x a : Int) : List UInt8 × Int × DS := if hasN N x = true then (match D.E (N.getD x.toNat (0, false)).1 with
  | none => ([], 7, D)
  | some e => if e.prot = 2 then ([], 13, D) else if e.kind = 1 then (readS D.T e.node e.pos a, readE D.T e.node e.pos a, { D with E := fun j => if j = (N.getD x.toNat (0, false)).1 then some { e with pos := e.pos + (readS D.T e.node e.pos a).length } else D.E j }) else match D.P e.pipe with
    | none => ([], 7, D)
    | some p => (p.1.take a.toNat, rdE p.2.2 p.1 a, { D with P := fun j => if j = e.pipe then some (p.1.drop a.toNat, p.2.1, p.2.2) else D.P j })) else ([], 7, D)
open Classical in
/-- What Write comes to: how many bytes, what is told, what is open then. -/
noncomputable def writeO (D : DS) (N : Ns) (x : Int) (s : List UInt8) (a : Int) : Int × Int × DS := if hasN N x = true then (match D.E (N.getD x.toNat (0, false)).1 with
  | none => (0, 7, D)
  | some e => if e.prot = 1 then (0, 13, D) else if e.kind = 1 then (if tooMuch s a e.pos then (0, 4, D) else if writeE D.T e.node e.pos s ≠ 0 then (0, writeE D.T e.node e.pos s, D) else ((s.length : Int), 0, { D with T := writeN D.T e.node e.pos s, E := fun j => if j = (N.getD x.toNat (0, false)).1 then some { e with pos := e.pos + s.length } else D.E j })) else match D.P e.pipe with
    | none => (0, 7, D)
    | some p => ((wrN p.2.1 p.1 s : Int), wrE p.2.1 p.1 s, { D with P := fun j => if j = e.pipe then some (wrB p.2.1 p.1 s, p.2.1, p.2.2) else D.P j })) else (0, 7, D)
section
variable {D : DS} {N : Ns} {i : Nat} {e : En} {a : Int} {s : List UInt8}
theorem readO_no {x : Int} (h : hasN N x = false) : readO D N x a = ([], 7, D) := if_neg (by rw [h]; simp)
theorem writeO_no {x : Int} (h : hasN N x = false) : writeO D N x s a = (0, 7, D) := if_neg (by rw [h]; simp)
theorem hasN_yes (hi : i < 8) (hiL : i < N.length) (h0 : 0 < N[i].1) : hasN N i = true := by
  unfold hasN
  rw [getD_in hiL]
  simp [h0]
  omega
variable (hi : i < 8) (hiL : i < N.length) (h0 : 0 < N[i].1) (he : D.E N[i].1 = some e)
include hi h0 he
theorem readO_false (hp : e.prot = 2) : readO D N i a = ([], 13, D) := by
  unfold readO; rw [if_pos (hasN_yes hi hiL h0), getD_in hiL, he]; simp only; rw [if_pos hp]
theorem readO_file (hk : e.kind = 1) (hp : e.prot ≠ 2) : readO D N i a = (readS D.T e.node e.pos a, readE D.T e.node e.pos a, { D with E := fun j => if j = N[i].1 then some { e with pos := e.pos + (readS D.T e.node e.pos a).length } else D.E j }) := by
  unfold readO; rw [if_pos (hasN_yes hi hiL h0), getD_in hiL, he]; simp only; rw [if_neg hp, if_pos hk]
theorem readO_end (hk : e.kind ≠ 1) (hp : e.prot ≠ 2) {p : Pi} (hP : D.P e.pipe = some p) : readO D N i a = (p.1.take a.toNat, rdE p.2.2 p.1 a, { D with P := fun j => if j = e.pipe then some (p.1.drop a.toNat, p.2.1, p.2.2) else D.P j }) := by
  unfold readO; rw [if_pos (hasN_yes hi hiL h0), getD_in hiL, he]; simp only; rw [if_neg hp, if_neg hk, hP]
theorem writeO_false (hp : e.prot = 1) : writeO D N i s a = (0, 13, D) := by
  unfold writeO; rw [if_pos (hasN_yes hi hiL h0), getD_in hiL, he]; simp only; rw [if_pos hp]
theorem writeO_limit (hk : e.kind = 1) (hp : e.prot ≠ 1) (hl : tooMuch s a e.pos) : writeO D N i s a = (0, 4, D) := by
  unfold writeO; rw [if_pos (hasN_yes hi hiL h0), getD_in hiL, he]; simp only; rw [if_neg hp, if_pos hk, if_pos hl]
theorem writeO_bad (hk : e.kind = 1) (hp : e.prot ≠ 1) (hl : ¬ tooMuch s a e.pos) (hE : writeE D.T e.node e.pos s ≠ 0) : writeO D N i s a = (0, writeE D.T e.node e.pos s, D) := by
  unfold writeO; rw [if_pos (hasN_yes hi hiL h0), getD_in hiL, he]; simp only; rw [if_neg hp, if_pos hk, if_neg hl, if_pos hE]
theorem writeO_file (hk : e.kind = 1) (hp : e.prot ≠ 1) (hl : ¬ tooMuch s a e.pos) (hE : writeE D.T e.node e.pos s = 0) : writeO D N i s a = ((s.length : Int), 0, { D with T := writeN D.T e.node e.pos s, E := fun j => if j = N[i].1 then some { e with pos := e.pos + s.length } else D.E j }) := by
  unfold writeO; rw [if_pos (hasN_yes hi hiL h0), getD_in hiL, he]; simp only; rw [if_neg hp, if_pos hk, if_neg hl, if_neg (fun h => h hE)]
theorem writeO_end (hk : e.kind ≠ 1) (hp : e.prot ≠ 1) {p : Pi} (hP : D.P e.pipe = some p) : writeO D N i s a = ((wrN p.2.1 p.1 s : Int), wrE p.2.1 p.1 s, { D with P := fun j => if j = e.pipe then some (wrB p.2.1 p.1 s, p.2.1, p.2.2) else D.P j }) := by
  unfold writeO; rw [if_pos (hasN_yes hi hiL h0), getD_in hiL, he]; simp only; rw [if_neg hp, if_neg hk, hP]
end
end Go.Proofs.YtcfhanoekniaaaaGreatDoor

namespace Go.Proofs.YtcfhanoekniaaaaGreatDoor
open Go.RowKit Go.Maps

/-- Directories, and how often files are held, are small. -/
def Sm (k : Nat) (T : Wd) : Prop := (∀ i C, T i = some (.dir C) → C.length ≤ k) ∧ ∀ i b x, T i = some (.file b x) → x ≤ k ∧ b.length ≤ 200
section
variable {T : Wd} {k : Nat}
theorem Sm.more (h : Sm k T) {k' : Nat} (hk : k ≤ k') : Sm k' T := ⟨fun i C e => Nat.le_trans (h.1 i C e) hk, fun i b x e => ⟨Nat.le_trans (h.2 i b x e).1 hk, (h.2 i b x e).2⟩⟩
theorem Sm.set (h : Sm k T) (n : Int) {nd : Nd} (hd : ∀ C, nd = .dir C → C.length ≤ k) (hf : ∀ b x, nd = .file b x → x ≤ k ∧ b.length ≤ 200) : Sm k (setT T n nd) := by
  refine ⟨fun i C e => ?_, fun i b x e => ?_⟩
  · by_cases e1 : i = n
    · subst e1; rw [setT_same] at e; exact hd C (Option.some.inj e)
    · rw [setT_other _ e1] at e; exact h.1 i C e
  · by_cases e1 : i = n
    · subst e1; rw [setT_same] at e; exact hf b x (Option.some.inj e)
    · rw [setT_other _ e1] at e; exact h.2 i b x e
theorem Sm.add (h : Sm k T) (d n : Int) (nm : Nm) : Sm (k + 1) (addT T d nm n) := by
  cases hd : T d with
  | none => rw [show addT T d nm n = T by unfold addT; rw [hd]]; exact h.more (by omega)
  | some nd => cases nd with
    | file b x => rw [show addT T d nm n = T by unfold addT; rw [hd]]; exact h.more (by omega)
    | dir C =>
      rw [addT_eq hd]
      exact (h.more (Nat.le_succ k)).set d (fun C' e => by cases e; have := h.1 d C hd; simp; omega) (fun b x e => by cases e)
theorem Sm.sweep (h : Sm k T) : Sm k (sweepT T) := ⟨fun i C e => h.1 i C (sweepT_sub e), fun i b x e => h.2 i b x (sweepT_sub e)⟩
theorem Sm.write (h : Sm k T) (n a : Int) (x : List UInt8) : Sm (k + 1) (writeN T n a x) := by
  unfold writeN
  by_cases hh : writeE T n a x ≠ 0 ∨ x = []
  · rw [if_pos hh]; exact h.more (by omega)
  · rw [if_neg hh]
    cases e : T n with
    | none => exact h.more (by omega)
    | some nd => cases nd with
      | dir C => exact h.more (by omega)
      | file b y =>
        simp only
        refine (h.set n (fun C e9 => by cases e9) (fun b' x' e9 => ?_)).more (by omega)
        cases e9
        have h2 := h.2 n b y e
        refine ⟨h2.1, ?_⟩
        have hE : writeE T n a x = 0 := by
          by_cases e9 : writeE T n a x = 0
          · exact e9
          · exact absurd (.inl e9) hh
        unfold writeE at hE
        have hf : fileT T n = 0 := by unfold fileT; rw [e]
        rw [if_neg (fun e => e hf)] at hE
        by_cases ha : a < 0
        · rw [if_pos ha] at hE; omega
        · rw [if_neg ha] at hE
          by_cases hl : (200 : Int) < x.length ∨ 200 - (x.length : Int) < a
          · rw [if_pos hl] at hE; omega
          · rw [overT_len]; omega
/-- What else holds is kept. -/
theorem TrLv.hold (hT : TrLv T) (n : Int) {by' : Int} (hb : by' = 1 ∨ by' = -1) (hx : ∀ b x, T n = some (.file b x) → x + 1 ≤ 1000) : TrLv (holdN T n by') := by
  by_cases hz : fileT T n = 0
  · obtain ⟨b, x, hn⟩ := fileT_zero hz
    rcases hb with rfl | rfl
    · have hT' := hT.setF (b' := b) (x' := x + 1) hn (hT.small n b x hn).1 (hx b x hn) (.inl (by omega))
      have hN : holdN T n 1 = setT T n (.file b (x + 1)) := by
        unfold holdN; rw [hn]; simp only
        rw [if_neg (by omega), show ((x : Int) + 1).toNat = x + 1 by omega]
        exact sweep_none hT'.toTrOk hT'.lv
      rw [hN]; exact hT'
    · cases x with
      | zero =>
        have hN : holdN T n (-1) = T := by unfold holdN; rw [hn]; simp only; rw [if_pos (by omega)]
        rw [hN]; exact hT
      | succ x => exact (drop_turn hT hn).2.2
  · have hN : holdN T n by' = T := by
      unfold holdN
      cases hn : T n with
      | none => rfl
      | some nd => cases nd with
        | dir C => rfl
        | file b x => exact absurd (by unfold fileT; rw [hn]) hz
    rw [hN]; exact hT
theorem TrLv.same_file (hT : TrLv T) {n : Int} {b b' : List UInt8} {x : Nat} (hn : T n = some (.file b x)) (hb : b'.length ≤ 256) : TrLv (setT T n (.file b' x)) := by
  refine hT.setF hn hb (hT.small n b x hn).2 ?_
  rcases hT.lv n _ hn with e | e | e
  · exact absurd e (file_nz hT.toTrOk hn)
  · exact .inr e
  · exact .inl e
theorem TrLv.write (hT : TrLv T) (n a : Int) (x : List UInt8) : TrLv (writeN T n a x) := by
  unfold writeN
  split
  · exact hT
  · rename_i hh
    split
    · rename_i b y e
      refine hT.same_file e ?_
      have hE : writeE T n a x = 0 := by
        by_cases e9 : writeE T n a x = 0
        · exact e9
        · exact absurd (.inl e9) hh
      have hs := (hT.small n b y e).1
      unfold writeE at hE
      have hf : fileT T n = 0 := by unfold fileT; rw [e]
      rw [if_neg (fun e => e hf)] at hE
      by_cases ha : a < 0
      · rw [if_pos ha] at hE; omega
      · rw [if_neg ha] at hE
        by_cases hl : (200 : Int) < x.length ∨ 200 - (x.length : Int) < a
        · rw [if_pos hl] at hE; omega
        · rw [overT_len]; omega
    · exact hT
end
end Go.Proofs.YtcfhanoekniaaaaGreatDoor

namespace Go.Proofs.YtcfhanoekniaaaaGreatDoor
open Go.RowKit Go.Maps

/-- One number more of an ENTRY. -/
def incR (D : DS) (d : Int) : DS := { D with R := fun j => if j = d then some ((D.R j).getD 0 + 1) else D.R j }
theorem incR_eq {D : DS} {d c : Int} (hc : D.R d = some c) : incR D d = { D with R := fun j => if j = d then some (c + 1) else D.R j } := by
  unfold incR
  congr 1
  funext j
  split
  · rename_i e; rw [e, hc]; rfl
  · rfl
/-- What is asked of the tree and of an ENTRY that is closed. -/
structure Cl (D : DS) (d : Int) (e : En) (c : Int) : Prop extends CanClose D d e c where
  lv : TrLv D.T
/-- Numbers of the table are of ENTRIES that are there. -/
def Live (D : DS) (N : Ns) : Prop := ∀ i (hi : i < N.length), 0 < N[i].1 → (D.E N[i].1).isSome = true
section
variable {D : DS} {d : Int} {e : En}
theorem closeK_more {c : Int} (hc : CanClose D d e c) (hm : 0 < c - 1) : closeK D d = { D with R := fun i => if i = d then some (c - 1) else D.R i } := by
  unfold closeK; rw [hc.ent, hc.cnt]; simp only; rw [if_pos hm]
theorem closeK_file {c : Int} (hc : CanClose D d e c) (hm : ¬ 0 < c - 1) (hk : e.kind = 1) : closeK D d = { T := holdN D.T e.node (-1), E := fun i => if i = d then none else D.E i, R := fun i => if i = d then none else if i = d then some (c - 1) else D.R i, P := D.P, nx := D.nx } := by
  unfold closeK; rw [hc.ent, hc.cnt]; simp only; rw [if_neg hm, if_pos hk]
theorem closeK_end {c : Int} (hc : CanClose D d e c) (hm : ¬ 0 < c - 1) (hk : e.kind ≠ 1) : closeK D d = { T := D.T, E := fun i => if i = d then none else D.E i, R := fun i => if i = d then none else if i = d then some (c - 1) else D.R i, P := fun i => if i = e.pipe then some (turnP ((D.P e.pipe).getD ([], 0, 0)) e.kind) else D.P i, nx := D.nx } := by
  unfold closeK; rw [hc.ent, hc.cnt]; simp only; rw [if_neg hm, if_neg hk]
end
/-- How often an ENTRY's number stands in a table; in all. -/
def cntN (d : Int) (N : Ns) : Nat := (N.filter (fun x => x.1 == d)).length
def cntS (d : Int) (Ts : List Ns) : Nat := (Ts.map (cntN d)).sum
theorem cntN_le (d : Int) (N : Ns) : cntN d N ≤ N.length := List.length_filter_le _ _
theorem cntN_set : ∀ (N : Ns) (d : Int) (i : Nat) (y : Int × Bool) (h : i < N.length), cntN d (N.set i y) + (if N[i].1 = d then 1 else 0) = cntN d N + (if y.1 = d then 1 else 0)
  | [], _, i, _, h => by simp at h
  | x :: N, d, 0, y, h => by
    simp only [List.set_cons_zero, List.getElem_cons_zero, cntN, List.filter_cons]
    by_cases e1 : x.1 = d <;> by_cases e2 : y.1 = d <;> simp [e1, e2]
  | x :: N, d, i + 1, y, h => by
    have ih := cntN_set N d i y (by simpa using h)
    simp only [List.set_cons_succ, List.getElem_cons_succ]
    unfold cntN at ih ⊢
    rw [List.filter_cons, List.filter_cons]
    by_cases e1 : x.1 = d
    · simp only [e1, beq_self_eq_true, if_true, List.length_cons]; omega
    · simp only [beq_eq_false_iff_ne.2 e1, Bool.false_eq_true, if_false]; omega
theorem cntS_set : ∀ (Ts : List Ns) (d : Int) (j : Nat) (N' : Ns) (h : j < Ts.length), cntS d (Ts.set j N') + cntN d Ts[j] = cntS d Ts + cntN d N'
  | [], _, j, _, h => by simp at h
  | x :: Ts, d, 0, N', h => by simp [cntS]; omega
  | x :: Ts, d, j + 1, N', h => by
    have ih := cntS_set Ts d j N' (by simpa using h)
    simp only [List.set_cons_succ, List.getElem_cons_succ]
    unfold cntS at ih ⊢
    simp only [List.map_cons, List.sum_cons]
    omega
/-- One number of one table turned. -/
theorem cnt_turn {Ts : List Ns} {j i : Nat} (hj : j < Ts.length) (hi : i < Ts[j].length) (d : Int) (y : Int × Bool) : cntS d (Ts.set j (Ts[j].set i y)) + (if Ts[j][i].1 = d then 1 else 0) = cntS d Ts + (if y.1 = d then 1 else 0) := by
  have h1 := cntS_set Ts d j (Ts[j].set i y) hj
  have h2 := cntN_set Ts[j] d i y hi
  omega
theorem cntS_le : ∀ (d : Int) (Ts : List Ns), (∀ N ∈ Ts, N.length = 8) → cntS d Ts ≤ 8 * Ts.length
  | _, [], _ => Nat.zero_le _
  | d, x :: Ts, h => by
    have ih := cntS_le d Ts (fun N hN => h N (List.mem_cons_of_mem _ hN))
    have h1 := cntN_le d x
    have h2 := h x List.mem_cons_self
    unfold cntS at ih ⊢
    simp only [List.map_cons, List.sum_cons, List.length_cons]
    omega
theorem cntN_pos {N : Ns} {i : Nat} (hi : i < N.length) : 0 < cntN N[i].1 N := List.length_pos_of_mem (List.mem_filter.2 ⟨List.getElem_mem hi, by simp⟩)
theorem cntS_pos : ∀ {Ts : List Ns} {j i : Nat} (hj : j < Ts.length) (hi : i < Ts[j].length), 0 < cntS Ts[j][i].1 Ts
  | x :: Ts, 0, i, _, hi => by
    have := cntN_pos (N := x) (i := i) hi
    simp only [cntS, List.map_cons, List.sum_cons, List.getElem_cons_zero]
    omega
  | x :: Ts, j + 1, i, hj, hi => by
    have ih := cntS_pos (Ts := Ts) (j := j) (i := i) (by simpa using hj) hi
    simp only [cntS, List.map_cons, List.sum_cons, List.getElem_cons_succ] at ih ⊢
    omega
/-- What holds of what is open, so many numbers of each ENTRY. -/
structure InvC (D : DS) (C : Int → Nat) (k : Nat) : Prop where
  giv : Given D
  lv : TrLv D.T
  sm : Sm k D.T
  ent : ∀ d e, D.E d = some e → EnOk D e
  cE : ∀ d, 0 < d → ((D.E d).isSome = true ↔ 0 < C d)
  cR : ∀ d, 0 < d → D.R d = if 0 < C d then some (C d : Int) else none
section
variable {D : DS} {C C' : Int → Nat} {k : Nat} {d : Int} {e : En}
theorem InvC.congr (h : InvC D C k) (hc : ∀ d, 0 < d → C d = C' d) : InvC D C' k :=
  ⟨h.giv, h.lv, h.sm, h.ent, fun d hd => by rw [← hc d hd]; exact h.cE d hd, fun d hd => by rw [← hc d hd]; exact h.cR d hd⟩
theorem InvC.more (h : InvC D C k) {k' : Nat} (hk : k ≤ k') : InvC D C k' := ⟨h.giv, h.lv, h.sm.more hk, h.ent, h.cE, h.cR⟩
theorem InvC.cl (h : InvC D C k) (hd : 0 < d) (hc : 0 < C d) (hb : C d < 100000) : ∃ e, Cl D d e (C d) := by
  obtain ⟨e, he⟩ := Option.isSome_iff_exists.1 ((h.cE d hd).2 hc)
  have ok := h.ent d e he
  have hg := h.giv.e d (by rw [he]; rfl)
  have hn := h.giv.n1
  refine ⟨e, ⟨hd, by omega, he, by rw [h.cR d hd, if_pos hc], by omega, by omega, ok.kind, fun hk => ?_, fun hk => ?_⟩, h.lv⟩
  · have := ok.file hk; omega
  · obtain ⟨a1, a2, p, a3, a4, a5, a6, a7, a8⟩ := ok.pipe hk
    exact ⟨by omega, by omega, p, a3, a4, a5, a6, a7, a8⟩
theorem EnOk.keep {D D' : DS} (h : EnOk D e) (hn : D.nx ≤ D'.nx) (hP : ∀ p x, D.P p = some x → x.1.length ≤ 16 → 0 ≤ x.2.1 → x.2.1 < 1000 → 0 ≤ x.2.2 → x.2.2 < 1000 → ∃ y, D'.P p = some y ∧ y.1.length ≤ 16 ∧ 0 ≤ y.2.1 ∧ y.2.1 < 1000 ∧ 0 ≤ y.2.2 ∧ y.2.2 < 1000) : EnOk D' e := by
  refine ⟨h.kind, h.file, h.frm, h.into, fun hk => ?_⟩
  obtain ⟨a1, a2, p, a3, a4, a5, a6, a7, a8⟩ := h.pipe hk
  exact ⟨a1, by omega, hP _ p a3 a4 a5 a6 a7 a8⟩
theorem EnOk.same {D D' : DS} (h : EnOk D e) (hn : D.nx ≤ D'.nx) (hP : D'.P = D.P) : EnOk D' e := h.keep hn (fun p x a b c d e f => ⟨x, by rw [hP]; exact a, b, c, d, e, f⟩)
/-- One number more. -/
theorem InvC.inc (h : InvC D C k) (hd : 0 < d) (hc : 0 < C d) : InvC (incR D d) (fun x => if x = d then C d + 1 else C x) k := by
  have hR : D.R d = some (C d : Int) := by rw [h.cR d hd, if_pos hc]
  rw [incR_eq hR]
  refine ⟨⟨h.giv.n0, h.giv.n1, h.giv.e, fun x hx => ?_, h.giv.p⟩, h.lv, h.sm, fun x ex hx => (h.ent x ex hx).same (Int.le_refl _) rfl, fun x hx => ?_, fun x hx => ?_⟩
  · have hx' : (if x = d then some ((C d : Int) + 1) else D.R x).isSome = true := hx
    by_cases e1 : x = d
    · subst e1; exact h.giv.r x (by rw [hR]; rfl)
    · rw [if_neg e1] at hx'; exact h.giv.r x hx'
  · show (D.E x).isSome = true ↔ 0 < (if x = d then C d + 1 else C x)
    rw [h.cE x hx]
    by_cases e1 : x = d
    · subst e1; simp [hc]
    · rw [if_neg e1]
  · show (if x = d then some ((C d : Int) + 1) else D.R x) = _
    by_cases e1 : x = d
    · subst e1
      simp
    · rw [if_neg e1, h.cR x hx]
      simp only [if_neg e1]
theorem Sm.drop {T : Wd} (h : Sm k T) (n : Int) : Sm k (holdN T n (-1)) := by
  unfold holdN
  split
  · rename_i b x e
    split
    · exact h
    · refine (h.set n (fun C e9 => by cases e9) (fun b' x' e9 => ?_)).sweep
      cases e9
      have := h.2 n b x e; exact ⟨by omega, this.2⟩
  · exact h
/-- One number less. -/
theorem InvC.close (h : InvC D C k) (hk : k ≤ 900) (hd : 0 < d) (hc : 0 < C d) (hb : C d < 100000) : InvC (closeK D d) (fun x => if x = d then C d - 1 else C x) k := by
  obtain ⟨e, cl⟩ := h.cl hd hc hb
  have hgd := h.giv.e d (by rw [cl.ent]; rfl)
  by_cases hm : 0 < ((C d : Int)) - 1
  · rw [closeK_more cl.toCanClose hm]
    refine ⟨⟨h.giv.n0, h.giv.n1, h.giv.e, fun x hx => ?_, h.giv.p⟩, h.lv, h.sm, fun x ex hx => (h.ent x ex hx).same (Int.le_refl _) rfl, fun x hx => ?_, fun x hx => ?_⟩
    · have hx' : (if x = d then some ((C d : Int) - 1) else D.R x).isSome = true := hx
      by_cases e1 : x = d
      · subst e1; exact hgd
      · rw [if_neg e1] at hx'; exact h.giv.r x hx'
    · show (D.E x).isSome = true ↔ 0 < (if x = d then C d - 1 else C x)
      rw [h.cE x hx]
      by_cases e1 : x = d
      · subst e1; rw [if_pos rfl]; omega
      · rw [if_neg e1]
    · show (if x = d then some ((C d : Int) - 1) else D.R x) = _
      by_cases e1 : x = d
      · subst e1
        simp only [if_true]
        rw [if_pos (by omega)]
        congr 1; omega
      · rw [if_neg e1, h.cR x hx]
        simp only [if_neg e1]
  · have hc1 : C d = 1 := by omega
    have hE : ∀ x, 0 < x → ((if x = d then none else D.E x : Option En).isSome = true ↔ 0 < (if x = d then C d - 1 else C x)) := fun x hx => by
      by_cases e1 : x = d
      · subst e1; simp [hc1]
      · rw [if_neg e1, if_neg e1]; exact h.cE x hx
    have hR : ∀ x, 0 < x → (if x = d then none else if x = d then some ((C d : Int) - 1) else D.R x) = if 0 < (if x = d then C d - 1 else C x) then some (((if x = d then C d - 1 else C x : Nat)) : Int) else none := fun x hx => by
      by_cases e1 : x = d
      · subst e1; simp [hc1]
      · rw [if_neg e1, if_neg e1, h.cR x hx]
        simp only [if_neg e1]
    have hgE : ∀ x, (if x = d then none else D.E x : Option En).isSome = true → 0 < x ∧ x ≤ D.nx := fun x hx => by
      by_cases e1 : x = d
      · rw [if_pos e1] at hx; cases hx
      · rw [if_neg e1] at hx; exact h.giv.e x hx
    have hgR : ∀ x, (if x = d then none else if x = d then some ((C d : Int) - 1) else D.R x : Option Int).isSome = true → 0 < x ∧ x ≤ D.nx := fun x hx => by
      by_cases e1 : x = d
      · rw [if_pos e1] at hx; cases hx
      · rw [if_neg e1, if_neg e1] at hx; exact h.giv.r x hx
    by_cases hkd : e.kind = 1
    · rw [closeK_file cl.toCanClose hm hkd]
      refine ⟨⟨h.giv.n0, h.giv.n1, hgE, hgR, h.giv.p⟩, h.lv.hold e.node (.inr rfl) (fun b x hx => by have := (h.sm.2 _ b x hx).1; omega), h.sm.drop _, fun x ex hx => ?_, hE, hR⟩
      have hx' : (if x = d then none else D.E x : Option En) = some ex := hx
      by_cases e1 : x = d
      · rw [if_pos e1] at hx'; cases hx'
      · rw [if_neg e1] at hx'; exact (h.ent x ex hx').same (Int.le_refl _) rfl
    · obtain ⟨a1, a2, p, a3, a4, a5, a6, a7, a8⟩ := (h.ent d e cl.ent).pipe hkd
      rw [closeK_end cl.toCanClose hm hkd]
      refine ⟨⟨h.giv.n0, h.giv.n1, hgE, hgR, fun x hx => ?_⟩, h.lv, h.sm, fun x ex hx => ?_, hE, hR⟩
      · have hx' : (if x = e.pipe then some (turnP ((D.P e.pipe).getD ([], 0, 0)) e.kind) else D.P x).isSome = true := hx
        by_cases e1 : x = e.pipe
        · rw [e1]; exact ⟨a1, a2⟩
        · rw [if_neg e1] at hx'; exact h.giv.p x hx'
      · have hx' : (if x = d then none else D.E x : Option En) = some ex := hx
        by_cases e1 : x = d
        · rw [if_pos e1] at hx'; cases hx'
        · rw [if_neg e1] at hx'
          refine (h.ent x ex hx').keep (Int.le_refl _) (fun q y b1 b2 b3 b4 b5 b6 => ?_)
          by_cases e2 : q = e.pipe
          · refine ⟨turnP p e.kind, by show (if q = e.pipe then some (turnP ((D.P e.pipe).getD ([], 0, 0)) e.kind) else D.P q) = _; rw [if_pos e2, a3]; rfl, ?_⟩
            unfold turnP clF clI
            simp only
            refine ⟨a4, ?_, ?_, ?_, ?_⟩ <;> (split <;> omega)
          · exact ⟨y, (if_neg e2).trans b1, b2, b3, b4, b5, b6⟩
/-- An ENTRY less is never another one more. -/
theorem closeK_sub {x : Int} (h : ((closeK D d).E x).isSome = true) : (D.E x).isSome = true := by
  unfold closeK at h
  split at h
  · split at h
    · exact h
    · split at h
      · have h' : (if x = d then none else D.E x : Option En).isSome = true := h
        by_cases e1 : x = d
        · rw [if_pos e1] at h'; cases h'
        · rw [if_neg e1] at h'; exact h'
      · have h' : (if x = d then none else D.E x : Option En).isSome = true := h
        by_cases e1 : x = d
        · rw [if_pos e1] at h'; cases h'
        · rw [if_neg e1] at h'; exact h'
  · exact h
end
end Go.Proofs.YtcfhanoekniaaaaGreatDoor

namespace Go.Proofs.YtcfhanoekniaaaaGreatDoor
open Go.RowKit Go.Maps

section
variable {w w' w2 : World} {f b n : Nat} {D D' : DS} {g g' : QG} {M N N' : Ns} {d k : Int} {e : En}
set_option maxRecDepth 100000 in
set_option maxHeartbeats 4000000 in
theorem QF.leave_more (h : QF w f D g n) (hk : g.K k = some d) {c : Int} (hc : CanClose D d e c) (hm : 0 < c - 1) : Calls Tryz.prog 240 #[wp f, .int .i64 k] w fun x w' => x = .returned (.tuple #[]) ∧ (∃ g' n', QF w' f (closeK D d) g' n' ∧ Ext w (closeK D d) g g') ∧ Wt (fun i => (g.kap i).isSome = true) w w' := by
  obtain ⟨_, hk0, hk1⟩ := h.key k d hk
  have c1 := h.cells.2
  have hlk := h.look (k := k) (by omega) hk1
  rw [gv_some hk] at hlk
  have h9 := fil_ne f
  have h8 := ent_ne (g.B d)
  obtain ⟨_, _, e2, _, _, _, ez⟩ := h.ecell hc.ent hc.cnt
  have ez2 := ez 2
  obtain ⟨_, _, _, hkb⟩ := h.ent d e hc.ent
  have h1 := h.count hc.ent (c - 1)
  have g1 := tgrown_set w (g.B d) 2 (.int .i64 (c - 1))
  obtain ⟨_, _, e2', _, _, _, _⟩ := h1.ecell hc.ent (if_pos rfl)
  rw [closeK_more hc hm]
  have hfin : (∃ g' n', QF (w.setCell ⟨g.B d, 2, none⟩ (.int .i64 (c - 1))) f { D with R := fun i => if i = d then some (c - 1) else D.R i } g' n' ∧ Ext w { D with R := fun i => if i = d then some (c - 1) else D.R i } g g') ∧ Wt (fun i => (g.kap i).isSome = true) w (w.setCell ⟨g.B d, 2, none⟩ (.int .i64 (c - 1))) := ⟨⟨g, n, h1, Ext.refl _ _ _⟩, Wt.grown g1 (by rw [hkb]; rfl)⟩
  have hw1 : wrap64 (c - 1) = c - 1 := by have := hc.c0; have := hc.c1; unfold wrap64; omega
  have hz : ((c - 1 : Int) == 0) = false := by simp; omega
  generalize ({ D with R := fun i => if i = d then some (c - 1) else D.R i } : DS) = D2 at *
  generalize g.B d = q at *
  clear h hk hc hm ez hkb h1 g1
  go_enter Tryz.func240, Tryz.ntmps240
  go_wp2_with fail
  go_end0
  exact ⟨rfl, hfin⟩
/-- Behind the map's deletion. -/
structure LvS (w w2 w3 : World) (f : Nat) (g : QG) (D : DS) (k d c : Int) (e : En) : Prop where
  c1 : w.cell? ⟨f, 1, none⟩ = some (.map (some g.gO))
  lk : (Instr.lookup 207 (.map (some g.gO)) (.int .i64 k) false).run Tryz.prog w = .ok (wp (g.B d)) w
  e2 : w.cell? ⟨g.B d, 2, none⟩ = some (.int .i64 c)
  ez : w.frozen? ⟨g.B d, 2, none⟩ = false
  e2' : (w.setCell ⟨g.B d, 2, none⟩ (.int .i64 (c - 1))).cell? ⟨g.B d, 2, none⟩ = some (.int .i64 (c - 1))
  c1' : (w.setCell ⟨g.B d, 2, none⟩ (.int .i64 (c - 1))).cell? ⟨f, 1, none⟩ = some (.map (some g.gO))
  del : ∀ ty, (Builtin.delete_ #[207, 3] ty #[.map (some g.gO), .int .i64 k]).run Tryz.prog (w.setCell ⟨g.B d, 2, none⟩ (.int .i64 (c - 1))) = .ok (.tuple #[]) w3
  wt : Wt (fun i => (g.kap i).isSome = true) w w3
  tag : g.kap (g.B d) = some (.ent d)
  blk : w3.heap[g.B d]? = some (.cells (ecells g e (c - 1)) 238)
  st : ∃ n', QF w3 f { D with E := fun i => if i = d then none else D.E i, R := fun i => if i = d then none else if i = d then some (c - 1) else D.R i } { g with K := fun i => if i = k then none else g.K i } n'
theorem QF.leaving (h : QF w f D g n) (hk : g.K k = some d) {c : Int} (hc : CanClose D d e c) : ∃ w3, LvS w w w3 f g D k d c e := by
  obtain ⟨_, hk0, hk1⟩ := h.key k d hk
  have hlk := h.look (k := k) (by omega) hk1
  rw [gv_some hk] at hlk
  obtain ⟨_, _, e2, _, _, _, ez⟩ := h.ecell hc.ent hc.cnt
  obtain ⟨c9, hc9, hblk, hkb⟩ := h.ent d e hc.ent
  have h1 := h.count hc.ent (c - 1)
  have g1 := tgrown_set w (g.B d) 2 (.int .i64 (c - 1))
  obtain ⟨_, _, e2', _, _, _, _⟩ := h1.ecell hc.ent (if_pos rfl)
  obtain ⟨w3, hdel, pm, g3⟩ := del_run h1.map Tryz.underlying207 k (wf_few (by omega) (by omega))
  have h3 := h1.gone hk pm g3
  refine ⟨w3, h.cells.2, hlk, e2, ez 2, e2', h1.cells.2, hdel, (Wt.grown g1 (by rw [hkb]; rfl)).trans (Wt.grown g3 (by rw [h.tm]; rfl)), hkb, ?_, _, h3⟩
  rw [g3.block _ (h1.lt _ (by rw [hkb]; rfl)) (fun x => tag_ne hkb h.tm (by simp) (Option.some.inj x))]
  exact ent_put2 hblk _
theorem ext_gone {w3 : World} (hk : g.K k = some d) (hE : D'.E d = none) (hg : g'.K = fun i => if i = k then none else g.K i) (hka : ∀ i, i < w.heap.size → g'.kap i = g.kap i) (hr : g'.r = g.r) (_ : w3 = w3) : Ext w D' g g' := by
  refine ⟨hka, fun i x hi hx => ?_, hr⟩
  rw [hg]
  show (if i = k then none else g.K i) = some x
  by_cases e1 : i = k
  · rw [e1, hk] at hi
    rw [← Option.some.inj hi, hE] at hx
    cases hx
  · rw [if_neg e1]; exact hi
set_option maxRecDepth 100000 in
set_option maxHeartbeats 4000000 in
theorem QF.leave_last (h : QF w f D g n) (hk : g.K k = some d) {c : Int} (hc : Cl D d e c) (hm : ¬ 0 < c - 1) : Calls Tryz.prog 240 #[wp f, .int .i64 k] w fun x w' => x = .returned (.tuple #[]) ∧ (∃ g' n', QF w' f (closeK D d) g' n' ∧ Ext w (closeK D d) g g') ∧ Wt (fun i => (g.kap i).isSome = true) w w' := by
  obtain ⟨w3, L⟩ := h.leaving hk hc.toCanClose
  obtain ⟨n', h3⟩ := L.st
  have hsz := L.wt.size
  have hSh : Calls Tryz.prog 297 #[wp f, wp (g.B d)] w3 fun x w' => x = .returned (.tuple #[]) ∧ (∃ g' n', QF w' f (closeK D d) g' n' ∧ Ext w (closeK D d) g g') ∧ Wt (fun i => (g.kap i).isSome = true) w w' := by
    by_cases hkd : e.kind = 1
    · have hpv : pv g e = .pointer none := if_pos hkd
      have hnd := hc.node hkd
      refine (h3.shut_file (q := g.B d) L.blk L.tag hkd hc.lv hnd.1 hnd.2).mono ?_
      rintro x w' ⟨rfl, ⟨g', a1, a2, a3, a4⟩, wt⟩
      rw [closeK_file hc.toCanClose hm hkd]
      exact ⟨rfl, ⟨g', n', a1, ext_gone (w3 := w3) hk (if_pos rfl) a3 (fun i hi => a2 i (by omega)) a4 rfl⟩, L.wt.trans wt⟩
    · obtain ⟨q0, q1, p, hp, hpl, f0, f1, i0, i1⟩ := hc.pipe hkd
      have hpv : pv g e = wp (g.Q e.pipe) := if_neg hkd
      have hblk := L.blk
      rw [ecells, hpv] at hblk
      refine (h3.shut_end (q := g.B d) (p := e.pipe) hblk L.tag hkd hp ⟨f0, f1⟩ ⟨i0, i1⟩).mono ?_
      rintro x w' ⟨rfl, a1, wt⟩
      rw [closeK_end hc.toCanClose hm hkd, hp]
      exact ⟨rfl, ⟨_, n', a1, ext_gone (w3 := w3) hk (if_pos rfl) rfl (fun i hi => rfl) rfl rfl⟩, L.wt.trans wt⟩
  have hc1 : c = 1 := by have := hc.c0; omega
  subst hc1
  have c1 := L.c1
  have hlk := L.lk
  have e2 := L.e2
  have ez := L.ez
  have e2' := L.e2'
  have c1' := L.c1'
  have hdel := L.del
  have h9 := fil_ne f
  have h8 := ent_ne (g.B d)
  generalize closeK D d = D2 at *
  simp only [show (1 : Int) - 1 = 0 by omega] at e2' c1' hdel
  generalize g.B d = q at *
  clear h hk hc hm L h3 hsz
  go_enter Tryz.func240, Tryz.ntmps240
  go_wp2_with (go_at_call 297; refine hSh.mono ?_; rintro x w4 ⟨rfl, hR⟩)
  go_end0
  exact ⟨rfl, hR⟩
theorem QF.leave_ok (h : QF w f D g n) (hk : g.K k = some d) {c : Int} (hc : Cl D d e c) : Calls Tryz.prog 240 #[wp f, .int .i64 k] w fun x w' => x = .returned (.tuple #[]) ∧ (∃ g' n', QF w' f (closeK D d) g' n' ∧ Ext w (closeK D d) g g') ∧ Wt (fun i => (g.kap i).isSome = true) w w' := by
  by_cases hm : 0 < c - 1
  · exact h.leave_more hk hc.toCanClose hm
  · exact h.leave_last hk hc hm

set_option maxRecDepth 100000 in
set_option maxHeartbeats 4000000 in
theorem QF.free_ok (h : QF w f D g n) (t : QTb w b g M N) {i : Nat} (hi : i < 8) (hiL : i < N.length) (h0 : 0 < N[i].1) {c : Int} (hc : Cl D N[i].1 e c) (hl : Live (closeK D N[i].1) (N.set i (0, false))) :
    Calls Tryz.prog 142 #[wp f, wp b, .int .i64 (i : Int)] w fun x w' => x = .returned (.tuple #[]) ∧ QGo w w' f (closeK D N[i].1) g b (N.set i (0, false)) := by
  have hM : i < M.length := by have := t.tab.len; omega
  have hk := t.keyOf hM hiL h0
  obtain ⟨t0, t1⟩ := t.tab.at hi
  have z0 := t.tab.free (i * 2)
  have z1 := t.tab.free (i * 2 + 1)
  have hT1 := t.set (i := i) (0, false) (0, false) (t.tab.put hi (0, false) ⟨by simp, by simp, fun _ => rfl⟩) ⟨rfl, .inl ⟨rfl, rfl⟩⟩
  have g1 := QT.put_grown w b i (.int .i64 0) (.bool false)
  have h1 := h.offTab t.off g1
  obtain ⟨W, hW⟩ : ∃ W, (w.setCell ⟨b, i * 2, none⟩ (.int .i64 0)).setCell ⟨b, i * 2 + 1, none⟩ (.bool false) = W := ⟨_, rfl⟩
  simp only at hT1
  rw [hW] at hT1 g1 h1
  have hL := h1.leave_ok hk hc
  have hfin : ∀ w', (∃ g' n', QF w' f (closeK D N[i].1) g' n' ∧ Ext W (closeK D N[i].1) g g') → Wt (fun i => (g.kap i).isSome = true) W w' → QGo w w' f (closeK D N[i].1) g b (N.set i (0, false)) := fun w' hx wt => by
    obtain ⟨g', n', a1, a2⟩ := hx
    have hsz : W.heap.size = w.heap.size := by rw [← hW]; simp [World.setCell]
    refine ⟨⟨g', n', _, a1, hT1.other a2 (wt.block b hT1.tab.lt (by rw [t.off]; simp)) hl, ⟨fun j hj => a2.kap j (by omega), a2.key, a2.r⟩⟩, (Wt.grown g1 (.inr rfl)).trans (wt.mono (fun j hj => .inl hj))⟩
  generalize closeK D N[i].1 = D2 at *
  generalize N.set i (0, false) = N2 at *
  generalize M[i].1 = X at *
  generalize M[i].2 = Y at *
  have hi8 : (i : Int) < 8 := by omega
  clear h t hk hc hT1 g1 h1 hl h0
  go_enter Tryz.func142, Tryz.ntmps142
  go_upto_region 2 with fail
  clear t0 t1 z0 z1 hW
  go_wp2_with (go_at_call 240; refine hL.mono ?_; rintro x w4 ⟨rfl, hR, wt⟩)
  go_end0
  exact ⟨rfl, hfin _ hR wt⟩
end
end Go.Proofs.YtcfhanoekniaaaaGreatDoor

namespace Go.Proofs.YtcfhanoekniaaaaGreatDoor
open Go.RowKit Go.Maps

section
variable {w w' w2 : World} {f b n : Nat} {D D' : DS} {g g' : QG} {M N N' : Ns} {d k : Int} {e : En}
theorem QF.same (h : QF w f D g n) (t : QTb w b g M N) (hb : Below w.heap.size w w') : QGo w w' f D g b N := ⟨⟨g, n, M, h.below hb, t.below hb, Ext.refl _ _ _⟩, Wt.below _ hb⟩
theorem QGo.upon (hb : Below w.heap.size w w') (h : QGo w' w2 f D' g b N') : QGo w w2 f D' g b N' := by
  obtain ⟨⟨g', n', M', a, c, x⟩, wt⟩ := h
  exact ⟨⟨g', n', M', a, c, ⟨fun i hi => x.kap i (Nat.lt_of_lt_of_le hi hb.size), x.key, x.r⟩⟩, (Wt.below _ hb).trans wt⟩
set_option maxRecDepth 100000 in
set_option maxHeartbeats 4000000 in
theorem QF.close_no (h : QF w f D g n) (t : QTb w b g M N) (x : Int) (hx : hasN N x = false) : Calls Tryz.prog 57 #[wp f, wp b, .int .i64 x] w fun y w' => y = .returned (uer 7) ∧ QGo w w' f D g b N := by
  have hF := h.find_no t x hx
  have hs : ∀ w', Below w.heap.size w w' → QGo w w' f D g b N := fun w' hb => h.same t hb
  clear h t hx
  go_enter Tryz.func57, Tryz.ntmps57
  go_wp2_with (go_at_call 141; refine hF.mono ?_; rintro y w1 ⟨rfl, b1⟩)
  go_ret
  exact ⟨rfl, hs _ b1⟩
set_option maxRecDepth 100000 in
set_option maxHeartbeats 4000000 in
theorem QF.close_ok (h : QF w f D g n) (t : QTb w b g M N) {i : Nat} (hi : i < 8) (hiL : i < N.length) (h0 : 0 < N[i].1) {c : Int} (hc : Cl D N[i].1 e c) (hl : Live (closeK D N[i].1) (N.set i (0, false))) :
    Calls Tryz.prog 57 #[wp f, wp b, .int .i64 (i : Int)] w fun y w' => y = .returned .nilIface ∧ QGo w w' f (closeK D N[i].1) g b (N.set i (0, false)) := by
  have hF := h.find_yes t hi hiL h0
  have hFr : ∀ V, Below w.heap.size w V → Calls Tryz.prog 142 #[wp f, wp b, .int .i64 (i : Int)] V fun x w' => x = .returned (.tuple #[]) ∧ QGo w w' f (closeK D N[i].1) g b (N.set i (0, false)) := fun V hV => by
    refine ((h.below hV).free_ok (t.below hV) hi hiL h0 hc hl).mono ?_
    rintro x w' ⟨rfl, hG⟩
    exact ⟨rfl, hG.upon hV⟩
  generalize closeK D N[i].1 = D2 at *
  generalize N.set i (0, false) = N2 at *
  generalize g.B N[i].1 = q at *
  clear h t hc hl h0
  go_enter Tryz.func57, Tryz.ntmps57
  go_wp2_with (first
    | (go_at_call 141; refine hF.mono ?_; rintro y w1 ⟨rfl, b1⟩)
    | (go_at_call 142; refine (hFr _ b1).mono ?_; rintro y w2 ⟨rfl, hG⟩))
  go_ret
  exact ⟨rfl, hG⟩
end
end Go.Proofs.YtcfhanoekniaaaaGreatDoor

namespace Go.Proofs.YtcfhanoekniaaaaGreatDoor
open Go.RowKit Go.Maps

/-- So it stands with all tables. -/
structure Inv (D : DS) (Ts : List Ns) (k : Nat) : Prop where
  core : InvC D (fun d => cntS d Ts) k
  tab : ∀ N ∈ Ts, N.length = 8 ∧ ∀ x ∈ N, 0 ≤ x.1 ∧ (x.1 = 0 → x.2 = false)
  few : Ts.length ≤ 500
/-- A number of the table is of an ENTRY with a count. -/
def Cnted (D : DS) (N : Ns) : Prop := ∀ i (hi : i < N.length), 0 < N[i].1 → ∃ e c, D.E N[i].1 = some e ∧ D.R N[i].1 = some c ∧ 0 ≤ c ∧ c < 100000
section
variable {D : DS} {Ts : List Ns} {k j i : Nat} {d : Int} {e : En}
theorem Cnted.live {N : Ns} (h : Cnted D N) : Live D N := fun i hi h0 => by
  obtain ⟨e, c, h1, _⟩ := h i hi h0
  rw [h1]; rfl
theorem Inv.more (h : Inv D Ts k) {k' : Nat} (hk : k ≤ k') : Inv D Ts k' := ⟨h.core.more hk, h.tab, h.few⟩
theorem Inv.len (h : Inv D Ts k) (hj : j < Ts.length) : Ts[j].length = 8 := (h.tab _ (List.getElem_mem hj)).1
theorem Inv.few64 (h : Inv D Ts k) (d : Int) : cntS d Ts ≤ 4000 := by
  have := cntS_le d Ts (fun N hN => (h.tab N hN).1)
  have := h.few
  omega
theorem Inv.cl (h : Inv D Ts k) (hj : j < Ts.length) (hi : i < Ts[j].length) (h0 : 0 < Ts[j][i].1) : ∃ e, Cl D Ts[j][i].1 e (cntS Ts[j][i].1 Ts) :=
  h.core.cl h0 (cntS_pos hj hi) (by have := h.few64 Ts[j][i].1; omega)
theorem Inv.cnted (h : Inv D Ts k) (hj : j < Ts.length) : Cnted D Ts[j] := fun i hi h0 => by
  obtain ⟨e, c⟩ := h.cl hj hi h0
  exact ⟨e, _, c.ent, c.cnt, by omega, c.c1⟩
theorem Inv.live (h : Inv D Ts k) (hj : j < Ts.length) : Live D Ts[j] := (h.cnted hj).live
theorem tab_set {P : Ns → Prop} {N' : Ns} (h : ∀ N ∈ Ts, P N) (hN : P N') : ∀ N ∈ Ts.set j N', P N := fun N hm => by
  rcases List.mem_or_eq_of_mem_set hm with h1 | h1
  · exact h N h1
  · rw [h1]; exact hN
theorem row_set {N : Ns} (h : N.length = 8 ∧ ∀ x ∈ N, 0 ≤ x.1 ∧ (x.1 = 0 → x.2 = false)) (y : Int × Bool) (hy : 0 ≤ y.1 ∧ (y.1 = 0 → y.2 = false)) : (N.set i y).length = 8 ∧ ∀ x ∈ N.set i y, 0 ≤ x.1 ∧ (x.1 = 0 → x.2 = false) := by
  refine ⟨by rw [List.length_set]; exact h.1, fun x hx => ?_⟩
  rcases List.mem_or_eq_of_mem_set hx with h1 | h1
  · exact h.2 x h1
  · rw [h1]; exact hy
theorem Inv.close (h : Inv D Ts k) (hk : k ≤ 900) (hj : j < Ts.length) (hi : i < Ts[j].length) (h0 : 0 < Ts[j][i].1) : Inv (closeK D Ts[j][i].1) (Ts.set j (Ts[j].set i (0, false))) k := by
  have hb := h.few64 Ts[j][i].1
  refine ⟨(h.core.close hk h0 (cntS_pos hj hi) (by omega)).congr (fun x hx => ?_), tab_set h.tab (row_set (h.tab _ (List.getElem_mem hj)) _ ⟨by simp, fun _ => rfl⟩), by rw [List.length_set]; exact h.few⟩
  have ht := cnt_turn hj hi x (0, false)
  have hp := cntS_pos hj hi
  simp only at ht ⊢
  rw [if_neg (show ¬ (0 : Int) = x by omega)] at ht
  by_cases e1 : x = Ts[j][i].1
  · rw [if_pos e1]
    rw [if_pos e1.symm] at ht
    rw [← e1]
    omega
  · rw [if_neg e1]
    rw [if_neg (fun z => e1 z.symm)] at ht
    omega
/-- An ENTRY's own turn. -/
theorem Inv.putE (h : Inv D Ts k) (he : D.E d = some e) {e' : En} (hok : EnOk D e') : Inv { D with E := fun i => if i = d then some e' else D.E i } Ts k := by
  have hs : ∀ x, (if x = d then some e' else D.E x).isSome = (D.E x).isSome := fun x => by
    by_cases e1 : x = d
    · rw [if_pos e1, e1, he]; rfl
    · rw [if_neg e1]
  refine ⟨⟨⟨h.core.giv.n0, h.core.giv.n1, fun x hx => h.core.giv.e x (by rw [← hs]; exact hx), h.core.giv.r, h.core.giv.p⟩, h.core.lv, h.core.sm, fun x ex hx => ?_, fun x hx => by show (if x = d then some e' else D.E x).isSome = true ↔ _; rw [hs]; exact h.core.cE x hx, h.core.cR⟩, h.tab, h.few⟩
  have hx' : (if x = d then some e' else D.E x) = some ex := hx
  by_cases e1 : x = d
  · rw [if_pos e1] at hx'
    obtain rfl := Option.some.inj hx'
    exact hok.same (Int.le_refl _) rfl
  · rw [if_neg e1] at hx'
    exact (h.core.ent x ex hx').same (Int.le_refl _) rfl
/-- A pipe's own turn. -/
theorem Inv.putP (h : Inv D Ts k) {p : Int} {x y : Pi} (hp : D.P p = some x) (hy : y.1.length ≤ 16 ∧ 0 ≤ y.2.1 ∧ y.2.1 < 1000 ∧ 0 ≤ y.2.2 ∧ y.2.2 < 1000) : Inv { D with P := fun i => if i = p then some y else D.P i } Ts k := by
  refine ⟨⟨⟨h.core.giv.n0, h.core.giv.n1, h.core.giv.e, h.core.giv.r, fun q hq => ?_⟩, h.core.lv, h.core.sm, fun q ex hx => (h.core.ent q ex hx).keep (Int.le_refl _) (fun r z a b c d e f => ?_), h.core.cE, h.core.cR⟩, h.tab, h.few⟩
  · have hq' : (if q = p then some y else D.P q).isSome = true := hq
    by_cases e1 : q = p
    · rw [e1]; exact h.core.giv.p p (by rw [hp]; rfl)
    · rw [if_neg e1] at hq'; exact h.core.giv.p q hq'
  · by_cases e1 : r = p
    · exact ⟨y, if_pos e1, hy⟩
    · exact ⟨z, (if_neg e1).trans a, b, c, d, e, f⟩
/-- The tree's own turn. -/
theorem Inv.putT (h : Inv D Ts k) {T' : Wd} {k' : Nat} (hT : TrLv T') (hs : Sm k' T') : Inv { D with T := T' } Ts k' :=
  ⟨⟨⟨h.core.giv.n0, h.core.giv.n1, h.core.giv.e, h.core.giv.r, h.core.giv.p⟩, hT, hs, fun q ex hx => (h.core.ent q ex hx).same (Int.le_refl _) rfl, h.core.cE, h.core.cR⟩, h.tab, h.few⟩
/-- A new ENTRY, for a free number. -/
theorem Inv.add (h : Inv D Ts k) (hn : D.nx < 899) (hj : j < Ts.length) (hl : ¬ leastN Ts[j] < 0) (hok : EnOk (addD D e) e) : Inv (addD D e) (Ts.set j (addN D Ts[j])) k := by
  have g := h.core.giv
  obtain ⟨n1, n2, n3⟩ := g.new
  rcases least_lt (N := Ts[j]) with hx9 | ⟨i, hi, hiL, hi0⟩
  · omega
  have hN : addN D Ts[j] = Ts[j].set i (D.nx + 1, false) := by unfold addN; rw [hi, show (i : Int).toNat = i by omega]
  have h0 := g.n0
  have hz : cntS (D.nx + 1) Ts = 0 := by
    have := h.core.cE (D.nx + 1) (by omega)
    rw [n1] at this
    simp at this
    exact this
  rw [hN]
  have hcnt : ∀ x, 0 < x → cntS x (Ts.set j (Ts[j].set i (D.nx + 1, false))) = if x = D.nx + 1 then 1 else cntS x Ts := fun x hx => by
    have ht := cnt_turn hj hiL x (D.nx + 1, false)
    simp only at ht
    rw [hi0, if_neg (show ¬ (0 : Int) = x by omega)] at ht
    by_cases e1 : x = D.nx + 1
    · rw [if_pos e1]
      rw [if_pos e1.symm, e1, hz] at ht
      rw [e1]; omega
    · rw [if_neg e1]
      rw [if_neg (fun z => e1 z.symm)] at ht
      omega
  refine ⟨⟨g.add hn e, h.core.lv, h.core.sm, fun x ex hx => ?_, fun x hx => ?_, fun x hx => ?_⟩, tab_set h.tab (row_set (h.tab _ (List.getElem_mem hj)) _ ⟨by simp; omega, fun z => by simp at z; omega⟩), by rw [List.length_set]; exact h.few⟩
  · have hx' : (if x = D.nx + 1 then some e else D.E x) = some ex := hx
    by_cases e1 : x = D.nx + 1
    · rw [if_pos e1] at hx'
      obtain rfl := Option.some.inj hx'
      exact hok
    · rw [if_neg e1] at hx'
      exact (h.core.ent x ex hx').same (by show D.nx ≤ D.nx + 1; omega) rfl
  · show (if x = D.nx + 1 then some e else D.E x).isSome = true ↔ _
    rw [hcnt x hx]
    by_cases e1 : x = D.nx + 1
    · rw [if_pos e1, if_pos e1]; simp
    · rw [if_neg e1, if_neg e1]; exact h.core.cE x hx
  · show (if x = D.nx + 1 then some 1 else D.R x) = _
    rw [hcnt x hx]
    by_cases e1 : x = D.nx + 1
    · simp [e1]
    · rw [if_neg e1, if_neg e1, h.core.cR x hx]
theorem getT_set {Ts : List Ns} {j : Nat} (_ : j < Ts.length) (N' : Ns) (h : j < (Ts.set j N').length) : (Ts.set j N')[j] = N' := List.getElem_set_self h
theorem set_setT (Ts : List Ns) (j : Nat) (a b : Ns) : (Ts.set j a).set j b = Ts.set j b := List.set_set _
theorem Inv.setSelf (h : Inv D Ts k) (hj : j < Ts.length) : Inv D (Ts.set j Ts[j]) k := by rw [List.set_getElem_self]; exact h
end
end Go.Proofs.YtcfhanoekniaaaaGreatDoor

namespace Go.Proofs.YtcfhanoekniaaaaGreatDoor
open Go.RowKit Go.Maps

section
variable {w w' w2 : World} {f b n : Nat} {D D' : DS} {g g' : QG} {M N N' : Ns} {d k : Int} {e : En}
/-- give, for what is asked: a table's number is of an ENTRY. -/
theorem QF.give_go (h : QF w f D g n) (t : QTb w b g M N) {i : Nat} (hi : i < 8) (hk : g.K k = some d) (hd : 0 < d) (he : D.E d = some e) {c : Int} (hc : D.R d = some c) (hc0 : 0 ≤ c) (hc1 : c < 100000) :
    Calls Tryz.prog 239 #[wp f, wp b, .int .i64 (i : Int), .int .i64 k] w fun x w' => x = .returned (.tuple #[]) ∧ QF w' f (incR D d) g n ∧ QTb w' b g (M.set i (k, false)) (N.set i (d, false)) ∧ QGo w w' f (incR D d) g b (N.set i (d, false)) := by
  rw [incR_eq hc]
  refine (h.give_ok t hi hk hd he hc hc0 hc1).mono ?_
  rintro x w' ⟨rfl, a1, a2, wt⟩
  exact ⟨rfl, a1, a2, ⟨g, n, _, a1, a2, Ext.refl _ _ _⟩, wt⟩
end
end Go.Proofs.YtcfhanoekniaaaaGreatDoor

namespace Go.Proofs.YtcfhanoekniaaaaGreatDoor
open Go.RowKit Go.Maps

section
variable {w w' w2 w0 : World} {f b n q : Nat} {D D' : DS} {g g' : QG} {M N N' : Ns} {d k : Int} {e : En}
/-- The least key that is free is at most one more than there are. -/
theorem QF.kfew (h : QF w f D g n) {i : Nat} (hi : ∀ j : Nat, 1 ≤ j → j ≤ i → (g.K j).isSome = true) : i ≤ n := by
  obtain ⟨Dt, _, _, h1, h2, h3⟩ := h.map.data
  have h4 := int_sub (a := (List.range i).map (fun j : Nat => ((j + 1 : Nat) : Int))) (b := Go.intKeys Dt) (List.pairwise_map.2 (List.nodup_range.imp (fun {a b} h e => h (by omega)))) (fun x hx => by
    obtain ⟨j, hj, rfl⟩ := List.mem_map.1 hx
    have := List.mem_range.1 hj
    refine (h3 _).2 ?_
    rw [Option.isSome_map]
    exact hi (j + 1) (by omega) (by omega))
  rw [h2] at h4
  simpa using h4
theorem newE_inc (D : DS) (e : En) : incR (newE D e) (D.nx + 1) = addD D e := by
  unfold incR newE addD
  congr 1
  funext j
  by_cases ej : j = D.nx + 1
  · simp [ej]
  · simp [ej]
/-- What a call leaves; pipes stay where they are. -/
def QGoQ (w w' : World) (f : Nat) (D' : DS) (g : QG) (b : Nat) (N' : Ns) (n' : Nat) : Prop := (∃ g' M', QF w' f D' g' n' ∧ QTb w' b g' M' N' ∧ Ext w D' g g' ∧ g'.Q = g.Q) ∧ Wt (fun i => (g.kap i).isSome = true ∨ i = b) w w'
/-- Behind the map's new key. -/
structure AdS (w0 w w2 : World) (f b q n : Nat) (g : QG) (D : DS) (N : Ns) (k : Int) (e : En) : Prop where
  run : (Instr.mapUpdate 207 (.map (some g.gO)) (.int .i64 k) (wp q)).run Tryz.prog w = .ok () w2
  least : Calls Tryz.prog 278 #[wp b] w2 fun y w' => y = .returned (.tuple #[.int .i64 (leastN N), .bool (decide (0 ≤ leastN N))]) ∧ Calls Tryz.prog 239 #[wp f, wp b, .int .i64 (leastN N), .int .i64 k] w' fun y w3 => y = .returned (.tuple #[]) ∧ QGoQ w0 w3 f (addD D e) g b (addN D N) (n + 1)
theorem QF.adding (h : QF w0 f D g n) (t : QTb w0 b g M N) (hb : Below w0.heap.size w0 w) (hq : w0.heap.size ≤ q) (hw : w.heap[q]? = some (.cells (ecells g e 0) 238)) (hE : D.E (D.nx + 1) = none) (h0 : 0 ≤ D.nx) (hl : ¬ leastN N < 0) (hL : Live D N) (hn : n < 1000) (hk : g.K k = none) (hk0 : 0 < k) (hk1 : k < 100000) : ∃ w2, AdS w0 w w2 f b q n g D N k e := by
  have hB := h.below hb
  obtain ⟨w2, hrun, pm, g2⟩ := hB.map.put Tryz.underlying207 (by unfold maxLen; omega) k (wf_few (by omega) (by omega)) (wp q)
  rw [hk] at pm
  obtain ⟨g', a1, a2, a3, a4, a5, a6, a7⟩ := h.newEnt hq hb hE hk hk0 hk1 hw pm g2
  have hx : Ext w0 (newE D e) g g' := ⟨a2, fun i x hi _ => by
    rw [a3]
    show (if i = k then some (D.nx + 1) else g.K i) = some x
    rw [if_neg (fun e9 => by rw [e9, hk] at hi; cases hi)]
    exact hi, a4⟩
  have hLn : Live (newE D e) N := fun i hi hp => by
    show (if N[i].1 = D.nx + 1 then some e else D.E N[i].1).isSome = true
    split
    · rfl
    · exact hL i hi hp
  have wt2 : Wt (fun i => (g.kap i).isSome = true ∨ i = b) w0 w2 := (Wt.below _ hb).trans (Wt.grown g2 (.inl (by rw [h.tm]; rfl)))
  have hbk : w2.heap[b]? = w0.heap[b]? := by
    rw [g2.block b (t.below hb).tab.lt (fun x => by have := h.tm; rw [← Option.some.inj x, t.off] at this; cases this)]
    exact hb.block b t.tab.lt
  have t2 : QTb w2 b g' M N := t.other hx hbk hLn
  refine ⟨w2, hrun, ((t2.least_ok a1).mono ?_)⟩
  rintro y w3 ⟨rfl, b3⟩
  refine ⟨rfl, ?_⟩
  rcases least_lt (N := N) with hx9 | ⟨j, hj, hjL, hj0⟩
  · omega
  have hj8 : j < 8 := by have := t.len; omega
  rw [hj]
  refine ((a1.below b3).give_go (t2.below b3) hj8 (k := k) (d := D.nx + 1) (by rw [a3]; exact if_pos rfl) (by omega) (show (newE D e).E (D.nx + 1) = some e from if_pos rfl) (show (newE D e).R (D.nx + 1) = some 0 from if_pos rfl) (by omega) (by omega)).mono ?_
  rintro y w4 ⟨rfl, c1, c2, hG⟩
  rw [newE_inc] at c1
  have hN : addN D N = N.set j (D.nx + 1, false) := by unfold addN; rw [hj, show (j : Int).toNat = j by omega]
  rw [hN]
  refine ⟨rfl, ⟨⟨g', _, c1, c2, ⟨a2, fun i x hi _ => by
    rw [a3]
    show (if i = k then some (D.nx + 1) else g.K i) = some x
    rw [if_neg (fun e9 => by rw [e9, hk] at hi; cases hi)]
    exact hi, a4⟩, a7⟩, ?_⟩⟩
  have hw4 := hG.wt
  refine ⟨hw4.os.trans (b3.os.trans wt2.os), hw4.tape.trans (b3.tape.trans wt2.tape), hw4.output.trans (b3.output.trans wt2.output), Nat.le_trans wt2.size (Nat.le_trans b3.size hw4.size), fun i hi hA => ?_⟩
  have hsz := wt2.size
  have hsz3 := b3.size
  rw [hw4.block i (by omega) (fun hx => hA (by
    rcases hx with hx | hx
    · rw [a2 i hi] at hx; exact .inl hx
    · exact .inr hx)), b3.block i (by omega)]
  exact wt2.block i hi hA
set_option maxRecDepth 100000 in
set_option maxHeartbeats 4000000 in
theorem QF.add_ok (h : QF w0 f D g n) (t : QTb w0 b g M N) (hb : Below w0.heap.size w0 w) (hq : w0.heap.size ≤ q) (hw : w.heap[q]? = some (.cells (ecells g e 0) 238)) (hE : D.E (D.nx + 1) = none) (h0 : 0 ≤ D.nx) (hl : ¬ leastN N < 0) (hL : Live D N) (hn : n < 1000) :
    Calls Tryz.prog 236 #[wp f, wp b, wp q] w fun x w' => x = .returned (.int .i64 (leastN N)) ∧ QGoQ w0 w' f (addD D e) g b (addN D N) (n + 1) := by
  have hB := h.below hb
  have c1 := hB.cells.2
  have h8 := ent_ne
  have h7 := ent_nil
  have HA : Aside (∀ k : Int, g.K k = none → 0 < k → k < 100000 → ∃ w2, AdS w0 w w2 f b q n g D N k e) := fun k hk hk0 hk1 => h.adding t hb hq hw hE h0 hl hL hn hk hk0 hk1
  have HK : Aside (∀ i : Nat, (∀ j : Nat, 1 ≤ j → j ≤ i → (g.K j).isSome = true) → i ≤ n) := fun i hi => h.kfew hi
  have HL : Aside (∀ k : Int, 0 ≤ k → k < 100000 → (Instr.lookup 207 (.map (some g.gO)) (.int .i64 k) false).run Tryz.prog w = .ok (gv g k) w) := fun k h0 h1 => hB.look h0 h1
  have h9 := fil_ne f
  have hen : ∀ q (W : World), (binOp BinOp.neq 232 (wp q) (.pointer none)).run Tryz.prog W = .ok (.bool true) W := fun q W => by kernel_rfl
  have hel : ∀ (W : World), (binOp BinOp.neq 232 (.pointer none) (.pointer none)).run Tryz.prog W = .ok (.bool false) W := fun W => by kernel_rfl
  have HN : Aside (n < 1000) := hn
  clear h t hb hq hw hE h0 hl hL hn hB
  go_enter Tryz.func236, Tryz.ntmps236
  go_wp2_with fail
  go_loopg [7] n (fun mm s7 wr => ∃ i : Nat, Aside (i + mm = n) ∧ s7 = .int .i64 ((i : Int) + 1) ∧ Aside (∀ j : Nat, 1 ≤ j → j ≤ i → (g.K j).isSome = true) ∧ wr = w)
  case atStart => exact ⟨0, (show 0 + n = n by omega), rfl, fun j h1 h2 => by omega, rfl⟩
  case round =>
    obtain ⟨i, HI, rfl, hall, hwr⟩ := hrel
    subst hwr
    have hi9 : (i : Int) < 1000 := by have := HI.out; have := HN.out; omega
    have hlk := HL.out ((i : Int) + 1) (by omega) (by omega)
    cases hK : g.K ((i : Int) + 1) with
    | some d =>
      rw [gv_some hK] at hlk
      have HX : Aside (∀ j : Nat, 1 ≤ j → j ≤ i + 1 → (g.K j).isSome = true) := fun j h1 h2 => by
        by_cases e1 : j = i + 1
        · subst e1; rw [show ((i + 1 : Nat) : Int) = (i : Int) + 1 by omega, hK]; rfl
        · exact hall.out j h1 (by omega)
      have HI2 : Aside (i + 1 ≤ n) := HK.out (i + 1) HX.out
      clear hK
      go_wp2_with fail
      go_roundg (n - (i + 1))
      case measure => have := HI.out; have := HI2.out; omega
      case rel => exact ⟨i + 1, (show i + 1 + (n - (i + 1)) = n by have := HI2.out; omega), by rw [show ((i + 1 : Nat) : Int) + 1 = (i : Int) + 1 + 1 by omega], HX, rfl⟩
    | none =>
      rw [gv_none hK] at hlk
      obtain ⟨w2, A⟩ := HA.out ((i : Int) + 1) hK (by omega) (by omega)
      have hrun := A.run
      have hLs := A.least
      clear A hK
      go_wp2_with (first
        | (go_at_call 278; refine hLs.mono ?_; rintro y w3 ⟨rfl, hGv⟩)
        | (go_at_call 239; refine hGv.mono ?_; rintro y w4 ⟨rfl, hG⟩))
      go_ret
      exact ⟨rfl, hG⟩
end
end Go.Proofs.YtcfhanoekniaaaaGreatDoor

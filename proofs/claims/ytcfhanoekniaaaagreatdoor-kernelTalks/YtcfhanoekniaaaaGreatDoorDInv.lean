/- What File comes to, plainly. -/
import Derived.Test.YtcfhanoekniaaaaGreatDoorQTab
import Derived.Test.YtcfhanoekniaaaaGreatDoorUWrite
import Derived.Test.YtcfhanoekniaaaaGreatDoorSKeys
import Derived.Maps.RangeWalk
import Derived.Test.YtcfhanoekniaaaaGreatDoorUCnt
import Derived.Sort.KeysCollected
import Derived.Maps.Views
import Derived.Test.YtcfhanoekniaaaaGreatDoorShelfW
namespace Go.Proofs.YtcfhanoekniaaaaGreatDoor
open Go.RowKit Go.Maps

/-- Numbers that are 0 or more. -/
theorem used_least : ∀ {N : Ns}, (∀ x ∈ N, 0 ≤ x.1) → (leastN N < 0 ↔ N.length ≤ usedN N)
  | [], _ => by simp [leastN, usedN]
  | x :: N, h => by
    have ih := used_least (N := N) (fun y hy => h y (List.mem_cons_of_mem _ hy))
    have hx := h x List.mem_cons_self
    have hl := used_le N
    rw [leastN]
    unfold usedN at ih hl ⊢
    by_cases e : x.1 = 0
    · rw [if_pos e, List.filter_cons_of_neg (by simp; omega), List.length_cons]
      constructor
      · intro h9; omega
      · intro h9; omega
    · rw [if_neg e, List.filter_cons_of_pos (by simp; omega), List.length_cons, List.length_cons]
      rcases least_lt (N := N) with h9 | ⟨i, h9, _⟩
      · rw [h9] at ih
        rw [if_pos h9]
        constructor
        · intro _; have := ih.1 (by omega); omega
        · intro _; omega
      · rw [if_neg (by omega)]
        constructor
        · intro h8; omega
        · intro h8; have := ih.2 (by omega); omega
end Go.Proofs.YtcfhanoekniaaaaGreatDoor

namespace Go.Proofs.YtcfhanoekniaaaaGreatDoor
open Go.RowKit Go.Maps

/-- An ENTRY that is one. -/
structure EnOk (D : DS) (e : En) : Prop where
  kind : e.kind = 1 ∨ e.kind = 2 ∨ e.kind = 3
  file : e.kind = 1 → 1 ≤ e.prot ∧ e.prot ≤ 3 ∧ 0 ≤ e.node ∧ e.node < 1000 ∧ 0 ≤ e.pos ∧ e.pos ≤ 200
  frm : e.kind = 2 → e.prot = 1
  into : e.kind = 3 → e.prot = 2
  pipe : e.kind ≠ 1 → 0 < e.pipe ∧ e.pipe ≤ D.nx ∧ ∃ p, D.P e.pipe = some p ∧ p.1.length ≤ 16 ∧ 0 ≤ p.2.1 ∧ p.2.1 < 1000 ∧ 0 ≤ p.2.2 ∧ p.2.2 < 1000
/-- What Read comes to: the text, what is told, what is open then. -/
def readO (D : DS) (N : Ns) (x a : Int) : List UInt8 × Int × DS := if hasN N x = true then (match D.E (N.getD x.toNat (0, false)).1 with
  | none => ([], 7, D)
  | some e => if e.prot = 2 then ([], 13, D) else if e.kind = 1 then (readS D.T e.node e.pos a, readE D.T e.node e.pos a, { D with E := fun j => if j = (N.getD x.toNat (0, false)).1 then some { e with pos := e.pos + (readS D.T e.node e.pos a).length } else D.E j }) else match D.P e.pipe with
    | none => ([], 7, D)
    | some p => (p.1.take a.toNat, rdE p.2.2 p.1 a, { D with P := fun j => if j = e.pipe then some (p.1.drop a.toNat, p.2.1, p.2.2) else D.P j })) else ([], 7, D)
open Classical in
/-- What Write comes to: how many bytes, what is told, what is open then. -/
noncomputable def writeO (D : DS) (N : Ns) (x : Int) (s : List UInt8) (a : Int) : Int × Int × DS := if hasN N x = true then (match D.E (N.getD x.toNat (0, false)).1 with
  | none => (0, 7, D)
  | some e => if e.prot = 1 then (0, 13, D) else if e.kind = 1 then (if tooMuch s a e.pos then (0, 4, D) else if writeE D.T e.node e.pos s ≠ 0 then (0, writeE D.T e.node e.pos s, D) else ((s.length : Int), 0, { D with T := writeN D.T e.node e.pos s, E := fun j => if j = (N.getD x.toNat (0, false)).1 then some { e with pos := e.pos + s.length } else D.E j })) else match D.P e.pipe with
    | none => (0, 7, D)
    | some p => ((wrN p.2.1 p.1 s : Int), wrE p.2.1 p.1 s, { D with P := fun j => if j = e.pipe then some (wrB p.2.1 p.1 s, p.2.1, p.2.2) else D.P j })) else (0, 7, D)
section
variable {D : DS} {N : Ns} {i : Nat} {e : En} {a : Int} {s : List UInt8}
theorem readO_no {x : Int} (h : hasN N x = false) : readO D N x a = ([], 7, D) := if_neg (by rw [h]; simp)
theorem writeO_no {x : Int} (h : hasN N x = false) : writeO D N x s a = (0, 7, D) := if_neg (by rw [h]; simp)
theorem hasN_yes (hi : i < 8) (hiL : i < N.length) (h0 : 0 < N[i].1) : hasN N i = true := by
  unfold hasN
  rw [getD_in hiL]
  simp [h0]
  omega
variable (hi : i < 8) (hiL : i < N.length) (h0 : 0 < N[i].1) (he : D.E N[i].1 = some e)
include hi h0 he
theorem readO_false (hp : e.prot = 2) : readO D N i a = ([], 13, D) := by
  unfold readO; rw [if_pos (hasN_yes hi hiL h0), getD_in hiL, he]; simp only; rw [if_pos hp]
theorem readO_file (hk : e.kind = 1) (hp : e.prot ≠ 2) : readO D N i a = (readS D.T e.node e.pos a, readE D.T e.node e.pos a, { D with E := fun j => if j = N[i].1 then some { e with pos := e.pos + (readS D.T e.node e.pos a).length } else D.E j }) := by
  unfold readO; rw [if_pos (hasN_yes hi hiL h0), getD_in hiL, he]; simp only; rw [if_neg hp, if_pos hk]
theorem readO_end (hk : e.kind ≠ 1) (hp : e.prot ≠ 2) {p : Pi} (hP : D.P e.pipe = some p) : readO D N i a = (p.1.take a.toNat, rdE p.2.2 p.1 a, { D with P := fun j => if j = e.pipe then some (p.1.drop a.toNat, p.2.1, p.2.2) else D.P j }) := by
  unfold readO; rw [if_pos (hasN_yes hi hiL h0), getD_in hiL, he]; simp only; rw [if_neg hp, if_neg hk, hP]
theorem writeO_false (hp : e.prot = 1) : writeO D N i s a = (0, 13, D) := by
  unfold writeO; rw [if_pos (hasN_yes hi hiL h0), getD_in hiL, he]; simp only; rw [if_pos hp]
theorem writeO_limit (hk : e.kind = 1) (hp : e.prot ≠ 1) (hl : tooMuch s a e.pos) : writeO D N i s a = (0, 4, D) := by
  unfold writeO; rw [if_pos (hasN_yes hi hiL h0), getD_in hiL, he]; simp only; rw [if_neg hp, if_pos hk, if_pos hl]
theorem writeO_bad (hk : e.kind = 1) (hp : e.prot ≠ 1) (hl : ¬ tooMuch s a e.pos) (hE : writeE D.T e.node e.pos s ≠ 0) : writeO D N i s a = (0, writeE D.T e.node e.pos s, D) := by
  unfold writeO; rw [if_pos (hasN_yes hi hiL h0), getD_in hiL, he]; simp only; rw [if_neg hp, if_pos hk, if_neg hl, if_pos hE]
theorem writeO_file (hk : e.kind = 1) (hp : e.prot ≠ 1) (hl : ¬ tooMuch s a e.pos) (hE : writeE D.T e.node e.pos s = 0) : writeO D N i s a = ((s.length : Int), 0, { D with T := writeN D.T e.node e.pos s, E := fun j => if j = N[i].1 then some { e with pos := e.pos + s.length } else D.E j }) := by
  unfold writeO; rw [if_pos (hasN_yes hi hiL h0), getD_in hiL, he]; simp only; rw [if_neg hp, if_pos hk, if_neg hl, if_neg (fun h => h hE)]
theorem writeO_end (hk : e.kind ≠ 1) (hp : e.prot ≠ 1) {p : Pi} (hP : D.P e.pipe = some p) : writeO D N i s a = ((wrN p.2.1 p.1 s : Int), wrE p.2.1 p.1 s, { D with P := fun j => if j = e.pipe then some (wrB p.2.1 p.1 s, p.2.1, p.2.2) else D.P j }) := by
  unfold writeO; rw [if_pos (hasN_yes hi hiL h0), getD_in hiL, he]; simp only; rw [if_neg hp, if_neg hk, hP]
end
end Go.Proofs.YtcfhanoekniaaaaGreatDoor

namespace Go.Proofs.YtcfhanoekniaaaaGreatDoor
open Go.RowKit Go.Maps

/-- Directories, and how often files are held, are small. -/
def Sm (k : Nat) (T : Wd) : Prop := (∀ i C, T i = some (.dir C) → C.length ≤ k) ∧ ∀ i b x, T i = some (.file b x) → x ≤ k ∧ b.length ≤ 200
section
variable {T : Wd} {k : Nat}
theorem Sm.more (h : Sm k T) {k' : Nat} (hk : k ≤ k') : Sm k' T := ⟨fun i C e => Nat.le_trans (h.1 i C e) hk, fun i b x e => ⟨Nat.le_trans (h.2 i b x e).1 hk, (h.2 i b x e).2⟩⟩
theorem Sm.set (h : Sm k T) (n : Int) {nd : Nd} (hd : ∀ C, nd = .dir C → C.length ≤ k) (hf : ∀ b x, nd = .file b x → x ≤ k ∧ b.length ≤ 200) : Sm k (setT T n nd) := by
  refine ⟨fun i C e => ?_, fun i b x e => ?_⟩
  · by_cases e1 : i = n
    · subst e1; rw [setT_same] at e; exact hd C (Option.some.inj e)
    · rw [setT_other _ e1] at e; exact h.1 i C e
  · by_cases e1 : i = n
    · subst e1; rw [setT_same] at e; exact hf b x (Option.some.inj e)
    · rw [setT_other _ e1] at e; exact h.2 i b x e
theorem Sm.add (h : Sm k T) (d n : Int) (nm : Nm) : Sm (k + 1) (addT T d nm n) := by
  cases hd : T d with
  | none => rw [show addT T d nm n = T by unfold addT; rw [hd]]; exact h.more (by omega)
  | some nd => cases nd with
    | file b x => rw [show addT T d nm n = T by unfold addT; rw [hd]]; exact h.more (by omega)
    | dir C =>
      rw [addT_eq hd]
      exact (h.more (Nat.le_succ k)).set d (fun C' e => by cases e; have := h.1 d C hd; simp; omega) (fun b x e => by cases e)
theorem Sm.sweep (h : Sm k T) : Sm k (sweepT T) := ⟨fun i C e => h.1 i C (sweepT_sub e), fun i b x e => h.2 i b x (sweepT_sub e)⟩
theorem Sm.write (h : Sm k T) (n a : Int) (x : List UInt8) : Sm (k + 1) (writeN T n a x) := by
  unfold writeN
  by_cases hh : writeE T n a x ≠ 0 ∨ x = []
  · rw [if_pos hh]; exact h.more (by omega)
  · rw [if_neg hh]
    cases e : T n with
    | none => exact h.more (by omega)
    | some nd => cases nd with
      | dir C => exact h.more (by omega)
      | file b y =>
        simp only
        refine (h.set n (fun C e9 => by cases e9) (fun b' x' e9 => ?_)).more (by omega)
        cases e9
        have h2 := h.2 n b y e
        refine ⟨h2.1, ?_⟩
        have hE : writeE T n a x = 0 := by
          by_cases e9 : writeE T n a x = 0
          · exact e9
          · exact absurd (.inl e9) hh
        unfold writeE at hE
        have hf : fileT T n = 0 := by unfold fileT; rw [e]
        rw [if_neg (fun e => e hf)] at hE
        by_cases ha : a < 0
        · rw [if_pos ha] at hE; omega
        · rw [if_neg ha] at hE
          by_cases hl : (200 : Int) < x.length ∨ 200 - (x.length : Int) < a
          · rw [if_pos hl] at hE; omega
          · rw [overT_len]; omega
/-- What else holds is kept. -/
theorem TrLv.hold (hT : TrLv T) (n : Int) {by' : Int} (hb : by' = 1 ∨ by' = -1) (hx : ∀ b x, T n = some (.file b x) → x + 1 ≤ 1000) : TrLv (holdN T n by') := by
  by_cases hz : fileT T n = 0
  · obtain ⟨b, x, hn⟩ := fileT_zero hz
    rcases hb with rfl | rfl
    · have hT' := hT.setF (b' := b) (x' := x + 1) hn (hT.small n b x hn).1 (hx b x hn) (.inl (by omega))
      have hN : holdN T n 1 = setT T n (.file b (x + 1)) := by
        unfold holdN; rw [hn]; simp only
        rw [if_neg (by omega), show ((x : Int) + 1).toNat = x + 1 by omega]
        exact sweep_none hT'.toTrOk hT'.lv
      rw [hN]; exact hT'
    · cases x with
      | zero =>
        have hN : holdN T n (-1) = T := by unfold holdN; rw [hn]; simp only; rw [if_pos (by omega)]
        rw [hN]; exact hT
      | succ x => exact (drop_turn hT hn).2.2
  · have hN : holdN T n by' = T := by
      unfold holdN
      cases hn : T n with
      | none => rfl
      | some nd => cases nd with
        | dir C => rfl
        | file b x => exact absurd (by unfold fileT; rw [hn]) hz
    rw [hN]; exact hT
theorem TrLv.same_file (hT : TrLv T) {n : Int} {b b' : List UInt8} {x : Nat} (hn : T n = some (.file b x)) (hb : b'.length ≤ 256) : TrLv (setT T n (.file b' x)) := by
  refine hT.setF hn hb (hT.small n b x hn).2 ?_
  rcases hT.lv n _ hn with e | e | e
  · exact absurd e (file_nz hT.toTrOk hn)
  · exact .inr e
  · exact .inl e
theorem TrLv.write (hT : TrLv T) (n a : Int) (x : List UInt8) : TrLv (writeN T n a x) := by
  unfold writeN
  split
  · exact hT
  · rename_i hh
    split
    · rename_i b y e
      refine hT.same_file e ?_
      have hE : writeE T n a x = 0 := by
        by_cases e9 : writeE T n a x = 0
        · exact e9
        · exact absurd (.inl e9) hh
      have hs := (hT.small n b y e).1
      unfold writeE at hE
      have hf : fileT T n = 0 := by unfold fileT; rw [e]
      rw [if_neg (fun e => e hf)] at hE
      by_cases ha : a < 0
      · rw [if_pos ha] at hE; omega
      · rw [if_neg ha] at hE
        by_cases hl : (200 : Int) < x.length ∨ 200 - (x.length : Int) < a
        · rw [if_pos hl] at hE; omega
        · rw [overT_len]; omega
    · exact hT
end
end Go.Proofs.YtcfhanoekniaaaaGreatDoor

namespace Go.Proofs.YtcfhanoekniaaaaGreatDoor
open Go.RowKit Go.Maps

/-- One number more of an ENTRY. -/
def incR (D : DS) (d : Int) : DS := { D with R := fun j => if j = d then some ((D.R j).getD 0 + 1) else D.R j }
theorem incR_eq {D : DS} {d c : Int} (hc : D.R d = some c) : incR D d = { D with R := fun j => if j = d then some (c + 1) else D.R j } := by
  unfold incR
  congr 1
  funext j
  split
  · rename_i e; rw [e, hc]; rfl
  · rfl
/-- What is asked of the tree and of an ENTRY that is closed. -/
structure Cl (D : DS) (d : Int) (e : En) (c : Int) : Prop extends CanClose D d e c where
  lv : TrLv D.T
/-- Numbers of the table are of ENTRIES that are there. -/
def Live (D : DS) (N : Ns) : Prop := ∀ i (hi : i < N.length), 0 < N[i].1 → (D.E N[i].1).isSome = true
section
variable {D : DS} {d : Int} {e : En}
theorem closeK_more {c : Int} (hc : CanClose D d e c) (hm : 0 < c - 1) : closeK D d = { D with R := fun i => if i = d then some (c - 1) else D.R i } := by
  unfold closeK; rw [hc.ent, hc.cnt]; simp only; rw [if_pos hm]
theorem closeK_file {c : Int} (hc : CanClose D d e c) (hm : ¬ 0 < c - 1) (hk : e.kind = 1) : closeK D d = { T := holdN D.T e.node (-1), E := fun i => if i = d then none else D.E i, R := fun i => if i = d then none else if i = d then some (c - 1) else D.R i, P := D.P, nx := D.nx } := by
  unfold closeK; rw [hc.ent, hc.cnt]; simp only; rw [if_neg hm, if_pos hk]
theorem closeK_end {c : Int} (hc : CanClose D d e c) (hm : ¬ 0 < c - 1) (hk : e.kind ≠ 1) : closeK D d = { T := D.T, E := fun i => if i = d then none else D.E i, R := fun i => if i = d then none else if i = d then some (c - 1) else D.R i, P := fun i => if i = e.pipe then some (turnP ((D.P e.pipe).getD ([], 0, 0)) e.kind) else D.P i, nx := D.nx } := by
  unfold closeK; rw [hc.ent, hc.cnt]; simp only; rw [if_neg hm, if_neg hk]
end
/-- How often an ENTRY's number stands in a table; in all. -/
def cntN (d : Int) (N : Ns) : Nat := (N.filter (fun x => x.1 == d)).length
def cntS (d : Int) (Ts : List Ns) : Nat := (Ts.map (cntN d)).sum
theorem cntN_le (d : Int) (N : Ns) : cntN d N ≤ N.length := List.length_filter_le _ _
theorem cntN_set : ∀ (N : Ns) (d : Int) (i : Nat) (y : Int × Bool) (h : i < N.length), cntN d (N.set i y) + (if N[i].1 = d then 1 else 0) = cntN d N + (if y.1 = d then 1 else 0)
  | [], _, i, _, h => by simp at h
  | x :: N, d, 0, y, h => by
    simp only [List.set_cons_zero, List.getElem_cons_zero, cntN, List.filter_cons]
    by_cases e1 : x.1 = d <;> by_cases e2 : y.1 = d <;> simp [e1, e2]
  | x :: N, d, i + 1, y, h => by
    have ih := cntN_set N d i y (by simpa using h)
    simp only [List.set_cons_succ, List.getElem_cons_succ]
    unfold cntN at ih ⊢
    rw [List.filter_cons, List.filter_cons]
    by_cases e1 : x.1 = d
    · simp only [e1, beq_self_eq_true, if_true, List.length_cons]; omega
    · simp only [beq_eq_false_iff_ne.2 e1, Bool.false_eq_true, if_false]; omega
theorem cntS_set : ∀ (Ts : List Ns) (d : Int) (j : Nat) (N' : Ns) (h : j < Ts.length), cntS d (Ts.set j N') + cntN d Ts[j] = cntS d Ts + cntN d N'
  | [], _, j, _, h => by simp at h
  | x :: Ts, d, 0, N', h => by simp [cntS]; omega
  | x :: Ts, d, j + 1, N', h => by
    have ih := cntS_set Ts d j N' (by simpa using h)
    simp only [List.set_cons_succ, List.getElem_cons_succ]
    unfold cntS at ih ⊢
    simp only [List.map_cons, List.sum_cons]
    omega
/-- One number of one table turned. -/
theorem cnt_turn {Ts : List Ns} {j i : Nat} (hj : j < Ts.length) (hi : i < Ts[j].length) (d : Int) (y : Int × Bool) : cntS d (Ts.set j (Ts[j].set i y)) + (if Ts[j][i].1 = d then 1 else 0) = cntS d Ts + (if y.1 = d then 1 else 0) := by
  have h1 := cntS_set Ts d j (Ts[j].set i y) hj
  have h2 := cntN_set Ts[j] d i y hi
  omega
theorem cntS_le : ∀ (d : Int) (Ts : List Ns), (∀ N ∈ Ts, N.length = 8) → cntS d Ts ≤ 8 * Ts.length
  | _, [], _ => Nat.zero_le _
  | d, x :: Ts, h => by
    have ih := cntS_le d Ts (fun N hN => h N (List.mem_cons_of_mem _ hN))
    have h1 := cntN_le d x
    have h2 := h x List.mem_cons_self
    unfold cntS at ih ⊢
    simp only [List.map_cons, List.sum_cons, List.length_cons]
    omega
theorem cntN_pos {N : Ns} {i : Nat} (hi : i < N.length) : 0 < cntN N[i].1 N := List.length_pos_of_mem (List.mem_filter.2 ⟨List.getElem_mem hi, by simp⟩)
theorem cntS_pos : ∀ {Ts : List Ns} {j i : Nat} (hj : j < Ts.length) (hi : i < Ts[j].length), 0 < cntS Ts[j][i].1 Ts
  | x :: Ts, 0, i, _, hi => by
    have := cntN_pos (N := x) (i := i) hi
    simp only [cntS, List.map_cons, List.sum_cons, List.getElem_cons_zero]
    omega
  | x :: Ts, j + 1, i, hj, hi => by
    have ih := cntS_pos (Ts := Ts) (j := j) (i := i) (by simpa using hj) hi
    simp only [cntS, List.map_cons, List.sum_cons, List.getElem_cons_succ] at ih ⊢
    omega
/-- What holds of what is open, so many numbers of each ENTRY. -/
structure InvC (D : DS) (C : Int → Nat) (k : Nat) : Prop where
  giv : Given D
  lv : TrLv D.T
  sm : Sm k D.T
  ent : ∀ d e, D.E d = some e → EnOk D e
  cE : ∀ d, 0 < d → ((D.E d).isSome = true ↔ 0 < C d)
  cR : ∀ d, 0 < d → D.R d = if 0 < C d then some (C d : Int) else none
section
variable {D : DS} {C C' : Int → Nat} {k : Nat} {d : Int} {e : En}
theorem InvC.congr (h : InvC D C k) (hc : ∀ d, 0 < d → C d = C' d) : InvC D C' k :=
  ⟨h.giv, h.lv, h.sm, h.ent, fun d hd => by rw [← hc d hd]; exact h.cE d hd, fun d hd => by rw [← hc d hd]; exact h.cR d hd⟩
theorem InvC.more (h : InvC D C k) {k' : Nat} (hk : k ≤ k') : InvC D C k' := ⟨h.giv, h.lv, h.sm.more hk, h.ent, h.cE, h.cR⟩
theorem InvC.cl (h : InvC D C k) (hd : 0 < d) (hc : 0 < C d) (hb : C d < 100000) : ∃ e, Cl D d e (C d) := by
  obtain ⟨e, he⟩ := Option.isSome_iff_exists.1 ((h.cE d hd).2 hc)
  have ok := h.ent d e he
  have hg := h.giv.e d (by rw [he]; rfl)
  have hn := h.giv.n1
  refine ⟨e, ⟨hd, by omega, he, by rw [h.cR d hd, if_pos hc], by omega, by omega, ok.kind, fun hk => ?_, fun hk => ?_⟩, h.lv⟩
  · have := ok.file hk; omega
  · obtain ⟨a1, a2, p, a3, a4, a5, a6, a7, a8⟩ := ok.pipe hk
    exact ⟨by omega, by omega, p, a3, a4, a5, a6, a7, a8⟩
theorem EnOk.keep {D D' : DS} (h : EnOk D e) (hn : D.nx ≤ D'.nx) (hP : ∀ p x, D.P p = some x → x.1.length ≤ 16 → 0 ≤ x.2.1 → x.2.1 < 1000 → 0 ≤ x.2.2 → x.2.2 < 1000 → ∃ y, D'.P p = some y ∧ y.1.length ≤ 16 ∧ 0 ≤ y.2.1 ∧ y.2.1 < 1000 ∧ 0 ≤ y.2.2 ∧ y.2.2 < 1000) : EnOk D' e := by
  refine ⟨h.kind, h.file, h.frm, h.into, fun hk => ?_⟩
  obtain ⟨a1, a2, p, a3, a4, a5, a6, a7, a8⟩ := h.pipe hk
  exact ⟨a1, by omega, hP _ p a3 a4 a5 a6 a7 a8⟩
theorem EnOk.same {D D' : DS} (h : EnOk D e) (hn : D.nx ≤ D'.nx) (hP : D'.P = D.P) : EnOk D' e := h.keep hn (fun p x a b c d e f => ⟨x, by rw [hP]; exact a, b, c, d, e, f⟩)
/-- One number more. -/
theorem InvC.inc (h : InvC D C k) (hd : 0 < d) (hc : 0 < C d) : InvC (incR D d) (fun x => if x = d then C d + 1 else C x) k := by
  have hR : D.R d = some (C d : Int) := by rw [h.cR d hd, if_pos hc]
  rw [incR_eq hR]
  refine ⟨⟨h.giv.n0, h.giv.n1, h.giv.e, fun x hx => ?_, h.giv.p⟩, h.lv, h.sm, fun x ex hx => (h.ent x ex hx).same (Int.le_refl _) rfl, fun x hx => ?_, fun x hx => ?_⟩
  · have hx' : (if x = d then some ((C d : Int) + 1) else D.R x).isSome = true := hx
    by_cases e1 : x = d
    · subst e1; exact h.giv.r x (by rw [hR]; rfl)
    · rw [if_neg e1] at hx'; exact h.giv.r x hx'
  · show (D.E x).isSome = true ↔ 0 < (if x = d then C d + 1 else C x)
    rw [h.cE x hx]
    by_cases e1 : x = d
    · subst e1; simp [hc]
    · rw [if_neg e1]
  · show (if x = d then some ((C d : Int) + 1) else D.R x) = _
    by_cases e1 : x = d
    · subst e1
      simp
    · rw [if_neg e1, h.cR x hx]
      simp only [if_neg e1]
theorem Sm.drop {T : Wd} (h : Sm k T) (n : Int) : Sm k (holdN T n (-1)) := by
  unfold holdN
  split
  · rename_i b x e
    split
    · exact h
    · refine (h.set n (fun C e9 => by cases e9) (fun b' x' e9 => ?_)).sweep
      cases e9
      have := h.2 n b x e; exact ⟨by omega, this.2⟩
  · exact h
/-- One number less. -/
theorem InvC.close (h : InvC D C k) (hk : k ≤ 900) (hd : 0 < d) (hc : 0 < C d) (hb : C d < 100000) : InvC (closeK D d) (fun x => if x = d then C d - 1 else C x) k := by
  obtain ⟨e, cl⟩ := h.cl hd hc hb
  have hgd := h.giv.e d (by rw [cl.ent]; rfl)
  by_cases hm : 0 < ((C d : Int)) - 1
  · rw [closeK_more cl.toCanClose hm]
    refine ⟨⟨h.giv.n0, h.giv.n1, h.giv.e, fun x hx => ?_, h.giv.p⟩, h.lv, h.sm, fun x ex hx => (h.ent x ex hx).same (Int.le_refl _) rfl, fun x hx => ?_, fun x hx => ?_⟩
    · have hx' : (if x = d then some ((C d : Int) - 1) else D.R x).isSome = true := hx
      by_cases e1 : x = d
      · subst e1; exact hgd
      · rw [if_neg e1] at hx'; exact h.giv.r x hx'
    · show (D.E x).isSome = true ↔ 0 < (if x = d then C d - 1 else C x)
      rw [h.cE x hx]
      by_cases e1 : x = d
      · subst e1; rw [if_pos rfl]; omega
      · rw [if_neg e1]
    · show (if x = d then some ((C d : Int) - 1) else D.R x) = _
      by_cases e1 : x = d
      · subst e1
        simp only [if_true]
        rw [if_pos (by omega)]
        congr 1; omega
      · rw [if_neg e1, h.cR x hx]
        simp only [if_neg e1]
  · have hc1 : C d = 1 := by omega
    have hE : ∀ x, 0 < x → ((if x = d then none else D.E x : Option En).isSome = true ↔ 0 < (if x = d then C d - 1 else C x)) := fun x hx => by
      by_cases e1 : x = d
      · subst e1; simp [hc1]
      · rw [if_neg e1, if_neg e1]; exact h.cE x hx
    have hR : ∀ x, 0 < x → (if x = d then none else if x = d then some ((C d : Int) - 1) else D.R x) = if 0 < (if x = d then C d - 1 else C x) then some (((if x = d then C d - 1 else C x : Nat)) : Int) else none := fun x hx => by
      by_cases e1 : x = d
      · subst e1; simp [hc1]
      · rw [if_neg e1, if_neg e1, h.cR x hx]
        simp only [if_neg e1]
    have hgE : ∀ x, (if x = d then none else D.E x : Option En).isSome = true → 0 < x ∧ x ≤ D.nx := fun x hx => by
      by_cases e1 : x = d
      · rw [if_pos e1] at hx; cases hx
      · rw [if_neg e1] at hx; exact h.giv.e x hx
    have hgR : ∀ x, (if x = d then none else if x = d then some ((C d : Int) - 1) else D.R x : Option Int).isSome = true → 0 < x ∧ x ≤ D.nx := fun x hx => by
      by_cases e1 : x = d
      · rw [if_pos e1] at hx; cases hx
      · rw [if_neg e1, if_neg e1] at hx; exact h.giv.r x hx
    by_cases hkd : e.kind = 1
    · rw [closeK_file cl.toCanClose hm hkd]
      refine ⟨⟨h.giv.n0, h.giv.n1, hgE, hgR, h.giv.p⟩, h.lv.hold e.node (.inr rfl) (fun b x hx => by have := (h.sm.2 _ b x hx).1; omega), h.sm.drop _, fun x ex hx => ?_, hE, hR⟩
      have hx' : (if x = d then none else D.E x : Option En) = some ex := hx
      by_cases e1 : x = d
      · rw [if_pos e1] at hx'; cases hx'
      · rw [if_neg e1] at hx'; exact (h.ent x ex hx').same (Int.le_refl _) rfl
    · obtain ⟨a1, a2, p, a3, a4, a5, a6, a7, a8⟩ := (h.ent d e cl.ent).pipe hkd
      rw [closeK_end cl.toCanClose hm hkd]
      refine ⟨⟨h.giv.n0, h.giv.n1, hgE, hgR, fun x hx => ?_⟩, h.lv, h.sm, fun x ex hx => ?_, hE, hR⟩
      · have hx' : (if x = e.pipe then some (turnP ((D.P e.pipe).getD ([], 0, 0)) e.kind) else D.P x).isSome = true := hx
        by_cases e1 : x = e.pipe
        · rw [e1]; exact ⟨a1, a2⟩
        · rw [if_neg e1] at hx'; exact h.giv.p x hx'
      · have hx' : (if x = d then none else D.E x : Option En) = some ex := hx
        by_cases e1 : x = d
        · rw [if_pos e1] at hx'; cases hx'
        · rw [if_neg e1] at hx'
          refine (h.ent x ex hx').keep (Int.le_refl _) (fun q y b1 b2 b3 b4 b5 b6 => ?_)
          by_cases e2 : q = e.pipe
          · refine ⟨turnP p e.kind, by show (if q = e.pipe then some (turnP ((D.P e.pipe).getD ([], 0, 0)) e.kind) else D.P q) = _; rw [if_pos e2, a3]; rfl, ?_⟩
            unfold turnP clF clI
            simp only
            refine ⟨a4, ?_, ?_, ?_, ?_⟩ <;> (split <;> omega)
          · exact ⟨y, (if_neg e2).trans b1, b2, b3, b4, b5, b6⟩
/-- An ENTRY less is never another one more. -/
theorem closeK_sub {x : Int} (h : ((closeK D d).E x).isSome = true) : (D.E x).isSome = true := by
  unfold closeK at h
  split at h
  · split at h
    · exact h
    · split at h
      · have h' : (if x = d then none else D.E x : Option En).isSome = true := h
        by_cases e1 : x = d
        · rw [if_pos e1] at h'; cases h'
        · rw [if_neg e1] at h'; exact h'
      · have h' : (if x = d then none else D.E x : Option En).isSome = true := h
        by_cases e1 : x = d
        · rw [if_pos e1] at h'; cases h'
        · rw [if_neg e1] at h'; exact h'
  · exact h
end
end Go.Proofs.YtcfhanoekniaaaaGreatDoor

/- What holds of all that is open, whatever was done: plainly. -/
import Derived.Test.YtjkneekfijibiabGreatDoorDRw
import Derived.Test.YtjkneekfijibiabGreatDoorXSm
import Derived.Test.YtjkneekfijibiabGreatDoorUDrop
namespace Go.Proofs.YtjkneekfijibiabGreatDoor
open Go.RowKit Go.Maps

/-- One number more of an ENTRY. -/
def incR (D : DS) (d : Int) : DS := { D with R := fun j => if j = d then some ((D.R j).getD 0 + 1) else D.R j }
theorem incR_eq {D : DS} {d c : Int} (hc : D.R d = some c) : incR D d = { D with R := fun j => if j = d then some (c + 1) else D.R j } := by
  unfold incR
  congr 1
  funext j
  split
  · rename_i e; rw [e, hc]; rfl
  · rfl
/-- What is asked of the tree and of an ENTRY that is closed. -/
structure Cl (D : DS) (d : Int) (e : En) (c : Int) : Prop extends CanClose D d e c where
  lv : TrLv D.T
/-- Numbers of the table are of ENTRIES that are there. -/
def Live (D : DS) (N : Ns) : Prop := ∀ i (hi : i < N.length), 0 < N[i].1 → (D.E N[i].1).isSome = true
section
variable {D : DS} {d : Int} {e : En}
theorem closeK_more {c : Int} (hc : CanClose D d e c) (hm : 0 < c - 1) : closeK D d = { D with R := fun i => if i = d then some (c - 1) else D.R i } := by
  unfold closeK; rw [hc.ent, hc.cnt]; simp only; rw [if_pos hm]
theorem closeK_file {c : Int} (hc : CanClose D d e c) (hm : ¬ 0 < c - 1) (hk : e.kind = 1) : closeK D d = { T := holdN D.T e.node (-1), E := fun i => if i = d then none else D.E i, R := fun i => if i = d then none else if i = d then some (c - 1) else D.R i, P := D.P, nx := D.nx } := by
  unfold closeK; rw [hc.ent, hc.cnt]; simp only; rw [if_neg hm, if_pos hk]
theorem closeK_end {c : Int} (hc : CanClose D d e c) (hm : ¬ 0 < c - 1) (hk : e.kind ≠ 1) : closeK D d = { T := D.T, E := fun i => if i = d then none else D.E i, R := fun i => if i = d then none else if i = d then some (c - 1) else D.R i, P := fun i => if i = e.pipe then some (turnP ((D.P e.pipe).getD ([], 0, 0)) e.kind) else D.P i, nx := D.nx } := by
  unfold closeK; rw [hc.ent, hc.cnt]; simp only; rw [if_neg hm, if_neg hk]
end
/-- How often an ENTRY's number stands in a table; in all. -/
def cntN (d : Int) (N : Ns) : Nat := (N.filter (fun x => x.1 == d)).length
def cntS (d : Int) (Ts : List Ns) : Nat := (Ts.map (cntN d)).sum
theorem cntN_le (d : Int) (N : Ns) : cntN d N ≤ N.length := List.length_filter_le _ _
theorem cntN_set : ∀ (N : Ns) (d : Int) (i : Nat) (y : Int × Bool) (h : i < N.length), cntN d (N.set i y) + (if N[i].1 = d then 1 else 0) = cntN d N + (if y.1 = d then 1 else 0)
  | [], _, i, _, h => by simp at h
  | x :: N, d, 0, y, h => by
    simp only [List.set_cons_zero, List.getElem_cons_zero, cntN, List.filter_cons]
    by_cases e1 : x.1 = d <;> by_cases e2 : y.1 = d <;> simp [e1, e2]
  | x :: N, d, i + 1, y, h => by
    have ih := cntN_set N d i y (by simpa using h)
    simp only [List.set_cons_succ, List.getElem_cons_succ]
    unfold cntN at ih ⊢
    rw [List.filter_cons, List.filter_cons]
    by_cases e1 : x.1 = d
    · simp only [e1, beq_self_eq_true, if_true, List.length_cons]; omega
    · simp only [beq_eq_false_iff_ne.2 e1, Bool.false_eq_true, if_false]; omega
theorem cntS_set : ∀ (Ts : List Ns) (d : Int) (j : Nat) (N' : Ns) (h : j < Ts.length), cntS d (Ts.set j N') + cntN d Ts[j] = cntS d Ts + cntN d N'
  | [], _, j, _, h => by simp at h
  | x :: Ts, d, 0, N', h => by simp [cntS]; omega
  | x :: Ts, d, j + 1, N', h => by
    have ih := cntS_set Ts d j N' (by simpa using h)
    simp only [List.set_cons_succ, List.getElem_cons_succ]
    unfold cntS at ih ⊢
    simp only [List.map_cons, List.sum_cons]
    omega
/-- One number of one table turned. -/
theorem cnt_turn {Ts : List Ns} {j i : Nat} (hj : j < Ts.length) (hi : i < Ts[j].length) (d : Int) (y : Int × Bool) : cntS d (Ts.set j (Ts[j].set i y)) + (if Ts[j][i].1 = d then 1 else 0) = cntS d Ts + (if y.1 = d then 1 else 0) := by
  have h1 := cntS_set Ts d j (Ts[j].set i y) hj
  have h2 := cntN_set Ts[j] d i y hi
  omega
theorem cntS_le : ∀ (d : Int) (Ts : List Ns), (∀ N ∈ Ts, N.length = 8) → cntS d Ts ≤ 8 * Ts.length
  | _, [], _ => Nat.zero_le _
  | d, x :: Ts, h => by
    have ih := cntS_le d Ts (fun N hN => h N (List.mem_cons_of_mem _ hN))
    have h1 := cntN_le d x
    have h2 := h x List.mem_cons_self
    unfold cntS at ih ⊢
    simp only [List.map_cons, List.sum_cons, List.length_cons]
    omega
theorem cntN_pos {N : Ns} {i : Nat} (hi : i < N.length) : 0 < cntN N[i].1 N := List.length_pos_of_mem (List.mem_filter.2 ⟨List.getElem_mem hi, by simp⟩)
theorem cntS_pos : ∀ {Ts : List Ns} {j i : Nat} (hj : j < Ts.length) (hi : i < Ts[j].length), 0 < cntS Ts[j][i].1 Ts
  | x :: Ts, 0, i, _, hi => by
    have := cntN_pos (N := x) (i := i) hi
    simp only [cntS, List.map_cons, List.sum_cons, List.getElem_cons_zero]
    omega
  | x :: Ts, j + 1, i, hj, hi => by
    have ih := cntS_pos (Ts := Ts) (j := j) (i := i) (by simpa using hj) hi
    simp only [cntS, List.map_cons, List.sum_cons, List.getElem_cons_succ] at ih ⊢
    omega
/-- What holds of what is open, so many numbers of each ENTRY. -/
structure InvC (D : DS) (C : Int → Nat) (k : Nat) : Prop where
  giv : Given D
  lv : TrLv D.T
  sm : Sm k D.T
  ent : ∀ d e, D.E d = some e → EnOk D e
  cE : ∀ d, 0 < d → ((D.E d).isSome = true ↔ 0 < C d)
  cR : ∀ d, 0 < d → D.R d = if 0 < C d then some (C d : Int) else none
section
variable {D : DS} {C C' : Int → Nat} {k : Nat} {d : Int} {e : En}
theorem InvC.congr (h : InvC D C k) (hc : ∀ d, 0 < d → C d = C' d) : InvC D C' k :=
  ⟨h.giv, h.lv, h.sm, h.ent, fun d hd => by rw [← hc d hd]; exact h.cE d hd, fun d hd => by rw [← hc d hd]; exact h.cR d hd⟩
theorem InvC.more (h : InvC D C k) {k' : Nat} (hk : k ≤ k') : InvC D C k' := ⟨h.giv, h.lv, h.sm.more hk, h.ent, h.cE, h.cR⟩
theorem InvC.cl (h : InvC D C k) (hd : 0 < d) (hc : 0 < C d) (hb : C d < 100000) : ∃ e, Cl D d e (C d) := by
  obtain ⟨e, he⟩ := Option.isSome_iff_exists.1 ((h.cE d hd).2 hc)
  have ok := h.ent d e he
  have hg := h.giv.e d (by rw [he]; rfl)
  have hn := h.giv.n1
  refine ⟨e, ⟨hd, by omega, he, by rw [h.cR d hd, if_pos hc], by omega, by omega, ok.kind, fun hk => ?_, fun hk => ?_⟩, h.lv⟩
  · have := ok.file hk; omega
  · obtain ⟨a1, a2, p, a3, a4, a5, a6, a7, a8⟩ := ok.pipe hk
    exact ⟨by omega, by omega, p, a3, a4, a5, a6, a7, a8⟩
theorem EnOk.keep {D D' : DS} (h : EnOk D e) (hn : D.nx ≤ D'.nx) (hP : ∀ p x, D.P p = some x → x.1.length ≤ 16 → 0 ≤ x.2.1 → x.2.1 < 1000 → 0 ≤ x.2.2 → x.2.2 < 1000 → ∃ y, D'.P p = some y ∧ y.1.length ≤ 16 ∧ 0 ≤ y.2.1 ∧ y.2.1 < 1000 ∧ 0 ≤ y.2.2 ∧ y.2.2 < 1000) : EnOk D' e := by
  refine ⟨h.kind, h.file, h.frm, h.into, fun hk => ?_⟩
  obtain ⟨a1, a2, p, a3, a4, a5, a6, a7, a8⟩ := h.pipe hk
  exact ⟨a1, by omega, hP _ p a3 a4 a5 a6 a7 a8⟩
theorem EnOk.same {D D' : DS} (h : EnOk D e) (hn : D.nx ≤ D'.nx) (hP : D'.P = D.P) : EnOk D' e := h.keep hn (fun p x a b c d e f => ⟨x, by rw [hP]; exact a, b, c, d, e, f⟩)
/-- One number more. -/
theorem InvC.inc (h : InvC D C k) (hd : 0 < d) (hc : 0 < C d) : InvC (incR D d) (fun x => if x = d then C d + 1 else C x) k := by
  have hR : D.R d = some (C d : Int) := by rw [h.cR d hd, if_pos hc]
  rw [incR_eq hR]
  refine ⟨⟨h.giv.n0, h.giv.n1, h.giv.e, fun x hx => ?_, h.giv.p⟩, h.lv, h.sm, fun x ex hx => (h.ent x ex hx).same (Int.le_refl _) rfl, fun x hx => ?_, fun x hx => ?_⟩
  · have hx' : (if x = d then some ((C d : Int) + 1) else D.R x).isSome = true := hx
    by_cases e1 : x = d
    · subst e1; exact h.giv.r x (by rw [hR]; rfl)
    · rw [if_neg e1] at hx'; exact h.giv.r x hx'
  · show (D.E x).isSome = true ↔ 0 < (if x = d then C d + 1 else C x)
    rw [h.cE x hx]
    by_cases e1 : x = d
    · subst e1; simp [hc]
    · rw [if_neg e1]
  · show (if x = d then some ((C d : Int) + 1) else D.R x) = _
    by_cases e1 : x = d
    · subst e1
      simp
    · rw [if_neg e1, h.cR x hx]
      simp only [if_neg e1]
theorem Sm.drop {T : Wd} (h : Sm k T) (n : Int) : Sm k (holdN T n (-1)) := by
  unfold holdN
  split
  · rename_i b x e
    split
    · exact h
    · refine (h.set n (fun C e9 => by cases e9) (fun b' x' e9 => ?_)).sweep
      cases e9
      have := h.2 n b x e; exact ⟨by omega, this.2⟩
  · exact h
/-- One number less. -/
theorem InvC.close (h : InvC D C k) (hk : k ≤ 900) (hd : 0 < d) (hc : 0 < C d) (hb : C d < 100000) : InvC (closeK D d) (fun x => if x = d then C d - 1 else C x) k := by
  obtain ⟨e, cl⟩ := h.cl hd hc hb
  have hgd := h.giv.e d (by rw [cl.ent]; rfl)
  by_cases hm : 0 < ((C d : Int)) - 1
  · rw [closeK_more cl.toCanClose hm]
    refine ⟨⟨h.giv.n0, h.giv.n1, h.giv.e, fun x hx => ?_, h.giv.p⟩, h.lv, h.sm, fun x ex hx => (h.ent x ex hx).same (Int.le_refl _) rfl, fun x hx => ?_, fun x hx => ?_⟩
    · have hx' : (if x = d then some ((C d : Int) - 1) else D.R x).isSome = true := hx
      by_cases e1 : x = d
      · subst e1; exact hgd
      · rw [if_neg e1] at hx'; exact h.giv.r x hx'
    · show (D.E x).isSome = true ↔ 0 < (if x = d then C d - 1 else C x)
      rw [h.cE x hx]
      by_cases e1 : x = d
      · subst e1; rw [if_pos rfl]; omega
      · rw [if_neg e1]
    · show (if x = d then some ((C d : Int) - 1) else D.R x) = _
      by_cases e1 : x = d
      · subst e1
        simp only [if_true]
        rw [if_pos (by omega)]
        congr 1; omega
      · rw [if_neg e1, h.cR x hx]
        simp only [if_neg e1]
  · have hc1 : C d = 1 := by omega
    have hE : ∀ x, 0 < x → ((if x = d then none else D.E x : Option En).isSome = true ↔ 0 < (if x = d then C d - 1 else C x)) := fun x hx => by
      by_cases e1 : x = d
      · subst e1; simp [hc1]
      · rw [if_neg e1, if_neg e1]; exact h.cE x hx
    have hR : ∀ x, 0 < x → (if x = d then none else if x = d then some ((C d : Int) - 1) else D.R x) = if 0 < (if x = d then C d - 1 else C x) then some (((if x = d then C d - 1 else C x : Nat)) : Int) else none := fun x hx => by
      by_cases e1 : x = d
      · subst e1; simp [hc1]
      · rw [if_neg e1, if_neg e1, h.cR x hx]
        simp only [if_neg e1]
    have hgE : ∀ x, (if x = d then none else D.E x : Option En).isSome = true → 0 < x ∧ x ≤ D.nx := fun x hx => by
      by_cases e1 : x = d
      · rw [if_pos e1] at hx; cases hx
      · rw [if_neg e1] at hx; exact h.giv.e x hx
    have hgR : ∀ x, (if x = d then none else if x = d then some ((C d : Int) - 1) else D.R x : Option Int).isSome = true → 0 < x ∧ x ≤ D.nx := fun x hx => by
      by_cases e1 : x = d
      · rw [if_pos e1] at hx; cases hx
      · rw [if_neg e1, if_neg e1] at hx; exact h.giv.r x hx
    by_cases hkd : e.kind = 1
    · rw [closeK_file cl.toCanClose hm hkd]
      refine ⟨⟨h.giv.n0, h.giv.n1, hgE, hgR, h.giv.p⟩, h.lv.hold e.node (.inr rfl) (fun b x hx => by have := (h.sm.2 _ b x hx).1; omega), h.sm.drop _, fun x ex hx => ?_, hE, hR⟩
      have hx' : (if x = d then none else D.E x : Option En) = some ex := hx
      by_cases e1 : x = d
      · rw [if_pos e1] at hx'; cases hx'
      · rw [if_neg e1] at hx'; exact (h.ent x ex hx').same (Int.le_refl _) rfl
    · obtain ⟨a1, a2, p, a3, a4, a5, a6, a7, a8⟩ := (h.ent d e cl.ent).pipe hkd
      rw [closeK_end cl.toCanClose hm hkd]
      refine ⟨⟨h.giv.n0, h.giv.n1, hgE, hgR, fun x hx => ?_⟩, h.lv, h.sm, fun x ex hx => ?_, hE, hR⟩
      · have hx' : (if x = e.pipe then some (turnP ((D.P e.pipe).getD ([], 0, 0)) e.kind) else D.P x).isSome = true := hx
        by_cases e1 : x = e.pipe
        · rw [e1]; exact ⟨a1, a2⟩
        · rw [if_neg e1] at hx'; exact h.giv.p x hx'
      · have hx' : (if x = d then none else D.E x : Option En) = some ex := hx
        by_cases e1 : x = d
        · rw [if_pos e1] at hx'; cases hx'
        · rw [if_neg e1] at hx'
          refine (h.ent x ex hx').keep (Int.le_refl _) (fun q y b1 b2 b3 b4 b5 b6 => ?_)
          by_cases e2 : q = e.pipe
          · refine ⟨turnP p e.kind, by show (if q = e.pipe then some (turnP ((D.P e.pipe).getD ([], 0, 0)) e.kind) else D.P q) = _; rw [if_pos e2, a3]; rfl, ?_⟩
            unfold turnP clF clI
            simp only
            refine ⟨a4, ?_, ?_, ?_, ?_⟩ <;> (split <;> omega)
          · exact ⟨y, (if_neg e2).trans b1, b2, b3, b4, b5, b6⟩
/-- An ENTRY less is never another one more. -/
theorem closeK_sub {x : Int} (h : ((closeK D d).E x).isSome = true) : (D.E x).isSome = true := by
  unfold closeK at h
  split at h
  · split at h
    · exact h
    · split at h
      · have h' : (if x = d then none else D.E x : Option En).isSome = true := h
        by_cases e1 : x = d
        · rw [if_pos e1] at h'; cases h'
        · rw [if_neg e1] at h'; exact h'
      · have h' : (if x = d then none else D.E x : Option En).isSome = true := h
        by_cases e1 : x = d
        · rw [if_pos e1] at h'; cases h'
        · rw [if_neg e1] at h'; exact h'
  · exact h
end
end Go.Proofs.YtjkneekfijibiabGreatDoor

namespace Go.Proofs.YtjkneekfijibiabGreatDoor
open Go.RowKit Go.Maps

/-- So it stands with all tables. -/
structure Inv (D : DS) (Ts : List Ns) (k : Nat) : Prop where
  core : InvC D (fun d => cntS d Ts) k
  tab : ∀ N ∈ Ts, N.length = 8 ∧ ∀ x ∈ N, 0 ≤ x.1 ∧ (x.1 = 0 → x.2 = false)
  few : Ts.length ≤ 8
/-- A number of the table is of an ENTRY with a count. -/
def Cnted (D : DS) (N : Ns) : Prop := ∀ i (hi : i < N.length), 0 < N[i].1 → ∃ e c, D.E N[i].1 = some e ∧ D.R N[i].1 = some c ∧ 0 ≤ c ∧ c < 100000
section
variable {D : DS} {Ts : List Ns} {k j i : Nat} {d : Int} {e : En}
theorem Cnted.live {N : Ns} (h : Cnted D N) : Live D N := fun i hi h0 => by
  obtain ⟨e, c, h1, _⟩ := h i hi h0
  rw [h1]; rfl
theorem Inv.more (h : Inv D Ts k) {k' : Nat} (hk : k ≤ k') : Inv D Ts k' := ⟨h.core.more hk, h.tab, h.few⟩
theorem Inv.len (h : Inv D Ts k) (hj : j < Ts.length) : Ts[j].length = 8 := (h.tab _ (List.getElem_mem hj)).1
theorem Inv.few64 (h : Inv D Ts k) (d : Int) : cntS d Ts ≤ 64 := by
  have := cntS_le d Ts (fun N hN => (h.tab N hN).1)
  have := h.few
  omega
theorem Inv.cl (h : Inv D Ts k) (hj : j < Ts.length) (hi : i < Ts[j].length) (h0 : 0 < Ts[j][i].1) : ∃ e, Cl D Ts[j][i].1 e (cntS Ts[j][i].1 Ts) :=
  h.core.cl h0 (cntS_pos hj hi) (by have := h.few64 Ts[j][i].1; omega)
theorem Inv.cnted (h : Inv D Ts k) (hj : j < Ts.length) : Cnted D Ts[j] := fun i hi h0 => by
  obtain ⟨e, c⟩ := h.cl hj hi h0
  exact ⟨e, _, c.ent, c.cnt, by omega, c.c1⟩
theorem Inv.live (h : Inv D Ts k) (hj : j < Ts.length) : Live D Ts[j] := (h.cnted hj).live
theorem tab_set {P : Ns → Prop} {N' : Ns} (h : ∀ N ∈ Ts, P N) (hN : P N') : ∀ N ∈ Ts.set j N', P N := fun N hm => by
  rcases List.mem_or_eq_of_mem_set hm with h1 | h1
  · exact h N h1
  · rw [h1]; exact hN
theorem row_set {N : Ns} (h : N.length = 8 ∧ ∀ x ∈ N, 0 ≤ x.1 ∧ (x.1 = 0 → x.2 = false)) (y : Int × Bool) (hy : 0 ≤ y.1 ∧ (y.1 = 0 → y.2 = false)) : (N.set i y).length = 8 ∧ ∀ x ∈ N.set i y, 0 ≤ x.1 ∧ (x.1 = 0 → x.2 = false) := by
  refine ⟨by rw [List.length_set]; exact h.1, fun x hx => ?_⟩
  rcases List.mem_or_eq_of_mem_set hx with h1 | h1
  · exact h.2 x h1
  · rw [h1]; exact hy
theorem Inv.close (h : Inv D Ts k) (hk : k ≤ 900) (hj : j < Ts.length) (hi : i < Ts[j].length) (h0 : 0 < Ts[j][i].1) : Inv (closeK D Ts[j][i].1) (Ts.set j (Ts[j].set i (0, false))) k := by
  have hb := h.few64 Ts[j][i].1
  refine ⟨(h.core.close hk h0 (cntS_pos hj hi) (by omega)).congr (fun x hx => ?_), tab_set h.tab (row_set (h.tab _ (List.getElem_mem hj)) _ ⟨by simp, fun _ => rfl⟩), by rw [List.length_set]; exact h.few⟩
  have ht := cnt_turn hj hi x (0, false)
  have hp := cntS_pos hj hi
  simp only at ht ⊢
  rw [if_neg (show ¬ (0 : Int) = x by omega)] at ht
  by_cases e1 : x = Ts[j][i].1
  · rw [if_pos e1]
    rw [if_pos e1.symm] at ht
    rw [← e1]
    omega
  · rw [if_neg e1]
    rw [if_neg (fun z => e1 z.symm)] at ht
    omega
/-- One number more, at a free place. -/
theorem Inv.dup (h : Inv D Ts k) (hj : j < Ts.length) (hi : i < Ts[j].length) (h0 : Ts[j][i].1 = 0) (hd : 0 < d) (hc : 0 < cntS d Ts) (c : Bool) : Inv (incR D d) (Ts.set j (Ts[j].set i (d, c))) k := by
  refine ⟨(h.core.inc hd hc).congr (fun x hx => ?_), tab_set h.tab (row_set (h.tab _ (List.getElem_mem hj)) _ ⟨by simp; omega, fun z => by simp at z; omega⟩), by rw [List.length_set]; exact h.few⟩
  have ht := cnt_turn hj hi x (d, c)
  simp only at ht ⊢
  rw [h0, if_neg (show ¬ (0 : Int) = x by omega)] at ht
  by_cases e1 : x = d
  · subst e1
    rw [if_pos rfl] at ht ⊢
    omega
  · rw [if_neg e1]
    rw [if_neg (fun z => e1 z.symm)] at ht
    omega
/-- Dup2 onto what is another one's. -/
theorem Inv.dup2 (h : Inv D Ts k) (hk : k ≤ 900) (hj : j < Ts.length) (hi : i < Ts[j].length) (h0 : 0 < Ts[j][i].1) (hd : 0 < d) (hc : 0 < cntS d Ts) : Inv (closeK (incR D d) Ts[j][i].1) (Ts.set j (Ts[j].set i (d, false))) k ∧ ∃ e c, Cl (incR D d) Ts[j][i].1 e c := by
  have h1 := h.core.inc hd hc
  have hp := cntS_pos hj hi
  have hb := h.few64 Ts[j][i].1
  have hb2 : (if Ts[j][i].1 = d then cntS d Ts + 1 else cntS Ts[j][i].1 Ts) < 100000 := by
    by_cases e1 : Ts[j][i].1 = d
    · rw [if_pos e1, ← e1]; omega
    · rw [if_neg e1]; omega
  have hp2 : 0 < (if Ts[j][i].1 = d then cntS d Ts + 1 else cntS Ts[j][i].1 Ts) := by
    by_cases e1 : Ts[j][i].1 = d
    · rw [if_pos e1]; omega
    · rw [if_neg e1]; omega
  obtain ⟨e, cl⟩ := h1.cl h0 hp2 hb2
  refine ⟨⟨(h1.close hk h0 hp2 hb2).congr (fun x hx => ?_), tab_set h.tab (row_set (h.tab _ (List.getElem_mem hj)) _ ⟨by simp; omega, fun z => by simp at z; omega⟩), by rw [List.length_set]; exact h.few⟩, e, _, cl⟩
  have ht := cnt_turn hj hi x (d, false)
  simp only at ht ⊢
  by_cases e1 : x = Ts[j][i].1
  · rw [if_pos e1]
    rw [if_pos e1.symm] at ht
    rw [← e1]
    by_cases e2 : x = d
    · subst e2
      rw [if_pos rfl] at ht ⊢
      omega
    · rw [if_neg e2]
      rw [if_neg (fun z => e2 z.symm)] at ht
      omega
  · rw [if_neg e1]
    rw [if_neg (fun z => e1 z.symm)] at ht
    by_cases e2 : x = d
    · subst e2
      rw [if_pos rfl] at ht ⊢
      omega
    · rw [if_neg e2]
      rw [if_neg (fun z => e2 z.symm)] at ht
      omega
theorem Inv.mark (h : Inv D Ts k) (hj : j < Ts.length) (x : Int) (c : Bool) : Inv D (Ts.set j (markN Ts[j] x c)) k := by
  unfold markN
  split
  · rename_i hx
    obtain ⟨i, rfl, hi, hiL, h0⟩ := hasN_at hx (h.len hj)
    rw [getD_in hiL, show (i : Int).toNat = i by omega]
    refine ⟨h.core.congr (fun x hx => ?_), tab_set h.tab (row_set (h.tab _ (List.getElem_mem hj)) _ ⟨by simp; omega, fun z => by simp at z; omega⟩), by rw [List.length_set]; exact h.few⟩
    have ht := cnt_turn hj hiL x (Ts[j][i].1, c)
    simp only at ht ⊢
    omega
  · rw [List.set_getElem_self]; exact h
/-- An ENTRY's own turn. -/
theorem Inv.putE (h : Inv D Ts k) (he : D.E d = some e) {e' : En} (hok : EnOk D e') : Inv { D with E := fun i => if i = d then some e' else D.E i } Ts k := by
  have hs : ∀ x, (if x = d then some e' else D.E x).isSome = (D.E x).isSome := fun x => by
    by_cases e1 : x = d
    · rw [if_pos e1, e1, he]; rfl
    · rw [if_neg e1]
  refine ⟨⟨⟨h.core.giv.n0, h.core.giv.n1, fun x hx => h.core.giv.e x (by rw [← hs]; exact hx), h.core.giv.r, h.core.giv.p⟩, h.core.lv, h.core.sm, fun x ex hx => ?_, fun x hx => by show (if x = d then some e' else D.E x).isSome = true ↔ _; rw [hs]; exact h.core.cE x hx, h.core.cR⟩, h.tab, h.few⟩
  have hx' : (if x = d then some e' else D.E x) = some ex := hx
  by_cases e1 : x = d
  · rw [if_pos e1] at hx'
    obtain rfl := Option.some.inj hx'
    exact hok.same (Int.le_refl _) rfl
  · rw [if_neg e1] at hx'
    exact (h.core.ent x ex hx').same (Int.le_refl _) rfl
/-- A pipe's own turn. -/
theorem Inv.putP (h : Inv D Ts k) {p : Int} {x y : Pi} (hp : D.P p = some x) (hy : y.1.length ≤ 16 ∧ 0 ≤ y.2.1 ∧ y.2.1 < 1000 ∧ 0 ≤ y.2.2 ∧ y.2.2 < 1000) : Inv { D with P := fun i => if i = p then some y else D.P i } Ts k := by
  refine ⟨⟨⟨h.core.giv.n0, h.core.giv.n1, h.core.giv.e, h.core.giv.r, fun q hq => ?_⟩, h.core.lv, h.core.sm, fun q ex hx => (h.core.ent q ex hx).keep (Int.le_refl _) (fun r z a b c d e f => ?_), h.core.cE, h.core.cR⟩, h.tab, h.few⟩
  · have hq' : (if q = p then some y else D.P q).isSome = true := hq
    by_cases e1 : q = p
    · rw [e1]; exact h.core.giv.p p (by rw [hp]; rfl)
    · rw [if_neg e1] at hq'; exact h.core.giv.p q hq'
  · by_cases e1 : r = p
    · exact ⟨y, if_pos e1, hy⟩
    · exact ⟨z, (if_neg e1).trans a, b, c, d, e, f⟩
/-- The tree's own turn. -/
theorem Inv.putT (h : Inv D Ts k) {T' : Wd} {k' : Nat} (hT : TrLv T') (hs : Sm k' T') : Inv { D with T := T' } Ts k' :=
  ⟨⟨⟨h.core.giv.n0, h.core.giv.n1, h.core.giv.e, h.core.giv.r, h.core.giv.p⟩, hT, hs, fun q ex hx => (h.core.ent q ex hx).same (Int.le_refl _) rfl, h.core.cE, h.core.cR⟩, h.tab, h.few⟩
theorem Inv.unlink (h : Inv D Ts k) (p : List UInt8) : Inv { D with T := unlinkN D.T p } Ts (k + 1) := h.putT (h.core.lv.unlink p) (h.core.sm.unlink p)
/-- A new ENTRY, for a free number. -/
theorem Inv.add (h : Inv D Ts k) (hn : D.nx < 899) (hj : j < Ts.length) (hl : ¬ leastN Ts[j] < 0) (hok : EnOk (addD D e) e) : Inv (addD D e) (Ts.set j (addN D Ts[j])) k := by
  have g := h.core.giv
  obtain ⟨n1, n2, n3⟩ := g.new
  rcases least_lt (N := Ts[j]) with hx9 | ⟨i, hi, hiL, hi0⟩
  · omega
  have hN : addN D Ts[j] = Ts[j].set i (D.nx + 1, false) := by unfold addN; rw [hi, show (i : Int).toNat = i by omega]
  have h0 := g.n0
  have hz : cntS (D.nx + 1) Ts = 0 := by
    have := h.core.cE (D.nx + 1) (by omega)
    rw [n1] at this
    simp at this
    exact this
  rw [hN]
  have hcnt : ∀ x, 0 < x → cntS x (Ts.set j (Ts[j].set i (D.nx + 1, false))) = if x = D.nx + 1 then 1 else cntS x Ts := fun x hx => by
    have ht := cnt_turn hj hiL x (D.nx + 1, false)
    simp only at ht
    rw [hi0, if_neg (show ¬ (0 : Int) = x by omega)] at ht
    by_cases e1 : x = D.nx + 1
    · rw [if_pos e1]
      rw [if_pos e1.symm, e1, hz] at ht
      rw [e1]; omega
    · rw [if_neg e1]
      rw [if_neg (fun z => e1 z.symm)] at ht
      omega
  refine ⟨⟨g.add hn e, h.core.lv, h.core.sm, fun x ex hx => ?_, fun x hx => ?_, fun x hx => ?_⟩, tab_set h.tab (row_set (h.tab _ (List.getElem_mem hj)) _ ⟨by simp; omega, fun z => by simp at z; omega⟩), by rw [List.length_set]; exact h.few⟩
  · have hx' : (if x = D.nx + 1 then some e else D.E x) = some ex := hx
    by_cases e1 : x = D.nx + 1
    · rw [if_pos e1] at hx'
      obtain rfl := Option.some.inj hx'
      exact hok
    · rw [if_neg e1] at hx'
      exact (h.core.ent x ex hx').same (by show D.nx ≤ D.nx + 1; omega) rfl
  · show (if x = D.nx + 1 then some e else D.E x).isSome = true ↔ _
    rw [hcnt x hx]
    by_cases e1 : x = D.nx + 1
    · rw [if_pos e1, if_pos e1]; simp
    · rw [if_neg e1, if_neg e1]; exact h.core.cE x hx
  · show (if x = D.nx + 1 then some 1 else D.R x) = _
    rw [hcnt x hx]
    by_cases e1 : x = D.nx + 1
    · simp [e1]
    · rw [if_neg e1, if_neg e1, h.core.cR x hx]
theorem getT_set {Ts : List Ns} {j : Nat} (_ : j < Ts.length) (N' : Ns) (h : j < (Ts.set j N').length) : (Ts.set j N')[j] = N' := List.getElem_set_self h
theorem set_setT (Ts : List Ns) (j : Nat) (a b : Ns) : (Ts.set j a).set j b = Ts.set j b := List.set_set _
theorem Inv.setSelf (h : Inv D Ts k) (hj : j < Ts.length) : Inv D (Ts.set j Ts[j]) k := by rw [List.set_getElem_self]; exact h
/-- File keeps it. -/
theorem Inv.file {n s : Nat} {p : List UInt8} {pr : Int} {mk : Bool} {x c : Int} {D' : DS} {N' : Ns} (h : Inv D Ts k) (hk : k ≤ 890) (hn : D.nx < 899) (hj : j < Ts.length) (hs : IsNum D.T s) (hF : FileO D Ts[j] n s p pr mk x c D' N') : Inv D' (Ts.set j N') (k + 2) := by
  have hlv := h.core.lv
  have hadd : ∀ T' nd, TrLv T' → Sm (k + 2) T' → 1 ≤ pr ∧ pr ≤ 3 → 0 ≤ nd → nd < 1000 → roomy Ts[j] n → Inv (addD { D with T := T' } ⟨1, pr, nd, 0, 0⟩) (Ts.set j (addN D Ts[j])) (k + 2) := fun T' nd hT' hS' hp h0 h1 hr =>
    (h.putT (T' := T') hT' hS').add (D := { D with T := T' }) (e := ⟨1, pr, nd, 0, 0⟩) hn hj hr.1 ⟨.inl rfl, fun _ => ⟨hp.1, hp.2, h0, h1, by simp, by simp⟩, fun z => by simp at z, fun z => by simp at z, fun z => absurd rfl z⟩
  cases hF with
  | opened hp hr hE hh =>
    have hkey := hlv.key _ (findT_some hlv.toTrOk hE)
    exact hadd _ _ (hlv.hold _ (.inl rfl) (fun b x hx => by have := (h.core.sm.2 _ b x hx).1; omega)) ((h.core.sm.hold _ 1 (by omega)).more (by omega)) hp hkey.1 (by omega) hr
  | made hp hr hE hm hM z hz =>
    have hz64 : z < 64 := by
      have hmh := made_hold hlv.toTrOk hM hz
      have hs60 := (makeE_zero hlv.toTrOk hM).2.2.2
      have h9 := hs.free (k := z.toNat) (fun i hi => hz.least i (by omega) (by have := hz.pos; omega))
      have := hz.pos
      omega
    have hlv1 := hlv.make hM hz hz64 false
    have hmh := made_hold hlv.toTrOk hM hz
    exact hadd _ _ (hlv1.hold _ (.inl rfl) (fun b x hx => by have := hmh.2 b x hx; omega)) ((h.core.sm.make p false z).hold _ 1 (by omega)) hp hz.pos (by omega) hr
  | _ => exact (h.setSelf hj).more (by omega)
end
end Go.Proofs.YtjkneekfijibiabGreatDoor

namespace Go.Proofs.YtjkneekfijibiabGreatDoor
open Go.RowKit Go.Maps

/-- A table that is forked: all its numbers are doubled. -/
def forkD (D : DS) (N : Ns) : DS := N.foldl (fun D x => if 0 < x.1 then incR D x.1 else D) D
/-- Numbers freed, so many looked at: all, or those that are MARKED. -/
noncomputable def freeS (all : Bool) (D : DS) (N : Ns) : Nat → DS × Ns
  | 0 => (D, N)
  | i + 1 => if 0 < (N.getD i (0, false)).1 ∧ (all = true ∨ (N.getD i (0, false)).2 = true) then (closeK (freeS all D N i).1 (N.getD i (0, false)).1, (freeS all D N i).2.set i (0, false)) else freeS all D N i
section
variable {D : DS} {Ts : List Ns} {k j i : Nat} {d : Int} {e : En}
theorem Inv.seek (h : Inv D Ts k) (hj : j < Ts.length) (x a : Int) : Inv (seekD D Ts[j] x a) Ts k := by
  unfold seekD
  split
  · rename_i hz
    unfold seekE at hz
    split at hz
    · cases he : D.E (Ts[j].getD x.toNat (0, false)).1 with
      | none => exact h
      | some e =>
        rw [he] at hz
        simp only at hz ⊢
        have hok := h.core.ent _ e he
        by_cases hk : e.kind = 1
        · rw [if_neg (fun z => z hk)] at hz
          by_cases ha : 0 ≤ a ∧ a ≤ 200
          · refine h.putE he ⟨hok.kind, fun hk => ?_, hok.frm, hok.into, hok.pipe⟩
            have := hok.file hk
            exact ⟨this.1, this.2.1, this.2.2.1, this.2.2.2.1, ha.1, ha.2⟩
          · rw [if_neg ha] at hz; omega
        · rw [if_pos hk] at hz; omega
    · omega
  · exact h
theorem readS_end {T : Wd} {x a c : Int} (hs : Sm k T) (h0 : 0 ≤ a) (h1 : a ≤ 200) : a + (readS T x a c).length ≤ 200 := by
  unfold readS
  split
  · rename_i b y e
    have := (hs.2 x b y e).2
    split
    · simp; omega
    · rw [List.length_take, List.length_drop]; omega
  · simp; omega
theorem Inv.read (h : Inv D Ts k) (hj : j < Ts.length) (x a : Int) : Inv (readO D Ts[j] x a).2.2 Ts k := by
  unfold readO
  split
  · split
    · exact h
    · rename_i e he
      have hok := h.core.ent _ e he
      split
      · exact h
      · split
        · rename_i hk
          refine h.putE he ⟨hok.kind, fun hk => ?_, hok.frm, hok.into, hok.pipe⟩
          obtain ⟨a1, a2, a3, a4, a5, a6⟩ := hok.file hk
          have := readS_end (x := e.node) (c := a) h.core.sm a5 a6
          exact ⟨a1, a2, a3, a4, by simp only; omega, this⟩
        · rename_i hk
          obtain ⟨a1, a2, p, a3, a4, a5, a6, a7, a8⟩ := hok.pipe hk
          rw [a3]
          exact h.putP a3 ⟨by simp; omega, a5, a6, a7, a8⟩
  · exact h
theorem writeE_len {T : Wd} {x a : Int} {s : List UInt8} (h : writeE T x a s = 0) : a + s.length ≤ 200 := by
  unfold writeE at h
  split at h
  · omega
  · split at h
    · omega
    · split at h
      · omega
      · omega
theorem Inv.write (h : Inv D Ts k) (hj : j < Ts.length) (x : Int) (s : List UInt8) (a : Int) : Inv (writeO D Ts[j] x s a).2.2 Ts (k + 1) := by
  have h1 := h.more (Nat.le_succ k)
  unfold writeO
  split
  · split
    · exact h1
    · rename_i e he
      have hok := h.core.ent _ e he
      split
      · exact h1
      · split
        · rename_i hk
          split
          · exact h1
          · split
            · exact h1
            · rename_i hE
              have hE' : writeE D.T e.node e.pos s = 0 := by omega
              have h2 := h.putT (h.core.lv.write e.node e.pos s) (h.core.sm.write e.node e.pos s)
              refine h2.putE (D := { D with T := writeN D.T e.node e.pos s }) he ⟨hok.kind, fun hk => ?_, hok.frm, hok.into, hok.pipe⟩
              obtain ⟨a1, a2, a3, a4, a5, a6⟩ := hok.file hk
              have := writeE_len hE'
              exact ⟨a1, a2, a3, a4, by simp only; omega, this⟩
        · rename_i hk
          obtain ⟨a1, a2, p, a3, a4, a5, a6, a7, a8⟩ := hok.pipe hk
          rw [a3]
          exact h1.putP a3 ⟨wrB_len _ _ _ a4, a5, a6, a7, a8⟩
  · exact h1
theorem Inv.dupO (h : Inv D Ts k) (hj : j < Ts.length) (x : Int) : Inv (dupD D Ts[j] x) (Ts.set j (dupN Ts[j] x)) k := by
  by_cases hz : dupE Ts[j] x = 0
  · have hx : hasN Ts[j] x = true := by
      unfold dupE at hz
      by_cases e1 : hasN Ts[j] x = true
      · exact e1
      · rw [if_neg e1] at hz; omega
    obtain ⟨i, rfl, hi, hiL, h0⟩ := hasN_at hx (h.len hj)
    unfold dupE at hz
    rw [if_pos hx] at hz
    rcases least_lt (N := Ts[j]) with hl | ⟨y, hl, hyL, hy0⟩
    · rw [hl] at hz; simp at hz
    have e0 : dupE Ts[j] i = 0 := by unfold dupE; rw [if_pos hx]; exact hz
    have e1 : dupD D Ts[j] i = incR D Ts[j][i].1 := by unfold dupD; rw [if_pos e0, getD_in hiL]; rfl
    have e2 : dupN Ts[j] i = Ts[j].set y (Ts[j][i].1, false) := by unfold dupN; rw [if_pos e0, getD_in hiL, hl, show (y : Int).toNat = y by omega]
    rw [e1, e2]
    exact h.dup hj hyL hy0 h0 (cntS_pos hj hiL) false
  · rw [show dupD D Ts[j] x = D from if_neg hz, show dupN Ts[j] x = Ts[j] from if_neg hz]
    exact h.setSelf hj
/-- A new pipe, and its two ends. -/
theorem Inv.pipe (h : Inv D Ts k) (hn : D.nx < 890) (hj : j < Ts.length) (hl1 : ¬ leastN Ts[j] < 0) (hl2 : ¬ leastN (pipeN1 D Ts[j]) < 0) : Inv (pipeD D) (Ts.set j (pipeN D Ts[j])) k := by
  have g := h.core.giv
  obtain ⟨n1, n2, n3⟩ := g.new
  have g0 := g.n0
  have hz : cntS (D.nx + 1) Ts = 0 := by
    have := h.core.cE (D.nx + 1) (by omega)
    rw [n1] at this
    simp at this
    exact this
  have h0 : Inv (pipeD0 D) Ts k := by
    refine ⟨⟨g.pipe0 (by omega), h.core.lv, h.core.sm, fun x ex hx => (h.core.ent x ex hx).keep (by show D.nx ≤ D.nx + 1; omega) (fun p y a b c d e f => ?_), h.core.cE, h.core.cR⟩, h.tab, h.few⟩
    have : p ≠ D.nx + 1 := fun e => by rw [e, n3] at a; cases a
    exact ⟨y, (if_neg this).trans a, b, c, d, e, f⟩
  have hP0 : (pipeD0 D).P (D.nx + 1) = some ([], 1, 1) := if_pos rfl
  have h1 : Inv (pipeD1 D) (Ts.set j (pipeN1 D Ts[j])) k := h0.add (D := pipeD0 D) (e := ⟨2, 1, 0, D.nx + 1, 0⟩) (by show D.nx + 1 < 899; omega) hj hl1 ⟨.inr (.inl rfl), fun z => by simp at z, fun _ => rfl, fun z => by simp at z, fun _ => ⟨by simp only; omega, by show D.nx + 1 ≤ D.nx + 1 + 1; omega, _, hP0, by simp, by simp, by simp, by simp, by simp⟩⟩
  have hj1 : j < (Ts.set j (pipeN1 D Ts[j])).length := by rw [List.length_set]; exact hj
  have hg1 := getT_set hj (pipeN1 D Ts[j]) hj1
  have h2 := h1.add (D := pipeD1 D) (j := j) (e := ⟨3, 2, 0, D.nx + 1, 0⟩) (by show D.nx + 1 + 1 < 899; omega) hj1 (by rw [hg1]; exact hl2) ⟨.inr (.inr rfl), fun z => by simp at z, fun z => by simp at z, fun _ => rfl, fun _ => ⟨by simp only; omega, by show D.nx + 1 ≤ D.nx + 1 + 1 + 1; omega, _, hP0, by simp, by simp, by simp, by simp, by simp⟩⟩
  rw [hg1, set_setT] at h2
  exact h2
theorem InvC.fork : ∀ (l : Ns) {D : DS} {C : Int → Nat}, InvC D C k → (∀ x ∈ l, 0 < x.1 → 0 < C x.1) → InvC (forkD D l) (fun d => C d + cntN d l) k
  | [], D, C, h, _ => h.congr (fun d _ => by simp [cntN])
  | x :: l, D, C, h, hl => by
    unfold forkD
    rw [List.foldl_cons]
    by_cases hx : 0 < x.1
    · rw [if_pos hx]
      refine (InvC.fork l (h.inc hx (hl x List.mem_cons_self hx)) (fun y hy h0 => ?_)).congr (fun d hd => ?_)
      · show 0 < (if y.1 = x.1 then C x.1 + 1 else C y.1)
        split
        · omega
        · exact hl y (List.mem_cons_of_mem _ hy) h0
      · simp only [cntN, List.filter_cons]
        by_cases e1 : d = x.1
        · simp [e1]; omega
        · simp [e1, Ne.symm e1]
    · rw [if_neg hx]
      refine (InvC.fork l h (fun y hy h0 => hl y (List.mem_cons_of_mem _ hy) h0)).congr (fun d hd => ?_)
      simp only [cntN, List.filter_cons]
      rw [if_neg (by simp; omega)]
theorem Inv.fork (h : Inv D Ts k) (hf : Ts.length < 8) (hj : j < Ts.length) : Inv (forkD D Ts[j]) (Ts ++ [Ts[j]]) k := by
  refine ⟨(InvC.fork Ts[j] h.core (fun x hx h0 => ?_)).congr (fun d hd => ?_), fun N hN => ?_, by rw [List.length_append]; simp; omega⟩
  · obtain ⟨i, hi, rfl⟩ := List.getElem_of_mem hx
    exact cntS_pos hj hi
  · simp [cntS]
  · rcases List.mem_append.1 hN with h1 | h1
    · exact h.tab N h1
    · rw [List.mem_singleton.1 h1]; exact h.tab _ (List.getElem_mem hj)
theorem freeS_tab (all : Bool) (D : DS) (N : Ns) : ∀ i, (freeS all D N i).2.length = N.length ∧ ∀ x, i ≤ x → (freeS all D N i).2[x]? = N[x]?
  | 0 => ⟨rfl, fun _ _ => rfl⟩
  | i + 1 => by
    obtain ⟨h1, h2⟩ := freeS_tab all D N i
    rw [freeS]
    split
    · refine ⟨by simp only [List.length_set]; exact h1, fun x hx => ?_⟩
      simp only
      rw [List.getElem?_set_ne (by omega)]
      exact h2 x (by omega)
    · exact ⟨h1, fun x hx => h2 x (by omega)⟩
theorem freeS_at {all : Bool} {N : Ns} {i : Nat} (hi : i < N.length) (h : i < (freeS all D N i).2.length) : (freeS all D N i).2[i] = N[i] := by
  have := (freeS_tab all D N i).2 i (Nat.le_refl _)
  rw [List.getElem?_eq_getElem h, List.getElem?_eq_getElem hi] at this
  exact Option.some.inj this
theorem Inv.free (h : Inv D Ts k) (hk : k ≤ 900) (hj : j < Ts.length) (all : Bool) : ∀ i, i ≤ 8 → Inv (freeS all D Ts[j] i).1 (Ts.set j (freeS all D Ts[j] i).2) k
  | 0, _ => h.setSelf hj
  | i + 1, hi => by
    have ih := Inv.free h hk hj all i (by omega)
    rw [freeS]
    split
    · rename_i hc
      have hiN : i < Ts[j].length := by rw [h.len hj]; omega
      have hiF : i < (freeS all D Ts[j] i).2.length := by rw [(freeS_tab all D Ts[j] i).1]; exact hiN
      have hj1 : j < (Ts.set j (freeS all D Ts[j] i).2).length := by rw [List.length_set]; exact hj
      have hg1 := getT_set hj (freeS all D Ts[j] i).2 hj1
      have hgi : (Ts.set j (freeS all D Ts[j] i).2)[j][i]'(by rw [hg1]; exact hiF) = Ts[j][i] := by
        simp only [hg1]
        exact freeS_at hiN hiF
      have hD : Ts[j].getD i (0, false) = Ts[j][i] := by rw [List.getD_eq_getElem?_getD, List.getElem?_eq_getElem hiN]; rfl
      rw [hD] at hc ⊢
      have h2 := ih.close hk hj1 (i := i) (by rw [hg1]; exact hiF) (by rw [hgi]; exact hc.1)
      rw [hgi, hg1, set_setT] at h2
      exact h2
    · exact ih
end
end Go.Proofs.YtjkneekfijibiabGreatDoor

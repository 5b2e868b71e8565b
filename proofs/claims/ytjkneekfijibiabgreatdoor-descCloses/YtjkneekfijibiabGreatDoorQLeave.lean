/- What holds of all that is open, whatever was done: plainly. -/
import Derived.Test.YtjkneekfijibiabGreatDoorDRw
import Derived.Test.YtjkneekfijibiabGreatDoorXSm
import Derived.Test.YtjkneekfijibiabGreatDoorQGive
namespace Go.Proofs.YtjkneekfijibiabGreatDoor
open Go.RowKit Go.Maps

/-- One number more of an ENTRY. -/
def incR (D : DS) (d : Int) : DS := { D with R := fun j => if j = d then some ((D.R j).getD 0 + 1) else D.R j }
theorem incR_eq {D : DS} {d c : Int} (hc : D.R d = some c) : incR D d = { D with R := fun j => if j = d then some (c + 1) else D.R j } := by
  unfold incR
  congr 1
  funext j
  split
  · rename_i e; rw [e, hc]; rfl
  · rfl
/-- What is asked of the tree and of an ENTRY that is closed. -/
structure Cl (D : DS) (d : Int) (e : En) (c : Int) : Prop extends CanClose D d e c where
  lv : TrLv D.T
/-- Numbers of the table are of ENTRIES that are there. -/
def Live (D : DS) (N : Ns) : Prop := ∀ i (hi : i < N.length), 0 < N[i].1 → (D.E N[i].1).isSome = true
section
variable {D : DS} {d : Int} {e : En}
theorem closeK_more {c : Int} (hc : CanClose D d e c) (hm : 0 < c - 1) : closeK D d = { D with R := fun i => if i = d then some (c - 1) else D.R i } := by
  unfold closeK; rw [hc.ent, hc.cnt]; simp only; rw [if_pos hm]
theorem closeK_file {c : Int} (hc : CanClose D d e c) (hm : ¬ 0 < c - 1) (hk : e.kind = 1) : closeK D d = { T := holdN D.T e.node (-1), E := fun i => if i = d then none else D.E i, R := fun i => if i = d then none else if i = d then some (c - 1) else D.R i, P := D.P, nx := D.nx } := by
  unfold closeK; rw [hc.ent, hc.cnt]; simp only; rw [if_neg hm, if_pos hk]
theorem closeK_end {c : Int} (hc : CanClose D d e c) (hm : ¬ 0 < c - 1) (hk : e.kind ≠ 1) : closeK D d = { T := D.T, E := fun i => if i = d then none else D.E i, R := fun i => if i = d then none else if i = d then some (c - 1) else D.R i, P := fun i => if i = e.pipe then some (turnP ((D.P e.pipe).getD ([], 0, 0)) e.kind) else D.P i, nx := D.nx } := by
  unfold closeK; rw [hc.ent, hc.cnt]; simp only; rw [if_neg hm, if_neg hk]
end
/-- How often an ENTRY's number stands in a table; in all. -/
def cntN (d : Int) (N : Ns) : Nat := (N.filter (fun x => x.1 == d)).length
def cntS (d : Int) (Ts : List Ns) : Nat := (Ts.map (cntN d)).sum
theorem cntN_le (d : Int) (N : Ns) : cntN d N ≤ N.length := List.length_filter_le _ _
theorem cntN_set : ∀ (N : Ns) (d : Int) (i : Nat) (y : Int × Bool) (h : i < N.length), cntN d (N.set i y) + (if N[i].1 = d then 1 else 0) = cntN d N + (if y.1 = d then 1 else 0)
  | [], _, i, _, h => by simp at h
  | x :: N, d, 0, y, h => by
    simp only [List.set_cons_zero, List.getElem_cons_zero, cntN, List.filter_cons]
    by_cases e1 : x.1 = d <;> by_cases e2 : y.1 = d <;> simp [e1, e2]
  | x :: N, d, i + 1, y, h => by
    have ih := cntN_set N d i y (by simpa using h)
    simp only [List.set_cons_succ, List.getElem_cons_succ]
    unfold cntN at ih ⊢
    rw [List.filter_cons, List.filter_cons]
    by_cases e1 : x.1 = d
    · simp only [e1, beq_self_eq_true, if_true, List.length_cons]; omega
    · simp only [beq_eq_false_iff_ne.2 e1, Bool.false_eq_true, if_false]; omega
theorem cntS_set : ∀ (Ts : List Ns) (d : Int) (j : Nat) (N' : Ns) (h : j < Ts.length), cntS d (Ts.set j N') + cntN d Ts[j] = cntS d Ts + cntN d N'
  | [], _, j, _, h => by simp at h
  | x :: Ts, d, 0, N', h => by simp [cntS]; omega
  | x :: Ts, d, j + 1, N', h => by
    have ih := cntS_set Ts d j N' (by simpa using h)
    simp only [List.set_cons_succ, List.getElem_cons_succ]
    unfold cntS at ih ⊢
    simp only [List.map_cons, List.sum_cons]
    omega
/-- One number of one table turned. -/
theorem cnt_turn {Ts : List Ns} {j i : Nat} (hj : j < Ts.length) (hi : i < Ts[j].length) (d : Int) (y : Int × Bool) : cntS d (Ts.set j (Ts[j].set i y)) + (if Ts[j][i].1 = d then 1 else 0) = cntS d Ts + (if y.1 = d then 1 else 0) := by
  have h1 := cntS_set Ts d j (Ts[j].set i y) hj
  have h2 := cntN_set Ts[j] d i y hi
  omega
theorem cntS_le : ∀ (d : Int) (Ts : List Ns), (∀ N ∈ Ts, N.length = 8) → cntS d Ts ≤ 8 * Ts.length
  | _, [], _ => Nat.zero_le _
  | d, x :: Ts, h => by
    have ih := cntS_le d Ts (fun N hN => h N (List.mem_cons_of_mem _ hN))
    have h1 := cntN_le d x
    have h2 := h x List.mem_cons_self
    unfold cntS at ih ⊢
    simp only [List.map_cons, List.sum_cons, List.length_cons]
    omega
theorem cntN_pos {N : Ns} {i : Nat} (hi : i < N.length) : 0 < cntN N[i].1 N := List.length_pos_of_mem (List.mem_filter.2 ⟨List.getElem_mem hi, by simp⟩)
theorem cntS_pos : ∀ {Ts : List Ns} {j i : Nat} (hj : j < Ts.length) (hi : i < Ts[j].length), 0 < cntS Ts[j][i].1 Ts
  | x :: Ts, 0, i, _, hi => by
    have := cntN_pos (N := x) (i := i) hi
    simp only [cntS, List.map_cons, List.sum_cons, List.getElem_cons_zero]
    omega
  | x :: Ts, j + 1, i, hj, hi => by
    have ih := cntS_pos (Ts := Ts) (j := j) (i := i) (by simpa using hj) hi
    simp only [cntS, List.map_cons, List.sum_cons, List.getElem_cons_succ] at ih ⊢
    omega
/-- What holds of what is open, so many numbers of each ENTRY. -/
structure InvC (D : DS) (C : Int → Nat) (k : Nat) : Prop where
  giv : Given D
  lv : TrLv D.T
  sm : Sm k D.T
  ent : ∀ d e, D.E d = some e → EnOk D e
  cE : ∀ d, 0 < d → ((D.E d).isSome = true ↔ 0 < C d)
  cR : ∀ d, 0 < d → D.R d = if 0 < C d then some (C d : Int) else none
section
variable {D : DS} {C C' : Int → Nat} {k : Nat} {d : Int} {e : En}
theorem InvC.congr (h : InvC D C k) (hc : ∀ d, 0 < d → C d = C' d) : InvC D C' k :=
  ⟨h.giv, h.lv, h.sm, h.ent, fun d hd => by rw [← hc d hd]; exact h.cE d hd, fun d hd => by rw [← hc d hd]; exact h.cR d hd⟩
theorem InvC.more (h : InvC D C k) {k' : Nat} (hk : k ≤ k') : InvC D C k' := ⟨h.giv, h.lv, h.sm.more hk, h.ent, h.cE, h.cR⟩
theorem InvC.cl (h : InvC D C k) (hd : 0 < d) (hc : 0 < C d) (hb : C d < 100000) : ∃ e, Cl D d e (C d) := by
  obtain ⟨e, he⟩ := Option.isSome_iff_exists.1 ((h.cE d hd).2 hc)
  have ok := h.ent d e he
  have hg := h.giv.e d (by rw [he]; rfl)
  have hn := h.giv.n1
  refine ⟨e, ⟨hd, by omega, he, by rw [h.cR d hd, if_pos hc], by omega, by omega, ok.kind, fun hk => ?_, fun hk => ?_⟩, h.lv⟩
  · have := ok.file hk; omega
  · obtain ⟨a1, a2, p, a3, a4, a5, a6, a7, a8⟩ := ok.pipe hk
    exact ⟨by omega, by omega, p, a3, a4, a5, a6, a7, a8⟩
theorem EnOk.keep {D D' : DS} (h : EnOk D e) (hn : D.nx ≤ D'.nx) (hP : ∀ p x, D.P p = some x → x.1.length ≤ 16 → 0 ≤ x.2.1 → x.2.1 < 1000 → 0 ≤ x.2.2 → x.2.2 < 1000 → ∃ y, D'.P p = some y ∧ y.1.length ≤ 16 ∧ 0 ≤ y.2.1 ∧ y.2.1 < 1000 ∧ 0 ≤ y.2.2 ∧ y.2.2 < 1000) : EnOk D' e := by
  refine ⟨h.kind, h.file, h.frm, h.into, fun hk => ?_⟩
  obtain ⟨a1, a2, p, a3, a4, a5, a6, a7, a8⟩ := h.pipe hk
  exact ⟨a1, by omega, hP _ p a3 a4 a5 a6 a7 a8⟩
theorem EnOk.same {D D' : DS} (h : EnOk D e) (hn : D.nx ≤ D'.nx) (hP : D'.P = D.P) : EnOk D' e := h.keep hn (fun p x a b c d e f => ⟨x, by rw [hP]; exact a, b, c, d, e, f⟩)
/-- One number more. -/
theorem InvC.inc (h : InvC D C k) (hd : 0 < d) (hc : 0 < C d) : InvC (incR D d) (fun x => if x = d then C d + 1 else C x) k := by
  have hR : D.R d = some (C d : Int) := by rw [h.cR d hd, if_pos hc]
  rw [incR_eq hR]
  refine ⟨⟨h.giv.n0, h.giv.n1, h.giv.e, fun x hx => ?_, h.giv.p⟩, h.lv, h.sm, fun x ex hx => (h.ent x ex hx).same (Int.le_refl _) rfl, fun x hx => ?_, fun x hx => ?_⟩
  · have hx' : (if x = d then some ((C d : Int) + 1) else D.R x).isSome = true := hx
    by_cases e1 : x = d
    · subst e1; exact h.giv.r x (by rw [hR]; rfl)
    · rw [if_neg e1] at hx'; exact h.giv.r x hx'
  · show (D.E x).isSome = true ↔ 0 < (if x = d then C d + 1 else C x)
    rw [h.cE x hx]
    by_cases e1 : x = d
    · subst e1; simp [hc]
    · rw [if_neg e1]
  · show (if x = d then some ((C d : Int) + 1) else D.R x) = _
    by_cases e1 : x = d
    · subst e1
      simp
    · rw [if_neg e1, h.cR x hx]
      simp only [if_neg e1]
theorem Sm.drop {T : Wd} (h : Sm k T) (n : Int) : Sm k (holdN T n (-1)) := by
  unfold holdN
  split
  · rename_i b x e
    split
    · exact h
    · refine (h.set n (fun C e9 => by cases e9) (fun b' x' e9 => ?_)).sweep
      cases e9
      have := h.2 n b x e; exact ⟨by omega, this.2⟩
  · exact h
/-- One number less. -/
theorem InvC.close (h : InvC D C k) (hk : k ≤ 900) (hd : 0 < d) (hc : 0 < C d) (hb : C d < 100000) : InvC (closeK D d) (fun x => if x = d then C d - 1 else C x) k := by
  obtain ⟨e, cl⟩ := h.cl hd hc hb
  have hgd := h.giv.e d (by rw [cl.ent]; rfl)
  by_cases hm : 0 < ((C d : Int)) - 1
  · rw [closeK_more cl.toCanClose hm]
    refine ⟨⟨h.giv.n0, h.giv.n1, h.giv.e, fun x hx => ?_, h.giv.p⟩, h.lv, h.sm, fun x ex hx => (h.ent x ex hx).same (Int.le_refl _) rfl, fun x hx => ?_, fun x hx => ?_⟩
    · have hx' : (if x = d then some ((C d : Int) - 1) else D.R x).isSome = true := hx
      by_cases e1 : x = d
      · subst e1; exact hgd
      · rw [if_neg e1] at hx'; exact h.giv.r x hx'
    · show (D.E x).isSome = true ↔ 0 < (if x = d then C d - 1 else C x)
      rw [h.cE x hx]
      by_cases e1 : x = d
      · subst e1; rw [if_pos rfl]; omega
      · rw [if_neg e1]
    · show (if x = d then some ((C d : Int) - 1) else D.R x) = _
      by_cases e1 : x = d
      · subst e1
        simp only [if_true]
        rw [if_pos (by omega)]
        congr 1; omega
      · rw [if_neg e1, h.cR x hx]
        simp only [if_neg e1]
  · have hc1 : C d = 1 := by omega
    have hE : ∀ x, 0 < x → ((if x = d then none else D.E x : Option En).isSome = true ↔ 0 < (if x = d then C d - 1 else C x)) := fun x hx => by
      by_cases e1 : x = d
      · subst e1; simp [hc1]
      · rw [if_neg e1, if_neg e1]; exact h.cE x hx
    have hR : ∀ x, 0 < x → (if x = d then none else if x = d then some ((C d : Int) - 1) else D.R x) = if 0 < (if x = d then C d - 1 else C x) then some (((if x = d then C d - 1 else C x : Nat)) : Int) else none := fun x hx => by
      by_cases e1 : x = d
      · subst e1; simp [hc1]
      · rw [if_neg e1, if_neg e1, h.cR x hx]
        simp only [if_neg e1]
    have hgE : ∀ x, (if x = d then none else D.E x : Option En).isSome = true → 0 < x ∧ x ≤ D.nx := fun x hx => by
      by_cases e1 : x = d
      · rw [if_pos e1] at hx; cases hx
      · rw [if_neg e1] at hx; exact h.giv.e x hx
    have hgR : ∀ x, (if x = d then none else if x = d then some ((C d : Int) - 1) else D.R x : Option Int).isSome = true → 0 < x ∧ x ≤ D.nx := fun x hx => by
      by_cases e1 : x = d
      · rw [if_pos e1] at hx; cases hx
      · rw [if_neg e1, if_neg e1] at hx; exact h.giv.r x hx
    by_cases hkd : e.kind = 1
    · rw [closeK_file cl.toCanClose hm hkd]
      refine ⟨⟨h.giv.n0, h.giv.n1, hgE, hgR, h.giv.p⟩, h.lv.hold e.node (.inr rfl) (fun b x hx => by have := (h.sm.2 _ b x hx).1; omega), h.sm.drop _, fun x ex hx => ?_, hE, hR⟩
      have hx' : (if x = d then none else D.E x : Option En) = some ex := hx
      by_cases e1 : x = d
      · rw [if_pos e1] at hx'; cases hx'
      · rw [if_neg e1] at hx'; exact (h.ent x ex hx').same (Int.le_refl _) rfl
    · obtain ⟨a1, a2, p, a3, a4, a5, a6, a7, a8⟩ := (h.ent d e cl.ent).pipe hkd
      rw [closeK_end cl.toCanClose hm hkd]
      refine ⟨⟨h.giv.n0, h.giv.n1, hgE, hgR, fun x hx => ?_⟩, h.lv, h.sm, fun x ex hx => ?_, hE, hR⟩
      · have hx' : (if x = e.pipe then some (turnP ((D.P e.pipe).getD ([], 0, 0)) e.kind) else D.P x).isSome = true := hx
        by_cases e1 : x = e.pipe
        · rw [e1]; exact ⟨a1, a2⟩
        · rw [if_neg e1] at hx'; exact h.giv.p x hx'
      · have hx' : (if x = d then none else D.E x : Option En) = some ex := hx
        by_cases e1 : x = d
        · rw [if_pos e1] at hx'; cases hx'
        · rw [if_neg e1] at hx'
          refine (h.ent x ex hx').keep (Int.le_refl _) (fun q y b1 b2 b3 b4 b5 b6 => ?_)
          by_cases e2 : q = e.pipe
          · refine ⟨turnP p e.kind, by show (if q = e.pipe then some (turnP ((D.P e.pipe).getD ([], 0, 0)) e.kind) else D.P q) = _; rw [if_pos e2, a3]; rfl, ?_⟩
            unfold turnP clF clI
            simp only
            refine ⟨a4, ?_, ?_, ?_, ?_⟩ <;> (split <;> omega)
          · exact ⟨y, (if_neg e2).trans b1, b2, b3, b4, b5, b6⟩
/-- An ENTRY less is never another one more. -/
theorem closeK_sub {x : Int} (h : ((closeK D d).E x).isSome = true) : (D.E x).isSome = true := by
  unfold closeK at h
  split at h
  · split at h
    · exact h
    · split at h
      · have h' : (if x = d then none else D.E x : Option En).isSome = true := h
        by_cases e1 : x = d
        · rw [if_pos e1] at h'; cases h'
        · rw [if_neg e1] at h'; exact h'
      · have h' : (if x = d then none else D.E x : Option En).isSome = true := h
        by_cases e1 : x = d
        · rw [if_pos e1] at h'; cases h'
        · rw [if_neg e1] at h'; exact h'
  · exact h
end
end Go.Proofs.YtjkneekfijibiabGreatDoor

namespace Go.Proofs.YtjkneekfijibiabGreatDoor
open Go.RowKit Go.Maps

section
variable {w w' w2 : World} {f b n : Nat} {D D' : DS} {g g' : QG} {M N N' : Ns} {d k : Int} {e : En}
set_option maxRecDepth 100000 in
set_option maxHeartbeats 4000000 in
theorem QF.leave_none (h : QF w f D g n) : Calls Tryz.prog 131 #[wp f, .int .i64 0] w fun x w' => x = .returned (.tuple #[]) ∧ w' = w := by
  have c1 := h.cells.2
  have hlk := h.look (k := 0) (by omega) (by omega)
  rw [gv_none h.k0] at hlk
  have h9 := fil_ne f
  have h8 := ent_nil
  clear h
  go_enter Tryz.func131, Tryz.ntmps131
  go_wp2_with fail
  refine bodyPost_ret (results_none rfl _ _ _) rfl ?_
  exact ⟨rfl, rfl⟩
set_option maxRecDepth 100000 in
set_option maxHeartbeats 4000000 in
theorem QF.leave_more (h : QF w f D g n) (hk : g.K k = some d) {c : Int} (hc : CanClose D d e c) (hm : 0 < c - 1) : Calls Tryz.prog 131 #[wp f, .int .i64 k] w fun x w' => x = .returned (.tuple #[]) ∧ (∃ g' n', QF w' f (closeK D d) g' n' ∧ Ext w (closeK D d) g g') ∧ Wt (fun i => (g.kap i).isSome = true) w w' := by
  obtain ⟨_, hk0, hk1⟩ := h.key k d hk
  have c1 := h.cells.2
  have hlk := h.look (k := k) (by omega) hk1
  rw [gv_some hk] at hlk
  have h9 := fil_ne f
  have h8 := ent_ne (g.B d)
  obtain ⟨_, _, e2, _, _, _, ez⟩ := h.ecell hc.ent hc.cnt
  have ez2 := ez 2
  obtain ⟨_, _, _, hkb⟩ := h.ent d e hc.ent
  have h1 := h.count hc.ent (c - 1)
  have g1 := tgrown_set w (g.B d) 2 (.int .i64 (c - 1))
  obtain ⟨_, _, e2', _, _, _, _⟩ := h1.ecell hc.ent (if_pos rfl)
  rw [closeK_more hc hm]
  have hfin : (∃ g' n', QF (w.setCell ⟨g.B d, 2, none⟩ (.int .i64 (c - 1))) f { D with R := fun i => if i = d then some (c - 1) else D.R i } g' n' ∧ Ext w { D with R := fun i => if i = d then some (c - 1) else D.R i } g g') ∧ Wt (fun i => (g.kap i).isSome = true) w (w.setCell ⟨g.B d, 2, none⟩ (.int .i64 (c - 1))) := ⟨⟨g, n, h1, Ext.refl _ _ _⟩, Wt.grown g1 (by rw [hkb]; rfl)⟩
  have hw1 : wrap64 (c - 1) = c - 1 := by have := hc.c0; have := hc.c1; unfold wrap64; omega
  have hz : ((c - 1 : Int) == 0) = false := by simp; omega
  generalize ({ D with R := fun i => if i = d then some (c - 1) else D.R i } : DS) = D2 at *
  generalize g.B d = q at *
  clear h hk hc hm ez hkb h1 g1
  go_enter Tryz.func131, Tryz.ntmps131
  go_wp2_with fail
  go_end0
  exact ⟨rfl, hfin⟩
/-- Behind the map's deletion. -/
structure LvS (w w2 w3 : World) (f : Nat) (g : QG) (D : DS) (k d c : Int) (e : En) : Prop where
  c1 : w.cell? ⟨f, 1, none⟩ = some (.map (some g.gO))
  lk : (Instr.lookup 142 (.map (some g.gO)) (.int .i64 k) false).run Tryz.prog w = .ok (wp (g.B d)) w
  e2 : w.cell? ⟨g.B d, 2, none⟩ = some (.int .i64 c)
  ez : w.frozen? ⟨g.B d, 2, none⟩ = false
  e2' : (w.setCell ⟨g.B d, 2, none⟩ (.int .i64 (c - 1))).cell? ⟨g.B d, 2, none⟩ = some (.int .i64 (c - 1))
  c1' : (w.setCell ⟨g.B d, 2, none⟩ (.int .i64 (c - 1))).cell? ⟨f, 1, none⟩ = some (.map (some g.gO))
  del : ∀ ty, (Builtin.delete_ #[142, 3] ty #[.map (some g.gO), .int .i64 k]).run Tryz.prog (w.setCell ⟨g.B d, 2, none⟩ (.int .i64 (c - 1))) = .ok (.tuple #[]) w3
  wt : Wt (fun i => (g.kap i).isSome = true) w w3
  tag : g.kap (g.B d) = some (.ent d)
  blk : w3.heap[g.B d]? = some (.cells (ecells g e (c - 1)) 180)
  st : ∃ n', QF w3 f { D with E := fun i => if i = d then none else D.E i, R := fun i => if i = d then none else if i = d then some (c - 1) else D.R i } { g with K := fun i => if i = k then none else g.K i } n'
theorem QF.leaving (h : QF w f D g n) (hk : g.K k = some d) {c : Int} (hc : CanClose D d e c) : ∃ w3, LvS w w w3 f g D k d c e := by
  obtain ⟨_, hk0, hk1⟩ := h.key k d hk
  have hlk := h.look (k := k) (by omega) hk1
  rw [gv_some hk] at hlk
  obtain ⟨_, _, e2, _, _, _, ez⟩ := h.ecell hc.ent hc.cnt
  obtain ⟨c9, hc9, hblk, hkb⟩ := h.ent d e hc.ent
  have h1 := h.count hc.ent (c - 1)
  have g1 := tgrown_set w (g.B d) 2 (.int .i64 (c - 1))
  obtain ⟨_, _, e2', _, _, _, _⟩ := h1.ecell hc.ent (if_pos rfl)
  obtain ⟨w3, hdel, pm, g3⟩ := del_run h1.map Tryz.underlying142 k (wf_few (by omega) (by omega))
  have h3 := h1.gone hk pm g3
  refine ⟨w3, h.cells.2, hlk, e2, ez 2, e2', h1.cells.2, hdel, (Wt.grown g1 (by rw [hkb]; rfl)).trans (Wt.grown g3 (by rw [h.tm]; rfl)), hkb, ?_, _, h3⟩
  rw [g3.block _ (h1.lt _ (by rw [hkb]; rfl)) (fun x => tag_ne hkb h.tm (by simp) (Option.some.inj x))]
  exact ent_put2 hblk _
theorem ext_gone {w3 : World} (hk : g.K k = some d) (hE : D'.E d = none) (hg : g'.K = fun i => if i = k then none else g.K i) (hka : ∀ i, i < w.heap.size → g'.kap i = g.kap i) (hr : g'.r = g.r) (_ : w3 = w3) : Ext w D' g g' := by
  refine ⟨hka, fun i x hi hx => ?_, hr⟩
  rw [hg]
  show (if i = k then none else g.K i) = some x
  by_cases e1 : i = k
  · rw [e1, hk] at hi
    rw [← Option.some.inj hi, hE] at hx
    cases hx
  · rw [if_neg e1]; exact hi
set_option maxRecDepth 100000 in
set_option maxHeartbeats 4000000 in
theorem QF.leave_last (h : QF w f D g n) (hk : g.K k = some d) {c : Int} (hc : Cl D d e c) (hm : ¬ 0 < c - 1) : Calls Tryz.prog 131 #[wp f, .int .i64 k] w fun x w' => x = .returned (.tuple #[]) ∧ (∃ g' n', QF w' f (closeK D d) g' n' ∧ Ext w (closeK D d) g g') ∧ Wt (fun i => (g.kap i).isSome = true) w w' := by
  obtain ⟨w3, L⟩ := h.leaving hk hc.toCanClose
  obtain ⟨n', h3⟩ := L.st
  have hsz := L.wt.size
  have hSh : Calls Tryz.prog 159 #[wp f, wp (g.B d)] w3 fun x w' => x = .returned (.tuple #[]) ∧ (∃ g' n', QF w' f (closeK D d) g' n' ∧ Ext w (closeK D d) g g') ∧ Wt (fun i => (g.kap i).isSome = true) w w' := by
    by_cases hkd : e.kind = 1
    · have hpv : pv g e = .pointer none := if_pos hkd
      have hnd := hc.node hkd
      refine (h3.shut_file (q := g.B d) L.blk L.tag hkd hc.lv hnd.1 hnd.2).mono ?_
      rintro x w' ⟨rfl, ⟨g', a1, a2, a3, a4⟩, wt⟩
      rw [closeK_file hc.toCanClose hm hkd]
      exact ⟨rfl, ⟨g', n', a1, ext_gone (w3 := w3) hk (if_pos rfl) a3 (fun i hi => a2 i (by omega)) a4 rfl⟩, L.wt.trans wt⟩
    · obtain ⟨q0, q1, p, hp, hpl, f0, f1, i0, i1⟩ := hc.pipe hkd
      have hpv : pv g e = wp (g.Q e.pipe) := if_neg hkd
      have hblk := L.blk
      rw [ecells, hpv] at hblk
      refine (h3.shut_end (q := g.B d) (p := e.pipe) hblk L.tag hkd hp ⟨f0, f1⟩ ⟨i0, i1⟩).mono ?_
      rintro x w' ⟨rfl, a1, wt⟩
      rw [closeK_end hc.toCanClose hm hkd, hp]
      exact ⟨rfl, ⟨_, n', a1, ext_gone (w3 := w3) hk (if_pos rfl) rfl (fun i hi => rfl) rfl rfl⟩, L.wt.trans wt⟩
  have hc1 : c = 1 := by have := hc.c0; omega
  subst hc1
  have c1 := L.c1
  have hlk := L.lk
  have e2 := L.e2
  have ez := L.ez
  have e2' := L.e2'
  have c1' := L.c1'
  have hdel := L.del
  have h9 := fil_ne f
  have h8 := ent_ne (g.B d)
  generalize closeK D d = D2 at *
  simp only [show (1 : Int) - 1 = 0 by omega] at e2' c1' hdel
  generalize g.B d = q at *
  clear h hk hc hm L h3 hsz
  go_enter Tryz.func131, Tryz.ntmps131
  go_wp2_with (go_at_call 159; refine hSh.mono ?_; rintro x w4 ⟨rfl, hR⟩)
  go_end0
  exact ⟨rfl, hR⟩
theorem QF.leave_ok (h : QF w f D g n) (hk : g.K k = some d) {c : Int} (hc : Cl D d e c) : Calls Tryz.prog 131 #[wp f, .int .i64 k] w fun x w' => x = .returned (.tuple #[]) ∧ (∃ g' n', QF w' f (closeK D d) g' n' ∧ Ext w (closeK D d) g g') ∧ Wt (fun i => (g.kap i).isSome = true) w w' := by
  by_cases hm : 0 < c - 1
  · exact h.leave_more hk hc.toCanClose hm
  · exact h.leave_last hk hc hm

set_option maxRecDepth 100000 in
set_option maxHeartbeats 4000000 in
theorem QF.free_ok (h : QF w f D g n) (t : QTb w b g M N) {i : Nat} (hi : i < 8) (hiL : i < N.length) (h0 : 0 < N[i].1) {c : Int} (hc : Cl D N[i].1 e c) (hl : Live (closeK D N[i].1) (N.set i (0, false))) :
    Calls Tryz.prog 101 #[wp f, wp b, .int .i64 (i : Int)] w fun x w' => x = .returned (.tuple #[]) ∧ QGo w w' f (closeK D N[i].1) g b (N.set i (0, false)) := by
  have hM : i < M.length := by have := t.tab.len; omega
  have hk := t.keyOf hM hiL h0
  obtain ⟨t0, t1⟩ := t.tab.at hi
  have z0 := t.tab.free (i * 2)
  have z1 := t.tab.free (i * 2 + 1)
  have hT1 := t.set (i := i) (0, false) (0, false) (t.tab.put hi (0, false) ⟨by simp, by simp, fun _ => rfl⟩) ⟨rfl, .inl ⟨rfl, rfl⟩⟩
  have g1 := QT.put_grown w b i (.int .i64 0) (.bool false)
  have h1 := h.offTab t.off g1
  obtain ⟨W, hW⟩ : ∃ W, (w.setCell ⟨b, i * 2, none⟩ (.int .i64 0)).setCell ⟨b, i * 2 + 1, none⟩ (.bool false) = W := ⟨_, rfl⟩
  simp only at hT1
  rw [hW] at hT1 g1 h1
  have hL := h1.leave_ok hk hc
  have hfin : ∀ w', (∃ g' n', QF w' f (closeK D N[i].1) g' n' ∧ Ext W (closeK D N[i].1) g g') → Wt (fun i => (g.kap i).isSome = true) W w' → QGo w w' f (closeK D N[i].1) g b (N.set i (0, false)) := fun w' hx wt => by
    obtain ⟨g', n', a1, a2⟩ := hx
    have hsz : W.heap.size = w.heap.size := by rw [← hW]; simp [World.setCell]
    refine ⟨⟨g', n', _, a1, hT1.other a2 (wt.block b hT1.tab.lt (by rw [t.off]; simp)) hl, ⟨fun j hj => a2.kap j (by omega), a2.key, a2.r⟩⟩, (Wt.grown g1 (.inr rfl)).trans (wt.mono (fun j hj => .inl hj))⟩
  generalize closeK D N[i].1 = D2 at *
  generalize N.set i (0, false) = N2 at *
  generalize M[i].1 = X at *
  generalize M[i].2 = Y at *
  have hi8 : (i : Int) < 8 := by omega
  clear h t hk hc hT1 g1 h1 hl h0
  go_enter Tryz.func101, Tryz.ntmps101
  go_upto_region 2 with fail
  clear t0 t1 z0 z1 hW
  go_wp2_with (go_at_call 131; refine hL.mono ?_; rintro x w4 ⟨rfl, hR, wt⟩)
  go_end0
  exact ⟨rfl, hfin _ hR wt⟩
end
end Go.Proofs.YtjkneekfijibiabGreatDoor

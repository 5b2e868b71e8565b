/- Processes, plainly: who is there, whose it is, which signals wait for it, and which never come; what each call does, and tells. -/
import Derived.Test.YtcfhanoekniaaaaGreatDoorVLen
import Derived.Test.YtcfhanoekniaaaaGreatDoorJRow
import Derived.BigQuiet
import Derived.Outline
import Derived.Sort.LoopGhostIn
import Derived.Deep.Light
import Derived.Test.YtcfhanoekniaaaaGreatDoorShelfP
import Derived.Laws.Bits64b
import Derived.Laws.BitsAllLaws
import Derived.Lib.TrailingZeros
namespace Go.Proofs.YtcfhanoekniaaaaGreatDoor

/-- A process: whose it is, how it stands (1: it runs; 2: it is dead), its code, the signals that wait, those that are ignored. -/
structure Pr where
  parent : Int
  state : Int
  code : Int
  wt : Int → Bool
  ig : Int → Bool
abbrev Ps := Int → Option Pr
def noSig : Int → Bool := fun _ => false
def firstJ : Ps := fun n => if n = 1 then some ⟨0, 1, 0, noSig, noSig⟩ else none
def stJ (P : Ps) (n : Int) : Int := ((P n).map (·.state)).getD 0
def parJ (P : Ps) (n : Int) : Int := ((P n).map (·.parent)).getD 0
def runsJ (P : Ps) (n : Int) : Bool := decide (stJ P n = 1)
def setJ (P : Ps) (n : Int) (p : Pr) : Ps := fun i => if i = n then some p else P i
/-- The least number from 1 on that none has. -/
structure FreeJ (P : Ps) (k : Int) : Prop where
  pos : 1 ≤ k
  no : P k = none
  all : ∀ j, 1 ≤ j → j < k → (P j).isSome = true
/-- What holds always. -/
structure JOk (P : Ps) : Prop where
  key : ∀ n p, P n = some p → 1 ≤ n ∧ n ≤ 24
  st : ∀ n p, P n = some p → p.state = 1 ∨ p.state = 2
  one : ∃ p, P 1 = some p ∧ p.state = 1 ∧ p.parent = 0
  par : ∀ n p, P n = some p → n ≠ 1 → runsJ P p.parent = true ∧ p.parent ≠ n
  wt : ∀ n p, P n = some p → ∀ s, p.wt s = true → 1 ≤ s ∧ s ≤ 8
  ig : ∀ n p, P n = some p → ∀ s, p.ig s = true → 1 ≤ s ∧ s < 8
section
variable {P : Ps} {n k : Int} {p : Pr}
theorem stJ_some (h : P n = some p) : stJ P n = p.state := by unfold stJ; rw [h]; rfl
theorem stJ_none (h : P n = none) : stJ P n = 0 := by unfold stJ; rw [h]; rfl
theorem parJ_some (h : P n = some p) : parJ P n = p.parent := by unfold parJ; rw [h]; rfl
theorem parJ_none (h : P n = none) : parJ P n = 0 := by unfold parJ; rw [h]; rfl
theorem runsJ_iff : runsJ P n = true ↔ ∃ p, P n = some p ∧ p.state = 1 := by
  unfold runsJ
  rw [decide_eq_true_iff]
  cases h : P n with
  | none => rw [stJ_none h]; simp
  | some p => rw [stJ_some h]; simp
theorem JOk.isSome (h : JOk P) : (P n).isSome = true ↔ stJ P n ≠ 0 := by
  cases hn : P n with
  | none => rw [stJ_none hn]; simp
  | some p => rw [stJ_some hn]; have := h.st n p hn; simp; omega
theorem JOk.first : JOk firstJ := by
  have hh : ∀ n p, firstJ n = some p → n = 1 ∧ p = ⟨0, 1, 0, noSig, noSig⟩ := fun n p e => by
    unfold firstJ at e
    split at e
    · rename_i e1; exact ⟨e1, (Option.some.inj e).symm⟩
    · cases e
  refine ⟨fun n p e => ?_, fun n p e => ?_, ⟨_, rfl, rfl, rfl⟩, fun n p e h1 => absurd (hh n p e).1 h1, fun n p e s hs => ?_, fun n p e s hs => ?_⟩
  · have := (hh n p e).1; omega
  · rw [(hh n p e).2]; exact .inl rfl
  · rw [(hh n p e).2] at hs; cases hs
  · rw [(hh n p e).2] at hs; cases hs
/-- There is a free one, and it is small. -/
theorem FreeJ.ex {c : Nat} (hc : IsN P c) (h24 : c < 24) : ∃ k, FreeJ P k ∧ k ≤ 24 := by
  have step : ∀ m : Nat, (∀ j : Int, 1 ≤ j → j ≤ m → (P j).isSome = true) ∨ ∃ k, FreeJ P k ∧ k ≤ m := by
    intro m
    induction m with
    | zero => exact .inl (fun j h1 h2 => by omega)
    | succ m ih =>
      rcases ih with ih | ⟨k, hk, hl⟩
      · cases hm : P ((m : Int) + 1) with
        | none => exact .inr ⟨(m : Int) + 1, ⟨by omega, hm, fun j h1 h2 => ih j h1 (by omega)⟩, by omega⟩
        | some p => refine .inl (fun j h1 h2 => ?_)
                    by_cases e : j = (m : Int) + 1
                    · rw [e, hm]; rfl
                    · exact ih j h1 (by omega)
      · exact .inr ⟨k, hk, by omega⟩
  rcases step 24 with h9 | ⟨k, hk, hl⟩
  · exfalso
    obtain ⟨ks, h1, rfl, h2⟩ := hc
    have h5 := int_sub (a := (List.range 24).map (fun i : Nat => (i : Int) + 1)) (b := ks) (by
      rw [List.Nodup, List.pairwise_map]
      exact List.pairwise_lt_range.imp (fun h => by omega)) (fun x hx => by
      obtain ⟨i, hi, rfl⟩ := List.mem_map.1 hx
      have := List.mem_range.1 hi
      exact (h2 _).2 (h9 _ (by omega) (by omega)))
    simp at h5
    omega
  · exact ⟨k, hk, hl⟩
end

/-- All that are there, rising. -/
def pidsJ (P : Ps) : List Int := ((List.range 24).map (fun i : Nat => (i : Int) + 1)).filter (fun n => (P n).isSome)
section
variable {P : Ps} {n : Int}
theorem JOk.pids (h : JOk P) : n ∈ pidsJ P ↔ (P n).isSome = true := by
  unfold pidsJ
  rw [List.mem_filter]
  constructor
  · exact fun z => z.2
  · intro z
    obtain ⟨p, hp⟩ := Option.isSome_iff_exists.1 z
    have := h.key n p hp
    exact ⟨List.mem_map.2 ⟨(n - 1).toNat, List.mem_range.2 (by omega), by omega⟩, z⟩
theorem pidsJ_rising (P : Ps) : (pidsJ P).Pairwise (· < ·) := by
  unfold pidsJ
  refine List.Pairwise.filter _ ?_
  rw [List.pairwise_map]
  exact List.pairwise_lt_range.imp (fun h => by omega)
theorem pidsJ_nodup (P : Ps) : (pidsJ P).Nodup := (pidsJ_rising P).imp (fun h => by omega)
theorem JOk.pidsN (h : JOk P) : IsN P (pidsJ P).length := ⟨_, pidsJ_nodup P, rfl, fun _ => h.pids⟩
theorem pidsJ_len (P : Ps) : (pidsJ P).length ≤ 24 := by
  unfold pidsJ
  refine Nat.le_trans (List.length_filter_le _ _) ?_
  simp
end

/-- Fork: what it tells, and leaves. -/
def forkE (P : Ps) (pid : Int) (c : Nat) : Int := if runsJ P pid = false then 7 else if 24 ≤ c then 12 else 0
def igJ (P : Ps) (pid : Int) : Int → Bool := ((P pid).map (·.ig)).getD noSig
def forkP (P : Ps) (pid k : Int) : Ps := setJ P k ⟨pid, 1, 0, noSig, igJ P pid⟩
/-- Exit. -/
def exitE (P : Ps) (pid : Int) : Int := if runsJ P pid = false then 7 else if pid = 1 then 6 else 0
def exit1 (pid code n : Int) (q : Pr) : Pr :=
  let r : Pr := if n = pid then { q with state := 2, code := code, wt := noSig } else q
  if r.parent = pid then { r with parent := 1 } else r
def exitP (P : Ps) (pid code : Int) : Ps := fun n => (P n).map (exit1 pid code n)
def ownJ (P : Ps) (pid n : Int) : Bool := decide (parJ P n = pid)
/-- Kill. -/
def killE (P : Ps) (pid sig : Int) : Int := if ¬ (1 ≤ sig ∧ sig ≤ 8) then 2 else if runsJ P pid = false then 7 else 0
def putS (f : Int → Bool) (s : Int) (b : Bool) : Int → Bool := fun i => if i = s then b else f i
def onJ (P : Ps) (n : Int) (f : Pr → Pr) : Ps := fun i => if i = n then (P i).map f else P i
def killP (P : Ps) (pid sig : Int) : Ps := onJ P pid (fun p => if p.ig sig = true then p else { p with wt := putS p.wt sig true })
section
variable {P : Ps} {pid code k sig n : Int} {c : Nat} {p : Pr}
theorem runsJ_congr {P' : Ps} (h : stJ P' n = stJ P n) : runsJ P' n = runsJ P n := by unfold runsJ; rw [h]
theorem setJ_same (P : Ps) (n : Int) (p : Pr) : setJ P n p n = some p := if_pos rfl
theorem setJ_ne {P : Ps} {n i : Int} {p : Pr} (h : i ≠ n) : setJ P n p i = P i := if_neg h
theorem JOk.fork (h : JOk P) (hr : runsJ P pid = true) (hk : FreeJ P k) (h24 : k ≤ 24) : JOk (forkP P pid k) := by
  obtain ⟨q, hq, hs⟩ := runsJ_iff.1 hr
  have hpk : pid ≠ k := fun e => by rw [e, hk.no] at hq; cases hq
  have hst : ∀ i, i ≠ k → stJ (forkP P pid k) i = stJ P i := fun i hi => by unfold stJ forkP; rw [setJ_ne hi]
  have hrun : ∀ i, runsJ P i = true → runsJ (forkP P pid k) i = true := fun i hi => by
    obtain ⟨p, hp, _⟩ := runsJ_iff.1 hi
    rw [runsJ_congr (hst i (fun e => by rw [e, hk.no] at hp; cases hp))]; exact hi
  have cs : ∀ i p, forkP P pid k i = some p → (i = k ∧ p = ⟨pid, 1, 0, noSig, igJ P pid⟩) ∨ (i ≠ k ∧ P i = some p) := fun i p e => by
    by_cases hi : i = k
    · subst hi; unfold forkP at e; rw [setJ_same] at e; exact .inl ⟨rfl, (Option.some.inj e).symm⟩
    · unfold forkP at e; rw [setJ_ne hi] at e; exact .inr ⟨hi, e⟩
  refine ⟨fun i p e => ?_, fun i p e => ?_, ?_, fun i p e h1 => ?_, fun i p e s hs => ?_, fun i p e s hs => ?_⟩
  · rcases cs i p e with ⟨rfl, _⟩ | ⟨_, e⟩
    · exact ⟨hk.pos, h24⟩
    · exact h.key i p e
  · rcases cs i p e with ⟨_, rfl⟩ | ⟨_, e⟩
    · exact .inl rfl
    · exact h.st i p e
  · obtain ⟨p1, e1, e2, e3⟩ := h.one
    exact ⟨p1, by unfold forkP; rw [setJ_ne (fun e => by rw [e, hk.no] at e1; cases e1)]; exact e1, e2, e3⟩
  · rcases cs i p e with ⟨rfl, rfl⟩ | ⟨_, e⟩
    · exact ⟨hrun _ hr, hpk⟩
    · exact ⟨hrun _ (h.par i p e h1).1, (h.par i p e h1).2⟩
  · rcases cs i p e with ⟨_, rfl⟩ | ⟨_, e⟩
    · cases hs
    · exact h.wt i p e s hs
  · rcases cs i p e with ⟨_, rfl⟩ | ⟨_, e⟩
    · have : igJ P pid = q.ig := by unfold igJ; rw [hq]; rfl
      rw [this] at hs
      exact h.ig pid q hq s hs
    · exact h.ig i p e s hs
theorem exit1_st (q : Pr) : (exit1 pid code n q).state = if n = pid then 2 else q.state := by
  unfold exit1; simp only; split <;> split <;> rfl
theorem exit1_par (q : Pr) : (exit1 pid code n q).parent = if q.parent = pid then 1 else q.parent := by
  unfold exit1; simp only; split <;> (split <;> simp_all)
theorem exit1_sig (q : Pr) : (exit1 pid code n q).wt = (if n = pid then noSig else q.wt) ∧ (exit1 pid code n q).ig = q.ig := by
  unfold exit1; simp only; split <;> split <;> exact ⟨rfl, rfl⟩
theorem exitP_st (P : Ps) : stJ (exitP P pid code) n = if n = pid ∧ (P n).isSome = true then 2 else stJ P n := by
  unfold stJ exitP
  cases h : P n with
  | none => simp
  | some q => simp [exit1_st]
theorem JOk.exit (h : JOk P) (hr : runsJ P pid = true) (h1 : pid ≠ 1) : JOk (exitP P pid code) := by
  obtain ⟨qp, hqp, _⟩ := runsJ_iff.1 hr
  have hp1 := h.key pid qp hqp
  have cs : ∀ i p, exitP P pid code i = some p → ∃ q, P i = some q ∧ p = exit1 pid code i q := fun i p e => by
    unfold exitP at e
    cases hq : P i with
    | none => rw [hq] at e; cases e
    | some q => rw [hq] at e; exact ⟨q, rfl, (Option.some.inj e).symm⟩
  have hrun : ∀ i, i ≠ pid → runsJ P i = true → runsJ (exitP P pid code) i = true := fun i hi hr => by
    rw [runsJ_congr (P := P) (by rw [exitP_st, if_neg (fun z => hi z.1)])]; exact hr
  refine ⟨fun i p e => ?_, fun i p e => ?_, ?_, fun i p e hi => ?_, fun i p e s hs => ?_, fun i p e s hs => ?_⟩
  · obtain ⟨q, hq, _⟩ := cs i p e; exact h.key i q hq
  · obtain ⟨q, hq, rfl⟩ := cs i p e
    rw [exit1_st]
    split
    · exact .inr rfl
    · exact h.st i q hq
  · obtain ⟨p1, e1, e2, e3⟩ := h.one
    refine ⟨exit1 pid code 1 p1, by unfold exitP; rw [e1]; rfl, ?_, ?_⟩
    · rw [exit1_st, if_neg (fun e => h1 e.symm)]; exact e2
    · rw [exit1_par, e3]
      split
      · omega
      · rfl
  · obtain ⟨q, hq, rfl⟩ := cs i p e
    rw [exit1_par]
    have := h.par i q hq hi
    split
    · obtain ⟨p1, e1, e2, _⟩ := h.one
      exact ⟨hrun 1 (fun e => h1 e.symm) (runsJ_iff.2 ⟨p1, e1, e2⟩), fun e => hi e.symm⟩
    · rename_i hne
      exact ⟨hrun _ hne this.1, this.2⟩
  · obtain ⟨q, hq, rfl⟩ := cs i p e
    rw [(exit1_sig q).1] at hs
    split at hs
    · cases hs
    · exact h.wt i q hq s hs
  · obtain ⟨q, hq, rfl⟩ := cs i p e
    rw [(exit1_sig q).2] at hs
    exact h.ig i q hq s hs
theorem onJ_some {f : Pr → Pr} {i : Int} (h : onJ P n f i = some p) : ∃ q, P i = some q ∧ ((i = n ∧ p = f q) ∨ (i ≠ n ∧ p = q)) := by
  unfold onJ at h
  split at h
  · rename_i e
    cases hq : P i with
    | none => rw [hq] at h; cases h
    | some q => rw [hq] at h; exact ⟨q, rfl, .inl ⟨e, (Option.some.inj h).symm⟩⟩
  · rename_i e; exact ⟨p, h, .inr ⟨e, rfl⟩⟩
theorem onJ_st {f : Pr → Pr} (hf : ∀ q, (f q).state = q.state) (i : Int) : stJ (onJ P n f) i = stJ P i := by
  unfold stJ onJ
  split
  · cases P i with
    | none => rfl
    | some q => simp [hf]
  · rfl
theorem JOk.on (h : JOk P) {f : Pr → Pr} (h1 : ∀ q, (f q).state = q.state) (h2 : ∀ q, (f q).parent = q.parent) (h3 : ∀ q s, P n = some q → (f q).wt s = true → 1 ≤ s ∧ s ≤ 8) (h4 : ∀ q s, P n = some q → (f q).ig s = true → 1 ≤ s ∧ s < 8) : JOk (onJ P n f) := by
  refine ⟨fun i p e => ?_, fun i p e => ?_, ?_, fun i p e hi => ?_, fun i p e s hs => ?_, fun i p e s hs => ?_⟩
  · obtain ⟨q, hq, _⟩ := onJ_some e; exact h.key i q hq
  · obtain ⟨q, hq, ⟨_, rfl⟩ | ⟨_, rfl⟩⟩ := onJ_some e
    · rw [h1]; exact h.st i q hq
    · exact h.st i p hq
  · obtain ⟨p1, e1, e2, e3⟩ := h.one
    by_cases e : (1 : Int) = n
    · exact ⟨f p1, by unfold onJ; rw [if_pos e, e1]; rfl, by rw [h1]; exact e2, by rw [h2]; exact e3⟩
    · exact ⟨p1, by unfold onJ; rw [if_neg e]; exact e1, e2, e3⟩
  · obtain ⟨q, hq, ⟨_, rfl⟩ | ⟨_, rfl⟩⟩ := onJ_some e
    · rw [h2, runsJ_congr (onJ_st h1 _)]; exact h.par i q hq hi
    · rw [runsJ_congr (onJ_st h1 _)]; exact h.par i p hq hi
  · obtain ⟨q, hq, ⟨rfl, rfl⟩ | ⟨_, rfl⟩⟩ := onJ_some e
    · exact h3 q s hq hs
    · exact h.wt i p hq s hs
  · obtain ⟨q, hq, ⟨rfl, rfl⟩ | ⟨_, rfl⟩⟩ := onJ_some e
    · exact h4 q s hq hs
    · exact h.ig i p hq s hs
theorem putS_true {f : Int → Bool} {s i : Int} {b : Bool} (h : putS f s b i = true) : (i = s ∧ b = true) ∨ f i = true := by
  unfold putS at h
  split at h
  · rename_i e; exact .inl ⟨e, h⟩
  · exact .inr h
theorem JOk.kill (h : JOk P) (hs : 1 ≤ sig ∧ sig ≤ 8) : JOk (killP P pid sig) := by
  refine h.on (fun q => by split <;> rfl) (fun q => by split <;> rfl) (fun q s hq e => ?_) (fun q s hq e => ?_)
  · split at e
    · exact h.wt pid q hq s e
    · rcases putS_true e with ⟨rfl, _⟩ | e
      · exact hs
      · exact h.wt pid q hq s e
  · split at e
    · exact h.ig pid q hq s e
    · exact h.ig pid q hq s e
end
end Go.Proofs.YtcfhanoekniaaaaGreatDoor

namespace Go.Proofs.YtcfhanoekniaaaaGreatDoor
open Go.RowKit Go.Maps

theorem wf64 {n : Int} (h : -9223372036854775808 ≤ n ∧ n ≤ 9223372036854775807) : (Lit.int .i64 n).wf = true := by
  have a : IntKind.min .i64 = -9223372036854775808 := rfl
  have b : IntKind.max .i64 = 9223372036854775807 := rfl
  simp [Lit.wf, a, b]
  omega
/-- delete, by its own equation. -/
theorem wpList_delete_run {P : Program} {ops : Array Oper} {rest : List Oper} {o : Oper} {a : Act} {w : World} {Q : Exit → Act → World → Prop} (hgd : o.guard = none) (s x : Operand) (t k : TypeId)
    (ho : o.op = .call { callee := .builtin .delete, args := #[s, x], argTypes := #[t, k] }) (v y v' : Value) (w' : World) (hs : a.eval s = v) (hx : a.eval x = y)
    (hr : ∀ ty, (Builtin.delete_ #[t, k] ty #[v, y]).run P w = .ok v' w') (h : wpList P ops Q rest (a.put o.dst v') w') : wpList P ops Q (o :: rest) a w := by
  refine wpList_plain hgd fun K hK => ?_
  unfold Oper.wp execOp
  simp only [ho, resolve, invoke, builtin, Sem.run_bind, Sem.run_pure, Result.andThen_ok, List.map_toArray, List.map_cons, List.map_nil, hs, hx, hr]
  exact hK _ _ h

theorem risingJ {ks ks' : List Int} (h : ks.Pairwise (· < ·)) (h' : ks'.Pairwise (· < ·)) (hm : ∀ x, x ∈ ks ↔ x ∈ ks') : ks = ks' := by
  have p : ks.Perm ks' := (List.perm_ext_iff_of_nodup (h.imp (fun z => by omega)) (h'.imp (fun z => by omega))).2 hm
  exact p.eq_of_pairwise (le := (· < ·)) (fun a b _ _ h1 h2 => by omega) h h'
theorem sortedJ {ss : List Int} (h : ss.Nodup) : (ss.mergeSort (fun x y => decide (x ≤ y))).Pairwise (· < ·) := by
  have tr : ∀ a b c : Int, decide (a ≤ b) = true → decide (b ≤ c) = true → decide (a ≤ c) = true := fun a b c h1 h2 => by simp only [decide_eq_true_eq] at *; omega
  have tl : ∀ a b : Int, (decide (a ≤ b) || decide (b ≤ a)) = true := fun a b => by simp only [Bool.or_eq_true, decide_eq_true_eq]; omega
  have h1 := List.pairwise_mergeSort tr tl ss
  have h2 : (ss.mergeSort (fun x y => decide (x ≤ y))).Nodup := (List.mergeSort_perm ss _).nodup_iff.2 h
  exact h1.imp₂ (fun {a b} h1 h2 => by simp only [decide_eq_true_eq] at h1; omega) h2
theorem belowJ_dr {B : Nat} {w w' : World} (h : Below B w w') : Below B w w'.drew := ⟨h.os, h.tape, h.output, h.size, h.block⟩
/-- The least number that none has. -/
def leastJ (P : Ps) : Int := (((List.range 24).map (fun i : Nat => (i : Int) + 1)).find? (fun n => !(P n).isSome)).getD 0
theorem leastJ_eq {P : Ps} {k : Int} (h : FreeJ P k) (h24 : k ≤ 24) : leastJ P = k := by
  unfold leastJ
  have hk := h.pos
  have : ((List.range 24).map (fun i : Nat => (i : Int) + 1)).find? (fun n => !(P n).isSome) = some k := by
    rw [List.find?_eq_some_iff_getElem]
    refine ⟨by rw [h.no]; rfl, (k - 1).toNat, by simp; omega, by simp; omega, fun j hj => ?_⟩
    simp only [List.getElem_map, List.getElem_range]
    rw [h.all _ (by omega) (by omega)]
    rfl
  rw [this]; rfl
def forkK (P : Ps) (pid : Int) (c : Nat) : Int := if forkE P pid c = 0 then leastJ P else 0
def forkQ (P : Ps) (pid : Int) (c : Nat) : Ps := if forkE P pid c = 0 then forkP P pid (leastJ P) else P
section
variable {P : Ps} {pid : Int}
theorem take_add {L : List Int} {i : Nat} (h : i < L.length) : L.take (i + 1) = L.take i ++ [L[i]] := by
  rw [List.take_add_one, List.getElem?_eq_getElem h]; rfl
end
end Go.Proofs.YtcfhanoekniaaaaGreatDoor

namespace Go.Proofs.YtcfhanoekniaaaaGreatDoor
open Go.RowKit Go.Maps Go.Sort Go.Shelf Go.Lib

def mk (f : Int → Bool) : Nat → Nat
  | 0 => 0
  | k + 1 => mk f k ||| (if f (k : Int) = true then 2 ^ k else 0)
theorem mk_bit (f : Int → Bool) : ∀ k i, (mk f k).testBit i = (decide (i < k) && f i)
  | 0, i => by simp [mk]
  | k + 1, i => by
    rw [mk, Nat.testBit_or, mk_bit f k i]
    by_cases hf : f (k : Int) = true
    · rw [if_pos hf, Nat.testBit_two_pow]
      by_cases e : k = i
      · subst e; simp [hf]
      · have : (decide (i < k + 1)) = decide (i < k) := by congr 1; apply propext; omega
        simp [e, this]
    · rw [if_neg hf, Nat.zero_testBit, Bool.or_false]
      by_cases e : i = k
      · subst e; simp [hf]
      · have : (decide (i < k + 1)) = decide (i < k) := by congr 1; apply propext; omega
        rw [this]
theorem mk_lt (f : Int → Bool) : ∀ k, mk f k < 2 ^ k
  | 0 => by simp [mk]
  | k + 1 => by
    rw [mk]
    refine Nat.or_lt_two_pow ?_ ?_
    · exact Nat.lt_of_lt_of_le (mk_lt f k) (Nat.pow_le_pow_right (by omega) (by omega))
    · split
      · exact Nat.pow_lt_pow_right (by omega) (by omega)
      · exact Nat.pow_pos (by omega)
/-- Signals, as bits. -/
def msk (f : Int → Bool) : Nat := mk f 9
theorem msk_lt (f : Int → Bool) : msk f < 512 := mk_lt f 9
theorem msk_bit (f : Int → Bool) (i : Nat) : (msk f).testBit i = (decide (i < 9) && f i) := mk_bit f 9 i
theorem msk_no : msk noSig = 0 := rfl
def oneS (s : Int) : Int → Bool := fun i => decide (i = s)
def lessS (f g : Int → Bool) : Int → Bool := fun i => f i && !g i
theorem msk_one {s : Nat} (h : s ≤ 8) : msk (oneS s) = 2 ^ s := by
  apply Nat.eq_of_testBit_eq
  intro i
  rw [msk_bit, Nat.testBit_two_pow]
  unfold oneS
  by_cases e : s = i
  · subst e; simp; omega
  · have : ¬ ((i : Int) = (s : Int)) := by omega
    simp [e, this]
theorem msk_or (f : Int → Bool) (s : Int) : msk f ||| msk (oneS s) = msk (putS f s true) := by
  apply Nat.eq_of_testBit_eq
  intro i
  rw [Nat.testBit_or, msk_bit, msk_bit, msk_bit]
  unfold oneS putS
  by_cases e : (i : Int) = s <;> by_cases h9 : i < 9 <;> simp [e, h9]
theorem msk_less (f g : Int → Bool) : msk f &&& (18446744073709551615 - msk g) = msk (lessS f g) := by
  apply Nat.eq_of_testBit_eq
  intro i
  have h1 := msk_lt g
  have h2 : 18446744073709551615 - msk g = 2 ^ 64 - (msk g + 1) := by omega
  rw [Nat.testBit_and, h2, Nat.testBit_two_pow_sub_succ (by omega), msk_bit, msk_bit, msk_bit]
  unfold lessS
  by_cases e : i < 9
  · have : i < 64 := by omega
    simp [e, this]
  · simp [e]
/-- The table of math/bits, as it was laid. -/
def Tab64 (w : World) : Prop := TabAt 2 Lib.deBruijn64tab w
theorem Tab64.keep {w w' : World} (h : Tab64 w) (hb : w'.heap[2]? = w.heap[2]?) : Tab64 w' := fun j hj => by
  rw [World.cell?_of_block (w := w) (a := ⟨2, j, none⟩) hb]; exact h j hj
abbrev mv (f : Int → Bool) : Value := .int .u64 ((msk f : Nat) : Int)
set_option maxHeartbeats 1000000 in
theorem only_ok (w : World) (s : Int) (hs : 1 ≤ s ∧ s ≤ 8) : Calls Tryz.prog 164 #[.int .i64 s] w fun e w' => e = .returned (mv (oneS s)) ∧ w' = w := by
  have h : msk (oneS s) = 2 ^ s.toNat := by
    have := msk_one (s := s.toNat) (by omega)
    rw [show ((s.toNat : Nat) : Int) = s by omega] at this
    exact this
  unfold mv
  rw [h]
  obtain h | h | h | h | h | h | h | h : s = 1 ∨ s = 2 ∨ s = 3 ∨ s = 4 ∨ s = 5 ∨ s = 6 ∨ s = 7 ∨ s = 8 := by omega
  all_goals
    subst h
    go_enter Tryz.func164, Tryz.ntmps164
    go_wp2_with fail
    go_ret
    exact ⟨by first | rfl | simp, rfl⟩
set_option maxHeartbeats 1000000 in
theorem with_ok (w : World) (f : Int → Bool) (s : Int) (hs : 1 ≤ s ∧ s ≤ 8) : Calls Tryz.prog 150 #[mv f, .int .i64 s] w fun e w' => e = .returned (mv (putS f s true)) ∧ w' = w := by
  have hO := only_ok w s hs
  have h1 := msk_lt f
  have h2 := msk_lt (oneS s)
  have hb := bits_or_u64_nat (msk f) (msk (oneS s)) (by omega) (by omega)
  rw [msk_or] at hb
  clear h1 h2
  unfold mv at *
  generalize msk (putS f s true) = r at *
  generalize msk (oneS s) = o at *
  generalize msk f = m at *
  go_enter Tryz.func150, Tryz.ntmps150
  go_wp2_with (go_at_call 164; refine hO.mono ?_; rintro e w1 ⟨rfl, hw⟩; subst w1)
  go_ret
  exact ⟨by first | rfl | rw [hb], rfl⟩
set_option maxHeartbeats 1000000 in
theorem without_ok (w : World) (f g : Int → Bool) : Calls Tryz.prog 151 #[mv f, mv g] w fun e w' => e = .returned (mv (lessS f g)) ∧ w' = w := by
  have h1 := msk_lt f
  have h2 := msk_lt g
  have hb := u64_andNot_nat (msk f) (msk g) (by omega) (by omega)
  rw [msk_less] at hb
  clear h1 h2
  unfold mv at *
  generalize msk (lessS f g) = r at *
  generalize msk g = o at *
  generalize msk f = m at *
  go_enter Tryz.func151, Tryz.ntmps151
  go_wp2_with fail
  go_ret
  exact ⟨by first | rfl | rw [hb], rfl⟩
end Go.Proofs.YtcfhanoekniaaaaGreatDoor

namespace Go.Proofs.YtcfhanoekniaaaaGreatDoor
open Go.RowKit Go.Maps Go.Sort

/-- What is ignored, of one that runs. -/
def igQ (p : Pr) : Int → Bool := if p.state = 1 then p.ig else noSig
/-- A process as a value. -/
abbrev qv (p : Pr) : Value := .agg #[.int .i64 p.state, .int .i64 p.parent, .int .i64 p.code, mv p.wt, mv (igQ p)]
abbrev qv0 : Value := .agg #[.int .i64 0, .int .i64 0, .int .i64 0, .int .u64 0, .int .u64 0]
theorem zero_q (w : World) : (zeroValue 219).run Tryz.prog w = .ok qv0 w := by kernel_rfl
theorem qv_f (a b c d e : Int) (w : World) : (Instr.field 219 (.agg #[.int .i64 a, .int .i64 b, .int .i64 c, .int .u64 d, .int .u64 e]) 0).run Tryz.prog w = .ok (.int .i64 a) w ∧ (Instr.field 219 (.agg #[.int .i64 a, .int .i64 b, .int .i64 c, .int .u64 d, .int .u64 e]) 1).run Tryz.prog w = .ok (.int .i64 b) w ∧ (Instr.field 219 (.agg #[.int .i64 a, .int .i64 b, .int .i64 c, .int .u64 d, .int .u64 e]) 2).run Tryz.prog w = .ok (.int .i64 c) w ∧ (Instr.field 219 (.agg #[.int .i64 a, .int .i64 b, .int .i64 c, .int .u64 d, .int .u64 e]) 4).run Tryz.prog w = .ok (.int .u64 e) w := by
  refine ⟨?_, ?_, ?_, ?_⟩ <;> kernel_rfl
/-- What holds besides. -/
structure JD (P : Ps) : Prop where
  dis : ∀ n p, P n = some p → ∀ s, p.wt s = true → p.ig s = false
  dead : ∀ n p, P n = some p → p.state = 2 → p.wt = noSig
/-- In memory. -/
structure QM (w : World) (t g : Nat) (P : Ps) (c : Nat) : Prop where
  head : w.heap[t]? = some (.cells #[.map (some g)] 222)
  map : PMap w g c (fun n => (P n).map qv)
  key : ∀ n p, P n = some p → 1 ≤ n ∧ n ≤ 24
structure QJ (w : World) (t g : Nat) (P : Ps) (c : Nat) : Prop extends QM w t g P c where
  ok : JOk P
  dj : JD P
section
variable {w w' : World} {t g c : Nat} {P : Ps} {n m : Int} {p : Pr}
theorem QM.tlt (h : QM w t g P c) : t < w.heap.size := by
  rcases Nat.lt_or_ge t w.heap.size with z | z
  · exact z
  · have := h.head; rw [Array.getElem?_eq_none (by omega)] at this; cases this
theorem QM.gt (h : QM w t g P c) : g ≠ t := fun e => by
  obtain ⟨es, cl, hm⟩ := h.map.isMap
  rw [e, h.head] at hm; cases hm
theorem QM.keep (h : QM w t g P c) (h1 : w'.heap[t]? = w.heap[t]?) (h2 : w'.heap[g]? = w.heap[g]?) : QM w' t g P c := ⟨h1.trans h.head, h.map.keep h2, h.key⟩
theorem QM.below (h : QM w t g P c) (hb : Below w.heap.size w w') : QM w' t g P c := h.keep (hb.block t h.tlt) (hb.block g h.map.lt)
theorem QM.c0 (h : QM w t g P c) : w.cell? ⟨t, 0, none⟩ = some (.map (some g)) := by rw [cell_of_row _ _ _ _ _ _ h.head]; rfl
theorem QM.num (h : QM w t g P c) : IsN P c := h.map.isN.congr (fun x => by cases P x <;> rfl)
theorem QM.few (h : QM w t g P c) : c ≤ 24 := by
  have := h.num.few (B := 24) (by omega) (fun x hx => by
    obtain ⟨p, hp⟩ := Option.isSome_iff_exists.1 hx
    have := h.key x p hp; omega)
  omega
theorem QM.look (h : QM w t g P c) (n : Int) (hn : (Lit.int .i64 n).wf = true) : (Instr.lookup 220 (.map (some g)) (.int .i64 n) false).run Tryz.prog w = .ok (match P n with | some p => qv p | none => qv0) w := by
  rw [h.map.look Tryz.underlying220 (zero_q _) n hn]
  cases P n <;> rfl
theorem QM.lookS (h : QM w t g P c) (hp : P n = some p) (hn : (Lit.int .i64 n).wf = true) : (Instr.lookup 220 (.map (some g)) (.int .i64 n) false).run Tryz.prog w = .ok (.agg #[.int .i64 p.state, .int .i64 p.parent, .int .i64 p.code, .int .u64 ((msk p.wt : Nat) : Int), .int .u64 ((msk (igQ p) : Nat) : Int)]) w := by
  rw [h.look n hn, hp]
/-- The five fields of one. -/
def qF (P : Ps) (n : Int) : Int × Int × Int × Nat × Nat := match P n with | some p => (p.state, p.parent, p.code, msk p.wt, msk (igQ p)) | none => (0, 0, 0, 0, 0)
theorem qF_st : (qF P n).1 = stJ P n := by unfold qF; cases h : P n with | none => rw [stJ_none h] | some p => rw [stJ_some h]
theorem qF_par : (qF P n).2.1 = parJ P n := by unfold qF; cases h : P n with | none => rw [parJ_none h] | some p => rw [parJ_some h]
theorem QM.lookF (h : QM w t g P c) (n : Int) (hn : (Lit.int .i64 n).wf = true) : (Instr.lookup 220 (.map (some g)) (.int .i64 n) false).run Tryz.prog w = .ok (.agg #[.int .i64 (qF P n).1, .int .i64 (qF P n).2.1, .int .i64 (qF P n).2.2.1, .int .u64 ((qF P n).2.2.2.1 : Nat), .int .u64 ((qF P n).2.2.2.2 : Nat)]) w := by
  rw [h.look n hn]
  unfold qF
  cases P n <;> rfl
set_option maxRecDepth 100000 in
set_option maxHeartbeats 1000000 in
theorem QM.at_ok (h : QM w t g P c) (n : Int) (hn : (Lit.int .i64 n).wf = true) : Calls Tryz.prog 162 #[wp t, .int .i64 n] w fun e w' => e = .returned (.agg #[.int .i64 (qF P n).1, .int .i64 (qF P n).2.1, .int .i64 (qF P n).2.2.1, .int .u64 ((qF P n).2.2.2.1 : Nat), .int .u64 ((qF P n).2.2.2.2 : Nat)]) ∧ Below w.heap.size w w' := by
  have hA : ∀ o, Below w.heap.size w (w.alloc o) := fun o => (Below.refl _ w).alloc (Nat.le_refl _) o
  have hl : ∀ o, (Instr.lookup 220 (.map (some g)) (.int .i64 n) false).run Tryz.prog (w.alloc o) = _ := fun o => (h.below (hA o)).lookF n hn
  have c0 : ∀ o, (w.alloc o).cell? ⟨t, 0, none⟩ = some (.map (some g)) := fun o => (h.below (hA o)).c0
  have hlt := h.tlt
  clear h
  generalize (qF P n).1 = x1 at *
  generalize (qF P n).2.1 = x2 at *
  generalize (qF P n).2.2.1 = x3 at *
  generalize (qF P n).2.2.2.1 = x4 at *
  generalize (qF P n).2.2.2.2 = x5 at *
  go_enter Tryz.func162, Tryz.ntmps162
  go_wp2_with fail
  refine bodyPost_ret (v := .agg #[.int .i64 x1, .int .i64 x2, .int .i64 x3, .int .u64 (x4 : Int), .int .u64 (x5 : Int)]) (by simp [results, Tryz.results162, go_sem]) rfl ⟨rfl, ?_⟩
  repeat first | exact Below.refl _ _ | refine Below.alloc ?_ (by first | omega | (simp <;> omega)) _ | refine Below.setCell ?_ (by first | omega | (simp <;> omega)) _
set_option maxRecDepth 100000 in
set_option maxHeartbeats 1000000 in
theorem QM.state (h : QM w t g P c) (n : Int) (hn : (Lit.int .i64 n).wf = true) : Calls Tryz.prog 112 #[wp t, .int .i64 n] w fun e w' => e = .returned (.int .i64 (stJ P n)) ∧ Below w.heap.size w w' := by
  have hC := h.at_ok n hn
  rw [← qF_st]
  have hf := fun W => (qv_f (qF P n).1 (qF P n).2.1 (qF P n).2.2.1 ((qF P n).2.2.2.1 : Nat) ((qF P n).2.2.2.2 : Nat) W).1
  generalize (qF P n).1 = x1 at *
  generalize (qF P n).2.1 = x2 at *
  generalize (qF P n).2.2.1 = x3 at *
  generalize (qF P n).2.2.2.1 = x4 at *
  generalize (qF P n).2.2.2.2 = x5 at *
  go_enter Tryz.func112, Tryz.ntmps112
  go_wp2_with (go_at_call 162; refine hC.mono ?_; rintro e w1 ⟨rfl, hb⟩)
  go_ret
  exact ⟨rfl, hb⟩
set_option maxRecDepth 100000 in
set_option maxHeartbeats 1000000 in
theorem QM.parent (h : QM w t g P c) (n : Int) (hn : (Lit.int .i64 n).wf = true) : Calls Tryz.prog 248 #[wp t, .int .i64 n] w fun e w' => e = .returned (.int .i64 (parJ P n)) ∧ Below w.heap.size w w' := by
  have hC := h.at_ok n hn
  rw [← qF_par]
  have hf := fun W => (qv_f (qF P n).1 (qF P n).2.1 (qF P n).2.2.1 ((qF P n).2.2.2.1 : Nat) ((qF P n).2.2.2.2 : Nat) W).2.1
  generalize (qF P n).1 = x1 at *
  generalize (qF P n).2.1 = x2 at *
  generalize (qF P n).2.2.1 = x3 at *
  generalize (qF P n).2.2.2.1 = x4 at *
  generalize (qF P n).2.2.2.2 = x5 at *
  go_enter Tryz.func248, Tryz.ntmps248
  go_wp2_with (go_at_call 162; refine hC.mono ?_; rintro e w1 ⟨rfl, hb⟩)
  go_ret
  exact ⟨rfl, hb⟩
set_option maxRecDepth 100000 in
set_option maxHeartbeats 1000000 in
theorem QM.runs (h : QM w t g P c) (n : Int) (hn : (Lit.int .i64 n).wf = true) : Calls Tryz.prog 137 #[wp t, .int .i64 n] w fun e w' => e = .returned (uev (if runsJ P n = true then 0 else 7)) ∧ Below w.heap.size w w' := by
  have hC := h.state n hn
  cases hru : runsJ P n with
  | true =>
    have hs : stJ P n = 1 := by unfold runsJ at hru; simpa using hru
    rw [hs] at hC
    rw [if_pos rfl, uev_zero]
    go_enter Tryz.func137, Tryz.ntmps137
    go_wp2_with (go_at_call 112; refine hC.mono ?_; rintro e w1 ⟨rfl, hb⟩)
    go_ret
    exact ⟨rfl, hb⟩
  | false =>
    have hs : stJ P n ≠ 1 := by unfold runsJ at hru; simpa using hru
    rw [if_neg (by simp), uev_ne (by omega)]
    have hs' : (stJ P n == 1) = false := by simpa using hs
    generalize stJ P n = s at *
    go_enter Tryz.func137, Tryz.ntmps137
    go_wp2_with (go_at_call 112; refine hC.mono ?_; rintro e w1 ⟨rfl, hb⟩)
    go_ret
    exact ⟨rfl, hb⟩
theorem QJ.below (h : QJ w t g P c) (hb : Below w.heap.size w w') : QJ w' t g P c := ⟨h.toQM.below hb, h.ok, h.dj⟩
end
end Go.Proofs.YtcfhanoekniaaaaGreatDoor

/- What is plain of processes, besides: for both sides. -/
import Derived.Test.YtidinhbokkelnacDoorJAbs
import Derived.Test.YtidinhbokkelnacDoorBase
import Derived.BigQuiet
import Derived.Outline
namespace Go.Proofs.YtidinhbokkelnacDoor
open Go.RowKit Go.Maps

theorem wf64 {n : Int} (h : -9223372036854775808 ≤ n ∧ n ≤ 9223372036854775807) : (Lit.int .i64 n).wf = true := by
  have a : IntKind.min .i64 = -9223372036854775808 := rfl
  have b : IntKind.max .i64 = 9223372036854775807 := rfl
  simp [Lit.wf, a, b]
  omega
/-- delete, by its own equation. -/
theorem wpList_delete_run {P : Program} {ops : Array Oper} {rest : List Oper} {o : Oper} {a : Act} {w : World} {Q : Exit → Act → World → Prop} (hgd : o.guard = none) (s x : Operand) (t k : TypeId)
    (ho : o.op = .call { callee := .builtin .delete, args := #[s, x], argTypes := #[t, k] }) (v y v' : Value) (w' : World) (hs : a.eval s = v) (hx : a.eval x = y)
    (hr : ∀ ty, (Builtin.delete_ #[t, k] ty #[v, y]).run P w = .ok v' w') (h : wpList P ops Q rest (a.put o.dst v') w') : wpList P ops Q (o :: rest) a w := by
  refine wpList_plain hgd fun K hK => ?_
  unfold Oper.wp execOp
  simp only [ho, resolve, invoke, builtin, Sem.run_bind, Sem.run_pure, Result.andThen_ok, List.map_toArray, List.map_cons, List.map_nil, hs, hx, hr]
  exact hK _ _ h

theorem onJ_on (P : Ps) (n : Int) (f g : Pr → Pr) : onJ (onJ P n f) n g = onJ P n (fun p => g (f p)) := by
  funext i
  unfold onJ
  by_cases e : i = n
  · simp only [e, if_true]; cases P n <;> rfl
  · simp only [e, if_false]
theorem onJ_at {P : Ps} {n : Int} {p : Pr} (h : P n = some p) (f : Pr → Pr) : onJ P n f n = some (f p) := by
  unfold onJ; rw [if_pos rfl, h]; rfl
theorem sigs_find {f : Int → Bool} {x : Int} (h1 : 1 ≤ x ∧ x ≤ 8) (hl : ∀ y, 1 ≤ y → y < x → f y = false) (hx : f x = true) : sigs.find? f = some x := by
  have a : ∀ y, 1 ≤ y → y < x → f y = false := hl
  unfold sigs
  obtain h | h | h | h | h | h | h | h : x = 1 ∨ x = 2 ∨ x = 3 ∨ x = 4 ∨ x = 5 ∨ x = 6 ∨ x = 7 ∨ x = 8 := by omega
  all_goals
    subst h
    simp only [List.find?_cons, hx]
    try simp only [a 1 (by omega) (by omega)]
    try simp only [a 2 (by omega) (by omega)]
    try simp only [a 3 (by omega) (by omega)]
    try simp only [a 4 (by omega) (by omega)]
    try simp only [a 5 (by omega) (by omega)]
    try simp only [a 6 (by omega) (by omega)]
    try simp only [a 7 (by omega) (by omega)]
theorem sigs_none {f : Int → Bool} (hl : ∀ y, 1 ≤ y → y < 9 → f y = false) : sigs.find? f = none := by
  rw [List.find?_eq_none]
  intro x hx
  unfold sigs at hx
  simp only [List.mem_cons, List.not_mem_nil, or_false] at hx
  rw [hl x (by omega) (by omega)]
  simp
theorem risingJ {ks ks' : List Int} (h : ks.Pairwise (· < ·)) (h' : ks'.Pairwise (· < ·)) (hm : ∀ x, x ∈ ks ↔ x ∈ ks') : ks = ks' := by
  have p : ks.Perm ks' := (List.perm_ext_iff_of_nodup (h.imp (fun z => by omega)) (h'.imp (fun z => by omega))).2 hm
  exact p.eq_of_pairwise (le := (· < ·)) (fun a b _ _ h1 h2 => by omega) h h'
theorem sortedJ {ss : List Int} (h : ss.Nodup) : (ss.mergeSort (fun x y => decide (x ≤ y))).Pairwise (· < ·) := by
  have tr : ∀ a b c : Int, decide (a ≤ b) = true → decide (b ≤ c) = true → decide (a ≤ c) = true := fun a b c h1 h2 => by simp only [decide_eq_true_eq] at *; omega
  have tl : ∀ a b : Int, (decide (a ≤ b) || decide (b ≤ a)) = true := fun a b => by simp only [Bool.or_eq_true, decide_eq_true_eq]; omega
  have h1 := List.pairwise_mergeSort tr tl ss
  have h2 : (ss.mergeSort (fun x y => decide (x ≤ y))).Nodup := (List.mergeSort_perm ss _).nodup_iff.2 h
  exact h1.imp₂ (fun {a b} h1 h2 => by simp only [decide_eq_true_eq] at h1; omega) h2
theorem belowJ_dr {B : Nat} {w w' : World} (h : Below B w w') : Below B w w'.drew := ⟨h.os, h.tape, h.output, h.size, h.block⟩
/-- The least number that none has. -/
def leastJ (P : Ps) : Int := (((List.range 24).map (fun i : Nat => (i : Int) + 1)).find? (fun n => !(P n).isSome)).getD 0
theorem leastJ_eq {P : Ps} {k : Int} (h : FreeJ P k) (h24 : k ≤ 24) : leastJ P = k := by
  unfold leastJ
  have hk := h.pos
  have : ((List.range 24).map (fun i : Nat => (i : Int) + 1)).find? (fun n => !(P n).isSome) = some k := by
    rw [List.find?_eq_some_iff_getElem]
    refine ⟨by rw [h.no]; rfl, (k - 1).toNat, by simp; omega, by simp; omega, fun j hj => ?_⟩
    simp only [List.getElem_map, List.getElem_range]
    rw [h.all _ (by omega) (by omega)]
    rfl
  rw [this]; rfl
def forkK (P : Ps) (pid : Int) (c : Nat) : Int := if forkE P pid c = 0 then leastJ P else 0
def forkQ (P : Ps) (pid : Int) (c : Nat) : Ps := if forkE P pid c = 0 then forkP P pid (leastJ P) else P
theorem JOk.forkQ {P : Ps} (h : JOk P) {c : Nat} (hc : IsN P c) (pid : Int) : JOk (forkQ P pid c) := by
  unfold Go.Proofs.YtidinhbokkelnacDoor.forkQ
  split
  · rename_i e
    have hr : runsJ P pid = true := by
      unfold forkE at e
      cases z : runsJ P pid with
      | true => rfl
      | false => rw [z] at e; simp at e
    have h24 : c < 24 := by
      unfold forkE at e
      rw [hr] at e
      split at e
      · cases e
      · split at e
        · cases e
        · omega
    obtain ⟨k, hk, hl⟩ := FreeJ.ex hc h24
    rw [leastJ_eq hk hl]
    exact h.fork hr hk hl
  · exact h
/-- What is told when none of the first is dead. -/
def wtE (P : Ps) (pid : Int) (L : List Int) : Int := if L.any (ownJ P pid) = true then 6 else 8
section
variable {P : Ps} {pid : Int}
theorem wtE_add {L : List Int} {x : Int} : wtE P pid (L ++ [x]) = if ownJ P pid x = true then 6 else wtE P pid L := by
  unfold wtE
  rw [List.any_append]
  cases h : ownJ P pid x <;> simp [h]
theorem take_add {L : List Int} {i : Nat} (h : i < L.length) : L.take (i + 1) = L.take i ++ [L[i]] := by
  rw [List.take_add_one, List.getElem?_eq_getElem h]; rfl
theorem wait_at {L : List Int} {i : Nat} {f : Int → Bool} (h : i < L.length) (ha : ∀ j (hj : j < L.length), j < i → f L[j] = false) (hi : f L[i] = true) : L.find? f = some L[i] := by
  rw [List.find?_eq_some_iff_getElem]
  exact ⟨hi, i, h, rfl, fun j hj => by rw [ha j (by omega) hj]; rfl⟩
theorem wait_no {L : List Int} {f : Int → Bool} (ha : ∀ j (hj : j < L.length), f L[j] = false) : L.find? f = none := by
  rw [List.find?_eq_none]
  intro x hx
  obtain ⟨j, hj, rfl⟩ := List.getElem_of_mem hx
  rw [ha j hj]; simp
end
end Go.Proofs.YtidinhbokkelnacDoor

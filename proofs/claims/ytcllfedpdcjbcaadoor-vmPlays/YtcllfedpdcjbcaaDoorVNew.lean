/- Package vm: NewStore and New, by their Go text. -/
import Derived.Test.YtcllfedpdcjbcaaDoorVOps
namespace Go.Proofs.YtcllfedpdcjbcaaDoor
open Go.RowKit Go.Shelf Go.Lib Go.Sort Go.Maps

set_option maxHeartbeats 1000000 in
theorem newStore_no (w : World) (n : Int) (h : ¬ (1 ≤ n ∧ n ≤ 256)) : Calls Tryd.prog 57 #[.int .i64 n] w fun e w' => e = .returned (.tuple #[.pointer none, enr 2]) ∧ w' = w := by
  have hN := new_no w n h
  clear h
  go_enter Tryd.func57, Tryd.ntmps57
  go_wp2_with (go_at_call 12; refine hN.mono ?_; rintro e w1 ⟨rfl, h1⟩; subst w1)
  go_ret2
  exact ⟨rfl, rfl⟩

theorem sole_rof : Sole (Rof fun _ => 0) (fun _ => none) := fun x => by
  unfold Rof; rw [if_neg (fun h => h.2 rfl)]; rfl
theorem num_rof (n : Nat) : num (Rof fun _ => 0) n = 0 := sumTo_zero _ _ (fun i _ _ => by simp [Rof])

set_option maxRecDepth 100000 in
set_option maxHeartbeats 2000000 in
theorem newStore_ok (w : World) (n : Nat) (h1 : 1 ≤ n) (h2 : n ≤ 256) : Calls Tryd.prog 57 #[.int .i64 (n : Int)] w fun e w' => ∃ b, e = .returned (.tuple #[vp b, .nilIface]) ∧ ∃ E A, E.b = b ∧ E.n = n ∧ Vs E w' (fun _ _ => 0) (Rof fun _ => 0) A ∧ Below w.heap.size w w' ∧ (∀ i, i < w.heap.size → ¬ vown E A i) ∧ w.heap.size ≤ b := by
  have hmm := @run_makeMap Tryd.prog
  go_enter Tryd.func57, Tryd.ntmps57
  go_wp2_with fail
  refine (new_ok w n (by omega) (by omega)).mono ?_
  rintro e w1 ⟨bm, rfl, sm, m1, ls, lb, b1⟩
  rw [Int.toNat_natCast] at m1
  go_wp2_with fail
  refine (pool_ok w1 n h1 h2).mono ?_
  rintro e w2 ⟨bp, rfl, A, a2, f2, o2⟩
  have b2 : Below w1.heap.size w1 w2 := ⟨f2.os, f2.tape, f2.output, f2.size, fun i hi => f2.block i hi (fun h => h)⟩
  have hfin : ∀ W : World, Below w2.heap.size w2 W → W.heap[w2.heap.size]? = some (.map #[] 0) → W.heap[w2.heap.size + 1]? = some (.cells #[mp bm, pp bp, .map (some w2.heap.size)] 165) →
      ∃ E A, E.b = w2.heap.size + 1 ∧ E.n = n ∧ Vs E W (fun _ _ => 0) (Rof fun _ => 0) A ∧ Below w.heap.size w W ∧ (∀ i, i < w.heap.size → ¬ vown E A i) ∧ w.heap.size ≤ w2.heap.size + 1 := by
    intro W hB hm hs
    have s1 := b1.size
    have s2 := b2.size
    have lbm := m1.lt_b
    have lsm := m1.lt_s (by omega)
    have hA : ∀ i, A i → i < w2.heap.size ∧ w1.heap.size ≤ i := fun i hi => ⟨a2.lt' hi, by
      apply Classical.byContradiction; intro hn; exact o2 i (by omega) hi⟩
    refine ⟨⟨w2.heap.size + 1, bm, sm, bp, w2.heap.size, n⟩, A, rfl, rfl, ⟨hs, m1.keep ((hB.block bm (by omega)).trans (b2.block bm lbm)) ((hB.block sm (by omega)).trans (b2.block sm lsm)), ⟨_, _, (a2.more' (by omega : 0 ≤ 256)).keep' (fun i hi => hB.block i (hA i hi).1), sole_rof⟩, ?_, fun x k hx => ?_, fun ha => ?_, fun ha => ?_, fun ha => ?_, fun ha => ?_, ?_, ?_, ?_, ?_, h1⟩, (b1.trans (b2.mono s1)).trans (hB.mono (by omega)), fun i hi ho => ?_, by omega⟩
    · show PMap W w2.heap.size (num (Rof fun _ => 0) n) (tm (Rof fun _ => 0))
      rw [num_rof]
      have e0 : tm (Rof fun _ => 0) = fun _ => none := by funext x; unfold tm Rof; rw [if_neg (fun h => h.2 rfl)]; rfl
      rw [e0]
      have := PMap.made w2
      refine this.keep (hm.trans ?_)
      exact (heap_new w2 _).symm
    · unfold Rof at hx; rw [if_neg (fun h => h.2 rfl)] at hx; cases hx
    · have := (hA _ ha).1; simp only at this; omega
    · have := (hA _ ha).2; simp only at this; omega
    · have := (hA _ ha).2; simp only at this; omega
    · have := (hA _ ha).1; simp only at this; omega
    · simp only; omega
    · simp only; omega
    · simp only; omega
    · simp only; omega
    · rcases ho with ho | ho | ho
      · have := (hA i ho).2; omega
      · simp only at ho; omega
      · simp only at ho; omega
  clear m1 a2 f2 o2 b1 b2
  go_wp2_with fail
  go_ret2
  refine ⟨w2.heap.size + 1, by simp, hfin _ ?_ ?_ ?_⟩
  · exact ((Below.refl _ w2).alloc (Nat.le_refl _) _).alloc (by simp) _
  · show ((w2.heap.push _).push _)[w2.heap.size]? = _
    rw [Array.getElem?_push, if_neg (by simp), Array.getElem?_push, if_pos rfl]
  · show ((w2.heap.push _).push _)[w2.heap.size + 1]? = _
    rw [Array.getElem?_push, if_pos (by simp)]

set_option maxHeartbeats 1000000 in
theorem newSpace_nil (w : World) : Calls Tryd.prog 58 #[.pointer none] w fun e w' => e = .returned (.tuple #[.pointer none, enr 7]) ∧ w' = w := by
  go_enter Tryd.func58, Tryd.ntmps58
  go_wp2_with fail
  go_ret2
  exact ⟨rfl, rfl⟩

set_option maxHeartbeats 1000000 in
theorem newSpace_ok {E : St} {w : World} {D : Nat → Nat → Int} {A : Nat → Prop} {o : Int → Nat} (h : Vs E w D (Rof o) A) : Calls Tryd.prog 58 #[vp E.b] w fun e w' => ∃ c, e = .returned (.tuple #[vp c, .nilIface]) ∧ ∃ gc, VS E w' c gc D A (fun _ => none) o ∧ Below w.heap.size w w' ∧ w.heap.size ≤ c ∧ w.heap.size ≤ gc := by
  have hmm := @run_makeMap Tryd.prog
  have hfin : ∀ W : World, Below w.heap.size w W → W.heap[w.heap.size]? = some (.map #[] 0) → W.heap[w.heap.size + 1]? = some (.cells #[vp E.b, .map (some w.heap.size)] 168) → VS E W (w.heap.size + 1) w.heap.size D A (fun _ => none) o := by
    intro W hB hm hs
    have e1 : Rof (fun f => sh (fun _ => none) f + o f) = Rof o := Rof_congr (fun x hx => by rw [sh_empty hx]; omega)
    refine ⟨by rw [e1]; exact h.below hB, ⟨hs, ?_⟩, PgOk.none _, Dis.none, fun ho => ?_, fun ho => ?_, fun e => ?_, fun e => ?_⟩
    · rw [lenP_none]
      have e0 : pgv (fun _ => none) = fun _ => none := rfl
      rw [e0]
      exact (PMap.made w).keep (hm.trans (heap_new w _).symm)
    · have := h.olt ho; omega
    · have := h.olt ho; omega
    · have := h.blt; omega
    · have := h.mlt; omega
  clear h
  go_enter Tryd.func58, Tryd.ntmps58
  go_wp2_with fail
  go_ret2
  have hB : Below w.heap.size w ((w.alloc (.map #[] 0)).alloc (.cells #[vp E.b, .map (some w.heap.size)] 168)) := ((Below.refl _ w).alloc (Nat.le_refl _) _).alloc (by simp) _
  refine ⟨w.heap.size + 1, by simp, w.heap.size, hfin _ hB ?_ ?_, hB, by omega, by omega⟩
  · show ((w.heap.push _).push _)[w.heap.size]? = _
    rw [Array.getElem?_push, if_neg (by simp), Array.getElem?_push, if_pos rfl]
  · show ((w.heap.push _).push _)[w.heap.size + 1]? = _
    rw [Array.getElem?_push, if_pos (by simp)]
end Go.Proofs.YtcllfedpdcjbcaaDoor

/- The document's own NewProcs, by its Go text. -/
import Derived.Test.YtidinhbokkelnabDoorJRef3
namespace Go.Proofs.YtidinhbokkelnabDoor
open Go.RowKit Go.Maps Go.Sort

theorem sv_no : (fun _ : Int => (none : Option Value)) = sv noSig := by funext i; rfl
set_option maxRecDepth 100000 in
set_option maxHeartbeats 4000000 in
theorem newProcs_ok (w : World) : Calls Tryd.prog 51 #[] w fun e w' => ∃ t G, e = .returned (wp t) ∧ RJ w' t firstJ G 1 ∧ Below w.heap.size w w' ∧ ∀ i, G.own i → w.heap.size ≤ i := by
  have hmm := @run_makeMap Tryd.prog
  obtain ⟨wA, hwA⟩ : ∃ wA, ((w.alloc (.map #[] 0)).alloc (.map #[] 0)).alloc (.map #[] 0) = wA := ⟨_, rfl⟩
  have hsz1 : (w.alloc (.map #[] 0)).heap.size = w.heap.size + 1 := by show (w.heap.push _).size = _; rw [Array.size_push]
  have hsz2 : ((w.alloc (.map #[] 0)).alloc (.map #[] 0)).heap.size = w.heap.size + 2 := by show ((w.heap.push _).push _).size = _; rw [Array.size_push, Array.size_push]
  have hszA : wA.heap.size = w.heap.size + 3 := by rw [← hwA]; show (((w.heap.push _).push _).push _).size = _; rw [Array.size_push, Array.size_push, Array.size_push]
  have p0 : PMap wA w.heap.size 0 (fun _ => none) := by
    rw [← hwA]
    exact ((PMap.made w).keep (Below.heap_alloc _ _ _ (by rw [hsz1]; omega))).keep (Below.heap_alloc _ _ _ (by rw [hsz2]; omega))
  have p1 : PMap wA (w.heap.size + 1) 0 (fun _ => none) := by
    have := PMap.made (w.alloc (.map #[] 0))
    rw [hsz1] at this
    rw [← hwA]
    exact this.keep (Below.heap_alloc _ _ _ (by rw [hsz2]; omega))
  have p2 : PMap wA (w.heap.size + 2) 0 (fun _ => none) := by
    have := PMap.made ((w.alloc (.map #[] 0)).alloc (.map #[] 0))
    rw [hsz2] at this
    rw [← hwA]
    exact this
  have bA : Below w.heap.size w wA := by
    rw [← hwA]
    exact (((Below.refl _ w).alloc (Nat.le_refl _) _).alloc (by rw [hsz1]; omega) _).alloc (by rw [hsz2]; omega) _
  obtain ⟨w1, hrun, q0, g1⟩ := p0.put Tryd.underlying115 (by unfold maxLen; omega) 1 (by decide) (.agg #[.int .i64 0, .int .i64 1, .int .i64 0, .map (some (w.heap.size + 1)), .map (some (w.heap.size + 2))])
  have q1 := p1.keep (g1.block _ (by rw [hszA]; omega) (fun e => by have := Option.some.inj e; omega))
  have q2 := p2.keep (g1.block _ (by rw [hszA]; omega) (fun e => by have := Option.some.inj e; omega))
  have b1 : Below w.heap.size w w1 := ⟨g1.os.trans bA.os, g1.tape.trans bA.tape, g1.output.trans bA.output, Nat.le_trans bA.size g1.size, fun i hi => (g1.block i (by rw [hszA]; omega) (fun e => by have := Option.some.inj e; omega)).trans (bA.block i hi)⟩
  have hz1 : w.heap.size + 3 ≤ w1.heap.size := by have := g1.size; rw [hszA] at this; exact this
  have hfin : RJ (w1.alloc (.cells #[.map (some w.heap.size)] 117)) w1.heap.size firstJ ⟨w.heap.size, fun _ => w.heap.size + 1, fun _ => w.heap.size + 2, fun i => if i = w1.heap.size then some (0, 3) else if i = w.heap.size then some (0, 2) else if i = w.heap.size + 1 then some (1, 0) else if i = w.heap.size + 2 then some (1, 1) else none⟩ 1 := by
    have one : ∀ n p, firstJ n = some p → n = 1 ∧ p = ⟨0, 1, 0, noSig, noSig⟩ := fun n p e => by
      unfold firstJ at e
      split at e
      · rename_i e1; exact ⟨e1, (Option.some.inj e).symm⟩
      · cases e
    refine ⟨?_, ?_, fun n p e => ⟨0, ?_⟩, fun n p e => ⟨0, ?_⟩, ?_, ?_, fun n hn => ?_, fun n hn => ?_, fun i hi => ?_, .first⟩
    · show (w1.heap.push _)[w1.heap.size]? = _
      rw [Array.getElem?_push, if_pos rfl]
    · have e : (fun i => if i = (1 : Int) then some (Value.agg #[.int .i64 0, .int .i64 1, .int .i64 0, .map (some (w.heap.size + 1)), .map (some (w.heap.size + 2))]) else (fun _ => none) i) = fun n => (firstJ n).map (fun p => prv p (w.heap.size + 1) (w.heap.size + 2)) := by
        funext i; unfold firstJ; by_cases e : i = 1 <;> simp [e]
      rw [← e]
      exact q0.keep (Below.heap_alloc _ _ _ q0.lt)
    · rw [(one n p e).2]
      rw [sv_no] at q1
      exact q1.keep (Below.heap_alloc _ _ _ q1.lt)
    · rw [(one n p e).2]
      rw [sv_no] at q2
      exact q2.keep (Below.heap_alloc _ _ _ q2.lt)
    · exact if_pos rfl
    · show (if w.heap.size = w1.heap.size then _ else _) = _
      rw [if_neg (by omega), if_pos rfl]
    · obtain ⟨p, hp⟩ := Option.isSome_iff_exists.1 hn
      rw [(one n p hp).1]
      show (if w.heap.size + 1 = w1.heap.size then _ else if w.heap.size + 1 = w.heap.size then _ else if w.heap.size + 1 = w.heap.size + 1 then _ else _) = _
      rw [if_neg (by omega), if_neg (by omega), if_pos rfl]
    · obtain ⟨p, hp⟩ := Option.isSome_iff_exists.1 hn
      rw [(one n p hp).1]
      show (if w.heap.size + 2 = w1.heap.size then _ else if w.heap.size + 2 = w.heap.size then _ else if w.heap.size + 2 = w.heap.size + 1 then _ else if w.heap.size + 2 = w.heap.size + 2 then _ else _) = _
      rw [if_neg (by omega), if_neg (by omega), if_neg (by omega), if_pos rfl]
    · have hs : (w1.alloc (.cells #[.map (some w.heap.size)] 117)).heap.size = w1.heap.size + 1 := by show (w1.heap.push _).size = _; rw [Array.size_push]
      rw [hs]
      simp only at hi
      split at hi
      · omega
      · split at hi
        · omega
        · split at hi
          · omega
          · split at hi
            · omega
            · cases hi
  have hown : ∀ i, JG.own ⟨w.heap.size, fun _ => w.heap.size + 1, fun _ => w.heap.size + 2, fun i => if i = w1.heap.size then some (0, 3) else if i = w.heap.size then some (0, 2) else if i = w.heap.size + 1 then some (1, 0) else if i = w.heap.size + 2 then some (1, 1) else none⟩ i → w.heap.size ≤ i := fun i hi => by
    unfold JG.own at hi
    simp only at hi
    split at hi
    · omega
    · split at hi
      · omega
      · split at hi
        · omega
        · split at hi
          · omega
          · cases hi
  have b2 : Below w.heap.size w (w1.alloc (.cells #[.map (some w.heap.size)] 117)) := b1.alloc b1.size _
  clear q0 q1 q2 p0 p1 p2 g1 bA b1 hsz1 hsz2 hszA
  subst hwA
  go_enter Tryd.func51, Tryd.ntmps51
  go_wp2_with fail
  go_ret
  exact ⟨w1.heap.size, _, rfl, hfin, b2, hown⟩
end Go.Proofs.YtidinhbokkelnabDoor

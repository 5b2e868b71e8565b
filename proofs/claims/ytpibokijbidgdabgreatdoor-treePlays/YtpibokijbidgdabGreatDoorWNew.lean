/- The document's own tree: a new one, by its Go text. -/
import Derived.Test.YtpibokijbidgdabGreatDoorWRename
namespace Go.Proofs.YtpibokijbidgdabGreatDoor
open Go.RowKit Go.Maps

/-- A new tree. -/
def newT : Wd := fun k => if k = 0 then some (.dir []) else none
theorem newT_dir {k : Int} {C : List (Nm × Int)} (h : newT k = some (.dir C)) : k = 0 ∧ C = [] := by
  unfold newT at h
  by_cases e : k = 0
  · rw [if_pos e] at h; cases h; exact ⟨e, rfl⟩
  · rw [if_neg e] at h; cases h
theorem newT_ok : TrOk newT := by
  refine ⟨⟨[], rfl⟩, fun k h => ?_, fun k C h => by rw [(newT_dir h).2]; simp, fun k C s n h e => (by rw [(newT_dir h).2] at e; cases e), fun k C x h e => (by rw [(newT_dir h).2] at e; cases e), fun k b x h => ?_⟩
  · unfold newT at h
    by_cases e : k = 0
    · omega
    · rw [if_neg e] at h; cases h
  · unfold newT at h
    by_cases e : k = 0
    · rw [if_pos e] at h; cases h
    · rw [if_neg e] at h; cases h

set_option maxRecDepth 100000 in
set_option maxHeartbeats 4000000 in
theorem newTree_ok (w : World) :
    Calls Tryz.prog 7 #[] w fun e w' => ∃ r, e = .returned (wp r) ∧ ∃ gN g, RTr w' r gN 1 newT (fun _ => g) ∧ Below w.heap.size w w' ∧ w.heap.size ≤ r ∧ w.heap.size ≤ gN ∧ w.heap.size ≤ g := by
  have hmm := @run_makeMap Tryz.prog
  have hsz1 : (w.alloc (.map #[] 0)).heap.size = w.heap.size + 1 := by show (w.heap.push _).size = _; rw [Array.size_push]
  have hsz2 : ((w.alloc (.map #[] 0)).alloc (.map #[] 0)).heap.size = w.heap.size + 2 := by show ((w.heap.push _).push _).size = _; rw [Array.size_push, Array.size_push]
  have hpA : PMap ((w.alloc (.map #[] 0)).alloc (.map #[] 0)) w.heap.size 0 (fun _ => none) := (PMap.made w).keep (Below.heap_alloc _ _ _ (by rw [hsz1]; omega))
  have hsA : SMap ((w.alloc (.map #[] 0)).alloc (.map #[] 0)) (w.heap.size + 1) 0 (fun _ => none) := by
    have := SMap.made (w.alloc (.map #[] 0))
    rw [hsz1] at this; exact this
  have bA : Below w.heap.size w ((w.alloc (.map #[] 0)).alloc (.map #[] 0)) := ((Below.refl _ w).alloc (Nat.le_refl _) _).alloc (by rw [hsz1]; omega) _
  obtain ⟨w1, hrun, pm1, g1⟩ := hpA.put Tryz.underlying33 (by unfold maxLen; omega) 0 (by decide) (.agg #[.map (some (w.heap.size + 1)), .bool true, tx [], .int .i64 0])
  have hs1 : SMap w1 (w.heap.size + 1) 0 (fun _ => none) := hsA.keep (g1.block _ (by rw [hsz2]; omega) (fun e => by have := Option.some.inj e; omega))
  have b1 : Below w.heap.size w w1 := below_grown bA (by rw [hsz2]; omega) g1 (Nat.le_refl _)
  have hz1 : w.heap.size + 2 ≤ w1.heap.size := by have := g1.size; rw [hsz2] at this; exact this
  have hfin : RTr (w1.alloc (.cells #[.map (some w.heap.size)] 35)) w1.heap.size w.heap.size 1 newT (fun _ => w.heap.size + 1) := by
    refine ⟨?_, ?_, fun k C e => ?_, fun k C e => by omega, fun k k' C C' e e' _ => ?_⟩
    · show (w1.heap.push _)[w1.heap.size]? = _
      rw [Array.getElem?_push, if_pos rfl]
    · have e : (fun i => if i = (0 : Int) then some (Value.agg #[.map (some (w.heap.size + 1)), .bool true, tx [], .int .i64 0]) else (fun _ => none) i) = fun k => (newT k).map (ndv (fun _ => w.heap.size + 1) k) := by
        funext i; unfold newT; by_cases e : i = 0 <;> simp [e, ndv]
      rw [← e]
      exact pm1.keep (Below.heap_alloc _ _ _ pm1.lt)
    · obtain ⟨_, rfl⟩ := newT_dir e
      exact hs1.keep (Below.heap_alloc _ _ _ hs1.lt)
    · rw [(newT_dir e).1, (newT_dir e').1]
  have b2 : Below w.heap.size w (w1.alloc (.cells #[.map (some w.heap.size)] 35)) := b1.alloc b1.size _
  clear pm1 g1 hs1 hpA hsA bA b1 hsz1 hsz2
  go_enter Tryz.func7, Tryz.ntmps7
  go_wp2_with fail
  go_ret
  exact ⟨w1.heap.size, rfl, w.heap.size, w.heap.size + 1, hfin, b2, by omega, by omega, by omega⟩
end Go.Proofs.YtpibokijbidgdabGreatDoor

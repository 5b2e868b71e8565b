/- The document's cache has a new frame. -/
import Derived.Test.YthknommfnajeiaaDoorRefC
import Derived.Test.YthknommfnajeiaaDoorRefAlloc2
import Derived.Test.YthknommfnajeiaaDoorShelf7
namespace Go.Proofs.YthknommfnajeiaaDoor
open Go.RowKit Go.Shelf Go.Lib Go.Sort Go.Maps

theorem val_put0 {C : Int → Option Nat} {z : Int} (h : C z = none) (x : Int) : val (putC C z 0) x = val C x := by
  rw [val_put]; split
  · rename_i e; rw [e, val, h]; rfl
  · rfl
theorem isT_put0 {C : Int → Option Nat} {z : Int} (h : C z = none) (per : Nat) (k : Int) : isT per (putC C z 0) k = isT per C k := by
  unfold isT; rw [val_put0 h]
theorem tot_put0 {C : Int → Option Nat} {z : Int} (h : C z = none) (n : Nat) : tot (putC C z 0) n = tot C n := by
  exact sumTo_congr _ _ (fun i _ _ => by simp only [val_put0 h])
theorem put_twice (C : Int → Option Nat) (z : Int) (a b : Nat) : putC (putC C z a) z b = putC C z b := by
  funext x; unfold putC; split <;> rfl
theorem Ks.new {C : Int → Option Nat} {L : List Int} (h : Ks C L) {z : Int} (hz : C z = none) (m : Nat) : Ks (putC C z m) ((L ++ [z]).mergeSort (fun x y => decide (x ≤ y))) := by
  have hn : z ∉ L := fun hm => by have := (h.2 z).1 hm; rw [hz] at this; cases this
  refine ⟨sorted_keys (List.nodup_append.2 ⟨lt_nodup h.1, by simp, fun a ha b hb => by rw [List.mem_singleton] at hb; subst hb; exact fun e => hn (e ▸ ha)⟩), fun x => ?_⟩
  rw [(List.mergeSort_perm _ _).mem_iff, List.mem_append, List.mem_singleton, h.2 x]
  unfold putC
  by_cases e : x = z
  · simp [e]
  · simp [e]

theorem RS.grow {w : World} {B rc r f g gt per n m : Nat} {vs : Value} {L : List Int} {C : Int → Option Nat} {U : Nat → Bool} {T : Int → Option Nat} (h : RS w B rc r f g gt per n vs L C U T m)
    {w5 w7 : World} {z : Nat} {o : Obj} (hbz : blk U 0 z) (R5 : RAt w5 r f g n (cut U 0 z) (fun i => if i = (z : Int) then some 0 else T i) (m + 1)) (F5 : Fr (rown r f g) w w5) (hg7 : (w5.alloc o).grownBy w7 vs.ownBlock)
    {v7 : Value} (ho7 : w7.ownsRow B 3 1 v7 (L.length + 1) (L.map encZ ++ [.int .i64 (z : Int)])) (hv7 : v7.ownBlock = vs.ownBlock ∨ v7.ownBlock = some (w5.alloc o).heap.size) :
    ∃ g7 cap7, v7 = .slice (some ⟨g7, 0, none⟩) (L ++ [(z : Int)]).length cap7 ∧ w7.cell? ⟨rc, 3, none⟩ = some vs ∧ w7.frozen? ⟨rc, 3, none⟩ = false ∧ C (z : Int) = none ∧ z < n ∧
      (∀ v, (w7.setCell ⟨rc, 3, none⟩ v).cell? ⟨rc, 3, none⟩ = some v) ∧
      Holds (Value.int .i64) (w7.setCell ⟨rc, 3, none⟩ (.slice (some ⟨g7, 0, none⟩) (L ++ [(z : Int)]).length cap7)) g7 0 (L ++ [(z : Int)]).toArray ∧ g7 < (w7.setCell ⟨rc, 3, none⟩ (.slice (some ⟨g7, 0, none⟩) (L ++ [(z : Int)]).length cap7)).heap.size ∧
      ∀ nn os, RS (Sort.grow (putRow encZ (Sort.ahead (w7.setCell ⟨rc, 3, none⟩ (.slice (some ⟨g7, 0, none⟩) (L ++ [(z : Int)]).length cap7)) nn) g7 0 ((L ++ [(z : Int)]).mergeSort (fun x y => decide (x ≤ y))).toArray) os) B rc r f g gt per n (.slice (some ⟨g7, 0, none⟩) (L ++ [(z : Int)]).length cap7) ((L ++ [(z : Int)]).mergeSort (fun x y => decide (x ≤ y))) (putC C (z : Int) 0) (cut U 0 z) (fun i => if i = (z : Int) then some 0 else T i) (m + 1) ∧
        Fr (ro rc r f g gt vs) w (Sort.grow (putRow encZ (Sort.ahead (w7.setCell ⟨rc, 3, none⟩ (.slice (some ⟨g7, 0, none⟩) (L ++ [(z : Int)]).length cap7)) nn) g7 0 ((L ++ [(z : Int)]).mergeSort (fun x y => decide (x ≤ y))).toArray) os) ∧
        ∀ i, i < w.heap.size → ro rc r f g gt (.slice (some ⟨g7, 0, none⟩) (L ++ [(z : Int)]).length cap7) i → ro rc r f g gt vs i := by
  have hUz : U z = true := hbz z (by rw [Nat.pow_zero, Nat.div_one])
  have hzn := h.inv.bound z hUz
  have hCz : C (z : Int) = none := by
    cases e : C (z : Int) with
    | none => rfl
    | some x =>
      obtain ⟨_, p, hp, hf⟩ := h.inv.tk _ _ (h.tk z (by rw [e]; rfl))
      have hzp : z = p := by simp at hp; omega
      have := (hf z (by rw [Nat.pow_zero, Nat.div_one]; exact hzp)).2
      rw [hUz] at this; cases this
  have hlen : (L ++ [(z : Int)]).length = L.length + 1 := by simp
  rcases ho7.2 with ⟨_, hz0⟩ | ⟨g7, cap7, cur, rfl, hN, hg, r1, r2, r3, r4⟩
  · omega
  have hs5 := F5.size
  have hs6 : (w5.alloc o).heap.size = w5.heap.size + 1 := by simp
  have hs7 := hg7.size
  -- what stays up to w7
  have k7 : ∀ i, i < w.heap.size → ¬ rown r f g i → vs.ownBlock ≠ some i → w7.heap[i]? = w.heap[i]? := fun i hi hn hv => by
    rw [hg7.block i (by omega) (fun e => hv e.symm), Below.heap_alloc _ _ _ (by omega)]; exact F5.block i hi hn
  have hrcl := h.lt (.inl rfl)
  have hgtl := h.lt (.inr (.inr (.inl rfl)))
  have hrcv : vs.ownBlock ≠ some rc := fun e => (h.vsr rc e).2.1 rfl
  have hgtv : vs.ownBlock ≠ some gt := fun e => (h.vsr gt e).2.2 rfl
  have head7 := (k7 rc hrcl h.rcr hrcv).trans h.head
  have hg7n : ¬ rown r f g g7 ∧ g7 ≠ rc ∧ g7 ≠ gt := by
    rcases hv7 with e | e
    · exact h.vsr g7 e.symm
    · have e1 := Option.some.inj (show some g7 = some (w5.alloc o).heap.size from e)
      refine ⟨fun hh => ?_, by omega, by omega⟩
      have := R5.lt hh; omega
  have head8 : ∀ v, (w7.setCell ⟨rc, 3, none⟩ v).heap[rc]? = some (.cells #[pp r, .int .i64 (per : Int), .map (some gt), v] 73) := fun v => by
    rw [heap_setCell_same w7 rc 3 v _ _ _ head7]; rfl
  have k8 : ∀ v i, i ≠ rc → (w7.setCell ⟨rc, 3, none⟩ v).heap[i]? = w7.heap[i]? := fun v i hi => Below.heap_setCell _ _ _ _ hi
  refine ⟨g7, cap7, by rw [hlen], by rw [cell_of_row w7 rc 3 _ _ _ head7]; rfl, by simp [World.frozen?, head7], hCz, hzn, fun v => by rw [cell_of_row _ rc 3 _ _ _ (head8 v)]; rfl, ?_, ?_, fun nn os => ?_⟩
  · exact holds_of_block_i (by rw [k8 _ g7 hg7n.2.1]; exact hg) (by rw [hlen, List.map_append]; simpa using r4)
  · rw [World.size_setCell]; exact lt_of_heap hg
  · generalize hv8 : (.slice (some ⟨g7, 0, none⟩) (L ++ [(z : Int)]).length cap7 : Value) = v8 at *
    have g9 := grownBy_sorted_i (w := w7.setCell ⟨rc, 3, none⟩ v8) (g := g7) (n := nn) (os := os) ((L ++ [(z : Int)]).mergeSort (fun x y => decide (x ≤ y))).toArray
    have hs8 : (w7.setCell ⟨rc, 3, none⟩ v8).heap.size = w7.heap.size := World.size_setCell _ _ _
    have k9 : ∀ i, i < w7.heap.size → i ≠ g7 → i ≠ rc → (Sort.grow (putRow encZ (Sort.ahead (w7.setCell ⟨rc, 3, none⟩ v8) nn) g7 0 ((L ++ [(z : Int)]).mergeSort (fun x y => decide (x ≤ y))).toArray) os).heap[i]? = w7.heap[i]? := fun i hi h1 h2 => by
      rw [g9.block i (by omega) (fun e => h1 (Option.some.inj e)), k8 _ i h2]
    have hown8 : ∀ i, v8.ownBlock = some i ↔ i = g7 := fun i => by rw [← hv8]; simp [Value.ownBlock, eq_comm]
    refine ⟨⟨?_, ?_, ?_, ?_, h.keys.new hCz 0, ?_, fun x hx => ?_, h.per1, h.per16, h.most.put (Nat.two_pow_pos _), h.rcr, h.gtr, fun i hi => ?_⟩, ?_, fun i hi hr => ?_⟩
    · rw [g9.block rc (by omega) (fun e => hg7n.2.1 (Option.some.inj e).symm)]; exact head8 v8
    · rw [tot_put0 hCz, th_same (isT_put0 hCz per)]
      exact h.map.keep ((k9 gt (by omega) (fun e => hg7n.2.2 e.symm) (fun e => h.rcgt e.symm)).trans (k7 gt hgtl h.gtr hgtv))
    · rw [List.length_mergeSort, ← hv8]
      exact ownsRow_sorted_i (ss := L ++ [(z : Int)]) (by rw [List.length_mergeSort]) hN (by rw [k8 _ g7 hg7n.2.1]; exact hg) (by rw [hlen]; exact r1) r2 r3
    · refine R5.keep (fun i hi => ?_)
      have hil := R5.lt hi
      rw [k9 i (by omega) (fun e => hg7n.1 (e ▸ hi)) (fun e => h.rcr (e ▸ hi)), hg7.block i (by omega) (fun e => (h.vsr i e.symm).1 hi), Below.heap_alloc _ _ _ hil]
    · have := h.inv.take (k := 0) (q := z) (by omega) hbz
      rwa [Nat.pow_zero, Nat.mul_one] at this
    · unfold putC at hx
      split at hx
      · rename_i e; simp only [e, if_true]
      · rename_i e; simp only [e, if_false]; exact h.tk x hx
    · rw [hown8] at hi; subst hi; exact hg7n
    · refine ⟨g9.os.trans (hg7.os.trans F5.os), g9.tape.trans (hg7.tape.trans F5.tape), g9.output.trans (hg7.output.trans F5.output), by have := g9.size; omega, fun i hi hn => ?_⟩
      have n1 : ¬ rown r f g i := fun e => hn (.inr (.inl e))
      have n2 : i ≠ rc := fun e => hn (.inl e)
      have n3 : vs.ownBlock ≠ some i := fun e => hn (.inr (.inr (.inr e)))
      have n4 : i ≠ g7 := fun e => by
        rcases hv7 with e' | e'
        · exact n3 (by rw [e]; exact e'.symm)
        · have e1 := Option.some.inj (show some g7 = some (w5.alloc o).heap.size from e'); omega
      rw [k9 i (by omega) n4 n2]; exact k7 i hi n1 n3
    · rcases hr with e | e | e | e
      · exact .inl e
      · exact .inr (.inl e)
      · exact .inr (.inr (.inl e))
      · rw [hown8] at e
        subst e
        rcases hv7 with e' | e'
        · exact .inr (.inr (.inr e'.symm))
        · have e1 := Option.some.inj (show some i = some (w5.alloc o).heap.size from e'); omega
end Go.Proofs.YthknommfnajeiaaDoor

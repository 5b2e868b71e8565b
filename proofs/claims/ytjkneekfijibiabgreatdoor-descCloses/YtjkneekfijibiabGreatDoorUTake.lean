/- Package tree: a PLACE where something is, and one where nothing is, by their Go text. -/
import Derived.Test.YtjkneekfijibiabGreatDoorUFind
namespace Go.Proofs.YtjkneekfijibiabGreatDoor
open Go.RowKit Go.Maps

section
variable {w w' : World} {r gN s : Nat} {T : Wd} {Z : Int → Nat} {B G : Int → Nat} {V : Int → Value} {O : Nat → Prop}

/-- The block of a new place, in a later world. -/
theorem plc_new {w1 : World} (h : Below (w.alloc (.cells #[.map none, tx []] 132)).heap.size (w.alloc (.cells #[.map none, tx []] 132)) w1) : w1.heap[w.heap.size]? = some (.cells #[.map none, tx []] 132) ∧ Below w.heap.size w w1 ∧ w.heap.size < w1.heap.size := by
  have hAsz : (w.alloc (.cells #[.map none, tx []] 132)).heap.size = w.heap.size + 1 := by simp
  have bA : Below w.heap.size w (w.alloc (.cells #[.map none, tx []] 132)) := (Below.refl _ _).alloc (Nat.le_refl _) _
  exact ⟨(h.block _ (by rw [hAsz]; omega)).trans (World.alloc_heap_new _ _), bA.trans (h.mono (by omega)), by have := h.size; rw [hAsz] at this; omega⟩

theorem plc_more {W : World} {i : Nat} {c : Array Value} {t : TypeId} (h : W.heap[i]? = some (.cells c t)) (o : Obj) : (W.alloc o).heap[i]? = some (.cells c t) := (Below.heap_alloc _ _ _ (Array.getElem?_eq_some_iff.1 h).1).trans h

set_option maxRecDepth 100000 in
set_option maxHeartbeats 4000000 in
theorem PTr.taken_bad (h : PTr w r gN s T Z B G V O) (hT : TrOk T) (hs : 1 ≤ s) (p : List UInt8) (hp : p.length < 100000) (m : Int) (hm : w.cell? ⟨2, 0, none⟩ = some (.int .i64 m)) (hz : (placeT T p).2.2 ≠ 0) :
    Calls Tryz.prog 70 #[wp r, tx p] w fun e w' => e = .returned (.tuple #[plc none [], .int .i64 0, uer (placeT T p).2.2]) ∧ Below w.heap.size w w' := by
  have bA : Below w.heap.size w (w.alloc (.cells #[.map none, tx []] 132)) := (Below.refl _ _).alloc (Nat.le_refl _) _
  have hP := (h.below bA).placeOf_ok hT hs p hp m (maxLen_kept hm bA)
  rw [if_neg hz, uev_ne hz] at hP
  generalize (placeT T p).2.2 = z at *
  go_enter Tryz.func70, Tryz.ntmps70
  go_wp2_with (go_at_call 117; refine hP.mono ?_; rintro e w1 ⟨rfl, b1⟩; obtain ⟨hb, b9, hlt⟩ := plc_new b1; obtain ⟨c0, c1, f0, f1⟩ := plc_cells hb)
  obtain ⟨r0, r1, _, _⟩ := plc_cells (plc_more (plc_put hb (.map none) (tx [])) (.cells #[.map none, tx []] 132))
  refine bodyPost_ret (v := .tuple #[plc none [], .int .i64 0, uer z]) (by simp [results, Tryz.results70, go_sem, r0, r1]) rfl ⟨rfl, ?_⟩
  repeat first | exact b9 | refine Below.alloc ?_ (by first | omega | (simp <;> omega)) _ | refine Below.setCell ?_ (by first | omega | (simp <;> omega)) _

set_option maxRecDepth 100000 in
set_option maxHeartbeats 4000000 in
theorem PTr.taken_none (h : PTr w r gN s T Z B G V O) (hT : TrOk T) (hs : 1 ≤ s) (p : List UInt8) (hp : p.length < 100000) (m : Int) (hm : w.cell? ⟨2, 0, none⟩ = some (.int .i64 m)) (hz : (placeT T p).2.2 = 0) (hh : hasT T (placeT T p).1 (placeT T p).2.1 = none) :
    Calls Tryz.prog 70 #[wp r, tx p] w fun e w' => e = .returned (.tuple #[plc none [], .int .i64 0, uer 7]) ∧ Below w.heap.size w w' := by
  have bA : Below w.heap.size w (w.alloc (.cells #[.map none, tx []] 132)) := (Below.refl _ _).alloc (Nat.le_refl _) _
  have hP := (h.below bA).placeOf_ok hT hs p hp m (maxLen_kept hm bA)
  rw [if_pos hz, hz, uev_zero] at hP
  obtain ⟨⟨C, hd⟩, hnm⟩ := placeT_dir hT hz
  rw [hasT_eq hd] at hh
  generalize (placeT T p).1 = d at *
  generalize (placeT T p).2.1 = nm at *
  have hnl := isName_len hnm
  have hnx : nm.length ≤ maxLen := by unfold maxLen; omega
  have hSm : ∀ W, (∀ i, O i → W.heap[i]? = w.heap[i]?) → SMap W (G d) C.length (fun nm => (C.lookup nm).map (.int .i64 ·)) := fun W hk => (h.dirs d C hd).keep (hk _ (h.ownG d C hd))
  have hGl := h.lt _ (h.ownG d C hd)
  go_enter Tryz.func70, Tryz.ntmps70
  go_wp2_with (first
    | (go_at_call 117; refine hP.mono ?_; rintro e w1 ⟨rfl, b1⟩; obtain ⟨hb, b9, hlt⟩ := plc_new b1; obtain ⟨c0, c1, f0, f1⟩ := plc_cells hb; have hS1 : SMap (w1.alloc (.cells #[.map (some (G d)), tx nm] 132)) (G d) C.length (fun nm => (C.lookup nm).map (.int .i64 ·)) := hSm _ (fun i hi => (Below.heap_alloc _ _ _ (Nat.lt_of_lt_of_le (h.lt i hi) b9.size)).trans (b9.block i (h.lt i hi))))
    | (at_lookup; refine wpList_sask rfl _ _ 111 rfl 3 Tryz.underlying111 _ (zero_num _) (G d) _ _ rfl hS1 nm rfl hnx ?_; simp only [hh, Option.map_none, Option.getD_none, Option.isSome_none]))
  obtain ⟨r0, r1, _, _⟩ := plc_cells (plc_more (plc_put hb (.map none) (tx [])) (.cells #[.map (some (G d)), tx nm] 132))
  refine bodyPost_ret (v := .tuple #[plc none [], .int .i64 0, uer 7]) (by simp [results, Tryz.results70, go_sem, r0, r1]) rfl ⟨rfl, ?_⟩
  repeat first | exact b9 | refine Below.alloc ?_ (by first | omega | (simp <;> omega)) _ | refine Below.setCell ?_ (by first | omega | (simp <;> omega)) _

set_option maxRecDepth 100000 in
set_option maxHeartbeats 4000000 in
theorem PTr.taken_some (h : PTr w r gN s T Z B G V O) (hT : TrOk T) (hs : 1 ≤ s) (p : List UInt8) (hp : p.length < 100000) (m : Int) (hm : w.cell? ⟨2, 0, none⟩ = some (.int .i64 m)) (hz : (placeT T p).2.2 = 0) {n : Int} (hh : hasT T (placeT T p).1 (placeT T p).2.1 = some n) :
    Calls Tryz.prog 70 #[wp r, tx p] w fun e w' => e = .returned (.tuple #[plc (some (G (placeT T p).1)) (placeT T p).2.1, .int .i64 n, .nilIface]) ∧ Below w.heap.size w w' := by
  have bA : Below w.heap.size w (w.alloc (.cells #[.map none, tx []] 132)) := (Below.refl _ _).alloc (Nat.le_refl _) _
  have hP := (h.below bA).placeOf_ok hT hs p hp m (maxLen_kept hm bA)
  rw [if_pos hz, hz, uev_zero] at hP
  obtain ⟨⟨C, hd⟩, hnm⟩ := placeT_dir hT hz
  rw [hasT_eq hd] at hh
  generalize (placeT T p).1 = d at *
  generalize (placeT T p).2.1 = nm at *
  have hnl := isName_len hnm
  have hnx : nm.length ≤ maxLen := by unfold maxLen; omega
  have hSm : ∀ W, (∀ i, O i → W.heap[i]? = w.heap[i]?) → SMap W (G d) C.length (fun nm => (C.lookup nm).map (.int .i64 ·)) := fun W hk => (h.dirs d C hd).keep (hk _ (h.ownG d C hd))
  have hGl := h.lt _ (h.ownG d C hd)
  go_enter Tryz.func70, Tryz.ntmps70
  go_wp2_with (first
    | (go_at_call 117; refine hP.mono ?_; rintro e w1 ⟨rfl, b1⟩; obtain ⟨hb, b9, hlt⟩ := plc_new b1; obtain ⟨c0, c1, f0, f1⟩ := plc_cells hb; have hS1 : SMap (w1.alloc (.cells #[.map (some (G d)), tx nm] 132)) (G d) C.length (fun nm => (C.lookup nm).map (.int .i64 ·)) := hSm _ (fun i hi => (Below.heap_alloc _ _ _ (Nat.lt_of_lt_of_le (h.lt i hi) b9.size)).trans (b9.block i (h.lt i hi))))
    | (at_lookup; refine wpList_sask rfl _ _ 111 rfl 3 Tryz.underlying111 _ (zero_num _) (G d) _ _ rfl hS1 nm rfl hnx ?_; simp only [hh, Option.map_some, Option.getD_some, Option.isSome_some]))
  obtain ⟨r0, r1, _, _⟩ := plc_cells (plc_more (plc_put hb (.map (some (G d))) (tx nm)) (.cells #[.map (some (G d)), tx nm] 132))
  refine bodyPost_ret (v := .tuple #[plc (some (G (d))) nm, .int .i64 n, .nilIface]) (by simp [results, Tryz.results70, go_sem, r0, r1]) rfl ⟨rfl, ?_⟩
  repeat first | exact b9 | refine Below.alloc ?_ (by first | omega | (simp <;> omega)) _ | refine Below.setCell ?_ (by first | omega | (simp <;> omega)) _

set_option maxRecDepth 100000 in
set_option maxHeartbeats 4000000 in
theorem PTr.free_bad (h : PTr w r gN s T Z B G V O) (hT : TrOk T) (hs : 1 ≤ s) (p : List UInt8) (hp : p.length < 100000) (m : Int) (hm : w.cell? ⟨2, 0, none⟩ = some (.int .i64 m)) (hz : (placeT T p).2.2 ≠ 0) :
    Calls Tryz.prog 66 #[wp r, tx p] w fun e w' => e = .returned (.tuple #[plc none [], uer (placeT T p).2.2]) ∧ Below w.heap.size w w' := by
  have bA : Below w.heap.size w (w.alloc (.cells #[.map none, tx []] 132)) := (Below.refl _ _).alloc (Nat.le_refl _) _
  have hP := (h.below bA).placeOf_ok hT hs p hp m (maxLen_kept hm bA)
  rw [if_neg hz, uev_ne hz] at hP
  generalize (placeT T p).2.2 = z at *
  go_enter Tryz.func66, Tryz.ntmps66
  go_wp2_with (go_at_call 117; refine hP.mono ?_; rintro e w1 ⟨rfl, b1⟩; obtain ⟨hb, b9, hlt⟩ := plc_new b1; obtain ⟨c0, c1, f0, f1⟩ := plc_cells hb)
  obtain ⟨r0, r1, _, _⟩ := plc_cells (plc_more (plc_put hb (.map none) (tx [])) (.cells #[.map none, tx []] 132))
  refine bodyPost_ret (v := .tuple #[plc none [], uer z]) (by simp [results, Tryz.results66, go_sem, r0, r1]) rfl ⟨rfl, ?_⟩
  repeat first | exact b9 | refine Below.alloc ?_ (by first | omega | (simp <;> omega)) _ | refine Below.setCell ?_ (by first | omega | (simp <;> omega)) _

set_option maxRecDepth 100000 in
set_option maxHeartbeats 4000000 in
theorem PTr.free_twice (h : PTr w r gN s T Z B G V O) (hT : TrOk T) (hs : 1 ≤ s) (p : List UInt8) (hp : p.length < 100000) (m : Int) (hm : w.cell? ⟨2, 0, none⟩ = some (.int .i64 m)) (hz : (placeT T p).2.2 = 0) {n : Int} (hh : hasT T (placeT T p).1 (placeT T p).2.1 = some n) :
    Calls Tryz.prog 66 #[wp r, tx p] w fun e w' => e = .returned (.tuple #[plc none [], uer 9]) ∧ Below w.heap.size w w' := by
  have bA : Below w.heap.size w (w.alloc (.cells #[.map none, tx []] 132)) := (Below.refl _ _).alloc (Nat.le_refl _) _
  have hP := (h.below bA).placeOf_ok hT hs p hp m (maxLen_kept hm bA)
  rw [if_pos hz, hz, uev_zero] at hP
  obtain ⟨⟨C, hd⟩, hnm⟩ := placeT_dir hT hz
  rw [hasT_eq hd] at hh
  generalize (placeT T p).1 = d at *
  generalize (placeT T p).2.1 = nm at *
  have hnl := isName_len hnm
  have hnx : nm.length ≤ maxLen := by unfold maxLen; omega
  have hSm : ∀ W, (∀ i, O i → W.heap[i]? = w.heap[i]?) → SMap W (G d) C.length (fun nm => (C.lookup nm).map (.int .i64 ·)) := fun W hk => (h.dirs d C hd).keep (hk _ (h.ownG d C hd))
  have hGl := h.lt _ (h.ownG d C hd)
  go_enter Tryz.func66, Tryz.ntmps66
  go_wp2_with (first
    | (go_at_call 117; refine hP.mono ?_; rintro e w1 ⟨rfl, b1⟩; obtain ⟨hb, b9, hlt⟩ := plc_new b1; obtain ⟨c0, c1, f0, f1⟩ := plc_cells hb; have hS1 : SMap (w1.alloc (.cells #[.map (some (G d)), tx nm] 132)) (G d) C.length (fun nm => (C.lookup nm).map (.int .i64 ·)) := hSm _ (fun i hi => (Below.heap_alloc _ _ _ (Nat.lt_of_lt_of_le (h.lt i hi) b9.size)).trans (b9.block i (h.lt i hi))))
    | (at_lookup; refine wpList_sask rfl _ _ 111 rfl 3 Tryz.underlying111 _ (zero_num _) (G d) _ _ rfl hS1 nm rfl hnx ?_; simp only [hh, Option.map_some, Option.getD_some, Option.isSome_some]))
  obtain ⟨r0, r1, _, _⟩ := plc_cells (plc_more (plc_put hb (.map none) (tx [])) (.cells #[.map (some (G d)), tx nm] 132))
  refine bodyPost_ret (v := .tuple #[plc none [], uer 9]) (by simp [results, Tryz.results66, go_sem, r0, r1]) rfl ⟨rfl, ?_⟩
  repeat first | exact b9 | refine Below.alloc ?_ (by first | omega | (simp <;> omega)) _ | refine Below.setCell ?_ (by first | omega | (simp <;> omega)) _

set_option maxRecDepth 100000 in
set_option maxHeartbeats 4000000 in
theorem PTr.free_ok (h : PTr w r gN s T Z B G V O) (hT : TrOk T) (hs : 1 ≤ s) (p : List UInt8) (hp : p.length < 100000) (m : Int) (hm : w.cell? ⟨2, 0, none⟩ = some (.int .i64 m)) (hz : (placeT T p).2.2 = 0) (hh : hasT T (placeT T p).1 (placeT T p).2.1 = none) :
    Calls Tryz.prog 66 #[wp r, tx p] w fun e w' => e = .returned (.tuple #[plc (some (G ((placeT T p).1))) ((placeT T p).2.1), .nilIface]) ∧ Below w.heap.size w w' := by
  have bA : Below w.heap.size w (w.alloc (.cells #[.map none, tx []] 132)) := (Below.refl _ _).alloc (Nat.le_refl _) _
  have hP := (h.below bA).placeOf_ok hT hs p hp m (maxLen_kept hm bA)
  rw [if_pos hz, hz, uev_zero] at hP
  obtain ⟨⟨C, hd⟩, hnm⟩ := placeT_dir hT hz
  rw [hasT_eq hd] at hh
  generalize (placeT T p).1 = d at *
  generalize (placeT T p).2.1 = nm at *
  have hnl := isName_len hnm
  have hnx : nm.length ≤ maxLen := by unfold maxLen; omega
  have hSm : ∀ W, (∀ i, O i → W.heap[i]? = w.heap[i]?) → SMap W (G d) C.length (fun nm => (C.lookup nm).map (.int .i64 ·)) := fun W hk => (h.dirs d C hd).keep (hk _ (h.ownG d C hd))
  have hGl := h.lt _ (h.ownG d C hd)
  go_enter Tryz.func66, Tryz.ntmps66
  go_wp2_with (first
    | (go_at_call 117; refine hP.mono ?_; rintro e w1 ⟨rfl, b1⟩; obtain ⟨hb, b9, hlt⟩ := plc_new b1; obtain ⟨c0, c1, f0, f1⟩ := plc_cells hb; have hS1 : SMap (w1.alloc (.cells #[.map (some (G d)), tx nm] 132)) (G d) C.length (fun nm => (C.lookup nm).map (.int .i64 ·)) := hSm _ (fun i hi => (Below.heap_alloc _ _ _ (Nat.lt_of_lt_of_le (h.lt i hi) b9.size)).trans (b9.block i (h.lt i hi))))
    | (at_lookup; refine wpList_sask rfl _ _ 111 rfl 3 Tryz.underlying111 _ (zero_num _) (G d) _ _ rfl hS1 nm rfl hnx ?_; simp only [hh, Option.map_none, Option.getD_none, Option.isSome_none]))
  obtain ⟨r0, r1, _, _⟩ := plc_cells (plc_more (plc_put hb (.map (some (G d))) (tx nm)) (.cells #[.map (some (G d)), tx nm] 132))
  refine bodyPost_ret (v := .tuple #[plc (some (G (d))) (nm), .nilIface]) (by simp [results, Tryz.results66, go_sem, r0, r1]) rfl ⟨rfl, ?_⟩
  repeat first | exact b9 | refine Below.alloc ?_ (by first | omega | (simp <;> omega)) _ | refine Below.setCell ?_ (by first | omega | (simp <;> omega)) _
end
end Go.Proofs.YtjkneekfijibiabGreatDoor

/- The document's Alloc, by its Go text. -/
import Derived.Test.YthknommfnajeiaaDoorRefAlloc
namespace Go.Proofs.YthknommfnajeiaaDoor
open Go.RowKit Go.Shelf Go.Lib Go.Sort

set_option maxHeartbeats 1000000 in
theorem in_ok (w : World) (o : Int) (x : Bool) (hx : x = (decide (0 ≤ o) && decide (o ≤ 6))) :
    Calls Tryd.prog 55 #[.int .i64 o, .int .i64 0, .int .i64 6] w fun e w' => e = .returned (.bool x) ∧ w' = w := by
  subst hx
  by_cases h1 : 0 ≤ o <;> by_cases h2 : o ≤ 6
  all_goals
    go_enter Tryd.func55, Tryd.ntmps55
    go_wp2_with fail
    go_ret
    exact ⟨by simp [h1, h2], rfl⟩

set_option maxHeartbeats 1000000 in
theorem ralloc_arg (w : World) (r : Nat) (o : Int) (h : o < 0 ∨ 6 < o) :
    Calls Tryd.prog 21 #[pp r, .int .i64 o] w fun e w' => e = .returned (.tuple #[.int .i64 0, .int .i64 1]) ∧ w' = w := by
  have hin := fun w => in_ok w o false (by rcases h with h | h <;> simp <;> omega)
  go_enter Tryd.func21, Tryd.ntmps21
  go_wp2_with (go_at_call 55; refine (hin _).mono ?_; rintro e w1 ⟨rfl, h1⟩; subst w1)
  go_ret2
  exact ⟨rfl, rfl⟩

/-- Where the best so far lies. -/
structure Bst (w0 w : World) (B : Nat) (b : Int × Int) (N : Nat) (v : Value) (L : List (Int × Int)) : Prop where
  row : w.heap[B]? = some (.cells #[.int .i64 b.1, .int .i64 b.2] 62)
  list : BL w N v L
  below : Below w0.heap.size w0 w
  lb : w0.heap.size ≤ B
  ln : B < N
  size : N ≤ w.heap.size

theorem Bst.alloc {w0 w : World} {B : Nat} {b : Int × Int} {N : Nat} {v : Value} {L : List (Int × Int)} (h : Bst w0 w B b N v L) (o : Obj) : Bst w0 (w.alloc o) B b N v L :=
  ⟨(Below.heap_alloc _ _ _ (lt_of_heap h.row)).trans h.row, h.list.keep (fun i _ hi => Below.heap_alloc _ _ _ hi), h.below.alloc h.below.size _, h.lb, h.ln, by have := h.size; simp; omega⟩

theorem Bst.put {w0 w : World} {B : Nat} {b : Int × Int} {N : Nat} {v : Value} {L : List (Int × Int)} (h : Bst w0 w B b N v L) {x : Int × Int} (o : Obj) (_ : x = x) : Bst w0 (((w.setCell ⟨B, 0, none⟩ (.int .i64 x.1)).setCell ⟨B, 1, none⟩ (.int .i64 x.2)).alloc o) B x N v L := by
  have h0 := heap_setCell_same w B 0 (.int .i64 x.1) _ _ _ h.row
  have h1 := heap_setCell_same _ B 1 (.int .i64 x.2) _ _ _ h0
  have hh : Bst w0 ((w.setCell ⟨B, 0, none⟩ (.int .i64 x.1)).setCell ⟨B, 1, none⟩ (.int .i64 x.2)) B x N v L :=
    ⟨h1, h.list.keep (fun i hi _ => (Below.heap_setCell _ _ _ _ (by have := h.ln; simp; omega)).trans (Below.heap_setCell _ _ _ _ (by have := h.ln; simp; omega))), (h.below.setCell h.lb _).setCell h.lb _, h.lb, h.ln, by simpa using h.size⟩
  exact hh.alloc o

set_option maxRecDepth 100000 in
set_option maxHeartbeats 4000000 in
theorem ralloc_ok {w : World} {r f g n : Nat} {U : Nat → Bool} {T : Int → Option Nat} {m : Nat} (h : RAt w r f g n U T m) (hm : m < 10000) (o : Nat) (ho : o ≤ 6) :
    Calls Tryd.prog 21 #[pp r, .int .i64 o] w fun e w' =>
      ((∀ j r, mxb U j r → j < o) ∧ e = .returned (.tuple #[.int .i64 0, .int .i64 12]) ∧ Below w.heap.size w w') ∨
      ∃ k q, Best U o (q * 2 ^ k) k ∧ e = .returned (.tuple #[.int .i64 ((q * 2 ^ k : Nat) : Int), .int .i64 0]) ∧ RAt w' r f g n (cut U o (q * 2 ^ (k - o))) (fun z => if z = ((q * 2 ^ k : Nat) : Int) then some o else T z) (m + 1) ∧ Fr (rown r f g) w w' := by
  have hin := fun w => in_ok w o true (by simp; omega)
  have hn := h.small
  have hbd := h.bound
  obtain ⟨L, hL⟩ : ∃ L, L = (blocks U n).map toInt := ⟨_, rfl⟩
  have hLs : L.Pairwise (fun x y => x.1 < y.1) := by rw [hL]; exact blocks_int_sorted hbd
  have hLp : ∀ x ∈ L, 0 ≤ x.1 := by rw [hL]; intro x hx; obtain ⟨k, q, rfl, _⟩ := (mem_blocks_int hbd x).1 hx; simp only [toInt]; omega
  have hLl : L.length ≤ 256 := by rw [hL, List.length_map]; exact Nat.le_trans (blocks_len hbd) hn
  have hfr : Calls Tryd.prog 20 #[pp r] (w.alloc (.cells #[.int .i64 (-1), .int .i64 0] 62)) fun e w1 => ∃ a cap, e = .returned (.slice a L.length cap) ∧ Bst w w1 w.heap.size (-1, 0) (w.heap.size + 1) (.slice a L.length cap) L := by
    refine (rfree_ok (h.keep (w' := w.alloc (.cells #[.int .i64 (-1), .int .i64 0] 62)) (fun i hi => Below.heap_alloc _ _ _ (h.lt hi)))).mono ?_
    rintro e w1 ⟨v, rfl, hB, hw⟩
    rw [← hL] at hB
    obtain ⟨a, cap, rfl, _⟩ := hB.slice
    rw [World.size_alloc] at hB hw
    refine ⟨a, cap, rfl, ?_, hB, ((Below.refl _ w).alloc (Nat.le_refl _) _).trans (hw.mono (by omega)), Nat.le_refl _, by omega, by have := hw.size; simp at this; omega⟩
    rw [hw.block w.heap.size (by omega)]
    show (w.heap.push _)[w.heap.size]? = _
    rw [Array.getElem?_push, if_pos rfl]
  have HL := hid hL
  clear hL
  go_enter Tryd.func21, Tryd.ntmps21
  go_wp2_with (first | (go_at_call 55; refine (hin _).mono ?_; rintro e w1 ⟨rfl, h1⟩; subst w1) | (go_at_call 20; refine hfr.mono ?_; rintro e w1 ⟨a, cap, rfl, B0⟩))
  clear hfr hin
  have HB : ∃ B, Hid (w.heap.size = B) := ⟨_, rfl⟩
  obtain ⟨B, HB⟩ := HB
  rw [HB.out] at B0
  rw [HB.out]
  go_loopg [17] L.length (fun mm s17 wr => ∃ (j : Nat) (b : Int × Int), j + mm = L.length ∧ s17 = .int .i64 j ∧ PB o (L.take j) b ∧ Bst w wr B b (B + 1) (.slice a L.length cap) L)
  case atStart => exact ⟨0, _, by omega, rfl, .inl ⟨rfl, by simp⟩, B0⟩
  case round =>
    obtain ⟨j, b, hj, rfl, hpb, Bs⟩ := hrel
    by_cases hlt : (j : Int) < L.length
    · have hlt' : j < L.length := by omega
      obtain ⟨gb, cap', hv, hgb, hgl, hcl, k0, k1⟩ := Bs.list.read hlt'
      cases hv
      have hts := take_sorted hLs hlt'
      have hx0 := hLp L[j] (List.getElem_mem hlt')
      have htk : L.take (j + 1) = L.take j ++ [L[j]] := by rw [List.take_add_one]; simp [hlt']
      have b0 : wr.cell? ⟨B, 0, none⟩ = some (.int .i64 b.1) := by rw [cell_of_row wr B _ _ _ _ Bs.row]; rfl
      have b1 : wr.cell? ⟨B, 1, none⟩ = some (.int .i64 b.2) := by rw [cell_of_row wr B _ _ _ _ Bs.row]; rfl
      have z0 : wr.frozen? ⟨B, 0, none⟩ = false := by simp [World.frozen?, Bs.row]
      have z1 : wr.frozen? ⟨B, 1, none⟩ = false := by simp [World.frozen?, Bs.row]
      have hBl := lt_of_heap Bs.row
      have hBg : B ≠ gb := by omega
      generalize L[j] = x at *
      obtain ⟨x1, x2⟩ := x
      obtain ⟨y1, y2⟩ := b
      simp only at k0 k1 b0 b1 hx0
      have hup : Bst w (((wr.setCell ⟨B, 0, none⟩ (.int .i64 x1)).setCell ⟨B, 1, none⟩ (.int .i64 x2)).alloc (.cells #[.int .i64 x1, .int .i64 x2] 62)) B (x1, x2) (B + 1) (.slice (some ⟨gb, 0, none⟩) L.length cap) L := Bs.put (x := (x1, x2)) _ rfl
      have hst : Bst w (wr.alloc (.cells #[.int .i64 x1, .int .i64 x2] 62)) B (y1, y2) (B + 1) (.slice (some ⟨gb, 0, none⟩) L.length cap) L := Bs.alloc _
      by_cases t1 : (o : Int) ≤ x2
      · by_cases t2 : y1 < 0
        · have hpb' := pb_first (x := (x1, x2)) hpb t1 hx0 (.inl t2)
          rw [← htk] at hpb'
          go_wp2_with fail
          go_roundg (L.length - (j + 1))
          case measure => omega
          case rel => exact ⟨j + 1, _, by omega, by go_num, hpb', hup⟩
        · by_cases t3 : x2 < y2
          · have hpb' := pb_first (x := (x1, x2)) hpb t1 hx0 (.inr t3)
            rw [← htk] at hpb'
            go_wp2_with fail
            go_roundg (L.length - (j + 1))
            case measure => omega
            case rel => exact ⟨j + 1, _, by omega, by go_num, hpb', hup⟩
          · have hpb' := pb_keep hpb hts (by show 0 ≤ y1; omega) (by show y2 ≤ x2; omega)
            rw [← htk] at hpb'
            go_wp2_with fail
            go_roundg (L.length - (j + 1))
            case measure => omega
            case rel => exact ⟨j + 1, _, by omega, by go_num, hpb', hst⟩
      · have hpb' := pb_less hpb (show (x1, x2).2 < (o : Int) by show x2 < _; omega)
        rw [← htk] at hpb'
        go_wp2_with fail
        go_roundg (L.length - (j + 1))
        case measure => omega
        case rel => exact ⟨j + 1, _, by omega, by go_num, hpb', hst⟩
    · have hjl : j = L.length := by omega
      subst hjl
      rw [List.take_length, HL.out] at hpb
      have b0 : wr.cell? ⟨B, 0, none⟩ = some (.int .i64 b.1) := by rw [cell_of_row wr B _ _ _ _ Bs.row]; rfl
      have hfin := pb_all hbd hpb
      clear hpb
      rcases hfin with ⟨hb1, hnone⟩ | ⟨k, q, hbq, hbest⟩
      · rw [hb1] at b0
        go_wp2_with fail
        go_ret2
        exact .inl ⟨hnone, rfl, Bs.below⟩
      · obtain ⟨q0, hq0, hx⟩ := hbest.1
        have hqq := Nat.eq_of_mul_eq_mul_right (Nat.two_pow_pos k) hq0
        subst hqq
        have hok := hbest.2.1
        obtain ⟨hpb1, hpb2⟩ := blk_part hx.2.1 hok
        have hsm : q * 2 ^ k < 256 := (small_of hbd hn hx.2.1).1
        have hend : q * 2 ^ k + 2 ^ o ≤ n := by
          have := hbd _ (hpb1 (q * 2 ^ k + 2 ^ o - 1) ((in_iff _ _ _).2 (by have := Nat.two_pow_pos o; omega))); omega
        have hcut := upto_cut U o (q * 2 ^ (k - o))
        rw [hpb2] at hcut
        have hw := pow_wrap (z := q * 2 ^ k) (j := o) hsm ho
        have hpc : ((2 ^ o : Nat) : Int) = (2 : Int) ^ o := by simp
        have hwf : (Lit.int .i64 ((q * 2 ^ k : Nat) : Int)).wf = true := wf_small (by omega) (by omega)
        have e2 := tm_put T ((q * 2 ^ k : Nat) : Int) o
        have R0 : RAt wr r f g n (upto U (q * 2 ^ k) 0 false) T m := by rw [upto_zero]; exact h.keep (fun i hi => Bs.below.block i (h.lt hi))
        have F0 : Fr (rown r f g) w wr := ⟨Bs.below.os, Bs.below.tape, Bs.below.output, Bs.below.size, fun i hi _ => Bs.below.block i hi⟩
        have hBr : ∀ i, rown r f g i → i ≠ B := fun i hi => by have := h.lt hi; have := Bs.lb; omega
        have hBl := lt_of_heap Bs.row
        have hb1 : b.1 = ((q * 2 ^ k : Nat) : Int) := by rw [hbq]; rfl
        rw [hb1] at b0
        have HF := hid (And.intro hbest hcut)
        clear hbq hb1 hbest hq0 hpb1 hpb2 hx hcut Bs HL hLs hLp hbd B0 hlt
        generalize hZ : q * 2 ^ k = z at *
        generalize hX : 2 ^ o = x at *
        rw [← hpc] at hw
        have HZ := hid hZ
        clear hZ
        have hz0 : ¬ (z : Int) < 0 := by clear hw hpc; omega
        go_wp2_with fail
        go_loopg [9] x (fun mm s9 w2 => ∃ j : Nat, j + mm = x ∧ s9 = .int .i64 ((z + j : Nat) : Int) ∧ RAt w2 r f g n (upto U z j false) T m ∧ Fr (rown r f g) w w2 ∧ w2.cell? ⟨B, 0, none⟩ = some (.int .i64 (z : Int)) ∧ B < w2.heap.size)
        case atStart => exact ⟨0, Nat.zero_add _, rfl, R0, F0, b0, hBl⟩
        case round =>
          rename_i w2
          obtain ⟨j, hj2, rfl, R, F, b2, hB2⟩ := hrel
          obtain ⟨cap', c0', c1', hcap'⟩ := R.cells
          by_cases hlt : j < x
          · have hlt' : ((z + j : Nat) : Int) < (z : Int) + (x : Int) := by clear hw hpc; omega
            have hin : z + j < n := by clear hw hpc; omega
            have e4 : x - (j + 1) < gk := by clear hw hpc; omega
            have e5 : j + 1 + (x - (j + 1)) = x := by clear hw hpc; omega
            have hfB : ¬ f = B := fun e => hBr f (.inr (.inl rfl)) e
            obtain ⟨cb, fb⟩ := R.bit hin
            go_wp2_with fail
            go_quiet (fail)
            go_wp2_with fail
            go_roundg (x - (j + 1))
            case measure => exact e4
            case rel =>
              have R1 : RAt (wr.drewN nq) r f g n (upto U z j false) T m := R.keep (fun _ _ => rfl)
              have R' := R1.set hin false
              rw [upto_succ] at R'
              have F1 : Fr (rown r f g) w (wr.drewN nq) := F.trans (Fr.drewN _ _ _) (fun _ _ h => h)
              refine ⟨j + 1, e5, ?_, R', F1.bit f _ _ (.inr (.inl rfl)), ?_, ?_⟩
              · rw [show ((z + (j + 1) : Nat) : Int) = (z : Int) + (j : Int) + 1 by simp [Int.add_assoc]]
              · exact (World.cell?_of_block (w := wr) (a := ⟨B, 0, none⟩) (Below.heap_setCell (wr.drewN nq) _ _ _ (fun e => hfB e.symm))).trans b2
              · rw [World.size_setCell]; exact hB2
          · have hlt' : ¬ ((z + j : Nat) : Int) < (z : Int) + (x : Int) := by clear hw hpc; omega
            have HJ := hid (show j = x by clear hw hpc; omega)
            obtain ⟨s, pm, hs⟩ := R.map
            have hsx : s < maxLen := by clear hw hpc; unfold maxLen; omega
            have hsz : (if (tm T (z : Int)).isSome then s else s + 1) ≤ m + 1 := by clear hw hpc; split <;> omega
            have hgB : some B ≠ some g := fun e => hBr g (.inr (.inr rfl)) (by cases e; rfl)
            go_wp2_with fail
            go_quiet (fail)
            go_wp2_with fail
            have pmq : PMap (wr.drewN (nq + 1)) g s (tm T) := pm.keep rfl
            obtain ⟨w3, hrun, pm3, g3⟩ := pmq.put Tryd.underlying65 hsx (z : Int) hwf (.int .i64 (o : Int))
            rw [e2] at pm3
            have b3 : w3.cell? ⟨B, 0, none⟩ = some (.int .i64 (z : Int)) := g3.cell b2 hgB
            go_region
            go_wp2_with fail
            go_ret2
            obtain ⟨hbest, hcut⟩ := HF.out
            refine .inr ⟨k, q, by rw [HZ.out]; exact hbest, by rw [HZ.out]; rfl, ?_, ?_⟩
            · rw [HZ.out, ← hcut, ← HJ.out]
              exact (R.keep (w' := (wr.drewN (nq + 1))) (fun _ _ => rfl)).remap g3 pm3 hsz
            · exact (F.trans (Fr.drewN _ _ (nq + 1)) (fun _ _ h => h)).trans (Fr.grown g3) (fun i _ h => .inr (.inr h))
end Go.Proofs.YthknommfnajeiaaDoor

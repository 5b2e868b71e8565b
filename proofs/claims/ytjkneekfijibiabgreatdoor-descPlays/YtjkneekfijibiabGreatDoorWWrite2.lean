/- Bytes of a call's own: a text copied in. -/
import Derived.Test.YtjkneekfijibiabGreatDoorWBuf2
import Derived.Test.YtjkneekfijibiabGreatDoorWNew
namespace Go.Proofs.YtjkneekfijibiabGreatDoor
open Go.RowKit Go.Maps

section
variable {w w' : World} {B : Nat} {v : Value} {l : List UInt8}
/-- A text copied in. -/
theorem Bfr.copy {g cap : Nat} (hv : v = .slice (some ⟨g, 0, none⟩) l.length cap) (h : Bfr w B v l) (a : Nat) (x : List UInt8) (hx : a + x.length ≤ l.length) (ty : TypeId) :
    (Builtin.copy_ #[29, 9] ty #[.slice (some ⟨g, a, none⟩) (l.length - a) (cap - a), tx x]).run Tryz.prog w = .ok (.int .i64 (x.length : Int)) (w.setCells g a (u8s x)) ∧ Bfr (w.setCells g a (u8s x)) B v (l.take a ++ x ++ l.drop (a + x.length)) ∧ B ≤ g := by
  obtain ⟨g', cap', e, hB, hlt, hcap, h1, h2⟩ := h
  rw [hv] at e
  cases e
  have hs : (⟨x.toArray⟩ : ByteArray).size = x.length := by simp [ByteArray.size]
  have hu : (u8s x).length = x.length := by unfold u8s; rw [List.length_map]
  have hc : ∀ j, j < (u8s x).length → (w.cell? ⟨g, a + j, none⟩).isSome = true := fun j hj => (h2 _ (by omega)).1
  refine ⟨?_, ⟨g, cap, ?_, hB, Nat.lt_of_lt_of_le hlt (below_setCells' (B := 0) (a := w) (Nat.zero_le _) _ _ _ (Below.refl _ _)).size, ?_, fun j hj => ?_, fun j hj => ?_⟩, hB⟩
  · have := run_copy_string (P := Tryz.prog) w 29 9 ty 5 g a (l.length - a) (cap - a) ⟨x.toArray⟩ Tryz.underlying29 (fun w => by kernel_rfl) (by rw [hs]; omega) (fun j hj => (h2 _ (by rw [hs] at hj; omega)).1) (fun j hj => (h2 _ (by rw [hs] at hj; omega)).2)
    rw [hs] at this
    exact this
  · rw [hv, List.length_append, List.length_append, List.length_take, List.length_drop]
    congr 1; omega
  · rw [List.length_append, List.length_append, List.length_take, List.length_drop]; omega
  · rw [List.length_append, List.length_append, List.length_take, List.length_drop] at hj
    by_cases e1 : j < a
    · rw [World.cell?_setCells_out _ _ _ _ _ (fun _ _ => .inl e1), List.getElem_append_left (by rw [List.length_append, List.length_take]; omega), List.getElem_append_left (by rw [List.length_take]; omega), List.getElem_take]
      exact h1 j (by omega)
    · by_cases e2 : j < a + x.length
      · obtain ⟨k, rfl⟩ : ∃ k, j = a + k := ⟨j - a, by omega⟩
        have hk : k < x.length := by omega
        have e : (l.take a ++ x ++ l.drop (a + x.length))[a + k]? = some x[k] := by
          rw [List.append_assoc, List.getElem?_append_right (by rw [List.length_take]; omega), List.length_take, show a + k - min a l.length = k by omega, List.getElem?_append_left hk, List.getElem?_eq_getElem hk]
        obtain ⟨_, e'⟩ := List.getElem?_eq_some_iff.1 e
        rw [World.cell?_setCells_in g (u8s x) a w hc k (by rw [hu]; omega), e']
        simp only [u8s, List.getElem_map]
      · have hk : j < l.length := by omega
        have e : (l.take a ++ x ++ l.drop (a + x.length))[j]? = some l[j] := by
          rw [List.getElem?_append_right (by rw [List.length_append, List.length_take]; omega), List.length_append, List.length_take, List.getElem?_drop, show a + x.length + (j - (min a l.length + x.length)) = j by omega, List.getElem?_eq_getElem hk]
        obtain ⟨_, e'⟩ := List.getElem?_eq_some_iff.1 e
        rw [World.cell?_setCells_out _ _ _ _ _ (fun _ _ => .inr (by rw [hu]; show _ ≤ j; omega)), e']
        exact h1 j hk
  · rw [World.frozen?_setCells]
    refine ⟨?_, (h2 j hj).2⟩
    by_cases e1 : j < a ∨ a + x.length ≤ j
    · rw [World.cell?_setCells_out _ _ _ _ _ (fun _ _ => by rw [hu]; exact e1)]; exact (h2 j hj).1
    · obtain ⟨k, rfl⟩ : ∃ k, j = a + k := ⟨j - a, by omega⟩
      rw [World.cell?_setCells_in g (u8s x) a w hc k (by rw [hu]; omega)]; rfl
end
end Go.Proofs.YtjkneekfijibiabGreatDoor



namespace Go.Proofs.YtjkneekfijibiabGreatDoor
open Go.RowKit Go.Maps

section
variable {w w' : World} {r gN s : Nat} {T : Wd} {G : Int → Nat}

set_option maxRecDepth 100000 in
set_option maxHeartbeats 4000000 in
theorem RTr.write_ok (h : RTr w r gN s T G) (hT : TrOk T) (n a : Int) (x : List UInt8) (hw : (Lit.int .i64 n).wf = true) (hsz : s < maxLen) (hxl : x.length < 100000) :
    Calls Tryz.prog 60 #[wp r, .int .i64 n, .int .i64 a, tx x] w fun e w' => e = .returned (.int .i64 (writeE T n a x)) ∧ RTr w' r gN s (writeN T n a x) G ∧ w.grownBy w' (some gN) := by
  have hF := h.file_ok n hw
  have hxs := tx_len x
  by_cases hf : fileT T n = 0
  · obtain ⟨b, hh, hn⟩ := fileT_zero hf
    rw [hf] at hF
    obtain ⟨X, hX⟩ : ∃ X, x.length = X := ⟨_, rfl⟩
    rw [hX] at hxs hxl
    by_cases ha : a < 0
    · have e1 : writeE T n a x = 2 := by unfold writeE; rw [if_neg (fun e => e hf), if_pos ha]
      have e2 : writeN T n a x = T := by unfold writeN; rw [e1, if_pos (.inl (by omega))]
      rw [e1, e2]
      go_enter Tryz.func60, Tryz.ntmps60
      go_wp2_with fail
      refine hF.mono ?_
      rintro e w1 ⟨rfl, b1⟩
      clear hF
      go_wp2_with fail
      go_ret
      exact ⟨rfl, h.below b1, gby_below b1⟩
    · by_cases hlim : (200 : Int) < X ∨ 200 - (X : Int) < a
      · have e1 : writeE T n a x = 4 := by unfold writeE; rw [if_neg (fun e => e hf), if_neg ha, hX, if_pos hlim]
        have e2 : writeN T n a x = T := by unfold writeN; rw [e1, if_pos (.inl (by omega))]
        rw [e1, e2]
        by_cases hl1 : (200 : Int) < X
        · go_enter Tryz.func60, Tryz.ntmps60
          go_wp2_with fail
          refine hF.mono ?_
          rintro e w1 ⟨rfl, b1⟩
          clear hF
          go_wp2_with fail
          go_ret
          exact ⟨rfl, h.below b1, gby_below b1⟩
        · have hl2 := hlim.resolve_left hl1
          go_enter Tryz.func60, Tryz.ntmps60
          go_wp2_with fail
          refine hF.mono ?_
          rintro e w1 ⟨rfl, b1⟩
          clear hF
          go_wp2_with fail
          go_ret
          exact ⟨rfl, h.below b1, gby_below b1⟩
      · have hl1 : ¬ (200 : Int) < X := fun e => hlim (.inl e)
        have hl2 : ¬ 200 - (X : Int) < a := fun e => hlim (.inr e)
        have e1 : writeE T n a x = 0 := by unfold writeE; rw [if_neg (fun e => e hf), if_neg ha, hX, if_neg hlim]
        by_cases hx0 : x = []
        · have e2 : writeN T n a x = T := by unfold writeN; rw [if_pos (.inr hx0)]
          rw [e1, e2]
          subst hx0
          go_enter Tryz.func60, Tryz.ntmps60
          go_wp2_with fail
          refine hF.mono ?_
          rintro e w1 ⟨rfl, b1⟩
          clear hF
          go_wp2_with fail
          go_ret
          exact ⟨rfl, h.below b1, gby_below b1⟩
        · have e2 : writeN T n a x = setT T n (.file (overT b a.toNat x) hh) := by unfold writeN; rw [e1, if_neg (fun e => e.elim (fun e => e rfl) hx0), hn]
          rw [e1, e2]
          have hbs := (hT.small n b hh hn).1
          have hxe : x.isEmpty = false := by cases x with
            | nil => exact absurd rfl hx0
            | cons _ _ => rfl
          obtain ⟨b', hb'⟩ : ∃ b', overT b a.toNat x = b' := ⟨_, rfl⟩
          rw [hb']
          go_enter Tryz.func60, Tryz.ntmps60
          go_wp2_with fail
          refine hF.mono ?_
          rintro e w1 ⟨rfl, b1⟩
          have h1 := h.below b1
          have c0 := h1.c0
          have hmap := h1.map
          have hg := node_file (G := G) hn
          have bA : Below w.heap.size w (w1.alloc (.cells #[.map none, .bool false, tx b, .int .i64 (hh : Int)] 113)) := b1.alloc b1.size _
          have hnew : (w1.alloc (.cells #[.map none, .bool false, tx b, .int .i64 (hh : Int)] 113)).heap[w1.heap.size]? = some (.cells #[.map none, .bool false, tx b, .int .i64 (hh : Int)] 113) := by
            show (w1.heap.push _)[w1.heap.size]? = _
            rw [Array.getElem?_push, if_pos rfl]
          obtain ⟨i0, hi0⟩ : ∃ i0, w1.heap.size = i0 := ⟨_, rfl⟩
          have hi : w.heap.size ≤ i0 := by rw [← hi0]; exact b1.size
          clear hF
          go_upto_region 11 with (at_lookup; refine wpList_klook rfl _ _ 33 rfl 113 Tryz.underlying33 _ (zero_node _) gN _ _ rfl hmap n rfl hw ?_; rw [hg])
          obtain ⟨w2, hw2⟩ : ∃ w2, w1.alloc (.cells #[.map none, .bool false, tx b, .int .i64 (hh : Int)] 113) = w2 := ⟨_, rfl⟩
          rw [hw2, hi0] at hnew
          rw [hw2] at bA
          rw [hw2]
          try rw [hi0]
          clear hw2 hi0 hmap c0 h1 hg b1
          have hil : i0 < w2.heap.size := (Array.getElem?_eq_some_iff.1 hnew).1
          obtain ⟨⟨q0, q1, q2, q3⟩, qf⟩ := node_cells hnew
          obtain ⟨v3, w3, hconv, hbf, b3⟩ := bfr_made w2 b
          obtain ⟨A, hA⟩ : ∃ A : Nat, a = (A : Int) := ⟨a.toNat, by omega⟩
          subst hA
          rw [Int.toNat_natCast] at hb'
          go_upto_region 12 with fail
          clear q0 q1 q2 q3 qf hconv
          go_loopg [11] (A + X - b.length) (fun mm s11 wr => ∃ l, Bfr wr w2.heap.size s11 l ∧ padT l (A + X) = padT b (A + X) ∧ l.length + mm = max b.length (A + X) ∧ Below w2.heap.size w2 wr)
          case atStart => exact ⟨b, hbf, rfl, by omega, b3⟩
          case round =>
            clear hbf b3
            obtain ⟨l, hbl, hpd, hll, b4⟩ := hrel
            have hbl' := hbl
            obtain ⟨g, cap, rfl, hgB, hgl, hcap, _, _⟩ := hbl'
            obtain ⟨L, hL⟩ : ∃ L, l.length = L := ⟨_, rfl⟩
            rw [hL] at hbl hll hcap ⊢
            by_cases hlt : (L : Int) < (A : Int) + (X : Int)
            · have hbA := hbl.alloc (.cells #[.int .u8 0] 5)
              have hst := padT_step (b := l) (n := A + X) (by omega)
              have hcell : (wr.alloc (.cells #[.int .u8 0] 5)).cell? ⟨wr.heap.size, 0, none⟩ = some (.int .u8 (((0 : UInt8).toNat : Nat) : Int)) := by
                have : (wr.alloc (.cells #[.int .u8 0] 5)).heap[wr.heap.size]? = some (.cells #[.int .u8 0] 5) := by
                  show (wr.heap.push _)[wr.heap.size]? = _
                  rw [Array.getElem?_push, if_pos rfl]
                rw [cell_of_row _ _ 0 _ _ _ this]; rfl
              have hsB : w2.heap.size ≤ (wr.alloc (.cells #[.int .u8 0] 5)).heap.size := Nat.le_trans b4.size (by show _ ≤ (wr.heap.push _).size; rw [Array.size_push]; omega)
              have b5 : Below w2.heap.size w2 (wr.alloc (.cells #[.int .u8 0] 5)) := b4.alloc b4.size _
              go_wp2_with (at_builtin; refine wpList_bapp rfl _ _ rfl rfl hbA hsB 0 ⟨wr.heap.size, 0, none⟩ _ rfl hcell (by omega) ?_; intro v6 w6 hb6 b6)
              go_roundg (gk - 1)
              case measure => omega
              case rel => exact ⟨l ++ [0], hb6, by rw [hst, hpd], by rw [List.length_append, List.length_singleton]; omega, b5.trans b6⟩
            · have hlp : l = padT b (A + X) := by rw [← hpd]; exact (padT_same (by omega)).symm
              have hcp := fun ty => hbl.copy (g := g) (cap := cap) (by rw [hL]) A x (by omega) ty
              have hgB' := hgB
              rw [hL] at hcp
              have hb5 := (hcp 0).2.1
              have hrc := fun ty => (hcp ty).1
              rw [hX] at hrc
              have hbb : l.take A ++ x ++ l.drop (A + x.length) = b' := by rw [← hb', hlp, ← hX]; rfl
              rw [hbb] at hb5
              have b5 : Below w2.heap.size w2 (wr.setCells g A (u8s x)) := below_setCells' hgB _ _ _ b4
              have hAL : (A : Int) ≤ (L : Int) := by omega
              have hLc : (L : Int) ≤ (cap : Int) := by omega
              have hX1 : 1 ≤ X := by rw [← hX]; cases x with
                | nil => exact absurd rfl hx0
                | cons _ _ => simp
              have hcA : ¬ cap = A := by omega
              have hcA1 : ¬ A = cap := by omega
              have hcA2 : ¬ cap - A = 0 := by omega
              have hcA3 : ¬ cap ≤ A := by omega
              have hcA4 : ¬ (A : Int) = (cap : Int) := by omega
              have hcA5 : ¬ (cap : Int) = (A : Int) := by omega
              clear hcp hbl hlp hpd
              go_upto_region 15 with fail
              obtain ⟨w5, hw5⟩ : ∃ w5, wr.setCells g A (u8s x) = w5 := ⟨_, rfl⟩
              rw [hw5] at hb5 b5 ⊢
              have htx := hb5.text
              have hnew5 : w5.heap[i0]? = some (.cells #[.map none, .bool false, tx b, .int .i64 (hh : Int)] 113) := (b5.block i0 hil).trans hnew
              obtain ⟨⟨q0, q1, q2, q3⟩, qf⟩ := node_cells hnew5
              have b6 : Below w.heap.size w w5 := bA.trans (b5.mono bA.size)
              have hset := heap_cell_same w5 i0 2 (tx b') _ _ _ hnew5
              have b7 : Below w.heap.size w (w5.setCell ⟨i0, 2, none⟩ (tx b')) := b6.setCell (p := ⟨i0, 2, none⟩) hi _
              clear hw5 hrc hb5 b4
              go_upto_region 16 with fail
              obtain ⟨w7, hw7⟩ : ∃ w7, w5.setCell ⟨i0, 2, none⟩ (tx b') = w7 := ⟨_, rfl⟩
              rw [hw7] at hset b7 ⊢
              replace hset : w7.heap[i0]? = some (.cells #[.map none, .bool false, tx b', .int .i64 (hh : Int)] 113) := hset
              have h3 := h.below b7
              obtain ⟨⟨q0, q1, q2, q3⟩, qf⟩ := node_cells hset
              have c0 := h3.c0
              have hm3 : PMap w7.drew gN s (fun k => (T k).map (ndv G k)) := h3.map.keep rfl
              obtain ⟨w8, hrun, pm8, g8⟩ := hm3.put Tryz.underlying33 hsz n hw (.agg #[.map none, .bool false, tx b', .int .i64 (hh : Int)])
              have hfin := (h3.keep (w' := w7.drew) (fun _ _ => rfl)).put (b' := b') (x' := hh) hn g8 pm8
              have hgr : w.grownBy w8 (some gN) := ⟨g8.os.trans b7.os, g8.tape.trans b7.tape, g8.output.trans b7.output, Nat.le_trans b7.size g8.size, fun k hk hne => (g8.block k (Nat.lt_of_lt_of_le hk b7.size) hne).trans (b7.block k hk)⟩
              clear hset hm3 h3 hnew hnew5 bA b5 b6 pm8 g8 b7 hw7 htx
              go_region
              go_wp2_with fail
              go_ret
              exact ⟨rfl, hfin, hgr⟩
  · have e1 : writeE T n a x = fileT T n := by unfold writeE; rw [if_pos hf]
    have e2 : writeN T n a x = T := by unfold writeN; rw [e1, if_pos (.inl hf)]
    have hq : (fileT T n == 0) = false := by simp [hf]
    rw [e1, e2]
    generalize fileT T n = c at *
    go_enter Tryz.func60, Tryz.ntmps60
    go_wp2_with fail
    refine hF.mono ?_
    rintro e w1 ⟨rfl, b1⟩
    clear hF
    go_wp2_with fail
    go_ret
    exact ⟨rfl, h.below b1, gby_below b1⟩
end
end Go.Proofs.YtjkneekfijibiabGreatDoor

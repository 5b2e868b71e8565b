/- The document's own tree: what is asked of a file by its number, by its Go text. -/
import Derived.Test.YtpibokijbidgdabGreatDoorWRef2
import Derived.RegionTactic
import Derived.ChangeAlike
import Derived.Test.YtpibokijbidgdabGreatDoorWText
import Derived.Deep.LoopGhost
namespace Go.Proofs.YtpibokijbidgdabGreatDoor
open Go.RowKit Go.Maps

/-- A node's four cells. -/
theorem node_cells {W : World} {i : Nat} {a b c d : Value} (h : W.heap[i]? = some (.cells #[a, b, c, d] 64)) : (W.cell? ⟨i, 0, none⟩ = some a ∧ W.cell? ⟨i, 1, none⟩ = some b ∧ W.cell? ⟨i, 2, none⟩ = some c ∧ W.cell? ⟨i, 3, none⟩ = some d) ∧ ∀ j, W.frozen? ⟨i, j, none⟩ = false := by
  refine ⟨⟨?_, ?_, ?_, ?_⟩, fun j => by simp [World.frozen?, h]⟩ <;> (rw [cell_of_row W i _ _ _ _ h]; rfl)

section
variable {w w' : World} {r gN s : Nat} {T : Wd} {G : Int → Nat}

theorem RTr.rne (h : RTr w r gN s T G) : r ≠ gN := by
  rintro rfl
  obtain ⟨es, cl, hm⟩ := h.map.isMap
  rw [h.head] at hm; cases hm
/-- A file's node put anew. -/
theorem RTr.put (h : RTr w r gN s T G) {n : Int} {b b' : List UInt8} {x x' : Nat} (hn : T n = some (.file b x)) (hg : w.grownBy w' (some gN))
    (pm : PMap w' gN (if ((T n).map (ndv G n)).isSome then s else s + 1) (fun i => if i = n then some (.agg #[.map none, .bool false, tx b', .int .i64 (x' : Int)]) else (T i).map (ndv G i))) : RTr w' r gN s (setT T n (.file b' x')) G := by
  have hk : ∀ i, i < w.heap.size → i ≠ gN → w'.heap[i]? = w.heap[i]? := fun i hi hne => hg.block i hi (fun e => hne (Option.some.inj e))
  have hd : ∀ k C, setT T n (.file b' x') k = some (.dir C) → T k = some (.dir C) := fun k C e => by
    by_cases e1 : k = n
    · subst e1; rw [setT_same] at e; cases e
    · rw [setT_other _ e1] at e; exact e
  refine ⟨(hk r (h.lt (.inl rfl)) h.rne).trans h.head, ?_, fun k C e => (h.dirs k C (hd k C e)).keep (hk _ (h.dirs k C (hd k C e)).lt (h.sep k C (hd k C e))), fun k C e => h.sep k C (hd k C e), fun k k' C C' e e' => h.inj k k' C C' (hd k C e) (hd k' C' e')⟩
  rw [hn] at pm
  have e : (fun i => if i = n then some (.agg #[.map none, .bool false, tx b', .int .i64 (x' : Int)]) else (T i).map (ndv G i)) = fun k => (setT T n (.file b' x') k).map (ndv G k) := by
    funext k; unfold setT; by_cases e1 : k = n <;> simp [e1, ndv]
  rw [e] at pm
  exact pm

set_option maxRecDepth 100000 in
set_option maxHeartbeats 2000000 in
theorem RTr.file_ok (h : RTr w r gN s T G) (n : Int) (hw : (Lit.int .i64 n).wf = true) :
    Calls Tryz.prog 64 #[wp r, .int .i64 n] w fun e w' => e = .returned (.int .i64 (fileT T n)) ∧ Below w.heap.size w w' := by
  have c0 := h.c0
  have hmap := h.map
  have hB : ∀ o, Below w.heap.size w (w.alloc o) := fun o => (Below.refl _ _).alloc (Nat.le_refl _) o
  cases hn : T n with
  | none =>
    have e : fileT T n = 7 := by unfold fileT; rw [hn]
    rw [e]
    go_enter Tryz.func64, Tryz.ntmps64
    go_wp2_with (at_lookup; refine wpList_kask rfl _ _ 33 rfl 64 Tryz.underlying33 _ (zero_node _) gN _ _ rfl hmap n rfl hw ?_; simp only [hn, Option.map_none, Option.getD_none, Option.isSome_none])
    go_ret
    exact ⟨rfl, hB _⟩
  | some nd =>
    cases nd with
    | dir C =>
      have e : fileT T n = 6 := by unfold fileT; rw [hn]
      rw [e]
      go_enter Tryz.func64, Tryz.ntmps64
      go_wp2_with (at_lookup; refine wpList_kask rfl _ _ 33 rfl 64 Tryz.underlying33 _ (zero_node _) gN _ _ rfl hmap n rfl hw ?_; simp only [hn, Option.map_some, Option.getD_some, Option.isSome_some, ndv])
      go_ret
      exact ⟨rfl, hB _⟩
    | file b x =>
      have e : fileT T n = 0 := by unfold fileT; rw [hn]
      rw [e]
      go_enter Tryz.func64, Tryz.ntmps64
      go_wp2_with (at_lookup; refine wpList_kask rfl _ _ 33 rfl 64 Tryz.underlying33 _ (zero_node _) gN _ _ rfl hmap n rfl hw ?_; simp only [hn, Option.map_some, Option.getD_some, Option.isSome_some, ndv])
      go_ret
      exact ⟨rfl, hB _⟩
end
end Go.Proofs.YtpibokijbidgdabGreatDoor

namespace Go.Proofs.YtpibokijbidgdabGreatDoor
open Go.RowKit Go.Maps

section
variable {w w' : World} {r gN s : Nat} {T : Wd} {G : Int → Nat}

set_option maxRecDepth 100000 in
set_option maxHeartbeats 4000000 in
theorem RTr.cut_ok (h : RTr w r gN s T G) (hT : TrOk T) (n size : Int) (hw : (Lit.int .i64 n).wf = true) (hsz : s < maxLen) :
    Calls Tryz.prog 40 #[wp r, .int .i64 n, .int .i64 size] w fun e w' => e = .returned (.int .i64 (cutE T n size)) ∧ RTr w' r gN s (cutN T n size) G ∧ w.grownBy w' (some gN) := by
  have hF := h.file_ok n hw
  by_cases hf : fileT T n = 0
  · obtain ⟨b, x, hn⟩ := fileT_zero hf
    rw [hf] at hF
    by_cases hs0 : size < 0
    · have e1 : cutE T n size = 2 := by unfold cutE; rw [if_neg (fun e => e hf), if_pos hs0]
      have e2 : cutN T n size = T := cutN_no (by rw [e1]; omega)
      rw [e1, e2]
      go_enter Tryz.func40, Tryz.ntmps40
      go_wp2_with fail
      refine hF.mono ?_
      rintro e w1 ⟨rfl, b1⟩
      go_wp2_with fail
      go_ret
      exact ⟨rfl, h.below b1, gby_below b1⟩
    · have e1 : cutE T n size = 0 := by unfold cutE; rw [if_neg (fun e => e hf), if_neg hs0]
      have e2 : cutN T n size = setT T n (.file (b.take size.toNat) x) := by unfold cutN; rw [hn]; simp only [if_neg hs0]
      obtain ⟨b', hb'⟩ : ∃ b', b.take size.toNat = b' := ⟨_, rfl⟩
      rw [hb'] at e2
      rw [e1, e2]
      have hbs := hT.small n b x hn
      go_enter Tryz.func40, Tryz.ntmps40
      go_wp2_with fail
      refine hF.mono ?_
      rintro e w1 ⟨rfl, b1⟩
      have h1 := h.below b1
      have c0 := h1.c0
      have hmap := h1.map
      have hg := node_file (G := G) hn
      have bA : Below w.heap.size w (w1.alloc (.cells #[.map none, .bool false, tx b, .int .i64 (x : Int)] 64)) := b1.alloc b1.size _
      have hnew : (w1.alloc (.cells #[.map none, .bool false, tx b, .int .i64 (x : Int)] 64)).heap[w1.heap.size]? = some (.cells #[.map none, .bool false, tx b, .int .i64 (x : Int)] 64) := by
        show (w1.heap.push _)[w1.heap.size]? = _
        rw [Array.getElem?_push, if_pos rfl]
      obtain ⟨i0, hi0⟩ : ∃ i0, w1.heap.size = i0 := ⟨_, rfl⟩
      have hi : w.heap.size ≤ i0 := by rw [← hi0]; exact b1.size
      go_upto_region 7 with (at_lookup; refine wpList_klook rfl _ _ 33 rfl 64 Tryz.underlying33 _ (zero_node _) gN _ _ rfl hmap n rfl hw ?_; rw [hg])
      obtain ⟨w2, hw2⟩ : ∃ w2, w1.alloc (.cells #[.map none, .bool false, tx b, .int .i64 (x : Int)] 64) = w2 := ⟨_, rfl⟩
      rw [hw2, hi0] at hnew
      rw [hw2] at bA
      rw [hw2]
      try rw [hi0]
      have h2 := h.below bA
      clear hw2 hi0 hmap c0 h1 hg hF
      have hil : i0 < w2.heap.size := (Array.getElem?_eq_some_iff.1 hnew).1
      have hgn : i0 ≠ gN := fun e => by have := h.map.lt; omega
      have hrn : i0 ≠ r := fun e => by have := h.lt (.inl rfl : town r gN T G r); omega
      obtain ⟨⟨q0, q1, q2, q3⟩, qf⟩ := node_cells hnew
      have c0 := h2.c0
      by_cases hlt : size < (b.length : Int)
      · have hsl := wtext_h b size.toNat (by omega)
        rw [show ((size.toNat : Nat) : Int) = size by omega] at hsl
        rw [hb'] at hsl
        have hset := heap_cell_same w2 i0 2 (tx b') _ _ _ hnew
        have g3 : w2.grownBy (w2.setCell ⟨i0, 2, none⟩ (tx b')) (some i0) := ⟨rfl, rfl, rfl, by simp [World.setCell], fun k _ hk => Below.heap_setCell _ _ _ _ (fun e => hk (by rw [e]))⟩
        have b3 : Below w.heap.size w (w2.setCell ⟨i0, 2, none⟩ (tx b')) := bA.setCell (p := ⟨i0, 2, none⟩) hi _
        go_upto_region 9 with fail
        obtain ⟨w3, hw3⟩ : ∃ w3, w2.setCell ⟨i0, 2, none⟩ (tx b') = w3 := ⟨_, rfl⟩
        rw [hw3] at hset b3 ⊢
        replace hset : w3.heap[i0]? = some (.cells #[.map none, .bool false, tx b', .int .i64 (x : Int)] 64) := hset
        have h3 := h.below b3
        obtain ⟨⟨q0, q1, q2, q3⟩, qf⟩ := node_cells hset
        have c0 := h3.c0
        have hm3 : PMap w3.drew gN s (fun k => (T k).map (ndv G k)) := h3.map.keep rfl
        obtain ⟨w4, hrun, pm4, g4⟩ := hm3.put Tryz.underlying33 hsz n hw (.agg #[.map none, .bool false, tx b', .int .i64 (x : Int)])
        have hfin := (h3.keep (w' := w3.drew) (fun _ _ => rfl)).put (b' := b') (x' := x) hn g4 pm4
        have hgr : w.grownBy w4 (some gN) := ⟨g4.os.trans b3.os, g4.tape.trans b3.tape, g4.output.trans b3.output, Nat.le_trans b3.size g4.size, fun k hk hne => (g4.block k (Nat.lt_of_lt_of_le hk b3.size) hne).trans (b3.block k hk)⟩
        clear hset hm3 h3 h2 h hnew g3 bA pm4 g4 b3 hw3
        go_region
        go_wp2_with fail
        go_ret
        exact ⟨rfl, hfin, hgr⟩
      · have hbb : b' = b := by rw [← hb']; exact List.take_of_length_le (by omega)
        subst hbb
        have hm3 : PMap w2.drew gN s (fun k => (T k).map (ndv G k)) := h2.map.keep rfl
        obtain ⟨w4, hrun, pm4, g4⟩ := hm3.put Tryz.underlying33 hsz n hw (.agg #[.map none, .bool false, tx b', .int .i64 (x : Int)])
        have hfin := (h2.keep (w' := w2.drew) (fun _ _ => rfl)).put (b' := b') (x' := x) hn g4 pm4
        have hgr : w.grownBy w4 (some gN) := ⟨g4.os.trans bA.os, g4.tape.trans bA.tape, g4.output.trans bA.output, Nat.le_trans bA.size g4.size, fun k hk hne => (g4.block k (Nat.lt_of_lt_of_le hk bA.size) hne).trans (bA.block k hk)⟩
        clear hm3 h2 h hnew bA pm4 g4
        go_upto_region 9 with fail
        go_region
        go_wp2_with fail
        go_ret
        exact ⟨rfl, hfin, hgr⟩
  · have e1 : cutE T n size = fileT T n := by unfold cutE; rw [if_pos hf]
    have e2 : cutN T n size = T := cutN_no (by rw [e1]; exact hf)
    have hq : (fileT T n == 0) = false := by simp [hf]
    rw [e1, e2]
    generalize fileT T n = c at *
    go_enter Tryz.func40, Tryz.ntmps40
    go_wp2_with fail
    refine hF.mono ?_
    rintro e w1 ⟨rfl, b1⟩
    go_wp2_with fail
    go_ret
    exact ⟨rfl, h.below b1, gby_below b1⟩
end
end Go.Proofs.YtpibokijbidgdabGreatDoor

namespace Go.Proofs.YtpibokijbidgdabGreatDoor
open Go.RowKit Go.Maps

theorem tx_len (s : List UInt8) : (⟨s.toArray⟩ : ByteArray).size = s.length := by simp [ByteArray.size]

section
variable {w w' : World} {r gN s : Nat} {T : Wd} {G : Int → Nat}

set_option maxRecDepth 100000 in
set_option maxHeartbeats 4000000 in
theorem RTr.read_ok (h : RTr w r gN s T G) (hT : TrOk T) (n at' m : Int) (hw : (Lit.int .i64 n).wf = true) :
    Calls Tryz.prog 39 #[wp r, .int .i64 n, .int .i64 at', .int .i64 m] w fun e w' => e = .returned (.tuple #[tx (readS T n at' m), .int .i64 (readE T n at' m)]) ∧ Below w.heap.size w w' := by
  have hF := h.file_ok n hw
  by_cases hf : fileT T n = 0
  · obtain ⟨b, x, hn⟩ := fileT_zero hf
    rw [hf] at hF
    by_cases hs0 : at' < 0 ∨ m < 0
    · have e1 : readE T n at' m = 2 := by unfold readE; rw [if_neg (fun e => e hf), if_pos hs0]
      have e2 : readS T n at' m = [] := by unfold readS; rw [hn]; simp only [if_pos hs0]
      rw [e1, e2]
      by_cases ha : at' < 0
      · go_enter Tryz.func39, Tryz.ntmps39
        go_wp2_with fail
        refine hF.mono ?_
        rintro e w1 ⟨rfl, b1⟩
        go_wp2_with fail
        go_ret2
        exact ⟨rfl, b1⟩
      · have hm : m < 0 := hs0.resolve_left ha
        go_enter Tryz.func39, Tryz.ntmps39
        go_wp2_with fail
        refine hF.mono ?_
        rintro e w1 ⟨rfl, b1⟩
        go_wp2_with fail
        go_ret2
        exact ⟨rfl, b1⟩
    · have ha : ¬ at' < 0 := fun e => hs0 (.inl e)
      have hm : ¬ m < 0 := fun e => hs0 (.inr e)
      have e1 : readE T n at' m = 0 := by unfold readE; rw [if_neg (fun e => e hf), if_neg hs0]
      have e2 : readS T n at' m = (b.drop at'.toNat).take m.toNat := by unfold readS; rw [hn]; simp only [if_neg hs0]
      obtain ⟨R, hR⟩ : ∃ R, readS T n at' m = R := ⟨_, rfl⟩
      rw [hR] at e2
      rw [e1, hR]
      have hbs := (hT.small n b x hn).1
      obtain ⟨N, hN⟩ : ∃ N, b.length = N := ⟨_, rfl⟩
      rw [hN] at hbs
      have htl := tx_len b
      rw [hN] at htl
      go_enter Tryz.func39, Tryz.ntmps39
      go_wp2_with fail
      refine hF.mono ?_
      rintro e w1 ⟨rfl, b1⟩
      have h1 := h.below b1
      have c0 := h1.c0
      have hmap := h1.map
      have hg := node_file (G := G) hn
      have f2 := node_f2 none false b (x : Int)
      clear hF h1 h hT
      go_wp2_with (at_lookup; refine wpList_klook rfl _ _ 33 rfl 64 Tryz.underlying33 _ (zero_node _) gN _ _ rfl hmap n rfl hw ?_; rw [hg])
      go_loopg [11, 13] N (fun mm s11 s13 wr => ∃ (j : Nat), j + mm = N ∧ (j : Int) ≤ m ∧ (0 < j → at' + (j : Int) ≤ (N : Int)) ∧ s13 = .int .i64 (at' + (j : Int)) ∧ s11 = tx ((b.drop at'.toNat).take j) ∧ wr = w1)
      case atStart => exact ⟨0, by omega, by omega, fun e => absurd e (by omega), by rw [show at' + ((0 : Nat) : Int) = at' by omega], rfl, rfl⟩
      case round =>
        obtain ⟨j, hj, hjm, hjN, rfl, rfl, hw1⟩ := hrel
        subst hw1
        by_cases hlt : at' + (j : Int) < (N : Int)
        · have hil : at'.toNat + j < b.length := by omega
          have hkl : ((b.drop at'.toNat).take j).length = j := by rw [List.length_take, List.length_drop]; omega
          have htk := tx_len ((b.drop at'.toNat).take j)
          rw [hkl] at htk
          by_cases hjl : (j : Int) < m
          · have hsl := wtext_one b (at'.toNat + j) hil
            rw [show ((at'.toNat + j : Nat) : Int) = at' + (j : Int) by omega] at hsl
            have hcat := wtext_cat ((b.drop at'.toNat).take j) [b[at'.toNat + j]]
            have hnx : (b.drop at'.toNat).take j ++ [b[at'.toNat + j]] = (b.drop at'.toNat).take (j + 1) := by
              rw [List.take_add_one, List.getElem?_drop, List.getElem?_eq_getElem hil]; rfl
            rw [hnx] at hcat
            generalize (b.drop at'.toNat).take j = u at *
            generalize b[at'.toNat + j] = bb at *
            go_wp2_with fail
            go_roundg (gk - 1)
            case measure => omega
            case rel => exact ⟨j + 1, by omega, by omega, fun _ => by omega, by go_num, rfl, rfl⟩
          · have hu : (b.drop at'.toNat).take j = R := by rw [e2, show m.toNat = j by omega]
            rw [hu] at htk ⊢
            go_wp2_with fail
            go_ret2
            exact ⟨rfl, b1⟩
        · have hu : (b.drop at'.toNat).take j = R := by
            rw [e2, List.take_of_length_le (by rw [List.length_drop]; omega), List.take_of_length_le (by rw [List.length_drop]; omega)]
          rw [hu]
          go_wp2_with fail
          go_ret2
          exact ⟨rfl, b1⟩
  · have e1 : readE T n at' m = fileT T n := by unfold readE; rw [if_pos hf]
    have e2 : readS T n at' m = [] := by
      unfold readS
      cases e : T n with
      | none => rfl
      | some nd => cases nd with
        | dir C => rfl
        | file b x => exact absurd (by unfold fileT; rw [e]) hf
    have hq : (fileT T n == 0) = false := by simp [hf]
    rw [e1, e2]
    generalize fileT T n = c at *
    go_enter Tryz.func39, Tryz.ntmps39
    go_wp2_with fail
    refine hF.mono ?_
    rintro e w1 ⟨rfl, b1⟩
    go_wp2_with fail
    go_ret2
    exact ⟨rfl, b1⟩
end
end Go.Proofs.YtpibokijbidgdabGreatDoor

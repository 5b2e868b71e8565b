/- The document's own tree: Hold and Drop, by their Go text. -/
import Derived.Test.YtpibokijbidgdabGreatDoorWUnlink
namespace Go.Proofs.YtpibokijbidgdabGreatDoor
open Go.RowKit Go.Maps

section
variable {w w' : World} {r gN s : Nat} {T : Wd} {G : Int → Nat}

set_option maxRecDepth 100000 in
set_option maxHeartbeats 4000000 in
theorem RTr.hold_ok (h : RTr w r gN s T G) (hT : TrOk T) (n by' : Int) (hw : (Lit.int .i64 n).wf = true) (hs : s ≤ 1000) (hC : ∀ k C, T k = some (.dir C) → C.length ≤ 1000) (hby : -1 ≤ by' ∧ by' ≤ 1) (hhx : ∀ b x, T n = some (.file b x) → x + 1 ≤ 1000) :
    Calls Tryz.prog 36 #[wp r, .int .i64 n, .int .i64 by'] w fun e w' => e = .returned (.int .i64 (holdE T n by')) ∧ ∃ s', RTr w' r gN s' (holdN T n by') G ∧ Wt (town r gN T G) w w' := by
  have hF := h.file_ok n hw
  by_cases hf : fileT T n = 0
  · obtain ⟨b, x, hn⟩ := fileT_zero hf
    rw [hf] at hF
    have hx1 := hhx b x hn
    have hbs := (hT.small n b x hn).1
    obtain ⟨hb0, hb1⟩ := hby
    by_cases hs0 : (x : Int) + by' < 0
    · have e1 : holdE T n by' = 10 := by unfold holdE; rw [hn]; simp only; rw [if_pos hs0]
      have e2 : holdN T n by' = T := by unfold holdN; rw [hn]; simp only; rw [if_pos hs0]
      rw [e1, e2]
      go_enter Tryz.func36, Tryz.ntmps36
      go_wp2_with fail
      refine hF.mono ?_
      rintro e w1 ⟨rfl, b1⟩
      have h1 := h.below b1
      have c0 := h1.c0
      have hmap := h1.map
      have hg := node_file (G := G) hn
      have bA : ∀ o, Below w.heap.size w (w1.alloc o) := fun o => b1.alloc b1.size o
      clear hF
      go_wp2_with (at_lookup; refine wpList_klook rfl _ _ 33 rfl 64 Tryz.underlying33 _ (zero_node _) gN _ _ rfl hmap n rfl hw ?_; rw [hg])
      go_ret
      exact ⟨rfl, s, h.below (bA _), .below _ (bA _)⟩
    · obtain ⟨x', hx'⟩ : ∃ x' : Nat, (x : Int) + by' = (x' : Int) := ⟨((x : Int) + by').toNat, by omega⟩
      have hxx : x' ≤ 1000 := by omega
      have e1 : holdE T n by' = 0 := by unfold holdE; rw [hn]; simp only; rw [if_neg hs0]
      have e2 : holdN T n by' = sweepT (setT T n (.file b x')) := by unfold holdN; rw [hn]; simp only; rw [if_neg hs0, hx']; rfl
      rw [e1, e2]
      have hTn := hT.setF hn hbs hxx (b' := b) (x' := x')
      have hCn : ∀ k C, setT T n (.file b x') k = some (.dir C) → T k = some (.dir C) := fun k C e => by
        by_cases e1 : k = n
        · subst e1; rw [setT_same] at e; cases e
        · rw [setT_other _ e1] at e; exact e
      go_enter Tryz.func36, Tryz.ntmps36
      go_wp2_with fail
      refine hF.mono ?_
      rintro e w1 ⟨rfl, b1⟩
      have h1 := h.below b1
      have c0 := h1.c0
      have hmap := h1.map
      have hg := node_file (G := G) hn
      have bA : Below w.heap.size w (w1.alloc (.cells #[.map none, .bool false, tx b, .int .i64 (x : Int)] 64)) := b1.alloc b1.size _
      have hnew : (w1.alloc (.cells #[.map none, .bool false, tx b, .int .i64 (x : Int)] 64)).heap[w1.heap.size]? = some (.cells #[.map none, .bool false, tx b, .int .i64 (x : Int)] 64) := by
        show (w1.heap.push _)[w1.heap.size]? = _
        rw [Array.getElem?_push, if_pos rfl]
      obtain ⟨i0, hi0⟩ : ∃ i0, w1.heap.size = i0 := ⟨_, rfl⟩
      have hi : w.heap.size ≤ i0 := by rw [← hi0]; exact b1.size
      go_upto_region 5 with (at_lookup; refine wpList_klook rfl _ _ 33 rfl 64 Tryz.underlying33 _ (zero_node _) gN _ _ rfl hmap n rfl hw ?_; rw [hg])
      obtain ⟨w2, hw2⟩ : ∃ w2, w1.alloc (.cells #[.map none, .bool false, tx b, .int .i64 (x : Int)] 64) = w2 := ⟨_, rfl⟩
      rw [hw2, hi0] at hnew
      rw [hw2] at bA
      rw [hw2]
      try rw [hi0]
      have h2 := h.below bA
      clear hw2 hi0 hmap c0 h1 hg hF
      obtain ⟨⟨q0, q1, q2, q3⟩, qf⟩ := node_cells hnew
      have hset := heap_cell_same w2 i0 3 (.int .i64 (x' : Int)) _ _ _ hnew
      have b3 : Below w.heap.size w (w2.setCell ⟨i0, 3, none⟩ (.int .i64 (x' : Int))) := bA.setCell (p := ⟨i0, 3, none⟩) hi _
      go_upto_region 8 with fail
      try rw [hx']
      obtain ⟨w3, hw3⟩ : ∃ w3, w2.setCell ⟨i0, 3, none⟩ (.int .i64 (x' : Int)) = w3 := ⟨_, rfl⟩
      rw [hw3] at hset b3 ⊢
      replace hset : w3.heap[i0]? = some (.cells #[.map none, .bool false, tx b, .int .i64 (x' : Int)] 64) := hset
      have h3 := h.below b3
      obtain ⟨⟨q0, q1, q2, q3⟩, qf⟩ := node_cells hset
      have c0 := h3.c0
      have hsz : s < maxLen := by unfold maxLen; omega
      have hm3 : PMap w3.drew gN s (fun k => (T k).map (ndv G k)) := h3.map.keep rfl
      obtain ⟨w4, hrun, pm4, g4⟩ := hm3.put Tryz.underlying33 hsz n hw (.agg #[.map none, .bool false, tx b, .int .i64 (x' : Int)])
      have hput := (h3.keep (w' := w3.drew) (fun _ _ => rfl)).put (b' := b) (x' := x') hn g4 pm4
      have hgr : w.grownBy w4 (some gN) := ⟨g4.os.trans b3.os, g4.tape.trans b3.tape, g4.output.trans b3.output, Nat.le_trans b3.size g4.size, fun k hk hne => (g4.block k (Nat.lt_of_lt_of_le hk b3.size) hne).trans (b3.block k hk)⟩
      have hsw := hput.sweep_ok hTn hs (fun k C e => hC k C (hCn k C e))
      clear hset hm3 h3 h2 hnew bA pm4 g4 b3 hw3 hput
      go_region
      go_wp2_with fail
      refine hsw.mono ?_
      rintro e w5 ⟨rfl, s', h5, wt5⟩
      clear hsw
      go_wp2_with fail
      go_ret
      refine ⟨rfl, s', h5, (Wt.grown hgr (.inr (.inl rfl))).trans (wt5.mono fun i hi => ?_)⟩
      rcases hi with e | e | ⟨k, D, e, e2⟩
      · exact .inl e
      · exact .inr (.inl e)
      · exact .inr (.inr ⟨k, D, hCn k D e, e2⟩)
  · have hnf : holdE T n by' = fileT T n ∧ holdN T n by' = T := by
      unfold holdE holdN
      cases e : T n with
      | none => exact ⟨rfl, rfl⟩
      | some nd => cases nd with
        | dir C => exact ⟨rfl, rfl⟩
        | file b x => exact absurd (by unfold fileT; rw [e]) hf
    have hq : (fileT T n == 0) = false := by simp [hf]
    rw [hnf.1, hnf.2]
    clear hnf
    generalize fileT T n = c at *
    go_enter Tryz.func36, Tryz.ntmps36
    go_wp2_with fail
    refine hF.mono ?_
    rintro e w1 ⟨rfl, b1⟩
    clear hF
    go_wp2_with fail
    go_ret
    exact ⟨rfl, s, h.below b1, .below _ b1⟩
end
end Go.Proofs.YtpibokijbidgdabGreatDoor

/- The document's own tree: Unlink, by its Go text. -/
import Derived.Test.YtjkneekfijibiabGreatDoorWDel
namespace Go.Proofs.YtjkneekfijibiabGreatDoor
open Go.RowKit Go.Maps

section
variable {w w' : World} {r gN s : Nat} {T : Wd} {G : Int → Nat}
set_option maxRecDepth 100000 in
set_option maxHeartbeats 4000000 in
theorem RTr.unlink_ok (h : RTr w r gN s T G) (hT : TrOk T) (p : List UInt8) (hp : p.length < 100000) (m : Int) (hm : w.cell? ⟨2, 0, none⟩ = some (.int .i64 m)) (hs : s ≤ 1000) (hC : ∀ k C, T k = some (.dir C) → C.length ≤ 1000) :
    Calls Tryz.prog 37 #[wp r, tx p] w fun e w' => e = .returned (.int .i64 (unlinkE T p)) ∧ ∃ s', RTr w' r gN s' (unlinkN T p) G ∧ Wt (town r gN T G) w w' := by
  have hP := h.place_ok hT p hp m hm
  have hpl := placeT_dir hT (p := p)
  obtain ⟨E, hE⟩ : ∃ E, unlinkE T p = E := ⟨_, rfl⟩
  obtain ⟨N, hN⟩ : ∃ N, unlinkN T p = N := ⟨_, rfl⟩
  rw [hN]
  unfold unlinkN at hN
  rw [hE] at hN ⊢
  unfold unlinkE at hE
  generalize placeT T p = P at *
  obtain ⟨d, nm, z⟩ := P
  simp only at hE hN hpl hP
  by_cases hz : z = 0
  · subst hz
    rw [if_neg (fun e => e rfl)] at hE
    rw [if_pos rfl] at hP
    obtain ⟨⟨C, hd⟩, hnm⟩ := hpl rfl
    have hnl := isName_len hnm
    have hnx : nm.length ≤ maxLen := by unfold maxLen; omega
    rw [hasT_eq hd] at hE
    cases hlu : C.lookup nm with
    | none =>
      rw [hlu] at hE
      simp only at hE
      subst hE
      rw [if_pos (by omega)] at hN
      subst hN
      go_enter Tryz.func37, Tryz.ntmps37
      go_wp2_with fail
      refine hP.mono ?_
      rintro e w1 ⟨rfl, b1⟩
      have hSm := (h.below b1).dirs d C hd
      clear hP
      go_wp2_with (at_lookup; refine wpList_sask rfl _ _ 111 rfl 3 Tryz.underlying111 _ (zero_num _) (G d) _ _ rfl hSm nm rfl hnx ?_; simp only [hlu, Option.map_none, Option.getD_none, Option.isSome_none])
      go_ret
      exact ⟨rfl, s, h.below b1, .below _ b1⟩
    | some n =>
      rw [hlu] at hE
      simp only at hE
      have hns := hT.child d C nm n hd hlu
      have hkey := hT.key n hns
      have hwf : (Lit.int .i64 n).wf = true := wf_few hkey.1 (by omega)
      have hfin : ∀ w1, Below w.heap.size w w1 → E = 0 → ∀ w2, RTr w2 r gN s (delT T d nm) G → w1.grownBy w2 (some (G d)) →
          Calls Tryz.prog 97 #[wp r] w2 fun e w' => e = .returned (.tuple #[]) ∧ ∃ s', RTr w' r gN s' N G ∧ Wt (town r gN T G) w w' := fun w1 b1 hE0 w2 h2 g2 => by
        have hsw := h2.sweep_ok (hT.del d nm) hs (delT_len hC d nm)
        rw [if_neg (fun e => e hE0)] at hN
        subst hN
        refine hsw.mono ?_
        rintro e w3 ⟨rfl, s', h3, wt3⟩
        refine ⟨rfl, s', h3, ((Wt.below _ b1).trans (.grown g2 (.inr (.inr ⟨d, C, hd, rfl⟩)))).trans (wt3.mono fun i hi => ?_)⟩
        rcases hi with e | e | ⟨k, D, e, e2⟩
        · exact .inl e
        · exact .inr (.inl e)
        · obtain ⟨D', e'⟩ := delT_dir e
          exact .inr (.inr ⟨k, D', e', e2⟩)
      go_enter Tryz.func37, Tryz.ntmps37
      go_wp2_with fail
      refine hP.mono ?_
      rintro e w1 ⟨rfl, b1⟩
      have h1 := h.below b1
      have hSm := h1.dirs d C hd
      have c0 := h1.c0
      have hmap := h1.map
      clear hP
      cases hn : T n with
      | none => rw [hn] at hns; cases hns
      | some nd => cases nd with
        | dir D =>
          have hg := node_dir (G := G) hn
          have f0 := node_f0 (some (G n)) true [] 0
          have hSd := h1.dirs n D hn
          have hDl := hC n D hn
          have hmn : manyT T n = D.length := by unfold manyT; rw [hn]
          rw [hmn] at hE
          by_cases hD0 : D.length = 0
          · rw [if_neg (fun e => e hD0)] at hE
            subst hE
            rw [hD0] at hSd
            go_wp2_with (first
              | (at_lookup; refine wpList_sask rfl _ _ 111 rfl 3 Tryz.underlying111 _ (zero_num _) (G d) _ _ rfl hSm nm rfl hnx ?_; simp only [hlu, Option.map_some, Option.getD_some, Option.isSome_some])
              | (at_lookup; refine wpList_klook rfl _ _ 33 rfl 113 Tryz.underlying33 _ (zero_node _) gN _ _ rfl hmap n rfl hwf ?_; rw [hg])
              | (at_len; refine wpList_slen rfl _ 111 rfl 3 Tryz.underlying111 (G n) _ _ rfl hSd ?_)
              | (at_delete; refine wpList_sdel rfl _ _ 111 rfl 3 Tryz.underlying111 (G d) _ _ rfl hSm nm rfl hnx ?_; intro w2 sm2 g2))
            have h2 := h1.del hT hd (by rw [hlu]; rfl) g2 sm2
            have hsw := hfin w1 b1 (by trivial) w2 h2 g2
            clear hSm sm2 hSd hmap h1 h h2
            go_wp2_with fail
            refine hsw.mono ?_
            rintro e w3 ⟨rfl, s', h3, wt3⟩
            clear hsw hfin
            go_wp2_with fail
            go_ret
            exact ⟨rfl, s', h3, wt3⟩
          · rw [if_pos hD0] at hE
            subst hE
            rw [if_pos (by omega)] at hN
            subst hN
            have hDi : (0 : Int) < (D.length : Int) := by omega
            clear hfin
            go_wp2_with (first
              | (at_lookup; refine wpList_sask rfl _ _ 111 rfl 3 Tryz.underlying111 _ (zero_num _) (G d) _ _ rfl hSm nm rfl hnx ?_; simp only [hlu, Option.map_some, Option.getD_some, Option.isSome_some])
              | (at_lookup; refine wpList_klook rfl _ _ 33 rfl 113 Tryz.underlying33 _ (zero_node _) gN _ _ rfl hmap n rfl hwf ?_; rw [hg])
              | (at_len; refine wpList_slen rfl _ 111 rfl 3 Tryz.underlying111 (G n) _ _ rfl hSd ?_))
            go_ret
            exact ⟨rfl, s, h1, .below _ b1⟩
        | file fb fx =>
          have hg := node_file (G := G) hn
          have f0 := node_f0 none false fb (fx : Int)
          have hmn : manyT T n = 0 := by unfold manyT; rw [hn]
          rw [hmn, if_neg (fun e => e rfl)] at hE
          subst hE
          have hln : ∀ ty wx, (Builtin.len_ #[111] ty #[.map none]).run Tryz.prog wx = .ok (.int .i64 0) wx := fun ty wx => by kernel_rfl
          go_wp2_with (first
            | (at_lookup; refine wpList_sask rfl _ _ 111 rfl 3 Tryz.underlying111 _ (zero_num _) (G d) _ _ rfl hSm nm rfl hnx ?_; simp only [hlu, Option.map_some, Option.getD_some, Option.isSome_some])
            | (at_lookup; refine wpList_klook rfl _ _ 33 rfl 113 Tryz.underlying33 _ (zero_node _) gN _ _ rfl hmap n rfl hwf ?_; rw [hg])
            | (at_delete; refine wpList_sdel rfl _ _ 111 rfl 3 Tryz.underlying111 (G d) _ _ rfl hSm nm rfl hnx ?_; intro w2 sm2 g2))
          have h2 := h1.del hT hd (by rw [hlu]; rfl) g2 sm2
          have hsw := hfin w1 b1 (by trivial) w2 h2 g2
          clear hSm sm2 hmap h1 h h2
          go_wp2_with fail
          refine hsw.mono ?_
          rintro e w3 ⟨rfl, s', h3, wt3⟩
          clear hsw hfin
          go_wp2_with fail
          go_ret
          exact ⟨rfl, s', h3, wt3⟩
  · rw [if_pos hz] at hE
    subst hE
    rw [if_pos hz] at hN
    subst hN
    rw [if_neg hz] at hP
    have hq : (z == 0) = false := by simp [hz]
    go_enter Tryz.func37, Tryz.ntmps37
    go_wp2_with fail
    refine hP.mono ?_
    rintro e w1 ⟨rfl, b1⟩
    clear hP
    go_wp2_with fail
    go_ret
    exact ⟨rfl, s, h.below b1, .below _ b1⟩
end
end Go.Proofs.YtjkneekfijibiabGreatDoor

namespace Go.Proofs.YtjkneekfijibiabGreatDoor
open Go.RowKit Go.Maps

section
variable {w w' : World} {r gN s : Nat} {T : Wd} {G : Int → Nat}

set_option maxRecDepth 100000 in
set_option maxHeartbeats 4000000 in
theorem RTr.hold_ok (h : RTr w r gN s T G) (hT : TrOk T) (n by' : Int) (hw : (Lit.int .i64 n).wf = true) (hs : s ≤ 1000) (hC : ∀ k C, T k = some (.dir C) → C.length ≤ 1000) (hby : -1 ≤ by' ∧ by' ≤ 1) (hhx : ∀ b x, T n = some (.file b x) → x + 1 ≤ 1000) :
    Calls Tryz.prog 58 #[wp r, .int .i64 n, .int .i64 by'] w fun e w' => e = .returned (.int .i64 (holdE T n by')) ∧ ∃ s', RTr w' r gN s' (holdN T n by') G ∧ Wt (town r gN T G) w w' := by
  have hF := h.file_ok n hw
  by_cases hf : fileT T n = 0
  · obtain ⟨b, x, hn⟩ := fileT_zero hf
    rw [hf] at hF
    have hx1 := hhx b x hn
    have hbs := (hT.small n b x hn).1
    obtain ⟨hb0, hb1⟩ := hby
    by_cases hs0 : (x : Int) + by' < 0
    · have e1 : holdE T n by' = 10 := by unfold holdE; rw [hn]; simp only; rw [if_pos hs0]
      have e2 : holdN T n by' = T := by unfold holdN; rw [hn]; simp only; rw [if_pos hs0]
      rw [e1, e2]
      go_enter Tryz.func58, Tryz.ntmps58
      go_wp2_with fail
      refine hF.mono ?_
      rintro e w1 ⟨rfl, b1⟩
      have h1 := h.below b1
      have c0 := h1.c0
      have hmap := h1.map
      have hg := node_file (G := G) hn
      have bA : ∀ o, Below w.heap.size w (w1.alloc o) := fun o => b1.alloc b1.size o
      clear hF
      go_wp2_with (at_lookup; refine wpList_klook rfl _ _ 33 rfl 113 Tryz.underlying33 _ (zero_node _) gN _ _ rfl hmap n rfl hw ?_; rw [hg])
      go_ret
      exact ⟨rfl, s, h.below (bA _), .below _ (bA _)⟩
    · obtain ⟨x', hx'⟩ : ∃ x' : Nat, (x : Int) + by' = (x' : Int) := ⟨((x : Int) + by').toNat, by omega⟩
      have hxx : x' ≤ 1000 := by omega
      have e1 : holdE T n by' = 0 := by unfold holdE; rw [hn]; simp only; rw [if_neg hs0]
      have e2 : holdN T n by' = sweepT (setT T n (.file b x')) := by unfold holdN; rw [hn]; simp only; rw [if_neg hs0, hx']; rfl
      rw [e1, e2]
      have hTn := hT.setF hn hbs hxx (b' := b) (x' := x')
      have hCn : ∀ k C, setT T n (.file b x') k = some (.dir C) → T k = some (.dir C) := fun k C e => by
        by_cases e1 : k = n
        · subst e1; rw [setT_same] at e; cases e
        · rw [setT_other _ e1] at e; exact e
      go_enter Tryz.func58, Tryz.ntmps58
      go_wp2_with fail
      refine hF.mono ?_
      rintro e w1 ⟨rfl, b1⟩
      have h1 := h.below b1
      have c0 := h1.c0
      have hmap := h1.map
      have hg := node_file (G := G) hn
      have bA : Below w.heap.size w (w1.alloc (.cells #[.map none, .bool false, tx b, .int .i64 (x : Int)] 113)) := b1.alloc b1.size _
      have hnew : (w1.alloc (.cells #[.map none, .bool false, tx b, .int .i64 (x : Int)] 113)).heap[w1.heap.size]? = some (.cells #[.map none, .bool false, tx b, .int .i64 (x : Int)] 113) := by
        show (w1.heap.push _)[w1.heap.size]? = _
        rw [Array.getElem?_push, if_pos rfl]
      obtain ⟨i0, hi0⟩ : ∃ i0, w1.heap.size = i0 := ⟨_, rfl⟩
      have hi : w.heap.size ≤ i0 := by rw [← hi0]; exact b1.size
      go_upto_region 5 with (at_lookup; refine wpList_klook rfl _ _ 33 rfl 113 Tryz.underlying33 _ (zero_node _) gN _ _ rfl hmap n rfl hw ?_; rw [hg])
      obtain ⟨w2, hw2⟩ : ∃ w2, w1.alloc (.cells #[.map none, .bool false, tx b, .int .i64 (x : Int)] 113) = w2 := ⟨_, rfl⟩
      rw [hw2, hi0] at hnew
      rw [hw2] at bA
      rw [hw2]
      try rw [hi0]
      have h2 := h.below bA
      clear hw2 hi0 hmap c0 h1 hg hF
      obtain ⟨⟨q0, q1, q2, q3⟩, qf⟩ := node_cells hnew
      have hset := heap_cell_same w2 i0 3 (.int .i64 (x' : Int)) _ _ _ hnew
      have b3 : Below w.heap.size w (w2.setCell ⟨i0, 3, none⟩ (.int .i64 (x' : Int))) := bA.setCell (p := ⟨i0, 3, none⟩) hi _
      go_upto_region 8 with fail
      try rw [hx']
      obtain ⟨w3, hw3⟩ : ∃ w3, w2.setCell ⟨i0, 3, none⟩ (.int .i64 (x' : Int)) = w3 := ⟨_, rfl⟩
      rw [hw3] at hset b3 ⊢
      replace hset : w3.heap[i0]? = some (.cells #[.map none, .bool false, tx b, .int .i64 (x' : Int)] 113) := hset
      have h3 := h.below b3
      obtain ⟨⟨q0, q1, q2, q3⟩, qf⟩ := node_cells hset
      have c0 := h3.c0
      have hsz : s < maxLen := by unfold maxLen; omega
      have hm3 : PMap w3.drew gN s (fun k => (T k).map (ndv G k)) := h3.map.keep rfl
      obtain ⟨w4, hrun, pm4, g4⟩ := hm3.put Tryz.underlying33 hsz n hw (.agg #[.map none, .bool false, tx b, .int .i64 (x' : Int)])
      have hput := (h3.keep (w' := w3.drew) (fun _ _ => rfl)).put (b' := b) (x' := x') hn g4 pm4
      have hgr : w.grownBy w4 (some gN) := ⟨g4.os.trans b3.os, g4.tape.trans b3.tape, g4.output.trans b3.output, Nat.le_trans b3.size g4.size, fun k hk hne => (g4.block k (Nat.lt_of_lt_of_le hk b3.size) hne).trans (b3.block k hk)⟩
      have hsw := hput.sweep_ok hTn hs (fun k C e => hC k C (hCn k C e))
      clear hset hm3 h3 h2 hnew bA pm4 g4 b3 hw3 hput
      go_region
      go_wp2_with fail
      refine hsw.mono ?_
      rintro e w5 ⟨rfl, s', h5, wt5⟩
      clear hsw
      go_wp2_with fail
      go_ret
      refine ⟨rfl, s', h5, (Wt.grown hgr (.inr (.inl rfl))).trans (wt5.mono fun i hi => ?_)⟩
      rcases hi with e | e | ⟨k, D, e, e2⟩
      · exact .inl e
      · exact .inr (.inl e)
      · exact .inr (.inr ⟨k, D, hCn k D e, e2⟩)
  · have hnf : holdE T n by' = fileT T n ∧ holdN T n by' = T := by
      unfold holdE holdN
      cases e : T n with
      | none => exact ⟨rfl, rfl⟩
      | some nd => cases nd with
        | dir C => exact ⟨rfl, rfl⟩
        | file b x => exact absurd (by unfold fileT; rw [e]) hf
    have hq : (fileT T n == 0) = false := by simp [hf]
    rw [hnf.1, hnf.2]
    clear hnf
    generalize fileT T n = c at *
    go_enter Tryz.func58, Tryz.ntmps58
    go_wp2_with fail
    refine hF.mono ?_
    rintro e w1 ⟨rfl, b1⟩
    clear hF
    go_wp2_with fail
    go_ret
    exact ⟨rfl, s, h.below b1, .below _ b1⟩
end
end Go.Proofs.YtjkneekfijibiabGreatDoor

namespace Go.Proofs.YtjkneekfijibiabGreatDoor
open Go.RowKit Go.Maps

/-- A new tree. -/
def newT : Wd := fun k => if k = 0 then some (.dir []) else none
theorem newT_dir {k : Int} {C : List (Nm × Int)} (h : newT k = some (.dir C)) : k = 0 ∧ C = [] := by
  unfold newT at h
  by_cases e : k = 0
  · rw [if_pos e] at h; cases h; exact ⟨e, rfl⟩
  · rw [if_neg e] at h; cases h
theorem newT_ok : TrOk newT := by
  refine ⟨⟨[], rfl⟩, fun k h => ?_, fun k C h => by rw [(newT_dir h).2]; simp, fun k C s n h e => (by rw [(newT_dir h).2] at e; cases e), fun k C x h e => (by rw [(newT_dir h).2] at e; cases e), fun k b x h => ?_⟩
  · unfold newT at h
    by_cases e : k = 0
    · omega
    · rw [if_neg e] at h; cases h
  · unfold newT at h
    by_cases e : k = 0
    · rw [if_pos e] at h; cases h
    · rw [if_neg e] at h; cases h

set_option maxRecDepth 100000 in
set_option maxHeartbeats 4000000 in
theorem newTree_ok (w : World) :
    Calls Tryz.prog 10 #[] w fun e w' => ∃ r, e = .returned (wp r) ∧ ∃ gN g, RTr w' r gN 1 newT (fun _ => g) ∧ Below w.heap.size w w' ∧ w.heap.size ≤ r ∧ w.heap.size ≤ gN ∧ w.heap.size ≤ g := by
  have hmm := @run_makeMap Tryz.prog
  have hsz1 : (w.alloc (.map #[] 0)).heap.size = w.heap.size + 1 := by show (w.heap.push _).size = _; rw [Array.size_push]
  have hsz2 : ((w.alloc (.map #[] 0)).alloc (.map #[] 0)).heap.size = w.heap.size + 2 := by show ((w.heap.push _).push _).size = _; rw [Array.size_push, Array.size_push]
  have hpA : PMap ((w.alloc (.map #[] 0)).alloc (.map #[] 0)) w.heap.size 0 (fun _ => none) := (PMap.made w).keep (Below.heap_alloc _ _ _ (by rw [hsz1]; omega))
  have hsA : SMap ((w.alloc (.map #[] 0)).alloc (.map #[] 0)) (w.heap.size + 1) 0 (fun _ => none) := by
    have := SMap.made (w.alloc (.map #[] 0))
    rw [hsz1] at this; exact this
  have bA : Below w.heap.size w ((w.alloc (.map #[] 0)).alloc (.map #[] 0)) := ((Below.refl _ w).alloc (Nat.le_refl _) _).alloc (by rw [hsz1]; omega) _
  obtain ⟨w1, hrun, pm1, g1⟩ := hpA.put Tryz.underlying33 (by unfold maxLen; omega) 0 (by decide) (.agg #[.map (some (w.heap.size + 1)), .bool true, tx [], .int .i64 0])
  have hs1 : SMap w1 (w.heap.size + 1) 0 (fun _ => none) := hsA.keep (g1.block _ (by rw [hsz2]; omega) (fun e => by have := Option.some.inj e; omega))
  have b1 : Below w.heap.size w w1 := below_grown bA (by rw [hsz2]; omega) g1 (Nat.le_refl _)
  have hz1 : w.heap.size + 2 ≤ w1.heap.size := by have := g1.size; rw [hsz2] at this; exact this
  have hfin : RTr (w1.alloc (.cells #[.map (some w.heap.size)] 35)) w1.heap.size w.heap.size 1 newT (fun _ => w.heap.size + 1) := by
    refine ⟨?_, ?_, fun k C e => ?_, fun k C e => by omega, fun k k' C C' e e' _ => ?_⟩
    · show (w1.heap.push _)[w1.heap.size]? = _
      rw [Array.getElem?_push, if_pos rfl]
    · have e : (fun i => if i = (0 : Int) then some (Value.agg #[.map (some (w.heap.size + 1)), .bool true, tx [], .int .i64 0]) else (fun _ => none) i) = fun k => (newT k).map (ndv (fun _ => w.heap.size + 1) k) := by
        funext i; unfold newT; by_cases e : i = 0 <;> simp [e, ndv]
      rw [← e]
      exact pm1.keep (Below.heap_alloc _ _ _ pm1.lt)
    · obtain ⟨_, rfl⟩ := newT_dir e
      exact hs1.keep (Below.heap_alloc _ _ _ hs1.lt)
    · rw [(newT_dir e).1, (newT_dir e').1]
  have b2 : Below w.heap.size w (w1.alloc (.cells #[.map (some w.heap.size)] 35)) := b1.alloc b1.size _
  clear pm1 g1 hs1 hpA hsA bA b1 hsz1 hsz2
  go_enter Tryz.func10, Tryz.ntmps10
  go_wp2_with fail
  go_ret
  exact ⟨w1.heap.size, rfl, w.heap.size, w.heap.size + 1, hfin, b2, by omega, by omega, by omega⟩
end Go.Proofs.YtjkneekfijibiabGreatDoor

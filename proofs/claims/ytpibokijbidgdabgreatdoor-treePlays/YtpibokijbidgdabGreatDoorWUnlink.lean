/- The document's own tree: Unlink, by its Go text. -/
import Derived.Test.YtpibokijbidgdabGreatDoorWDel
namespace Go.Proofs.YtpibokijbidgdabGreatDoor
open Go.RowKit Go.Maps

section
variable {w w' : World} {r gN s : Nat} {T : Wd} {G : Int → Nat}
set_option maxRecDepth 100000 in
set_option maxHeartbeats 4000000 in
theorem RTr.unlink_ok (h : RTr w r gN s T G) (hT : TrOk T) (p : List UInt8) (hp : p.length < 100000) (m : Int) (hm : w.cell? ⟨2, 0, none⟩ = some (.int .i64 m)) (hs : s ≤ 1000) (hC : ∀ k C, T k = some (.dir C) → C.length ≤ 1000) :
    Calls Tryz.prog 28 #[wp r, tx p] w fun e w' => e = .returned (.int .i64 (unlinkE T p)) ∧ ∃ s', RTr w' r gN s' (unlinkN T p) G ∧ Wt (town r gN T G) w w' := by
  have hP := h.place_ok hT p hp m hm
  have hpl := placeT_dir hT (p := p)
  obtain ⟨E, hE⟩ : ∃ E, unlinkE T p = E := ⟨_, rfl⟩
  obtain ⟨N, hN⟩ : ∃ N, unlinkN T p = N := ⟨_, rfl⟩
  rw [hN]
  unfold unlinkN at hN
  rw [hE] at hN ⊢
  unfold unlinkE at hE
  generalize placeT T p = P at *
  obtain ⟨d, nm, z⟩ := P
  simp only at hE hN hpl hP
  by_cases hz : z = 0
  · subst hz
    rw [if_neg (fun e => e rfl)] at hE
    rw [if_pos rfl] at hP
    obtain ⟨⟨C, hd⟩, hnm⟩ := hpl rfl
    have hnl := isName_len hnm
    have hnx : nm.length ≤ maxLen := by unfold maxLen; omega
    rw [hasT_eq hd] at hE
    cases hlu : C.lookup nm with
    | none =>
      rw [hlu] at hE
      simp only at hE
      subst hE
      rw [if_pos (by omega)] at hN
      subst hN
      go_enter Tryz.func28, Tryz.ntmps28
      go_wp2_with fail
      refine hP.mono ?_
      rintro e w1 ⟨rfl, b1⟩
      have hSm := (h.below b1).dirs d C hd
      clear hP
      go_wp2_with (at_lookup; refine wpList_sask rfl _ _ 62 rfl 3 Tryz.underlying62 _ (zero_num _) (G d) _ _ rfl hSm nm rfl hnx ?_; simp only [hlu, Option.map_none, Option.getD_none, Option.isSome_none])
      go_ret
      exact ⟨rfl, s, h.below b1, .below _ b1⟩
    | some n =>
      rw [hlu] at hE
      simp only at hE
      have hns := hT.child d C nm n hd hlu
      have hkey := hT.key n hns
      have hwf : (Lit.int .i64 n).wf = true := wf_few hkey.1 (by omega)
      have hfin : ∀ w1, Below w.heap.size w w1 → E = 0 → ∀ w2, RTr w2 r gN s (delT T d nm) G → w1.grownBy w2 (some (G d)) →
          Calls Tryz.prog 56 #[wp r] w2 fun e w' => e = .returned (.tuple #[]) ∧ ∃ s', RTr w' r gN s' N G ∧ Wt (town r gN T G) w w' := fun w1 b1 hE0 w2 h2 g2 => by
        have hsw := h2.sweep_ok (hT.del d nm) hs (delT_len hC d nm)
        rw [if_neg (fun e => e hE0)] at hN
        subst hN
        refine hsw.mono ?_
        rintro e w3 ⟨rfl, s', h3, wt3⟩
        refine ⟨rfl, s', h3, ((Wt.below _ b1).trans (.grown g2 (.inr (.inr ⟨d, C, hd, rfl⟩)))).trans (wt3.mono fun i hi => ?_)⟩
        rcases hi with e | e | ⟨k, D, e, e2⟩
        · exact .inl e
        · exact .inr (.inl e)
        · obtain ⟨D', e'⟩ := delT_dir e
          exact .inr (.inr ⟨k, D', e', e2⟩)
      go_enter Tryz.func28, Tryz.ntmps28
      go_wp2_with fail
      refine hP.mono ?_
      rintro e w1 ⟨rfl, b1⟩
      have h1 := h.below b1
      have hSm := h1.dirs d C hd
      have c0 := h1.c0
      have hmap := h1.map
      clear hP
      cases hn : T n with
      | none => rw [hn] at hns; cases hns
      | some nd => cases nd with
        | dir D =>
          have hg := node_dir (G := G) hn
          have f0 := node_f0 (some (G n)) true [] 0
          have hSd := h1.dirs n D hn
          have hDl := hC n D hn
          have hmn : manyT T n = D.length := by unfold manyT; rw [hn]
          rw [hmn] at hE
          by_cases hD0 : D.length = 0
          · rw [if_neg (fun e => e hD0)] at hE
            subst hE
            rw [hD0] at hSd
            go_wp2_with (first
              | (at_lookup; refine wpList_sask rfl _ _ 62 rfl 3 Tryz.underlying62 _ (zero_num _) (G d) _ _ rfl hSm nm rfl hnx ?_; simp only [hlu, Option.map_some, Option.getD_some, Option.isSome_some])
              | (at_lookup; refine wpList_klook rfl _ _ 33 rfl 64 Tryz.underlying33 _ (zero_node _) gN _ _ rfl hmap n rfl hwf ?_; rw [hg])
              | (at_len; refine wpList_slen rfl _ 62 rfl 3 Tryz.underlying62 (G n) _ _ rfl hSd ?_)
              | (at_delete; refine wpList_sdel rfl _ _ 62 rfl 3 Tryz.underlying62 (G d) _ _ rfl hSm nm rfl hnx ?_; intro w2 sm2 g2))
            have h2 := h1.del hT hd (by rw [hlu]; rfl) g2 sm2
            have hsw := hfin w1 b1 (by trivial) w2 h2 g2
            clear hSm sm2 hSd hmap h1 h h2
            go_wp2_with fail
            refine hsw.mono ?_
            rintro e w3 ⟨rfl, s', h3, wt3⟩
            clear hsw hfin
            go_wp2_with fail
            go_ret
            exact ⟨rfl, s', h3, wt3⟩
          · rw [if_pos hD0] at hE
            subst hE
            rw [if_pos (by omega)] at hN
            subst hN
            have hDi : (0 : Int) < (D.length : Int) := by omega
            clear hfin
            go_wp2_with (first
              | (at_lookup; refine wpList_sask rfl _ _ 62 rfl 3 Tryz.underlying62 _ (zero_num _) (G d) _ _ rfl hSm nm rfl hnx ?_; simp only [hlu, Option.map_some, Option.getD_some, Option.isSome_some])
              | (at_lookup; refine wpList_klook rfl _ _ 33 rfl 64 Tryz.underlying33 _ (zero_node _) gN _ _ rfl hmap n rfl hwf ?_; rw [hg])
              | (at_len; refine wpList_slen rfl _ 62 rfl 3 Tryz.underlying62 (G n) _ _ rfl hSd ?_))
            go_ret
            exact ⟨rfl, s, h1, .below _ b1⟩
        | file fb fx =>
          have hg := node_file (G := G) hn
          have f0 := node_f0 none false fb (fx : Int)
          have hmn : manyT T n = 0 := by unfold manyT; rw [hn]
          rw [hmn, if_neg (fun e => e rfl)] at hE
          subst hE
          have hln : ∀ ty wx, (Builtin.len_ #[62] ty #[.map none]).run Tryz.prog wx = .ok (.int .i64 0) wx := fun ty wx => by kernel_rfl
          go_wp2_with (first
            | (at_lookup; refine wpList_sask rfl _ _ 62 rfl 3 Tryz.underlying62 _ (zero_num _) (G d) _ _ rfl hSm nm rfl hnx ?_; simp only [hlu, Option.map_some, Option.getD_some, Option.isSome_some])
            | (at_lookup; refine wpList_klook rfl _ _ 33 rfl 64 Tryz.underlying33 _ (zero_node _) gN _ _ rfl hmap n rfl hwf ?_; rw [hg])
            | (at_delete; refine wpList_sdel rfl _ _ 62 rfl 3 Tryz.underlying62 (G d) _ _ rfl hSm nm rfl hnx ?_; intro w2 sm2 g2))
          have h2 := h1.del hT hd (by rw [hlu]; rfl) g2 sm2
          have hsw := hfin w1 b1 (by trivial) w2 h2 g2
          clear hSm sm2 hmap h1 h h2
          go_wp2_with fail
          refine hsw.mono ?_
          rintro e w3 ⟨rfl, s', h3, wt3⟩
          clear hsw hfin
          go_wp2_with fail
          go_ret
          exact ⟨rfl, s', h3, wt3⟩
  · rw [if_pos hz] at hE
    subst hE
    rw [if_pos hz] at hN
    subst hN
    rw [if_neg hz] at hP
    have hq : (z == 0) = false := by simp [hz]
    go_enter Tryz.func28, Tryz.ntmps28
    go_wp2_with fail
    refine hP.mono ?_
    rintro e w1 ⟨rfl, b1⟩
    clear hP
    go_wp2_with fail
    go_ret
    exact ⟨rfl, s, h.below b1, .below _ b1⟩
end
end Go.Proofs.YtpibokijbidgdabGreatDoor

/- The document's own tree: Rename, by its Go text. -/
import Derived.Test.YtpibokijbidgdabGreatDoorWHold
namespace Go.Proofs.YtpibokijbidgdabGreatDoor
open Go.RowKit Go.Maps

theorem prefix_ok (p q : List UInt8) (w : World) :
    Calls Tryz.prog 57 #[tx p, tx q] w fun e w' => e = .returned (.bool (q.isPrefixOf p)) ∧ w' = w :=
  Any.strings_HasPrefix Tryz.prefixL ⟨p.toArray⟩ ⟨q.toArray⟩ w

section
variable {w w' : World} {r gN s : Nat} {T : Wd} {G : Int → Nat}

set_option maxRecDepth 100000 in
set_option maxHeartbeats 4000000 in
theorem RTr.rename_ok (h : RTr w r gN s T G) (hT : TrOk T) (p q : List UInt8) (hp : p.length < 100000) (hq : q.length < 100000) (m : Int) (hm : w.cell? ⟨2, 0, none⟩ = some (.int .i64 m)) (hC : ∀ k C, T k = some (.dir C) → C.length ≤ 1000) :
    Calls Tryz.prog 30 #[wp r, tx p, tx q] w fun e w' => e = .returned (.int .i64 (renameE T p q)) ∧ RTr w' r gN s (renameN T p q) G ∧ Wt (town r gN T G) w w' := by
  have hP := h.place_ok hT p hp m hm
  have hpl := placeT_dir hT (p := p)
  have hpl2 := placeT_dir hT (p := q)
  have hP2 := fun w1 (b1 : Below w.heap.size w w1) => (h.below b1).place_ok hT q hq m (maxLen_kept hm b1)
  have hpx := prefix_ok q (p ++ [47])
  have hcat := wtext_cat p [47]
  obtain ⟨E, hE⟩ : ∃ E, renameE T p q = E := ⟨_, rfl⟩
  obtain ⟨N, hN⟩ : ∃ N, renameN T p q = N := ⟨_, rfl⟩
  rw [hN]
  unfold renameN at hN
  rw [hE] at hN ⊢
  unfold renameE at hE
  generalize placeT T p = P at *
  generalize placeT T q = P2 at *
  obtain ⟨d, nm, z⟩ := P
  obtain ⟨d2, nm2, z2⟩ := P2
  generalize (p ++ [47]) = p' at *
  generalize p'.isPrefixOf q = px at *
  simp only at hE hN hpl hP hP2 hpl2
  by_cases hz : z = 0
  · subst hz
    rw [if_neg (fun e => e rfl)] at hE
    rw [if_pos rfl] at hP
    obtain ⟨⟨C, hd⟩, hnm⟩ := hpl rfl
    have hnl := isName_len hnm
    have hnx : nm.length ≤ maxLen := by unfold maxLen; omega
    rw [hasT_eq hd] at hE hN
    cases hlu : C.lookup nm with
    | none =>
      rw [hlu, if_pos rfl] at hE
      subst hE
      rw [if_pos (by omega)] at hN
      subst hN
      clear hP2 hpx
      go_enter Tryz.func30, Tryz.ntmps30
      go_wp2_with fail
      refine hP.mono ?_
      rintro e w1 ⟨rfl, b1⟩
      have hSm := (h.below b1).dirs d C hd
      clear hP
      go_wp2_with (at_lookup; refine wpList_sask rfl _ _ 62 rfl 3 Tryz.underlying62 _ (zero_num _) (G d) _ _ rfl hSm nm rfl hnx ?_; simp only [hlu, Option.map_none, Option.getD_none, Option.isSome_none])
      go_ret
      exact ⟨rfl, h.below b1, .below _ b1⟩
    | some n =>
      rw [hlu, if_neg (by simp)] at hE
      rw [hlu, Option.getD_some] at hN
      go_enter Tryz.func30, Tryz.ntmps30
      go_wp2_with fail
      refine hP.mono ?_
      rintro e w1 ⟨rfl, b1⟩
      have h1 := h.below b1
      have hSm := h1.dirs d C hd
      have hQ := hP2 w1 b1
      clear hP hP2
      go_wp2_with (at_lookup; refine wpList_sask rfl _ _ 62 rfl 3 Tryz.underlying62 _ (zero_num _) (G d) _ _ rfl hSm nm rfl hnx ?_; simp only [hlu, Option.map_some, Option.getD_some, Option.isSome_some])
      refine hQ.mono ?_
      rintro e w2 ⟨rfl, b2⟩
      have h2 := h1.below b2
      have b12 : Below w.heap.size w w2 := b1.trans (b2.mono b1.size)
      clear hQ hSm h1
      by_cases hz2 : z2 = 0
      · subst hz2
        rw [if_neg (fun e => e rfl)] at hE
        obtain ⟨⟨C2, hd2⟩, hnm2⟩ := hpl2 rfl
        have hnl2 := isName_len hnm2
        have hnx2 : nm2.length ≤ maxLen := by unfold maxLen; omega
        rw [hasT_eq hd2] at hE
        have hSm2 := h2.dirs d2 C2 hd2
        have hSm1 := h2.dirs d C hd
        rw [if_pos rfl]
        cases hlu2 : C2.lookup nm2 with
        | some n2 =>
          rw [hlu2] at hE
          simp only [Option.isSome_some, if_true] at hE
          subst hE
          rw [if_pos (by omega)] at hN
          subst hN
          clear hpx
          go_wp2_with (at_lookup; refine wpList_sask rfl _ _ 62 rfl 3 Tryz.underlying62 _ (zero_num _) (G d2) _ _ rfl hSm2 nm2 rfl hnx2 ?_; simp only [hlu2, Option.map_some, Option.getD_some, Option.isSome_some])
          go_ret
          exact ⟨rfl, h2, .below _ b12⟩
        | none =>
          rw [hlu2] at hE
          simp only [Option.isSome_none, Bool.false_eq_true, if_false] at hE
          have hpw := hpx w2
          clear hpx
          go_wp2_with (at_lookup; refine wpList_sask rfl _ _ 62 rfl 3 Tryz.underlying62 _ (zero_num _) (G d2) _ _ rfl hSm2 nm2 rfl hnx2 ?_; simp only [hlu2, Option.map_none, Option.getD_none, Option.isSome_none])
          refine hpw.mono ?_
          rintro e w3 ⟨rfl, hw3⟩
          subst hw3
          clear hpw hSm2
          cases px with
          | true =>
            rw [if_pos rfl] at hE
            subst hE
            rw [if_pos (by omega)] at hN
            subst hN
            go_wp2_with fail
            go_ret
            exact ⟨rfl, h2, .below _ b12⟩
          | false =>
            rw [if_neg (by simp)] at hE
            subst hE
            rw [if_neg (fun e => e rfl)] at hN
            subst hN
            obtain ⟨C3, hd3, hlu3, hl3⟩ := delT_at (d := d) (nm := nm) hd2 hlu2
            have hCl3 : C3.length < maxLen := by have := hC d2 C2 hd2; unfold maxLen; omega
            go_wp2_with (first
              | (at_delete; refine wpList_sdel rfl _ _ 62 rfl 3 Tryz.underlying62 (G d) _ _ rfl hSm1 nm rfl hnx ?_; intro w4 sm4 g4; have h4 := h2.del hT hd (by rw [hlu]; rfl) g4 sm4; have hSm4 := h4.dirs d2 C3 hd3)
              | (refine wpList_sput rfl _ _ _ 62 rfl 3 Tryz.underlying62 (G d2) _ _ rfl hSm4 hCl3 nm2 rfl hnx2 _ rfl ?_; intro w5 sm5 g5))
            have h5 := h4.add hd3 hlu3 g5 sm5
            clear hSm4 sm5
            go_wp2_with fail
            go_ret
            exact ⟨rfl, h5, ((Wt.below _ b12).trans (.grown g4 (.inr (.inr ⟨d, C, hd, rfl⟩)))).trans (.grown g5 (.inr (.inr ⟨d2, C2, hd2, rfl⟩)))⟩
      · rw [if_pos hz2] at hE
        subst hE
        rw [if_pos hz2] at hN
        subst hN
        rw [if_neg hz2]
        have hq : (z2 == 0) = false := by simp [hz2]
        clear hpx
        go_wp2_with fail
        go_ret
        exact ⟨rfl, h2, .below _ b12⟩
  · rw [if_pos hz] at hE
    subst hE
    rw [if_pos hz] at hN
    subst hN
    rw [if_neg hz] at hP
    have hq : (z == 0) = false := by simp [hz]
    clear hP2 hpx
    go_enter Tryz.func30, Tryz.ntmps30
    go_wp2_with fail
    refine hP.mono ?_
    rintro e w1 ⟨rfl, b1⟩
    clear hP
    go_wp2_with fail
    go_ret
    exact ⟨rfl, h.below b1, .below _ b1⟩
end
end Go.Proofs.YtpibokijbidgdabGreatDoor

/- The document's own spaces: Change (Protect), by its Go text. -/
import Derived.Test.YtcllfedpdcjbcaaDoorVRef5
namespace Go.Proofs.YtcllfedpdcjbcaaDoor
open Go.RowKit Go.Shelf Go.Lib Go.Sort Go.Maps

section
variable {w w' : World} {rm gR n nx gs : Nat} {P : PM} {D : Nat → Nat → Int} {φ : Int → Int} {t : Int → Nat}

set_option maxRecDepth 100000 in
set_option maxHeartbeats 8000000 in
theorem RF.protect_ok (h : RF w rm gR n nx gs P D φ t) (a m prot : Int) : Calls Tryd.prog 61 #[.map (some gs), vp rm, .int .i64 2, .int .i64 a, .int .i64 m, .int .i64 prot] w fun e w' => e = .returned (.int .i64 (proE P a m prot)) ∧ RF w' rm gR n nx gs (proP P a m prot) D φ t ∧ Fr (rwr rm gR gs) w w' := by
  have hA := rpages_ok w a m
  have hU := in_ok w prot 1 3
  obtain ⟨V, hV⟩ : ∃ V, proE P a m prot = V := ⟨_, rfl⟩
  obtain ⟨P2, hP2⟩ : ∃ P2, proP P a m prot = P2 := ⟨_, rfl⟩
  rw [hV, hP2]
  cases ha : areP a m with
  | false =>
    have e0 : proE P a m prot = 2 := by unfold proE; rw [if_pos ha]
    rw [proP, if_neg (by rw [e0]; decide)] at hP2
    rw [e0] at hV
    rw [ha] at hA
    clear e0 hU ha
    subst hP2
    subst hV
    go_enter Tryd.func61, Tryd.ntmps61
    go_wp2_with (go_at_call 103; refine hA.mono ?_; rintro e w1 ⟨rfl, h1⟩; subst w1)
    go_ret
    exact ⟨rfl, h, Fr.refl _ _⟩
  | true =>
    rw [ha] at hA
    cases hu : isU prot with
    | false =>
      have e0 : proE P a m prot = 1 := by unfold proE; rw [if_neg (by rw [ha]; decide), if_pos hu]
      rw [proP, if_neg (by rw [e0]; decide)] at hP2
      rw [e0] at hV
      have hu' : (decide (1 ≤ prot) && decide (prot ≤ 3)) = false := hu
      rw [hu'] at hU
      clear e0 ha hu hu'
      subst hP2
      subst hV
      go_enter Tryd.func61, Tryd.ntmps61
      go_wp2_with fail
      refine hA.mono ?_
      rintro e w1 ⟨rfl, h1⟩
      subst w1
      go_wp2_with fail
      refine hU.mono ?_
      rintro e w1 ⟨rfl, h1⟩
      subst w1
      go_wp2_with fail
      go_ret
      exact ⟨rfl, h, Fr.refl _ _⟩
    | true =>
      obtain ⟨hn1, ha0, han⟩ := areP_true.1 ha
      obtain ⟨k, rfl⟩ : ∃ k : Nat, m = (k : Int) := ⟨m.toNat, by omega⟩
      have hC := rhas_ok h.sp a k ha0 han
      have hpr := isU_true.1 hu
      have hu' : (decide (1 ≤ prot) && decide (prot ≤ 3)) = true := hu
      rw [hu'] at hU
      by_cases hz : hasP P a k < k
      · have e0 : proE P a (k : Int) prot = 7 := by unfold proE; rw [if_neg (by rw [ha]; decide), if_neg (by rw [hu]; decide), Int.toNat_natCast, if_pos hz]
        rw [proP, if_neg (by rw [e0]; decide)] at hP2
        rw [e0] at hV
        subst hP2
        subst hV
        clear e0 ha hu hu'
        have hgt : ((hasP P a k : Nat) : Int) < (k : Int) := by omega
        generalize hasP P a k = hh at *
        go_enter Tryd.func61, Tryd.ntmps61
        go_wp2_with fail
        refine hA.mono ?_
        rintro e w1 ⟨rfl, h1⟩
        subst w1
        go_wp2_with fail
        refine hU.mono ?_
        rintro e w1 ⟨rfl, h1⟩
        subst w1
        go_wp2_with fail
        refine hC.mono ?_
        rintro e w1 ⟨rfl, b1⟩
        go_wp2_with fail
        go_ret
        exact ⟨rfl, h.below b1, rfr_below (Fr.refl _ _) b1⟩
      · have e0 : proE P a (k : Int) prot = 0 := by unfold proE; rw [if_neg (by rw [ha]; decide), if_neg (by rw [hu]; decide), Int.toNat_natCast, if_neg hz]
        rw [proP, if_pos e0, Int.toNat_natCast] at hP2
        rw [e0] at hV
        have hall := hasP_all hz
        subst hP2
        subst hV
        clear e0 ha hu hu'
        have hgt : ¬ ((hasP P a k : Nat) : Int) < (k : Int) := by omega
        generalize hasP P a k = hh at *
        go_enter Tryd.func61, Tryd.ntmps61
        go_wp2_with fail
        refine hA.mono ?_
        rintro e w1 ⟨rfl, h1⟩
        subst w1
        go_wp2_with fail
        refine hU.mono ?_
        rintro e w1 ⟨rfl, h1⟩
        subst w1
        go_wp2_with fail
        refine hC.mono ?_
        rintro e w1 ⟨rfl, b1⟩
        have hd : decide (hh < k) = false := decide_eq_false hz
        clear hA hC hU
        go_wp2_with fail
        try rw [hd]
        clear hgt hz hd
        go_loopg [45] k (fun mm s45 wr => ∃ i : Nat, i + mm = k ∧ s45 = .int .i64 (i : Int) ∧ RF wr rm gR n nx gs (proTo P a i prot) D φ t ∧ Fr (rwr rm gR gs) w wr)
        case atStart => exact ⟨0, by omega, rfl, by rw [proTo_zero]; exact h.below b1, rfr_below (Fr.refl _ _) b1⟩
        case round =>
          clear h b1
          obtain ⟨i, hi, rfl, v1, f1⟩ := hrel
          by_cases hlt : (i : Int) < (k : Int)
          · have hmp := v1.sp
            have hPs : (proTo P a i prot (a + i)).isSome = true := by rw [proTo_at]; exact hall i (by omega)
            have hPs' : (P (a + i)).isSome = true := hall i (by omega)
            obtain ⟨p, hP⟩ := Option.isSome_iff_exists.1 hPs
            have hg := rpv_get hP D φ (rpg 0 (fun _ => 0) 0)
            have hsz : lenP (proTo P a i prot) < maxLen := by have := lenP_le (proTo P a i prot); unfold maxLen; omega
            have hwf : (Lit.int .i64 (a + i)).wf = true := wf_small (by omega) (by omega)
            have hpp := rpv_put (proTo P a i prot) D φ (a + i) prot p.2
            have hfr : frm (proTo P a i prot) (a + i) = p.2 := frm_some hP
            have hfr' : frm P (a + i) = p.2 := by rw [← hfr]; unfold frm; rw [proTo_at]
            have hm2 : ∀ o, PMap (wr.alloc o) gs (lenP (proTo P a i prot)) (rpv (proTo P a i prot) D φ) := fun o => hmp.keep (Below.heap_alloc _ _ _ hmp.lt)
            have hbA : ∀ o, Below wr.heap.size wr (wr.alloc o) := fun o => (Below.refl _ wr).alloc (Nat.le_refl _) _
            clear hall
            generalize rwd D p.2 = R at *
            generalize rid φ p.2 = F at *
            go_wp2_with (first
              | (at_lookup; refine wpList_klook rfl _ _ 114 rfl 174 Tryd.underlying114 _ (zero_rpage _) gs _ _ rfl hmp (a + i) rfl hwf ?_; rw [hg]; simp only [rpg])
              | (at_mapUpdate; refine wpList_kput rfl _ _ _ 114 rfl 174 Tryd.underlying114 gs _ _ rfl (hm2 _) hsz (a + i) rfl hwf (rpg prot R F) rfl ?_; intro w2 pm2 g2; rw [hpp] at pm2))
            go_roundg (k - (i + 1))
            case measure => omega
            case rel =>
              refine ⟨i + 1, by omega, by go_num, ?_, ?_⟩
              · rw [proTo_next hPs', hfr']
                exact (v1.below (hbA _)).put_page (by omega) (by omega) hpr hfr.symm g2 pm2
              · exact (rfr_below f1 (hbA _)).trans (Fr.grown g2) (fun i _ e => .inr (.inl e))
          · have hik : i = k := by omega
            subst hik
            go_wp2_with fail
            go_ret
            exact ⟨rfl, v1, f1⟩
end
end Go.Proofs.YtcllfedpdcjbcaaDoor

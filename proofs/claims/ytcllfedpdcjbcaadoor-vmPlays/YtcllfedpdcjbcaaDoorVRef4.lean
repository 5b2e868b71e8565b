/- The document's own spaces: Change (Map, Unmap, Protect), by its Go text. -/
import Derived.Test.YtcllfedpdcjbcaaDoorVRef3
namespace Go.Proofs.YtcllfedpdcjbcaaDoor
open Go.RowKit Go.Shelf Go.Lib Go.Sort Go.Maps

/-- What may be written by the document's calls. -/
def rwr (rm gR gs : Nat) (i : Nat) : Prop := i = gR ∨ i = gs ∨ i = rm

section
variable {w w' : World} {rm gR n nx gs : Nat} {P : PM} {D : Nat → Nat → Int} {φ : Int → Int} {t : Int → Nat}

theorem rfr_below {w1 : World} {B : Nat → Prop} (f : Fr B w w1) (hb : Below w1.heap.size w1 w') : Fr B w w' := f.trans (fr_below (B := fun _ => False) hb) (fun _ _ h => h.elim)

theorem rwd_none (D : Nat → Nat → Int) : rwd D (-1) = fun _ => 0 := by funext k; simp [rwd]
theorem rid_none (φ : Int → Int) : rid φ (-1) = 0 := by simp [rid]

set_option maxRecDepth 100000 in
set_option maxHeartbeats 8000000 in
theorem RF.map_ok (h : RF w rm gR n nx gs P D φ t) (a m prot : Int) : Calls Tryd.prog 61 #[.map (some gs), vp rm, .int .i64 0, .int .i64 a, .int .i64 m, .int .i64 prot] w fun e w' => e = .returned (.int .i64 (mapE P a m prot)) ∧ RF w' rm gR n nx gs (mapP P a m prot) D φ t ∧ Fr (rwr rm gR gs) w w' := by
  have hA := rpages_ok w a m
  have hU := in_ok w prot 1 3
  obtain ⟨V, hV⟩ : ∃ V, mapE P a m prot = V := ⟨_, rfl⟩
  obtain ⟨P2, hP2⟩ : ∃ P2, mapP P a m prot = P2 := ⟨_, rfl⟩
  rw [hV, hP2]
  cases ha : areP a m with
  | false =>
    have e0 : mapE P a m prot = 2 := by unfold mapE; rw [if_pos ha]
    rw [mapP, if_neg (by rw [e0]; decide)] at hP2
    rw [e0] at hV
    rw [ha] at hA
    clear e0 hU ha
    subst hP2
    subst hV
    go_enter Tryd.func61, Tryd.ntmps61
    go_wp2_with (go_at_call 103; refine hA.mono ?_; rintro e w1 ⟨rfl, h1⟩; subst w1)
    go_ret
    exact ⟨rfl, h, Fr.refl _ _⟩
  | true =>
    rw [ha] at hA
    cases hu : isU prot with
    | false =>
      have e0 : mapE P a m prot = 1 := by unfold mapE; rw [if_neg (by rw [ha]; decide), if_pos hu]
      rw [mapP, if_neg (by rw [e0]; decide)] at hP2
      rw [e0] at hV
      have hu' : (decide (1 ≤ prot) && decide (prot ≤ 3)) = false := hu
      rw [hu'] at hU
      clear e0 ha hu hu'
      subst hP2
      subst hV
      go_enter Tryd.func61, Tryd.ntmps61
      go_wp2_with fail
      refine hA.mono ?_
      rintro e w1 ⟨rfl, h1⟩
      subst w1
      go_wp2_with fail
      refine hU.mono ?_
      rintro e w1 ⟨rfl, h1⟩
      subst w1
      go_wp2_with fail
      go_ret
      exact ⟨rfl, h, Fr.refl _ _⟩
    | true =>
      obtain ⟨hn1, ha0, han⟩ := areP_true.1 ha
      obtain ⟨k, rfl⟩ : ∃ k : Nat, m = (k : Int) := ⟨m.toNat, by omega⟩
      have hC := rhas_ok h.sp a k ha0 han
      have hpr := isU_true.1 hu
      have hu' : (decide (1 ≤ prot) && decide (prot ≤ 3)) = true := hu
      rw [hu'] at hU
      by_cases hz : hasP P a k = 0
      · have e0 : mapE P a (k : Int) prot = 0 := by unfold mapE; rw [if_neg (by rw [ha]; decide), if_neg (by rw [hu]; decide), Int.toNat_natCast, if_pos hz]
        rw [mapP, if_pos e0, Int.toNat_natCast] at hP2
        rw [e0] at hV
        have hnone := hasP_none hz
        rw [hz] at hC
        subst hP2
        subst hV
        clear e0 hz ha hu hu'
        go_enter Tryd.func61, Tryd.ntmps61
        go_wp2_with fail
        refine hA.mono ?_
        rintro e w1 ⟨rfl, h1⟩
        subst w1
        go_wp2_with fail
        refine hU.mono ?_
        rintro e w1 ⟨rfl, h1⟩
        subst w1
        go_wp2_with fail
        refine hC.mono ?_
        rintro e w1 ⟨rfl, b1⟩
        clear hA hU hC
        go_wp2_with fail
        go_loopg [45] k (fun mm s45 wr => ∃ i : Nat, i + mm = k ∧ s45 = .int .i64 (i : Int) ∧ RF wr rm gR n nx gs (mapTo P a i prot) D φ t ∧ Fr (rwr rm gR gs) w wr)
        case atStart => exact ⟨0, by omega, rfl, by rw [mapTo_zero]; exact h.below b1, rfr_below (Fr.refl _ _) b1⟩
        case round =>
          clear h b1
          obtain ⟨i, hi, rfl, v1, f1⟩ := hrel
          by_cases hlt : (i : Int) < (k : Int)
          · have hmp := v1.sp
            have hPn : mapTo P a i prot (a + i) = none := by rw [mapTo_at]; exact hnone i (by omega)
            have hg := rpv_none hPn D φ (rpg 0 (fun _ => 0) 0)
            have hsz : lenP (mapTo P a i prot) < maxLen := by have := lenP_le (mapTo P a i prot); unfold maxLen; omega
            have hwf : (Lit.int .i64 (a + i)).wf = true := wf_small (by omega) (by omega)
            have hpp := rpv_put (mapTo P a i prot) D φ (a + i) prot (-1)
            rw [rwd_none, rid_none] at hpp
            have hfr : frm (mapTo P a i prot) (a + i) = -1 := frm_none hPn
            have hm2 : ∀ o, PMap (wr.alloc o) gs (lenP (mapTo P a i prot)) (rpv (mapTo P a i prot) D φ) := fun o => hmp.keep (Below.heap_alloc _ _ _ hmp.lt)
            have hbA : ∀ o, Below wr.heap.size wr (wr.alloc o) := fun o => (Below.refl _ wr).alloc (Nat.le_refl _) _
            clear hnone
            go_wp2_with (first
              | (at_lookup; refine wpList_klook rfl _ _ 114 rfl 174 Tryd.underlying114 _ (zero_rpage _) gs _ _ rfl hmp (a + i) rfl hwf ?_; rw [hg]; simp only [rpg])
              | (at_mapUpdate; refine wpList_kput rfl _ _ _ 114 rfl 174 Tryd.underlying114 gs _ _ rfl (hm2 _) hsz (a + i) rfl hwf (rpg prot (fun _ => 0) 0) rfl ?_; intro w2 pm2 g2; rw [hpp] at pm2))
            go_roundg (k - (i + 1))
            case measure => omega
            case rel =>
              refine ⟨i + 1, by omega, by go_num, ?_, ?_⟩
              · rw [mapTo_next]
                exact (v1.below (hbA _)).put_page (by omega) (by omega) hpr hfr.symm g2 pm2
              · exact (rfr_below f1 (hbA _)).trans (Fr.grown g2) (fun i _ e => .inr (.inl e))
          · have hik : i = k := by omega
            subst hik
            go_wp2_with fail
            go_ret
            exact ⟨rfl, v1, f1⟩
      · have e0 : mapE P a (k : Int) prot = 9 := by unfold mapE; rw [if_neg (by rw [ha]; decide), if_neg (by rw [hu]; decide), Int.toNat_natCast, if_neg hz]
        rw [mapP, if_neg (by rw [e0]; decide)] at hP2
        rw [e0] at hV
        subst hP2
        subst hV
        clear e0 ha hu hu'
        have hgt : (0 : Int) < ((hasP P a k : Nat) : Int) := by omega
        generalize hasP P a k = hh at *
        go_enter Tryd.func61, Tryd.ntmps61
        go_wp2_with fail
        refine hA.mono ?_
        rintro e w1 ⟨rfl, h1⟩
        subst w1
        go_wp2_with fail
        refine hU.mono ?_
        rintro e w1 ⟨rfl, h1⟩
        subst w1
        go_wp2_with fail
        refine hC.mono ?_
        rintro e w1 ⟨rfl, b1⟩
        go_wp2_with fail
        go_ret
        exact ⟨rfl, h.below b1, rfr_below (Fr.refl _ _) b1⟩
end
end Go.Proofs.YtcllfedpdcjbcaaDoor

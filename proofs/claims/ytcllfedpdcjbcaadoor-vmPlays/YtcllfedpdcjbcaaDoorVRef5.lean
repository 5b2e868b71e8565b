/- The document's own spaces: Change (Unmap, Protect), by its Go text. -/
import Derived.Test.YtcllfedpdcjbcaaDoorVRef4
namespace Go.Proofs.YtcllfedpdcjbcaaDoor
open Go.RowKit Go.Shelf Go.Lib Go.Sort Go.Maps

def tdrop (t : Int → Nat) (f : Int) : Int → Nat := fun z => if z = f then t z - 1 else t z

section
variable {w w' : World} {rm gR n nx gs : Nat} {P : PM} {D : Nat → Nat → Int} {φ : Int → Int} {t : Int → Nat}

/-- A frame is let go by a page. -/
theorem RF.less (h : RF w rm gR n nx gs P D φ t) (x : Int) : Calls Tryd.prog 105 #[vp rm, .int .i64 (rid φ (frm P x))] w fun e w' => e = .returned (.tuple #[]) ∧ (∃ Rr s, RM w' rm gR n nx Rr s ∧ Rel n nx (tdrop t (frm P x)) φ Rr s) ∧ w.grownBy w' (some gR) := by
  obtain ⟨Rr, s, m, r⟩ := h.mem
  by_cases hf : frm P x = -1
  · rw [hf, rid_none]
    refine (less_nil rm w).mono ?_
    rintro e w' ⟨he, rfl⟩
    exact ⟨he, ⟨Rr, s, m, r.congr (fun z hz => by unfold tdrop; rw [if_neg (by omega)])⟩, World.grownBy.refl _ _⟩
  · have h0 : 0 ≤ frm P x := by rcases h.ok.frame x with e | e; exact absurd e hf; exact e.1
    have hz : t (frm P x) ≠ 0 := by have := sh_pos h.ok hf; have := h.sub _ h0; omega
    obtain ⟨h1, h2, h3⟩ := r.here _ h0 hz
    have hr : rid φ (frm P x) = φ (frm P x) := by unfold rid; rw [if_neg hf]
    rw [hr]
    have hnx := h.nx9
    have hs : s < maxLen := by rw [r.size]; have := used_le t n; have := h.n256; unfold maxLen; omega
    refine (m.less (φ (frm P x)) h2 (by omega) (by rw [h1]; rfl) hs).mono ?_
    rintro e w' ⟨he, m', g'⟩
    exact ⟨he, ⟨_, _, m', r.less h0 hz (fun z hz' => by unfold tdrop; split <;> rename_i e' <;> first | (rw [e']) | rfl)⟩, g'⟩

/-- A page went. -/
theorem RF.gone (h : RF w rm gR n nx gs P D φ t) {x : Int} (hx : (P x).isSome = true) {w1 w2 : World} (hm : ∃ Rr s, RM w1 rm gR n nx Rr s ∧ Rel n nx (tdrop t (frm P x)) φ Rr s) (_g1 : w.grownBy w1 (some gR)) (g2 : w1.grownBy w2 (some gs)) {s : Nat} (pm : PMap w2 gs s (rpv (delP P x) D φ)) (hs : s + 1 = lenP P) : RF w2 rm gR n nx gs (delP P x) D φ (tdrop t (frm P x)) := by
  obtain ⟨Rr, s', m, r⟩ := hm
  have hk := h.ok.key x hx
  have k2 : ∀ i, i < w1.heap.size → i ≠ gs → w2.heap[i]? = w1.heap[i]? := fun i hi hn => g2.block i hi (fun e => hn (Option.some.inj e))
  have hlen := lenP_del hk.1 hk.2 hx
  refine ⟨⟨Rr, s', m.keep (k2 _ m.lt (fun e => h.ngm e.symm)) (k2 _ m.glt (fun e => h.ngr e.symm)), r⟩, ?_, h.ok.del, fun f hf => ?_, h.ngr, h.ngm, h.n256, h.nx9⟩
  · rw [show lenP (delP P x) = s by omega]; exact pm
  · have h1 := sh_del (P := P) hk.1 hk.2 hf
    have h2 := h.sub f hf
    unfold tdrop
    by_cases e : f = frm P x
    · rw [if_pos e]; rw [if_pos e.symm] at h1; omega
    · rw [if_neg e]; rw [if_neg (fun h => e h.symm)] at h1; omega

set_option maxRecDepth 100000 in
set_option maxHeartbeats 8000000 in
theorem RF.unmap_ok (h : RF w rm gR n nx gs P D φ t) (a m : Int) : Calls Tryd.prog 61 #[.map (some gs), vp rm, .int .i64 1, .int .i64 a, .int .i64 m, .int .i64 0] w fun e w' => e = .returned (.int .i64 (unE P a m)) ∧ ∃ t', RF w' rm gR n nx gs (unP P a m) D φ t' ∧ (∀ f, 0 ≤ f → t' f + sh P f = t f + sh (unP P a m) f) ∧ Fr (rwr rm gR gs) w w' := by
  have hA := rpages_ok w a m
  obtain ⟨V, hV⟩ : ∃ V, unE P a m = V := ⟨_, rfl⟩
  obtain ⟨P2, hP2⟩ : ∃ P2, unP P a m = P2 := ⟨_, rfl⟩
  rw [hV, hP2]
  cases ha : areP a m with
  | false =>
    have e0 : unE P a m = 2 := by unfold unE; rw [if_pos ha]
    rw [unP, if_neg (by rw [e0]; decide)] at hP2
    rw [e0] at hV
    rw [ha] at hA
    clear e0 ha
    subst hP2
    subst hV
    go_enter Tryd.func61, Tryd.ntmps61
    go_wp2_with (go_at_call 103; refine hA.mono ?_; rintro e w1 ⟨rfl, h1⟩; subst w1)
    go_ret
    exact ⟨rfl, t, h, fun _ _ => rfl, Fr.refl _ _⟩
  | true =>
    rw [ha] at hA
    obtain ⟨hn1, ha0, han⟩ := areP_true.1 ha
    obtain ⟨k, rfl⟩ : ∃ k : Nat, m = (k : Int) := ⟨m.toNat, by omega⟩
    have hC := rhas_ok h.sp a k ha0 han
    by_cases hz : hasP P a k < k
    · have e0 : unE P a (k : Int) = 7 := by unfold unE; rw [if_neg (by rw [ha]; decide), Int.toNat_natCast, if_pos hz]
      rw [unP, if_neg (by rw [e0]; decide)] at hP2
      rw [e0] at hV
      subst hP2
      subst hV
      clear e0 ha
      have hgt : ((hasP P a k : Nat) : Int) < (k : Int) := by omega
      generalize hasP P a k = hh at *
      go_enter Tryd.func61, Tryd.ntmps61
      go_wp2_with fail
      refine hA.mono ?_
      rintro e w1 ⟨rfl, h1⟩
      subst w1
      go_wp2_with fail
      refine hC.mono ?_
      rintro e w1 ⟨rfl, b1⟩
      go_wp2_with fail
      go_ret
      exact ⟨rfl, t, h.below b1, fun _ _ => rfl, rfr_below (Fr.refl _ _) b1⟩
    · have e0 : unE P a (k : Int) = 0 := by unfold unE; rw [if_neg (by rw [ha]; decide), Int.toNat_natCast, if_neg hz]
      rw [unP, if_pos e0, Int.toNat_natCast] at hP2
      rw [e0] at hV
      have hall := hasP_all hz
      subst hP2
      subst hV
      clear e0 ha
      have hgt : ¬ ((hasP P a k : Nat) : Int) < (k : Int) := by omega
      generalize hasP P a k = hh at *
      go_enter Tryd.func61, Tryd.ntmps61
      go_wp2_with fail
      refine hA.mono ?_
      rintro e w1 ⟨rfl, h1⟩
      subst w1
      go_wp2_with fail
      refine hC.mono ?_
      rintro e w1 ⟨rfl, b1⟩
      have hd : decide (hh < k) = false := decide_eq_false hz
      clear hA hC
      go_wp2_with fail
      try rw [hd]
      clear hgt hz hd
      go_loopg [45] k (fun mm s45 wr => ∃ (i : Nat) (t' : Int → Nat), i + mm = k ∧ s45 = .int .i64 (i : Int) ∧ RF wr rm gR n nx gs (unTo P a i) D φ t' ∧ (∀ f, 0 ≤ f → t' f + sh P f = t f + sh (unTo P a i) f) ∧ Fr (rwr rm gR gs) w wr)
      case atStart => exact ⟨0, t, by omega, rfl, by rw [unTo_zero]; exact h.below b1, fun f _ => by rw [unTo_zero], rfr_below (Fr.refl _ _) b1⟩
      case round =>
        clear h b1
        obtain ⟨i, t', hi, rfl, v1, ht', f1⟩ := hrel
        by_cases hlt : (i : Int) < (k : Int)
        · have hmp := v1.sp
          have hPs : (unTo P a i (a + i)).isSome = true := by rw [unTo_at]; exact hall i (by omega)
          obtain ⟨p, hP⟩ := Option.isSome_iff_exists.1 hPs
          have hg := rpv_get hP D φ (rpg 0 (fun _ => 0) 0)
          have hwf : (Lit.int .i64 (a + i)).wf = true := wf_small (by omega) (by omega)
          have hpd := rpv_del (unTo P a i) D φ (a + i)
          have hbA : ∀ o, Below wr.heap.size wr (wr.alloc o) := fun o => (Below.refl _ wr).alloc (Nat.le_refl _) _
          have hLs := fun o => (v1.below (hbA o)).less (a + i)
          rw [frm_some hP] at hLs
          have hkey := v1.ok.key _ hPs
          have hlp := lenP_del hkey.1 hkey.2 hPs
          have hsm : (rpv (unTo P a i) D φ (a + i)).isSome = true := by rw [rpv_isSome]; exact hPs
          have hgone := fun o w1 w2 s hm g1 g2 pm hs => (v1.below (hbA o)).gone hPs (w1 := w1) (w2 := w2) (s := s) hm g1 g2 pm hs
          rw [← unTo_next, frm_some hP] at hgone
          have hcnt : ∀ f, 0 ≤ f → tdrop t' p.2 f + sh P f = t f + sh (unTo P a (i + 1)) f := fun f hf => by
            have h1 := ht' f hf
            have h2 := sh_del (P := unTo P a i) hkey.1 hkey.2 hf
            have h3 := v1.sub f hf
            rw [frm_some hP, ← unTo_next] at h2
            unfold tdrop
            by_cases e : f = p.2
            · rw [if_pos e]; rw [if_pos e.symm] at h2; omega
            · rw [if_neg e]; rw [if_neg (fun h => e h.symm)] at h2; omega
          have hmp2 : ∀ o w1, (wr.alloc o).grownBy w1 (some gR) → PMap w1 gs (lenP (unTo P a i)) (rpv (unTo P a i) D φ) := fun o w1 g1 => (hmp.keep (Below.heap_alloc _ _ _ hmp.lt)).keep (g1.block gs (by simp; have := hmp.lt; omega) (fun e => v1.ngr (Option.some.inj e)))
          have hfr : ∀ o w1 w2, (wr.alloc o).grownBy w1 (some gR) → w1.grownBy w2 (some gs) → Fr (rwr rm gR gs) w w2 := fun o w1 w2 g1 g2 => ((rfr_below f1 (hbA o)).trans (Fr.grown g1) (fun i _ e => .inl e)).trans (Fr.grown g2) (fun i _ e => .inr (.inl e))
          generalize rwd D p.2 = R at *
          generalize hF : rid φ p.2 = F at *
          generalize p.1 = pp0 at *
          clear v1 f1 ht' hP hPs hall
          go_wp2_with (first
            | (at_lookup; refine wpList_klook rfl _ _ 114 rfl 174 Tryd.underlying114 _ (zero_rpage _) gs _ _ rfl hmp (a + i) rfl hwf ?_; rw [hg]; simp only [rpg])
            | (go_at_call 105; refine (hLs _).mono ?_; rintro e w2 ⟨rfl, hm2, g2⟩)
            | (at_delete; refine wpList_kdel rfl _ _ 114 rfl 174 Tryd.underlying114 gs _ _ rfl (hmp2 _ _ g2) (a + i) rfl hwf ?_; intro w3 pm3 g3; rw [hpd] at pm3))
          go_roundg (k - (i + 1))
          case measure => omega
          case rel =>
            rw [if_pos hsm, ← unTo_next] at pm3
            exact ⟨i + 1, _, by omega, by go_num, hgone _ _ _ _ hm2 g2 g3 pm3 (by omega), hcnt, hfr _ _ _ g2 g3⟩
        · have hik : i = k := by omega
          subst hik
          go_wp2_with fail
          go_ret
          exact ⟨rfl, t', v1, ht', f1⟩
end
end Go.Proofs.YtcllfedpdcjbcaaDoor

/- The document's own spaces: Store beside the program's. -/
import Derived.Test.YtcllfedpdcjbcaaDoorVRef9
namespace Go.Proofs.YtcllfedpdcjbcaaDoor
open Go.RowKit Go.Shelf Go.Lib Go.Sort Go.Maps

section
variable {w w' : World} {rm gR n nx gs : Nat} {P : PM} {D : Nat → Nat → Int} {φ : Int → Int} {t o : Int → Nat}

theorem useE_zero {a k u : Int} (h : useE P a k u = 0) : ∃ x y, P a = some (x, y) ∧ 0 ≤ k ∧ k < 8 := by
  cases hP : P a with
  | none => unfold useE at h; rw [hP] at h; simp at h
  | some p =>
    refine ⟨p.1, p.2, rfl, ?_⟩
    apply Classical.byContradiction; intro hk
    unfold useE at h; rw [hP] at h; simp only [if_neg hk] at h; omega

theorem rwd_upd {y : Int} (hy : 0 ≤ y) (k : Nat) (v : Int) : rwd (upd D y.toNat k v) y = wput (rwd D y) k v := by
  have hne : ¬ y = -1 := by omega
  funext j; simp only [rwd, upd, wput, if_neg hne, true_and]
theorem rwd_new {f : Nat} (y : Int) (k : Nat) (v : Int) : rwd (upd (row D f (firstW D y)) f k v) (f : Int) = wput (rwd D y) k v := by
  funext j; unfold rwd upd wput row firstW
  rw [if_neg (by omega), Int.toNat_natCast]
  by_cases e : j = k <;> simp [e]
theorem rwd_other {D' : Nat → Nat → Int} {y : Int} (h : y = -1 ∨ D' y.toNat = D y.toNat) : rwd D' y = rwd D y := by
  funext j; unfold rwd
  split
  · rfl
  · rcases h with h | h
    · contradiction
    · rw [h]
/-- A map's pages, where neither words nor numbers changed. -/
theorem rpv_keep {D' : Nat → Nat → Int} {φ' : Int → Int} {i : Int} (h : frm P i = -1 ∨ (D' (frm P i).toNat = D (frm P i).toNat ∧ φ' (frm P i) = φ (frm P i))) : rpv P D' φ' i = rpv P D φ i := by
  unfold rpv
  cases hP : P i with
  | none => rfl
  | some p =>
    rw [frm_some hP] at h
    have h1 : rwd D' p.2 = rwd D p.2 := rwd_other (h.imp id (·.1))
    have h2 : rid φ' p.2 = rid φ p.2 := by
      unfold rid; split
      · rfl
      · rcases h with h | h
        · contradiction
        · exact h.2
    simp only [Option.map_some, h1, h2]

theorem RF.store_ok (h : RF w rm gR n nx gs P D φ t) (ht : ∀ f, 0 ≤ f → t f = sh P f + o f) (a k v : Int) (ha : (Lit.int .i64 a).wf = true) (hnx : nx < 900) {er : Int} {P' : PM} {D' : Nat → Nat → Int} (hst : StR n P o D a k v er P' D') : Calls Tryd.prog 67 #[.map (some gs), vp rm, .int .i64 a, .int .i64 k, .int .i64 v] w fun e w' => e = .returned (.int .i64 er) ∧ ∃ nx' φ' t', nx' ≤ nx + 1 ∧ RF w' rm gR n nx' gs P' D' φ' t' ∧ (∀ f, 0 ≤ f → t' f = sh P' f + o f) ∧ (∀ f, 0 ≤ f → o f ≠ 0 → φ' f = φ f ∧ D' f.toNat = D f.toNat) ∧ Fr (rwr rm gR gs) w w' := by
  rcases hst with ⟨hz, rfl, rfl, rfl⟩ | ⟨hz, hf, h1, rfl, rfl, rfl⟩ | ⟨hz, hf, hu, rfl, rfl, rfl⟩ | ⟨hz, hf, f, hfn, hf0, rfl, rfl, rfl⟩
  · refine (h.store_no a k v ha hz).mono ?_
    rintro e w' ⟨he, b⟩
    exact ⟨he, nx, φ, t, by omega, h.below b, ht, fun _ _ _ => ⟨rfl, rfl⟩, fr_below b⟩
  · obtain ⟨x, y, hP, hk⟩ := useE_zero hz
    have hy : frm P' a = y := frm_some hP
    rw [hy] at hf h1 ⊢
    have hy0 : 0 ≤ y := by rcases h.ok.frame a with e | e <;> rw [hy] at e <;> omega
    have hs1 := sh_pos (a := a) h.ok (by rw [hy]; exact hf)
    rw [hy] at hs1
    refine (h.store_own a k v ha hz hk hP hy0 (by rw [ht y hy0]; exact h1)).mono ?_
    rintro e w' ⟨he, w2, b2, g2, pm⟩
    obtain ⟨Rr, s, m, r⟩ := (h.below b2).mem
    have k2 : ∀ i, i < w2.heap.size → i ≠ gs → w'.heap[i]? = w2.heap[i]? := fun i hi hn => g2.block i hi (fun e => hn (Option.some.inj e))
    have hpm : (fun i => if i = a then some (rpg x (wput (rwd D y) k.toNat v) (rid φ y)) else rpv P' D φ i) = rpv P' (upd D y.toNat k.toNat v) φ := by
      funext i
      by_cases e : i = a
      · subst e
        rw [if_pos rfl]; unfold rpv; rw [hP]; simp only [Option.map_some, rwd_upd hy0]
      · rw [if_neg e]
        refine (rpv_keep ?_).symm
        rcases h.ok.frame i with e1 | e1
        · exact .inl e1
        · refine .inr ⟨?_, rfl⟩
          have hne : frm P' i ≠ y := fun e2 => e (sh_one h.ok hf (by omega) e2 hy)
          funext j; unfold upd; rw [if_neg (by rintro ⟨e3, _⟩; omega)]
    rw [hpm] at pm
    refine ⟨he, nx, φ, t, by omega, ⟨⟨Rr, s, m.keep (k2 _ m.lt (fun e => h.ngm e.symm)) (k2 _ m.glt (fun e => h.ngr e.symm)), r⟩, pm, h.ok, h.sub, h.ngr, h.ngm, h.n256, h.nx9⟩, ht, fun z hz0 hz1 => ⟨rfl, ?_⟩, (fr_below b2).trans (Fr.grown g2) (fun i _ e => .inr (.inl e))⟩
    have hne : z ≠ y := fun e => hz1 (by rw [e]; omega)
    funext j; unfold upd; rw [if_neg (by rintro ⟨e3, _⟩; omega)]
  · obtain ⟨x, y, hP, hk⟩ := useE_zero hz
    have hy : frm P' a = y := frm_some hP
    rw [hy] at hf
    have hy' : y = -1 ∨ (0 ≤ y ∧ 1 < t y) := by
      rcases h.ok.frame a with e | e <;> rw [hy] at e
      · exact .inl e
      · right; refine ⟨e.1, ?_⟩; rw [ht y e.1]; rcases hf with hf | hf <;> omega
    refine (h.store_full a k v ha hz hP hy' (by rw [used_congr ht]; exact hu)).mono ?_
    rintro e w' ⟨he, b⟩
    exact ⟨he, nx, φ, t, by omega, h.below b, ht, fun _ _ _ => ⟨rfl, rfl⟩, fr_below b⟩
  · obtain ⟨x, y, hP, hk⟩ := useE_zero hz
    have hy : frm P a = y := frm_some hP
    have hpg : (pg P a).1 = x := by unfold pg; rw [hP]; rfl
    rw [hy] at hf
    rw [hy, hpg]
    have hy' : y = -1 ∨ (0 ≤ y ∧ 1 < t y) := by
      rcases h.ok.frame a with e | e <;> rw [hy] at e
      · exact .inl e
      · right; refine ⟨e.1, ?_⟩; rw [ht y e.1]; rcases hf with hf | hf <;> omega
    have htf : t (f : Int) = 0 := by rw [ht _ (by omega)]; exact hf0
    have hyf : y ≠ (f : Int) := fun e => by rw [← e] at htf; rcases hy' with h1 | h1 <;> omega
    have hu : used t n < n := by
      have h1 := used_new (t := t) (t' := fun z => if z = (f : Int) then 1 else t z) hfn htf (by simp) (fun z _ hne => by simp [hne])
      have h2 := used_le (fun z => if z = (f : Int) then 1 else t z) n
      omega
    refine (h.store_new a k v ha hz hk hP hy' hu hnx).mono ?_
    rintro e w' ⟨he, ⟨Rr, s, m, r⟩, pm, fr⟩
    have hka := h.ok.key a (by rw [hP]; rfl)
    have hpr := h.ok.prot a _ hP
    have hcnt : ∀ z, 0 ≤ z → (if z = (f : Int) then 1 else tdrop t y z) = sh (putP P a (x, (f : Int))) z + o z := fun z hz0 => by
      have h1 := sh_put (P := P) hka.1 hka.2 (x, (f : Int)) z
      have h2 := ht z hz0
      simp only [hy] at h1
      unfold tdrop
      by_cases e1 : z = (f : Int)
      · subst e1
        rw [if_pos rfl]
        rw [if_neg hyf, if_pos rfl] at h1
        omega
      · have e3 : ¬ (f : Int) = z := fun e => e1 e.symm
        rw [if_neg e1]
        rw [if_neg e3] at h1
        by_cases e2 : z = y
        · subst e2
          rw [if_pos rfl]; rw [if_pos rfl] at h1; omega
        · have e4 : ¬ y = z := fun e => e2 e.symm
          rw [if_neg e2]; rw [if_neg e4] at h1; omega
    have hr := r.new (t' := fun z => if z = (f : Int) then 1 else tdrop t y z) hfn (by unfold tdrop; rw [if_neg (fun e => hyf e.symm)]; exact htf) (fun _ _ => rfl)
    have hD : ∀ z, 0 ≤ z → z ≠ (f : Int) → upd (row D f (firstW D y)) f k.toNat v z.toNat = D z.toNat := fun z hz0 hne => by
      funext j; unfold upd row; rw [if_neg (by rintro ⟨e3, _⟩; omega), if_neg (by omega)]
    have hpm : (fun i => if i = a then some (rpg x (wput (rwd D y) k.toNat v) ((nx : Int) + 1)) else rpv P D φ i) = rpv (putP P a (x, (f : Int))) (upd (row D f (firstW D y)) f k.toNat v) (fun z => if z = (f : Int) then ((nx + 1 : Nat) : Int) else φ z) := by
      rw [← rpv_put]
      funext i
      by_cases e : i = a
      · rw [if_pos e, if_pos e, rwd_new]
        have : rid (fun z => if z = (f : Int) then ((nx + 1 : Nat) : Int) else φ z) (f : Int) = (nx : Int) + 1 := by
          unfold rid; rw [if_neg (by omega)]; show (if (f : Int) = (f : Int) then ((nx + 1 : Nat) : Int) else φ f) = _; rw [if_pos rfl]; rfl
        rw [this]
      · rw [if_neg e, if_neg e]
        refine (rpv_keep ?_).symm
        rcases h.ok.frame i with e1 | e1
        · exact .inl e1
        · have hne : frm P i ≠ (f : Int) := sh_none (by omega) h.ok (by omega) i
          exact .inr ⟨hD _ e1.1 hne, if_neg hne⟩
    rw [hpm, ← lenP_put_old (P := P) (a := a) (p := (x, (f : Int))) (by rw [hP]; rfl)] at pm
    refine ⟨he, nx + 1, _, _, Nat.le_refl _, ⟨⟨_, _, m, hr⟩, pm, h.ok.put hka.1 hka.2 hpr (.inr ⟨by show (0 : Int) ≤ (f : Int); omega, by show (f : Int) < (n : Int); omega⟩), fun z hz0 => by rw [hcnt z hz0]; omega, h.ngr, h.ngm, h.n256, by omega⟩, hcnt, fun z hz0 hz1 => ?_, fr⟩
    have hne : z ≠ (f : Int) := fun e => hz1 (by rw [e]; omega)
    exact ⟨if_neg hne, hD z hz0 hne⟩
end
end Go.Proofs.YtcllfedpdcjbcaaDoor

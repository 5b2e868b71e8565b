/- The document's own spaces: how its numbers of frames stand for frames; Change, by its Go text. -/
import Derived.Test.YtcllfedpdcjbcaaDoorVRef2
import Derived.Test.YtcllfedpdcjbcaaDoorVAll
namespace Go.Proofs.YtcllfedpdcjbcaaDoor
open Go.RowKit Go.Shelf Go.Lib Go.Sort Go.Maps

/-- The document's numbers stand for the frames that pages have. -/
structure Rel (n nx : Nat) (t : Int → Nat) (φ : Int → Int) (Rr : Int → Option Nat) (s : Nat) : Prop where
  here : ∀ f, 0 ≤ f → t f ≠ 0 → Rr (φ f) = some (t f) ∧ 1 ≤ φ f ∧ φ f ≤ (nx : Int)
  only : ∀ x k, Rr x = some k → ∃ f, 0 ≤ f ∧ t f ≠ 0 ∧ φ f = x
  inj : ∀ f g, 0 ≤ f → 0 ≤ g → t f ≠ 0 → t g ≠ 0 → φ f = φ g → f = g
  within : ∀ f, 0 ≤ f → t f ≠ 0 → f < (n : Int)
  size : s = used t n

theorem used_less {t t' : Int → Nat} {n f : Nat} (hf : f < n) (h0 : t' (f : Int) = 0) (h1 : t (f : Int) ≠ 0) (ho : ∀ x : Int, 0 ≤ x → x ≠ (f : Int) → (t x = 0 ↔ t' x = 0)) : used t' n + 1 = used t n := by
  rw [used_eq, used_eq]
  refine (sumTo_set (f := f) (d := 1) (by simp [h0, h1]) (fun i hi => ?_) n 0 (by omega) (by omega)).symm
  have := ho i (by omega) (by omega)
  by_cases e : t (i : Int) = 0
  · rw [if_pos e, if_pos (this.1 e)]
  · rw [if_neg e, if_neg (fun e' => e (this.2 e'))]
theorem used_new {t t' : Int → Nat} {n f : Nat} (hf : f < n) (h0 : t (f : Int) = 0) (h1 : t' (f : Int) ≠ 0) (ho : ∀ x : Int, 0 ≤ x → x ≠ (f : Int) → (t x = 0 ↔ t' x = 0)) : used t' n = used t n + 1 := by
  have := used_less (t := t') (t' := t) hf h0 h1 (fun x hx hne => (ho x hx hne).symm)
  omega

section
variable {n nx s : Nat} {t t' : Int → Nat} {φ : Int → Int} {Rr : Int → Option Nat}
theorem Rel.congr (h : Rel n nx t φ Rr s) (e : ∀ f, 0 ≤ f → t f = t' f) : Rel n nx t' φ Rr s :=
  ⟨fun f hf hz => by rw [← e f hf] at hz ⊢; exact h.here f hf hz, fun x k hx => by obtain ⟨f, h0, h1, h2⟩ := h.only x k hx; exact ⟨f, h0, by rw [← e f h0]; exact h1, h2⟩, fun f g hf hg hz hz' he => h.inj f g hf hg (by rw [e f hf]; exact hz) (by rw [e g hg]; exact hz') he, fun f hf hz => h.within f hf (by rw [e f hf]; exact hz), by rw [h.size, used_congr e]⟩
/-- A page less has frame f. -/
theorem Rel.less (h : Rel n nx t φ Rr s) {f : Int} (hf : 0 ≤ f) (hz : t f ≠ 0) (e : ∀ x, 0 ≤ x → t' x = if x = f then t f - 1 else t x) : Rel n nx t' φ (dropR Rr (φ f)) (if val Rr (φ f) ≤ 1 then s - 1 else s) := by
  obtain ⟨h1, h2, h3⟩ := h.here f hf hz
  have hv : val Rr (φ f) = t f := by unfold val; rw [h1]; rfl
  have hn := h.within f hf hz
  refine ⟨fun g hg hgz => ?_, fun x k hx => ?_, fun g g' hg hg' hz1 hz2 he => ?_, fun g hg hgz => ?_, ?_⟩
  · rw [e g hg] at hgz
    by_cases eg : g = f
    · subst eg
      rw [if_pos rfl] at hgz
      refine ⟨?_, h2, h3⟩
      rw [e g hg, if_pos rfl]; unfold dropR; rw [if_pos rfl, hv, if_neg (by omega)]
    · rw [if_neg eg] at hgz
      obtain ⟨a1, a2, a3⟩ := h.here g hg hgz
      refine ⟨?_, a2, a3⟩
      rw [e g hg, if_neg eg]; unfold dropR; rw [if_neg (fun e' => eg (h.inj g f hg hf hgz hz e'))]; exact a1
  · unfold dropR at hx
    by_cases ex : x = φ f
    · rw [if_pos ex] at hx
      split at hx
      · cases hx
      · rename_i hgt
        exact ⟨f, hf, by rw [e f hf, if_pos rfl]; omega, ex.symm⟩
    · rw [if_neg ex] at hx
      obtain ⟨g, g1, g2, g3⟩ := h.only x k hx
      refine ⟨g, g1, ?_, g3⟩
      rw [e g g1, if_neg (fun e' => ex (by rw [← g3, e']))]; exact g2
  · have k1 : t g ≠ 0 := fun h0 => hz1 (by rw [e g hg]; split <;> rename_i e' <;> first | (subst e'; omega) | exact h0)
    have k2 : t g' ≠ 0 := fun h0 => hz2 (by rw [e g' hg']; split <;> rename_i e' <;> first | (subst e'; omega) | exact h0)
    exact h.inj g g' hg hg' k1 k2 he
  · exact h.within g hg (fun h0 => hgz (by rw [e g hg]; split <;> rename_i e' <;> first | (subst e'; omega) | exact h0))
  · rw [hv, h.size]
    obtain ⟨F, rfl⟩ : ∃ F : Nat, f = (F : Int) := ⟨f.toNat, by omega⟩
    split
    · rename_i hle
      have := used_less (t := t) (t' := t') (n := n) (f := F) (by omega) (by rw [e _ hf, if_pos rfl]; omega) hz (fun x hx hne => by rw [e x hx, if_neg hne])
      omega
    · rename_i hle
      exact used_iff (fun x hx => by rw [e x hx]; split <;> rename_i e' <;> first | (subst e'; omega) | exact Iff.rfl)
/-- A frame that no page had. -/
theorem Rel.new (h : Rel n nx t φ Rr s) {f : Nat} (hf : f < n) (hz : t (f : Int) = 0) (e : ∀ x, 0 ≤ x → t' x = if x = (f : Int) then 1 else t x) : Rel n (nx + 1) t' (fun x => if x = (f : Int) then ((nx + 1 : Nat) : Int) else φ x) (putC Rr ((nx + 1 : Nat) : Int) 1) (s + 1) := by
  have hfresh : ∀ g, 0 ≤ g → t g ≠ 0 → φ g ≠ ((nx + 1 : Nat) : Int) := fun g hg hgz he => by have := (h.here g hg hgz).2.2; omega
  refine ⟨fun g hg hgz => ?_, fun x k hx => ?_, fun g g' hg hg' hz1 hz2 he => ?_, fun g hg hgz => ?_, ?_⟩
  · by_cases eg : g = (f : Int)
    · simp only [eg, if_true]
      refine ⟨?_, by omega, by omega⟩
      rw [e _ (by omega), if_pos rfl]; unfold putC; rw [if_pos rfl]
    · rw [e g hg, if_neg eg] at hgz
      obtain ⟨a1, a2, a3⟩ := h.here g hg hgz
      simp only [eg, if_false]
      refine ⟨?_, a2, by omega⟩
      rw [e g hg, if_neg eg]; unfold putC; rw [if_neg (hfresh g hg hgz)]; exact a1
  · unfold putC at hx
    by_cases ex : x = ((nx + 1 : Nat) : Int)
    · exact ⟨f, by omega, by rw [e _ (by omega), if_pos rfl]; decide, by simp only [if_true]; exact ex.symm⟩
    · rw [if_neg ex] at hx
      obtain ⟨g, g1, g2, g3⟩ := h.only x k hx
      have hgf : g ≠ (f : Int) := fun e' => g2 (by rw [e']; exact hz)
      exact ⟨g, g1, by rw [e g g1, if_neg hgf]; exact g2, by simp only [hgf, if_false]; exact g3⟩
  · by_cases e1 : g = (f : Int) <;> by_cases e2 : g' = (f : Int)
    · rw [e1, e2]
    · rw [e g' hg', if_neg e2] at hz2
      simp only [e1, e2, if_true, if_false] at he
      exact absurd he.symm (hfresh g' hg' hz2)
    · rw [e g hg, if_neg e1] at hz1
      simp only [e1, e2, if_true, if_false] at he
      exact absurd he (hfresh g hg hz1)
    · rw [e g hg, if_neg e1] at hz1
      rw [e g' hg', if_neg e2] at hz2
      simp only [e1, e2, if_false] at he
      exact h.inj g g' hg hg' hz1 hz2 he
  · by_cases e1 : g = (f : Int)
    · omega
    · rw [e g hg, if_neg e1] at hgz; exact h.within g hg hgz
  · rw [h.size]
    exact (used_new (t := t) (t' := t') hf hz (by rw [e _ (by omega), if_pos rfl]; decide) (fun x hx hne => by rw [e x hx, if_neg hne])).symm
/-- A page more has frame f. -/
theorem Rel.more (h : Rel n nx t φ Rr s) {f : Int} (hf : 0 ≤ f) (hz : t f ≠ 0) (e : ∀ x, 0 ≤ x → t' x = if x = f then t f + 1 else t x) : Rel n nx t' φ (putC Rr (φ f) (t f + 1)) s := by
  obtain ⟨h1, h2, h3⟩ := h.here f hf hz
  refine ⟨fun g hg hgz => ?_, fun x k hx => ?_, fun g g' hg hg' hz1 hz2 he => ?_, fun g hg hgz => ?_, ?_⟩
  · by_cases eg : g = f
    · subst eg
      refine ⟨?_, h2, h3⟩
      rw [e g hg, if_pos rfl]; unfold putC; rw [if_pos rfl]
    · rw [e g hg, if_neg eg] at hgz
      obtain ⟨a1, a2, a3⟩ := h.here g hg hgz
      refine ⟨?_, a2, a3⟩
      rw [e g hg, if_neg eg]; unfold putC; rw [if_neg (fun e' => eg (h.inj g f hg hf hgz hz e'))]; exact a1
  · unfold putC at hx
    by_cases ex : x = φ f
    · exact ⟨f, hf, by rw [e f hf, if_pos rfl]; omega, ex.symm⟩
    · rw [if_neg ex] at hx
      obtain ⟨g, g1, g2, g3⟩ := h.only x k hx
      exact ⟨g, g1, by rw [e g g1, if_neg (fun e' => ex (by rw [← g3, e']))]; exact g2, g3⟩
  · have k1 : t g ≠ 0 := fun h0 => hz1 (by rw [e g hg]; split <;> rename_i e' <;> first | (subst e'; omega) | exact h0)
    have k2 : t g' ≠ 0 := fun h0 => hz2 (by rw [e g' hg']; split <;> rename_i e' <;> first | (subst e'; omega) | exact h0)
    exact h.inj g g' hg hg' k1 k2 he
  · exact h.within g hg (fun h0 => hgz (by rw [e g hg]; split <;> rename_i e' <;> first | (subst e'; omega) | exact h0))
  · rw [h.size]
    exact used_iff (fun x hx => by rw [e x hx]; split <;> rename_i e' <;> first | (subst e'; omega) | exact Iff.rfl)
end

/-- One of the document's spaces, over its store. -/
structure RF (w : World) (rm gR n nx gs : Nat) (P : PM) (D : Nat → Nat → Int) (φ : Int → Int) (t : Int → Nat) : Prop where
  mem : ∃ Rr s, RM w rm gR n nx Rr s ∧ Rel n nx t φ Rr s
  sp : PMap w gs (lenP P) (rpv P D φ)
  ok : PgOk n P
  sub : ∀ f, 0 ≤ f → sh P f ≤ t f
  ngr : gs ≠ gR
  ngm : gs ≠ rm
  n256 : n ≤ 256
  nx9 : nx ≤ 900

theorem rpv_put (P : PM) (D : Nat → Nat → Int) (φ : Int → Int) (x p f : Int) : (fun i => if i = x then some (rpg p (rwd D f) (rid φ f)) else rpv P D φ i) = rpv (putP P x (p, f)) D φ := by
  funext i; unfold rpv putP; split <;> rfl
theorem rpv_del (P : PM) (D : Nat → Nat → Int) (φ : Int → Int) (x : Int) : (fun i => if i = x then none else rpv P D φ i) = rpv (delP P x) D φ := by
  funext i; by_cases e : i = x <;> simp [rpv, delP, e]

section
variable {w w' : World} {rm gR n nx gs : Nat} {P : PM} {D : Nat → Nat → Int} {φ : Int → Int} {t : Int → Nat}
theorem RF.lt (h : RF w rm gR n nx gs P D φ t) : gs < w.heap.size := h.sp.lt
theorem RF.below (h : RF w rm gR n nx gs P D φ t) (hb : Below w.heap.size w w') : RF w' rm gR n nx gs P D φ t := by
  obtain ⟨Rr, s, m, r⟩ := h.mem
  exact ⟨⟨Rr, s, m.below hb, r⟩, h.sp.keep (hb.block _ h.lt), h.ok, h.sub, h.ngr, h.ngm, h.n256, h.nx9⟩
theorem RF.congr {t' : Int → Nat} (h : RF w rm gR n nx gs P D φ t) (e : ∀ f, 0 ≤ f → t f = t' f) : RF w rm gR n nx gs P D φ t' := by
  obtain ⟨Rr, s, m, r⟩ := h.mem
  exact ⟨⟨Rr, s, m, r.congr e⟩, h.sp, h.ok, fun f hf => by rw [← e f hf]; exact h.sub f hf, h.ngr, h.ngm, h.n256, h.nx9⟩
/-- One page put into the map, its frame as it was. -/
theorem RF.put_page (h : RF w rm gR n nx gs P D φ t) {x : Int} {p : Int × Int} (hx0 : 0 ≤ x) (hx1 : x < 64) (hp : 1 ≤ p.1 ∧ p.1 ≤ 3) (hf : p.2 = frm P x) (hg : w.grownBy w' (some gs)) (pm : PMap w' gs (if (rpv P D φ x).isSome then lenP P else lenP P + 1) (rpv (putP P x p) D φ)) : RF w' rm gR n nx gs (putP P x p) D φ t := by
  obtain ⟨Rr, s, m, r⟩ := h.mem
  have hk : ∀ i, i < w.heap.size → i ≠ gs → w'.heap[i]? = w.heap[i]? := fun i hi hn => hg.block i hi (fun e => hn (Option.some.inj e))
  refine ⟨⟨Rr, s, m.keep (hk _ m.lt (fun e => h.ngm e.symm)) (hk _ m.glt (fun e => h.ngr e.symm)), r⟩, ?_, h.ok.put hx0 hx1 hp (by rw [hf]; exact h.ok.frame x), fun f hf' => ?_, h.ngr, h.ngm, h.n256, h.nx9⟩
  · rw [rpv_isSome] at pm
    cases e : P x with
    | none => rw [e] at pm; rw [lenP_put_new hx0 hx1 e]; exact pm
    | some q => rw [e] at pm; rw [lenP_put_old (by rw [e]; rfl)]; exact pm
  · have h1 := sh_put (P := P) hx0 hx1 p f
    have h2 := h.sub f hf'
    rw [hf] at h1; omega
end
end Go.Proofs.YtcllfedpdcjbcaaDoor

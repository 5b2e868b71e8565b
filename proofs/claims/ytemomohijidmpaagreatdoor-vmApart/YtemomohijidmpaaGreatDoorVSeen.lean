/- What one space does, no other one sees. -/
import Derived.Test.YtemomohijidmpaaGreatDoorVWords
namespace Go.Proofs.YtemomohijidmpaaGreatDoor
open Go.RowKit Go.Shelf

section
variable {n : Nat} {P : PM} {o : Int → Nat} {D : Nat → Nat → Int}

theorem StR.others {a k v er : Int} {P' : PM} {D' : Nat → Nat → Int} (hok : PgOk n P) (h : StR n P o D a k v er P' D') (f : Nat) (hf : o (f : Int) ≠ 0) (j : Nat) : D' f j = D f j := by
  rcases h with ⟨_, _, _, rfl⟩ | ⟨_, h1, h2, _, _, rfl⟩ | ⟨_, _, _, _, _, rfl⟩ | ⟨_, _, g, hg1, hg2, _, _, rfl⟩
  · rfl
  · have hp := sh_pos hok h1
    have hfr : 0 ≤ frm P a := by rcases hok.frame a with e | e; exact absurd e h1; exact e.1
    have hne : f ≠ (frm P a).toNat := fun e => by
      have : ((f : Nat) : Int) = frm P a := by omega
      rw [this] at hf; omega
    simp [upd, hne]
  · rfl
  · have hne : f ≠ g := fun e => by subst e; omega
    simp [upd, row, hne]
theorem UseR.others {x : Us} {er : Int} {P' : PM} {D' : Nat → Nat → Int} (hok : PgOk n P) (h : UseR n P o D x er P' D') (f : Nat) (hf : o (f : Int) ≠ 0) (j : Nat) : D' f j = D f j := by
  rcases h with ⟨_, _, _, rfl⟩ | ⟨_, _, _, rfl⟩ | ⟨_, _, _, rfl⟩ | ⟨_, h⟩ | ⟨_, _, _, rfl⟩
  · rfl
  · rfl
  · rfl
  · exact h.others hok f hf j
  · rfl
theorem UseR.wd64 {x : Us} {er : Int} {P' : PM} {D' : Nat → Nat → Int} (h : UseR n P o D x er P' D') (hD : Wd64 D) (hv : -9223372036854775808 ≤ x.v ∧ x.v ≤ 9223372036854775807) : Wd64 D' := by
  rcases h with ⟨_, _, _, rfl⟩ | ⟨_, _, _, rfl⟩ | ⟨_, _, _, rfl⟩ | ⟨_, h⟩ | ⟨_, _, _, rfl⟩
  · exact hD
  · exact hD
  · exact hD
  · rcases h with ⟨_, _, _, rfl⟩ | ⟨_, _, _, _, _, rfl⟩ | ⟨_, _, _, _, _, rfl⟩ | ⟨_, _, g, _, _, _, _, rfl⟩
    · exact hD
    · intro f k; unfold upd; split
      · exact hv
      · exact hD f k
    · exact hD
    · intro f k; unfold upd; split
      · exact hv
      · unfold row; split
        · unfold firstW; split
          · omega
          · exact hD _ _
        · exact hD f k
  · exact hD

theorem wds_same {Q : PM} {D' : Nat → Nat → Int} (hok : PgOk n Q) (h : ∀ f : Nat, sh Q (f : Int) ≠ 0 → ∀ j, D' f j = D f j) : wds Q D' = wds Q D := by
  have hw : ∀ a k, wd Q D' a k = wd Q D a k := fun a k => by
    unfold wd; by_cases e : frm Q a = -1
    · rw [if_pos e, if_pos e]
    · rw [if_neg e, if_neg e]
      have hp := sh_pos hok e
      have hfr : 0 ≤ frm Q a := by rcases hok.frame a with e' | e'; exact absurd e' e; exact e'.1
      refine h _ ?_ k
      rw [show (((frm Q a).toNat : Nat) : Int) = frm Q a by omega]; omega
  have hl : ∀ a k, loadV Q D' a k = loadV Q D a k := fun a k => by unfold loadV; rw [hw]
  have he : ent Q D' = ent Q D := by funext i; unfold ent; rw [hl]
  unfold wds bts; rw [he]
end
end Go.Proofs.YtemomohijidmpaaGreatDoor

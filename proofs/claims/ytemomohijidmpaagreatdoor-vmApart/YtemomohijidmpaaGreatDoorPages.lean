/- Pages plainly: what each may be used for, and its frame; how many pages have a frame. -/
import Derived.Test.YtemomohijidmpaaGreatDoorNums
namespace Go.Proofs.YtemomohijidmpaaGreatDoor
open Go.RowKit

/-- A space's pages: what each may be used for, and its frame (-1: none). -/
abbrev PM := Int → Option (Int × Int)
def frm (P : PM) (a : Int) : Int := match P a with | some p => p.2 | none => -1
def putP (P : PM) (a : Int) (p : Int × Int) : PM := fun x => if x = a then some p else P x
def delP (P : PM) (a : Int) : PM := fun x => if x = a then none else P x
/-- How many pages have that frame; how many pages there are; how many have a frame. -/
def sh (P : PM) (f : Int) : Nat := sumTo (fun a => if frm P a = f then 1 else 0) 0 64
def lenP (P : PM) : Nat := sumTo (fun a => if (P a).isSome then 1 else 0) 0 64
def resP (P : PM) : Nat := sumTo (fun a => if frm P a = -1 then 0 else 1) 0 64

structure PgOk (n : Nat) (P : PM) : Prop where
  key : ∀ a, (P a).isSome = true → 0 ≤ a ∧ a < 64
  prot : ∀ a p, P a = some p → 1 ≤ p.1 ∧ p.1 ≤ 3
  frame : ∀ a, frm P a = -1 ∨ (0 ≤ frm P a ∧ frm P a < (n : Int))

theorem frm_none {P : PM} {a : Int} (h : P a = none) : frm P a = -1 := by unfold frm; rw [h]
theorem frm_some {P : PM} {a : Int} {p : Int × Int} (h : P a = some p) : frm P a = p.2 := by unfold frm; rw [h]
theorem frm_put (P : PM) (a : Int) (p : Int × Int) (x : Int) : frm (putP P a p) x = if x = a then p.2 else frm P x := by
  unfold frm putP; split <;> rename_i h <;> split at h <;> simp_all
theorem frm_del (P : PM) (a : Int) (x : Int) : frm (delP P a) x = if x = a then -1 else frm P x := by
  unfold frm delP; split <;> rename_i h <;> split at h <;> simp_all
theorem frm_key {P : PM} {a : Int} (h : frm P a ≠ -1) : ∃ p, P a = some p ∧ p.2 = frm P a := by
  cases e : P a with
  | none => exact absurd (frm_none e) h
  | some p => exact ⟨p, rfl, (frm_some e).symm⟩

theorem sumTo_le' {g h : Nat → Nat} {m a : Nat} (e : ∀ i, g i ≤ h i) : sumTo g a m ≤ sumTo h a m := sumTo_le m a (fun i _ _ => e i)
theorem sumTo_at {g : Nat → Nat} {m j : Nat} (hj : j < m) : g j ≤ sumTo g 0 m := by
  have h := sumTo_set (g := fun i => if i = j then 0 else g i) (h := g) (f := j) (d := g j) (by simp) (fun i hi => by simp [hi]) m 0 (by omega) (by omega)
  omega
theorem sumTo_add (g h : Nat → Nat) : ∀ (m a : Nat), sumTo (fun i => g i + h i) a m = sumTo g a m + sumTo h a m
  | 0, _ => rfl
  | m + 1, a => by rw [sumTo, sumTo, sumTo, sumTo_add g h m (a + 1)]; omega
theorem sumTo_swap (g : Nat → Nat → Nat) (k : Nat) : ∀ (m a : Nat) (c : Nat), sumTo (fun i => sumTo (g i) c k) a m = sumTo (fun j => sumTo (fun i => g i j) a m) c k
  | 0, a, c => by rw [sumTo, sumTo_zero]; intros; rfl
  | m + 1, a, c => by rw [sumTo, sumTo_swap g k m (a + 1) c, ← sumTo_add]; rfl
theorem sumTo_const_le {g : Nat → Nat} {d : Nat} : ∀ (m a : Nat), (∀ i, g i ≤ d) → sumTo g a m ≤ m * d
  | 0, _, _ => by simp [sumTo]
  | m + 1, a, e => by rw [sumTo]; have := e a; have := sumTo_const_le m (a + 1) e; rw [Nat.succ_mul]; omega

section
variable {n : Nat} {P : PM} {a : Int}
theorem sh_put (h0 : 0 ≤ a) (h1 : a < 64) (p : Int × Int) (f : Int) : sh (putP P a p) f + (if frm P a = f then 1 else 0) = sh P f + (if p.2 = f then 1 else 0) := by
  have ea : ((a.toNat : Nat) : Int) = a := by omega
  have g0 := sumTo_set (g := fun i : Nat => if i = a.toNat then 0 else if frm P i = f then 1 else 0) (h := fun i : Nat => if frm P i = f then 1 else 0) (f := a.toNat) (d := if frm P a = f then 1 else 0) (by simp [ea]) (fun i hi => by simp [hi]) 64 0 (by omega) (by omega)
  have g1 := sumTo_set (g := fun i : Nat => if i = a.toNat then 0 else if frm P i = f then 1 else 0) (h := fun i : Nat => if frm (putP P a p) i = f then 1 else 0) (f := a.toNat) (d := if p.2 = f then 1 else 0) (by simp [ea, frm_put]) (fun i hi => by
    have : ¬ (i : Int) = a := by omega
    simp [hi, frm_put, this]) 64 0 (by omega) (by omega)
  unfold sh; omega
theorem sh_del (h0 : 0 ≤ a) (h1 : a < 64) {f : Int} (hf : 0 ≤ f) : sh (delP P a) f + (if frm P a = f then 1 else 0) = sh P f := by
  have ea : ((a.toNat : Nat) : Int) = a := by omega
  refine (sumTo_set (g := fun i : Nat => if frm (delP P a) i = f then 1 else 0) (h := fun i : Nat => if frm P i = f then 1 else 0) (f := a.toNat) (d := if frm P a = f then 1 else 0) ?_ (fun i hi => ?_) 64 0 (by omega) (by omega)).symm
  · have : ¬ (-1 : Int) = f := by omega
    simp [ea, frm_del, this]
  · have : ¬ (i : Int) = a := by omega
    simp [frm_del, this]
theorem sh_pos (h : PgOk n P) (hf : frm P a ≠ -1) : 1 ≤ sh P (frm P a) := by
  obtain ⟨p, hp, _⟩ := frm_key hf
  have hk := h.key a (by rw [hp]; rfl)
  have := sumTo_at (g := fun i : Nat => if frm P i = frm P a then 1 else 0) (m := 64) (j := a.toNat) (by omega)
  have ea : ((a.toNat : Nat) : Int) = a := by omega
  simp only [ea, if_true] at this
  exact this
theorem sh_zero {f : Int} (_hf : 0 ≤ f) (h : ∀ a, frm P a ≠ f) : sh P f = 0 := sumTo_zero _ _ (fun i _ _ => by simp [h i])
theorem sh_none {f : Int} (h : sh P f = 0) (hok : PgOk n P) (hf : f ≠ -1) (a : Int) : frm P a ≠ f := by
  intro e
  have := sh_pos (a := a) hok (by rw [e]; exact hf)
  rw [e] at this; omega
theorem sh_one {f : Int} (hok : PgOk n P) (hf : f ≠ -1) (h : sh P f ≤ 1) {a a' : Int} (e : frm P a = f) (e' : frm P a' = f) : a = a' := by
  apply Classical.byContradiction; intro hne
  obtain ⟨p, hp, _⟩ := frm_key (P := P) (a := a) (by rw [e]; exact hf)
  obtain ⟨p', hp', _⟩ := frm_key (P := P) (a := a') (by rw [e']; exact hf)
  have hk := hok.key a (by rw [hp]; rfl)
  have hk' := hok.key a' (by rw [hp']; rfl)
  have h1 := sh_put (P := P) hk.1 hk.2 (1, -1) f
  have hnf : ¬ (-1 : Int) = f := fun e => hf e.symm
  rw [if_pos e, if_neg hnf] at h1
  have h2 := sumTo_at (g := fun i : Nat => if frm (putP P a (1, -1)) i = f then 1 else 0) (m := 64) (j := a'.toNat) (by omega)
  have ea : ((a'.toNat : Nat) : Int) = a' := by omega
  have hne' : ¬ a' = a := fun h => hne h.symm
  simp only [ea, frm_put, if_neg hne', e', if_true] at h2
  have h3 : 1 ≤ sh (putP P a (1, -1)) f := by unfold sh; simp only [frm_put]; exact h2
  omega

theorem lenP_put_old {p : Int × Int} (h : (P a).isSome = true) : lenP (putP P a p) = lenP P := sumTo_congr _ _ (fun i _ _ => by
  unfold putP; by_cases e : (i : Int) = a
  · simp [e, h]
  · simp [e])
theorem lenP_put_new {p : Int × Int} (h0 : 0 ≤ a) (h1 : a < 64) (h : P a = none) : lenP (putP P a p) = lenP P + 1 := by
  have ea : ((a.toNat : Nat) : Int) = a := by omega
  refine sumTo_set (f := a.toNat) ?_ (fun i hi => ?_) 64 0 (by omega) (by omega)
  · simp [putP, ea, h]
  · have : ¬ (i : Int) = a := by omega
    simp [putP, this]
theorem lenP_del (h0 : 0 ≤ a) (h1 : a < 64) (h : (P a).isSome = true) : lenP (delP P a) + 1 = lenP P := by
  have ea : ((a.toNat : Nat) : Int) = a := by omega
  refine (sumTo_set (f := a.toNat) (d := 1) ?_ (fun i hi => ?_) 64 0 (by omega) (by omega)).symm
  · simp [delP, ea, h]
  · have : ¬ (i : Int) = a := by omega
    simp [delP, this]
theorem lenP_le (P : PM) : lenP P ≤ 64 := by
  have := sumTo_const_le (g := fun a : Nat => if (P a).isSome then 1 else 0) (d := 1) 64 0 (fun i => by split <;> omega)
  unfold lenP; omega
theorem resP_le (P : PM) : resP P ≤ 64 := by
  have := sumTo_const_le (g := fun a : Nat => if frm P a = -1 then 0 else 1) (d := 1) 64 0 (fun i => by split <;> omega)
  unfold resP; omega
theorem lenP_none : lenP (fun _ => none) = 0 := sumTo_zero _ _ (fun _ _ _ => rfl)
theorem resP_none : resP (fun _ => none) = 0 := sumTo_zero _ _ (fun _ _ _ => rfl)
theorem sh_empty {f : Int} (hf : 0 ≤ f) : sh (fun _ => none) f = 0 := sh_zero hf (fun a => by show (-1 : Int) ≠ f; omega)
end

section
variable {n : Nat} {P : PM} {a : Int}
theorem PgOk.none (n : Nat) : PgOk n (fun _ => none) := ⟨fun a h => (by cases h), fun a p h => (by cases h), fun a => .inl rfl⟩
theorem PgOk.put (h : PgOk n P) (h0 : 0 ≤ a) (h1 : a < 64) {p : Int × Int} (hp : 1 ≤ p.1 ∧ p.1 ≤ 3) (hf : p.2 = -1 ∨ (0 ≤ p.2 ∧ p.2 < (n : Int))) : PgOk n (putP P a p) := by
  refine ⟨fun x hx => ?_, fun x q hq => ?_, fun x => ?_⟩
  · unfold putP at hx; split at hx
    · rename_i e; rw [e]; exact ⟨h0, h1⟩
    · exact h.key x hx
  · unfold putP at hq; split at hq
    · cases hq; exact hp
    · exact h.prot x q hq
  · rw [frm_put]; split
    · exact hf
    · exact h.frame x
theorem PgOk.del (h : PgOk n P) : PgOk n (delP P a) := by
  refine ⟨fun x hx => ?_, fun x q hq => ?_, fun x => ?_⟩
  · unfold delP at hx; split at hx
    · cases hx
    · exact h.key x hx
  · unfold delP at hq; split at hq
    · cases hq
    · exact h.prot x q hq
  · rw [frm_del]; split
    · exact .inl rfl
    · exact h.frame x

/-- No two pages of a space have one frame. -/
def Dis (P : PM) : Prop := ∀ f, 0 ≤ f → sh P f ≤ 1
theorem Dis.none : Dis (fun _ => none) := fun f hf => by rw [sh_empty hf]; omega
theorem Dis.del (h : Dis P) (h0 : 0 ≤ a) (h1 : a < 64) : Dis (delP P a) := fun f hf => by
  have := sh_del (P := P) h0 h1 hf; have := h f hf; omega
theorem Dis.put (h : Dis P) (h0 : 0 ≤ a) (h1 : a < 64) {p : Int × Int} (hn : p.2 = -1 ∨ sh P p.2 = 0 ∨ frm P a = p.2) : Dis (putP P a p) := fun f hf => by
  have h2 := sh_put (P := P) h0 h1 p f
  have h3 := h f hf
  by_cases e : p.2 = f
  · subst e
    rcases hn with hn | hn | hn
    · omega
    · rw [hn] at h2; simp at h2; omega
    · rw [if_pos hn] at h2; simp at h2; omega
  · rw [if_neg e] at h2; omega
end

/-- The frames of a space, one by one. -/
theorem res_sum {n : Nat} {P : PM} (h : PgOk n P) : resP P = sumTo (fun f => sh P f) 0 n := by
  unfold resP sh
  rw [← sumTo_swap (fun a f => if frm P (a : Nat) = ((f : Nat) : Int) then 1 else 0) n 64 0 0]
  refine sumTo_congr _ _ (fun i _ _ => ?_)
  rcases h.frame i with e | ⟨h1, h2⟩
  · rw [if_pos e, sumTo_zero]
    intro j _ _
    have : ¬ frm P i = (j : Int) := by omega
    simp [this]
  · have : ¬ frm P i = -1 := by omega
    rw [if_neg this]
    have ef : (((frm P i).toNat : Nat) : Int) = frm P i := by omega
    have h3 := sumTo_set (g := fun _ => 0) (h := fun f : Nat => if frm P i = (f : Int) then 1 else 0) (f := (frm P i).toNat) (d := 1) (by simp [ef]) (fun j hj => by
      have : ¬ frm P i = (j : Int) := by omega
      simp [this]) n 0 (by omega) (by omega)
    rw [sumTo_zero n 0 (fun _ _ _ => rfl)] at h3
    exact h3.symm
end Go.Proofs.YtemomohijidmpaaGreatDoor

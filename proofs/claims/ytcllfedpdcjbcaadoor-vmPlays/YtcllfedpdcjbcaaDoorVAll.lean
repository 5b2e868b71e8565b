/- Package vm: several spaces over one store. -/
import Derived.Test.YtcllfedpdcjbcaaDoorVStep
import Derived.Test.YtcllfedpdcjbcaaDoorVFork
import Derived.Test.YtcllfedpdcjbcaaDoorVNew
namespace Go.Proofs.YtcllfedpdcjbcaaDoor
open Go.RowKit Go.Shelf Go.Lib Go.Sort Go.Maps

/-- Where a space lies, where its pages lie, and these. -/
abbrev Sq := Nat × Nat × PM
def totS (L : List Sq) (f : Int) : Nat := (L.map fun x => sh x.2.2 f).sum

theorem totS_set {L : List Sq} {i : Nat} (hi : i < L.length) (x : Sq) (f : Int) : totS (L.set i x) f + sh L[i].2.2 f = totS L f + sh x.2.2 f := by
  unfold totS
  induction L generalizing i with
  | nil => cases hi
  | cons y r ih =>
    cases i with
    | zero => simp; omega
    | succ i =>
      have := ih (i := i) (by simpa using hi)
      simp at this ⊢; omega
theorem totS_at {L : List Sq} {i : Nat} (hi : i < L.length) (f : Int) : sh L[i].2.2 f ≤ totS L f := by
  unfold totS
  induction L generalizing i with
  | nil => cases hi
  | cons y r ih =>
    cases i with
    | zero => simp
    | succ i =>
      have := ih (i := i) (by simpa using hi)
      simp at this ⊢; omega
theorem totS_app (L : List Sq) (x : Sq) (f : Int) : totS (L ++ [x]) f = totS L f + sh x.2.2 f := by unfold totS; simp
theorem totS_le {L : List Sq} {f : Int} (h : ∀ x ∈ L, sh x.2.2 f ≤ 1) : totS L f ≤ L.length := by
  unfold totS
  induction L with
  | nil => simp
  | cons y r ih =>
    have h1 := h y (by simp)
    have h2 := ih (fun x hx => h x (by simp [hx]))
    simp at h2 ⊢; omega

/-- What the others have. -/
def oth (L : List Sq) (i : Nat) (hi : i < L.length) (f : Int) : Nat := totS L f - sh L[i].2.2 f
theorem oth_add {L : List Sq} {i : Nat} (hi : i < L.length) (f : Int) : sh L[i].2.2 f + oth L i hi f = totS L f := by
  have := totS_at hi f; unfold oth; omega

structure Al (E : St) (w : World) (D : Nat → Nat → Int) (A : Nat → Prop) (L : List Sq) : Prop where
  sp : ∀ i (hi : i < L.length), VS E w L[i].1 L[i].2.1 D A L[i].2.2 (oth L i hi)
  apart : ∀ i j (hi : i < L.length) (hj : j < L.length), L[i].2.1 = L[j].2.1 → i = j
  pos : 0 < L.length

def aown (E : St) (A : Nat → Prop) (L : List Sq) (i : Nat) : Prop := vown E A i ∨ ∃ x ∈ L, i = x.2.1

def ATurn (E : St) (w : World) (A : Nat → Prop) (L : List Sq) (w' : World) (D : Nat → Nat → Int) (L' : List Sq) : Prop :=
  ∃ A', Al E w' D A' L' ∧ Fr (aown E A L) w w' ∧ ∀ i, i < w.heap.size → aown E A' L' i → aown E A L i

section
variable {E : St} {w w' : World} {D D' : Nat → Nat → Int} {A : Nat → Prop} {L : List Sq}

theorem rof_oth {i : Nat} (hi : i < L.length) : Rof (fun f => sh L[i].2.2 f + oth L i hi f) = Rof (totS L) := Rof_congr (fun x _ => oth_add hi x)
theorem Al.st (h : Al E w D A L) : Vs E w D (Rof (totS L)) A := by
  have := (h.sp 0 h.pos).st
  rwa [rof_oth] at this
theorem Al.below (h : Al E w D A L) (hb : Below w.heap.size w w') : Al E w' D A L := ⟨fun i hi => (h.sp i hi).below hb, h.apart, h.pos⟩
theorem Al.olt (h : Al E w D A L) {i : Nat} (ho : aown E A L i) : i < w.heap.size := by
  rcases ho with ho | ⟨x, hx, rfl⟩
  · exact h.st.olt ho
  · obtain ⟨j, hj, rfl⟩ := List.mem_iff_getElem.1 hx
    exact (h.sp j hj).sp.glt
theorem ATurn.refl (h : Al E w D A L) : ATurn E w A L w D L := ⟨A, h, Fr.refl _ _, fun _ _ h => h⟩
theorem ATurn.below (h : Al E w D A L) (hb : Below w.heap.size w w') : ATurn E w A L w' D L := ⟨A, h.below hb, fr_below hb, fun _ _ h => h⟩
theorem ATurn.trans {w1 w2 : World} {A1 : Nat → Prop} {L1 L2 : List Sq} {D2 : Nat → Nat → Int} (f1 : Fr (aown E A L) w w1) (s1 : ∀ i, i < w.heap.size → aown E A1 L1 i → aown E A L i) (t : ATurn E w1 A1 L1 w2 D2 L2) : ATurn E w A L w2 D2 L2 := by
  obtain ⟨A', v, f, s⟩ := t
  exact ⟨A', v, f1.trans f (fun i hi ho => s1 i hi ho), fun i hi ho => s1 i hi (s i (Nat.lt_of_lt_of_le hi f1.size) ho)⟩

theorem oth_set_same {i : Nat} (hi : i < L.length) (x : Sq) (f : Int) : oth (L.set i x) i (by simpa using hi) f = oth L i hi f := by
  have := totS_set hi x f
  have := totS_at hi f
  unfold oth; simp; omega

/-- One space turned; all stay beside each other. -/
theorem Al.turn (h : Al E w D A L) {i : Nat} (hi : i < L.length) {P' : PM} (t : STurn E w L[i].1 L[i].2.1 A w' D' P' (oth L i hi)) : ATurn E w A L w' D' (L.set i (L[i].1, L[i].2.1, P')) := by
  obtain ⟨A', v, f, s⟩ := t
  have hl : (L.set i (L[i].1, L[i].2.1, P')).length = L.length := by simp
  have vi := h.sp i hi
  have hown : ∀ j, j < w.heap.size → vown E A' j → vown E A j := fun j hj ho => by
    rcases ho with ho | ho
    · exact .inl (s j hj ho)
    · exact .inr ho
  have hvt : Rof (fun f => sh P' f + oth L i hi f) = Rof (totS (L.set i (L[i].1, L[i].2.1, P'))) := Rof_congr (fun x _ => by
    have h1 := totS_set hi (L[i].1, L[i].2.1, P') x
    have h2 := totS_at hi x
    unfold oth; simp only at h1; omega)
  refine ⟨A', ⟨fun j hj => ?_, fun j k hj hk e => ?_, by rw [hl]; exact h.pos⟩, f.mono (fun j _ ho => ?_), fun j hj ho => ?_⟩
  · by_cases e : j = i
    · subst e
      have e1 : (L.set j (L[j].1, L[j].2.1, P'))[j] = (L[j].1, L[j].2.1, P') := by simp
      rw [e1]
      have : (oth (L.set j (L[j].1, L[j].2.1, P')) j hj) = oth L j hi := by funext z; exact oth_set_same hi _ z
      rw [this]; exact v
    · have hj' : j < L.length := by simpa using hj
      have e1 : (L.set i (L[i].1, L[i].2.1, P'))[j] = L[j] := by simp [Ne.symm e]
      have vj := h.sp j hj'
      rw [e1]
      have hgj : L[j].2.1 ≠ L[i].2.1 := fun he => e (h.apart j i hj' hi he)
      have hcj : L[j].1 ≠ L[i].2.1 := fun he => by
        obtain ⟨es, cl, hm⟩ := vi.sp.map.isMap
        rw [← he, vj.sp.head] at hm; cases hm
      refine ⟨?_, vj.sp.keep (f.block _ vj.sp.lt (fun ho => ?_)) (f.block _ vj.sp.glt (fun ho => ?_)), vj.ok, vj.dis, fun ho => vj.offc (hown _ vj.sp.lt ho), fun ho => vj.offg (hown _ vj.sp.glt ho), vj.gb, vj.gm⟩
      · have hR : Rof (fun f => sh L[j].2.2 f + oth (L.set i (L[i].1, L[i].2.1, P')) j hj f) = Rof (totS (L.set i (L[i].1, L[i].2.1, P'))) := Rof_congr (fun x _ => by
          have := oth_add hj x; rw [e1] at this; exact this)
        rw [hR, ← hvt]; exact v.st
      · rcases ho with ho | ho
        · exact vj.offc ho
        · exact hcj ho
      · rcases ho with ho | ho
        · exact vj.offg ho
        · exact hgj ho
  · have hj' : j < L.length := by simpa using hj
    have hk' : k < L.length := by simpa using hk
    refine h.apart j k hj' hk' ?_
    have g : ∀ m (hm : m < L.length), (L.set i (L[i].1, L[i].2.1, P'))[m]'(by simpa using hm) = if i = m then (L[i].1, L[i].2.1, P') else L[m] := fun m hm => by rw [List.getElem_set]
    rw [g j hj', g k hk'] at e
    by_cases e1 : i = j <;> by_cases e2 : i = k
    · subst e1; subst e2; rfl
    · subst e1; simpa [e2] using e
    · subst e2; simpa [e1] using e
    · simpa [e1, e2] using e
  · rcases ho with ho | ho
    · exact .inl ho
    · exact .inr ⟨L[i], List.getElem_mem hi, ho⟩
  · rcases ho with ho | ⟨x, hx, rfl⟩
    · exact .inl (hown j hj ho)
    · rcases List.mem_or_eq_of_mem_set hx with hx | rfl
      · exact .inr ⟨x, hx, rfl⟩
      · exact .inr ⟨L[i], List.getElem_mem hi, rfl⟩

/-- A fork of one; all stay beside each other. -/
theorem Al.forked (h : Al E w D A L) {i : Nat} (hi : i < L.length) {c' : Nat} (t : FTurn E w L[i].1 L[i].2.1 c' A w' D L[i].2.2 (oth L i hi)) : ∃ gc', ATurn E w A L w' D (L ++ [(c', gc', L[i].2.2)]) ∧ w.heap.size ≤ c' := by
  obtain ⟨gc', A', v, v', f, s, lc, lg⟩ := t
  have hown : ∀ j, j < w.heap.size → vown E A' j → vown E A j := fun j hj ho => by
    rcases ho with ho | ho
    · exact .inl (s j hj ho)
    · exact .inr ho
  have hvt : Rof (fun f => sh L[i].2.2 f + (oth L i hi f + sh L[i].2.2 f)) = Rof (totS (L ++ [(c', gc', L[i].2.2)])) := Rof_congr (fun x _ => by
    have h1 := totS_app L (c', gc', L[i].2.2) x
    have h2 := oth_add hi x
    simp only at h1; omega)
  have hst : Vs E w' D (Rof (totS (L ++ [(c', gc', L[i].2.2)]))) A' := by rw [← hvt]; exact v.st
  refine ⟨gc', ⟨A', ⟨fun j hj => ?_, fun j k hj hk e => ?_, by simp⟩, f.mono (fun j _ ho => .inl ho), fun j hj ho => ?_⟩, lc⟩
  · have hR : Rof (fun f => sh (L ++ [(c', gc', L[i].2.2)])[j].2.2 f + oth (L ++ [(c', gc', L[i].2.2)]) j hj f) = Rof (totS (L ++ [(c', gc', L[i].2.2)])) := rof_oth hj
    by_cases e : j < L.length
    · have e1 : (L ++ [(c', gc', L[i].2.2)])[j] = L[j] := by rw [List.getElem_append_left e]
      have vj := h.sp j e
      rw [e1] at hR ⊢
      exact ⟨by rw [hR]; exact hst, vj.sp.keep (f.block _ vj.sp.lt vj.offc) (f.block _ vj.sp.glt vj.offg), vj.ok, vj.dis, fun ho => vj.offc (hown _ vj.sp.lt ho), fun ho => vj.offg (hown _ vj.sp.glt ho), vj.gb, vj.gm⟩
    · have ej : j = L.length := by simp at hj; omega
      subst ej
      have e1 : (L ++ [(c', gc', L[i].2.2)])[L.length] = (c', gc', L[i].2.2) := by simp
      rw [e1] at hR ⊢
      exact ⟨by rw [hR]; exact hst, v'.sp, v'.ok, v'.dis, v'.offc, v'.offg, v'.gb, v'.gm⟩
  · have g : ∀ m (hm : m < L.length), (L ++ [(c', gc', L[i].2.2)])[m]'(by simp; omega) = L[m] := fun m hm => by rw [List.getElem_append_left hm]
    have lt : ∀ m (hm : m < L.length), L[m].2.1 < w.heap.size := fun m hm => (h.sp m hm).sp.glt
    have g' : ∀ m (hm : m < (L ++ [(c', gc', L[i].2.2)]).length), ¬ m < L.length → (L ++ [(c', gc', L[i].2.2)])[m] = (c', gc', L[i].2.2) := fun m hm hn => by
      have : m = L.length := by simp at hm; omega
      subst this; simp
    by_cases e1 : j < L.length <;> by_cases e2 : k < L.length
    · rw [g j e1, g k e2] at e; exact h.apart j k e1 e2 e
    · rw [g j e1, g' k hk e2] at e; have := lt j e1; simp only at e; omega
    · rw [g' j hj e1, g k e2] at e; have := lt k e2; simp only at e; omega
    · simp at hj hk; omega
  · rcases ho with ho | ⟨x, hx, rfl⟩
    · exact .inl (hown j hj ho)
    · rcases List.mem_append.1 hx with hx | hx
      · exact .inr ⟨x, hx, rfl⟩
      · simp at hx; subst hx; simp only at hj; omega

theorem Al.left (h : Al E w D A L) : Calls Tryd.prog 75 #[vp E.b] w fun e w' => e = .returned (.int .i64 ((E.n - used (totS L) E.n : Nat) : Int)) ∧ w' = w := h.st.left
theorem Al.oth_le (h : Al E w D A L) (hl : L.length ≤ 50) {i : Nat} (hi : i < L.length) : ∀ f, 0 ≤ f → oth L i hi f ≤ 100 := fun f hf => by
  have h1 := oth_add hi f
  have h2 := totS_le (L := L) (f := f) (fun x hx => by
    obtain ⟨j, hj, rfl⟩ := List.mem_iff_getElem.1 hx
    exact (h.sp j hj).dis f hf)
  omega
theorem Al.fork_ok (h : Al E w D A L) (hl : L.length ≤ 50) {i : Nat} (hi : i < L.length) : Calls Tryd.prog 68 #[vp L[i].1] w fun e w' => ∃ c', e = .returned (vp c') ∧ ∃ gc', ATurn E w A L w' D (L ++ [(c', gc', L[i].2.2)]) ∧ w.heap.size ≤ c' := by
  refine ((h.sp i hi).fork_ok (h.oth_le hl hi)).mono ?_
  rintro e w' ⟨c', he, t⟩
  exact ⟨c', he, h.forked hi t⟩

/-- A store, and its first space. -/
theorem Al.first {c gc : Nat} (h : VS E w c gc D A (fun _ => none) (fun _ => 0)) : Al E w D A [(c, gc, fun _ => none)] := by
  refine ⟨fun i hi => ?_, fun i j hi hj _ => by simp at hi hj; omega, by simp⟩
  have : i = 0 := by simp at hi; omega
  subst this
  have e : oth [(c, gc, fun _ => none)] 0 hi = fun _ => 0 := by funext f; simp [oth, totS]
  rw [e]; exact h

theorem used_le (t : Int → Nat) (n : Nat) : used t n ≤ n := num_le _ _
theorem used_congr {t t' : Int → Nat} {n : Nat} (h : ∀ x, 0 ≤ x → t x = t' x) : used t n = used t' n := by unfold used; rw [Rof_congr h]
theorem used_zero (n : Nat) : used (fun _ => 0) n = 0 := num_rof n
theorem used_eq (t : Int → Nat) (n : Nat) : used t n = sumTo (fun f => if t f = 0 then 0 else 1) 0 n := by
  unfold used num; refine sumTo_congr _ _ (fun i _ _ => ?_)
  by_cases e : t (i : Int) = 0 <;> simp [Rof, e]
theorem used_iff {t t' : Int → Nat} {n : Nat} (h : ∀ x, 0 ≤ x → (t x = 0 ↔ t' x = 0)) : used t n = used t' n := by
  rw [used_eq, used_eq]; refine sumTo_congr _ _ (fun i _ _ => ?_)
  by_cases e : t (i : Int) = 0
  · rw [if_pos e, if_pos ((h i (by omega)).1 e)]
  · rw [if_neg e, if_neg (fun e' => e ((h i (by omega)).2 e'))]
end
end Go.Proofs.YtcllfedpdcjbcaaDoor

/- Who goes, plainly: what one weighs; who weighs most. -/
import Derived.WalkKit
namespace Go.Proofs.Ytgbdoeopgdhgoac
open Go.RowKit

/-- One that may go. -/
structure Cd where
  pid : Int
  res : Int
  adj : Int
def clp (lo hi x : Int) : Int := if x < lo then lo else if hi < x then hi else x
def wgt (c : Cd) : Int := clp 0 1000 c.res * (100 + clp (-100) 100 c.adj)
theorem clp_in (lo hi x : Int) (h : lo ≤ hi) : lo ≤ clp lo hi x ∧ clp lo hi x ≤ hi := by
  unfold clp; split
  · omega
  · split <;> omega
theorem clp_mono (lo hi : Int) {x y : Int} (h : x ≤ y) (hl : lo ≤ hi) : clp lo hi x ≤ clp lo hi y := by
  unfold clp
  (repeat' split) <;> omega
theorem wgt_in (c : Cd) : 0 ≤ wgt c ∧ wgt c ≤ 200000 := by
  have h1 := clp_in 0 1000 c.res (by omega)
  have h2 := clp_in (-100) 100 c.adj (by omega)
  unfold wgt
  generalize clp 0 1000 c.res = r at *
  generalize clp (-100) 100 c.adj = a at *
  refine ⟨Int.mul_nonneg h1.1 (by omega), ?_⟩
  calc r * (100 + a) ≤ 1000 * (100 + a) := Int.mul_le_mul_of_nonneg_right h1.2 (by omega)
    _ ≤ 200000 := by omega
theorem wgt_pos {c : Cd} : 0 < wgt c ↔ 0 < c.res ∧ -100 < c.adj := by
  unfold wgt
  have h1 := clp_in 0 1000 c.res (by omega)
  have h2 := clp_in (-100) 100 c.adj (by omega)
  have e1 : 0 < clp 0 1000 c.res ↔ 0 < c.res := by unfold clp; split <;> (try split) <;> omega
  have e2 : 0 < 100 + clp (-100) 100 c.adj ↔ -100 < c.adj := by unfold clp; split <;> (try split) <;> omega
  rw [← e1, ← e2]
  generalize clp 0 1000 c.res = r at *
  generalize 100 + clp (-100) 100 c.adj = a at *
  constructor
  · intro h
    constructor
    · apply Classical.byContradiction; intro z
      have : r = 0 := by omega
      rw [this, Int.zero_mul] at h; omega
    · apply Classical.byContradiction; intro z
      have : a ≤ 0 := by omega
      have := Int.mul_nonpos_of_nonneg_of_nonpos h1.1 this
      omega
  · rintro ⟨h3, h4⟩; exact Int.mul_pos h3 h4
theorem wgt_mono {c d : Cd} (h : c.res ≤ d.res) (ha : c.adj = d.adj) : wgt c ≤ wgt d := by
  unfold wgt
  rw [ha]
  have h2 := clp_in (-100) 100 d.adj (by omega)
  exact Int.mul_le_mul_of_nonneg_right (clp_mono 0 1000 h (by omega)) (by omega)
/-- One more is looked at. -/
def vstep (s : Int × Int) (c : Cd) : Int × Int := if s.1 < wgt c ∨ (wgt c = s.1 ∧ 0 < wgt c ∧ s.2 < c.pid) then (wgt c, c.pid) else s
def vic (L : List Cd) : Int × Int := L.foldl vstep (0, 0)
/-- Who goes, told without an order. -/
structure Vic (L : List Cd) (b p : Int) : Prop where
  all : ∀ c ∈ L, wgt c ≤ b
  who : (b = 0 ∧ p = 0) ∨ (0 < b ∧ ∃ c ∈ L, wgt c = b ∧ c.pid = p)
  top : 0 < b → ∀ c ∈ L, wgt c = b → c.pid ≤ p
section
variable {L L' : List Cd} {b p b' p' : Int} {c : Cd}
theorem Vic.nn (h : Vic L b p) : 0 ≤ b := by rcases h.who with ⟨e, _⟩ | ⟨e, _⟩ <;> omega
theorem Vic.one (h : Vic L b p) (h' : Vic L b' p') : b = b' ∧ p = p' := by
  have n1 := h.nn
  have n2 := h'.nn
  rcases h.who with ⟨e1, e2⟩ | ⟨e1, c, hc, e2, e3⟩
  · rcases h'.who with ⟨f1, f2⟩ | ⟨f1, d, hd, f2, f3⟩
    · omega
    · have := h.all d hd; omega
  · rcases h'.who with ⟨f1, f2⟩ | ⟨f1, d, hd, f2, f3⟩
    · have := h'.all c hc; omega
    · have a1 := h.all d hd
      have a2 := h'.all c hc
      have hb : b = b' := by omega
      have a3 := h.top e1 d hd (by omega)
      have a4 := h'.top f1 c hc (by omega)
      exact ⟨hb, by omega⟩
theorem Vic.perm (h : Vic L b p) (hm : ∀ c, c ∈ L' ↔ c ∈ L) : Vic L' b p := by
  refine ⟨fun c hc => h.all c ((hm c).1 hc), ?_, fun h0 c hc => h.top h0 c ((hm c).1 hc)⟩
  rcases h.who with e | ⟨e1, c, hc, e2⟩
  · exact .inl e
  · exact .inr ⟨e1, c, (hm c).2 hc, e2⟩
theorem Vic.step (h : Vic L b p) : Vic (L ++ [c]) (vstep (b, p) c).1 (vstep (b, p) c).2 := by
  have n := h.nn
  have nw := (wgt_in c).1
  unfold vstep
  split
  · rename_i hc
    refine ⟨fun d hd => ?_, .inr ⟨by simp only at hc ⊢; omega, c, by simp, rfl, rfl⟩, fun h0 d hd e => ?_⟩
    · rcases List.mem_append.1 hd with hd | hd
      · have := h.all d hd; simp only at hc ⊢; omega
      · rw [List.mem_singleton.1 hd]; exact Int.le_refl _
    · rcases List.mem_append.1 hd with hd | hd
      · have a1 := h.all d hd
        simp only at hc e h0 ⊢
        rcases hc with hc | ⟨hc1, hc2, hc3⟩
        · omega
        · have := h.top (by omega) d hd (by omega); omega
      · rw [List.mem_singleton.1 hd]; exact Int.le_refl _
  · rename_i hc
    simp only at hc
    refine ⟨fun d hd => ?_, ?_, fun h0 d hd e => ?_⟩
    · rcases List.mem_append.1 hd with hd | hd
      · exact h.all d hd
      · rw [List.mem_singleton.1 hd]; simp only; omega
    · rcases h.who with e | ⟨e1, d, hd, e2⟩
      · exact .inl e
      · exact .inr ⟨e1, d, List.mem_append_left _ hd, e2⟩
    · rcases List.mem_append.1 hd with hd | hd
      · exact h.top h0 d hd e
      · have e9 := List.mem_singleton.1 hd
        subst e9
        simp only at e h0 ⊢
        omega
theorem Vic.nil : Vic [] 0 0 := ⟨fun c h => by simp at h, .inl ⟨rfl, rfl⟩, fun h => by omega⟩
theorem Vic.fold : ∀ {L M : List Cd} {s : Int × Int}, Vic M s.1 s.2 → Vic (M ++ L) (L.foldl vstep s).1 (L.foldl vstep s).2
  | [], M, s, h => by rw [List.append_nil]; exact h
  | c :: L, M, s, h => by
    rw [List.foldl_cons, show M ++ c :: L = (M ++ [c]) ++ L by simp]
    exact Vic.fold h.step
theorem vic_ok (L : List Cd) : Vic L (vic L).1 (vic L).2 := by
  have := Vic.fold (L := L) (M := []) (s := (0, 0)) Vic.nil
  rwa [List.nil_append] at this
theorem vic_perm (hm : ∀ c, c ∈ L' ↔ c ∈ L) : vic L' = vic L := by
  have := ((vic_ok L).perm hm).one (vic_ok L')
  exact Prod.ext this.1.symm this.2.symm
theorem vic_snoc (L : List Cd) (c : Cd) : vic (L ++ [c]) = vstep (vic L) c := by
  unfold vic; rw [List.foldl_append]; rfl
/-- Nobody goes: nobody weighs anything. -/
theorem vic_none (h : (vic L).1 ≤ 0) : (vic L).2 = 0 ∧ ∀ c ∈ L, ¬ (0 < c.res ∧ -100 < c.adj) := by
  have hv := vic_ok L
  refine ⟨?_, fun c hc z => ?_⟩
  · rcases hv.who with ⟨_, e⟩ | ⟨e, _⟩
    · exact e
    · omega
  · have := wgt_pos.2 z
    have := hv.all c hc
    omega
/-- All have numbers of their own. -/
def Apt (L : List Cd) : Prop := (L.map (·.pid)).Nodup
theorem Apt.same (h : Apt L) {i j : Nat} (hi : i < L.length) (hj : j < L.length) (e : L[i].pid = L[j].pid) : i = j := by
  have := (List.getElem_inj (i := i) (j := j) (h₀ := by simpa using hi) (h₁ := by simpa using hj) h).1 (by simpa using e)
  exact this
/-- Who goes, by its place. -/
theorem vic_at (h : 0 < (vic L).1) : ∃ k, ∃ hk : k < L.length, L[k].pid = (vic L).2 ∧ wgt L[k] = (vic L).1 := by
  rcases (vic_ok L).who with ⟨e, _⟩ | ⟨_, c, hc, e1, e2⟩
  · omega
  · obtain ⟨k, hk, rfl⟩ := List.getElem_of_mem hc
    exact ⟨k, hk, e2, e1⟩
/-- One that has more. -/
def addR (c : Cd) (d : Int) : Cd := ⟨c.pid, c.res + d, c.adj⟩
/-- With more it goes yet. -/
theorem vic_more {k : Nat} (hk : k < L.length) (ha : Apt L) (hp : L[k].pid = (vic L).2) (h0 : 0 < (vic L).1) (d : Int) (hd : 0 ≤ d) : (vic (L.set k (addR L[k] d))).2 = (vic L).2 := by
  have hv := vic_ok L
  obtain ⟨j, hj, e1, e2⟩ := vic_at h0
  have hjk : j = k := ha.same hj hk (by rw [e1, hp])
  subst hjk
  have hw : wgt L[j] ≤ wgt (addR L[j] d) := wgt_mono (by show L[j].res ≤ L[j].res + d; omega) rfl
  have hV : Vic (L.set j (addR L[j] d)) (wgt (addR L[j] d)) (vic L).2 := by
    refine ⟨fun c hc => ?_, .inr ⟨by omega, _, List.mem_set hj _, rfl, hp⟩, fun _ c hc e => ?_⟩
    · obtain ⟨i, hi, rfl⟩ := List.getElem_of_mem hc
      rw [List.getElem_set]
      split
      · exact Int.le_refl _
      · have hi' : i < L.length := by simpa using hi
        have := hv.all L[i] (List.getElem_mem hi'); omega
    · obtain ⟨i, hi, rfl⟩ := List.getElem_of_mem hc
      rw [List.getElem_set] at e ⊢
      split
      · exact Int.le_of_eq hp
      · rename_i hne
        rw [if_neg hne] at e
        have hi' : i < L.length := by simpa using hi
        have h1 := hv.all L[i] (List.getElem_mem hi')
        exact hv.top h0 L[i] (List.getElem_mem hi') (by omega)
  exact ((vic_ok _).one hV).2
/-- Without it another one goes, or none. -/
theorem vic_less {k : Nat} (hk : k < L.length) (ha : Apt L) (hp : L[k].pid = (vic L).2) (hq : 0 < (vic (L.take k ++ L.drop (k + 1))).1) : (vic (L.take k ++ L.drop (k + 1))).2 ≠ (vic L).2 := fun e => by
  obtain ⟨j, hj, e1, _⟩ := vic_at hq
  have hm : (L.take k ++ L.drop (k + 1))[j] ∈ L.take k ++ L.drop (k + 1) := List.getElem_mem hj
  generalize (L.take k ++ L.drop (k + 1))[j] = c at *
  rcases List.mem_append.1 hm with z | z
  · obtain ⟨i, hi, rfl⟩ := List.getElem_of_mem z
    rw [List.getElem_take] at e1
    rw [List.length_take] at hi
    have := ha.same (i := i) (by omega) hk (by rw [e1, e, hp])
    omega
  · obtain ⟨i, hi, rfl⟩ := List.getElem_of_mem z
    rw [List.getElem_drop] at e1
    rw [List.length_drop] at hi
    have := ha.same (i := k + 1 + i) (by omega) hk (by rw [e1, e, hp])
    omega
end
end Go.Proofs.Ytgbdoeopgdhgoac

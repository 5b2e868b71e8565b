/- The statements' own 'use', by its Go text; what comes of it. -/
import Derived.Test.YtemomohijidmpaaGreatDoorVAll
namespace Go.Proofs.YtemomohijidmpaaGreatDoor
open Go.RowKit Go.Shelf Go.Lib Go.Sort Go.Maps

structure Us where
  what : Int
  at_ : Int
  n : Int
  prot : Int
  v : Int

abbrev Us.val (x : Us) : Value := .agg #[.int .i64 x.what, .int .i64 x.at_, .int .i64 x.n, .int .i64 x.prot, .int .i64 x.v]
def Us.ok (x : Us) : Prop := (Lit.int .i64 x.at_).wf = true ∧ (Lit.int .i64 x.n).wf = true

/-- What one use tells, and makes. -/
def UseR (n : Nat) (P : PM) (o : Int → Nat) (D : Nat → Nat → Int) (x : Us) (er : Int) (P' : PM) (D' : Nat → Nat → Int) : Prop :=
  (x.what = 0 ∧ er = mapE P x.at_ x.n x.prot ∧ P' = mapP P x.at_ x.n x.prot ∧ D' = D) ∨
  (x.what = 1 ∧ er = unE P x.at_ x.n ∧ P' = unP P x.at_ x.n ∧ D' = D) ∨
  (x.what = 2 ∧ er = proE P x.at_ x.n x.prot ∧ P' = proP P x.at_ x.n x.prot ∧ D' = D) ∨
  (x.what = 3 ∧ StR n P o D x.at_ x.n x.v er P' D') ∨
  ((x.what < 0 ∨ 3 < x.what) ∧ er = 0 ∧ P' = P ∧ D' = D)

theorem wf_max {n : Int} (h : (Lit.int .i64 n).wf = true) : n ≤ 9223372036854775807 := by
  have b : IntKind.max .i64 = 9223372036854775807 := rfl
  simp only [Lit.wf, b, Bool.and_eq_true, decide_eq_true_eq] at h; omega

section
variable {E : St} {w w' : World} {c gc : Nat} {D : Nat → Nat → Int} {A : Nat → Prop} {P : PM} {o : Int → Nat}

set_option maxRecDepth 100000 in
set_option maxHeartbeats 4000000 in
theorem VS.use_ok (h : VS E w c gc D A P o) (x : Us) (hx : x.ok) : Calls Tryz.prog 8 #[vp c, x.val] w fun e w' => ∃ er P' D', UseR E.n P o D x er P' D' ∧ e = .returned (errV er) ∧ STurn E w c gc A w' D' P' o := by
  obtain ⟨hwa, hwn⟩ := hx
  have bA : Below w.heap.size w (w.alloc (.cells #[.int .i64 x.what, .int .i64 x.at_, .int .i64 x.n, .int .i64 x.prot, .int .i64 x.v] 35)) := (Below.refl _ w).alloc (Nat.le_refl _) _
  have h1 := h.below bA
  have hM := h1.map_ok x.at_ x.n x.prot (wf_max hwn)
  have hU := h1.unmap_ok x.at_ x.n (wf_max hwn)
  have hP := h1.protect_ok x.at_ x.n x.prot (wf_max hwn)
  have hS := h1.store_ok x.at_ x.n x.v hwa
  have ht : ∀ {V : World} {P' : PM} {D' : Nat → Nat → Int}, STurn E (w.alloc (.cells #[.int .i64 x.what, .int .i64 x.at_, .int .i64 x.n, .int .i64 x.prot, .int .i64 x.v] 35)) c gc A V D' P' o → STurn E w c gc A V D' P' o := fun t => STurn.trans (fr_below bA) (fun _ _ h => h) t
  have ht0 := STurn.below h bA
  have hR := fun er P' D' => @UseR E.n P o D x er P' D'
  clear h1
  by_cases e0 : x.what = 0
  · have HR : Hid (UseR E.n P o D x (mapE P x.at_ x.n x.prot) (mapP P x.at_ x.n x.prot) D) := hide (.inl ⟨e0, rfl, rfl, rfl⟩)
    rw [Us.val, e0]
    rw [e0] at hM ht
    clear hU hP hS hR ht0 e0 h bA
    go_enter Tryz.func8, Tryz.ntmps8
    go_wp2_with (go_at_call 14; refine hM.mono ?_; rintro e w1 ⟨rfl, t1⟩)
    go_ret
    exact ⟨_, _, _, HR.out, rfl, ht t1⟩
  by_cases e1 : x.what = 1
  · have HR : Hid (UseR E.n P o D x (unE P x.at_ x.n) (unP P x.at_ x.n) D) := hide (.inr (.inl ⟨e1, rfl, rfl, rfl⟩))
    rw [Us.val, e1]
    rw [e1] at hU ht
    clear hM hP hS hR ht0 e0 e1 h bA
    go_enter Tryz.func8, Tryz.ntmps8
    go_wp2_with (go_at_call 20; refine hU.mono ?_; rintro e w1 ⟨rfl, t1⟩)
    go_ret
    exact ⟨_, _, _, HR.out, rfl, ht t1⟩
  by_cases e2 : x.what = 2
  · have HR : Hid (UseR E.n P o D x (proE P x.at_ x.n x.prot) (proP P x.at_ x.n x.prot) D) := hide (.inr (.inr (.inl ⟨e2, rfl, rfl, rfl⟩)))
    rw [Us.val, e2]
    rw [e2] at hP ht
    clear hM hU hS hR ht0 e0 e1 e2 h bA
    go_enter Tryz.func8, Tryz.ntmps8
    go_wp2_with (go_at_call 21; refine hP.mono ?_; rintro e w1 ⟨rfl, t1⟩)
    go_ret
    exact ⟨_, _, _, HR.out, rfl, ht t1⟩
  by_cases e3 : x.what = 3
  · have HR : Hid (∀ er P' D', StR E.n P o D x.at_ x.n x.v er P' D' → UseR E.n P o D x er P' D') := hide (fun er P' D' h => .inr (.inr (.inr (.inl ⟨e3, h⟩))))
    rw [Us.val, e3]
    rw [e3] at hS ht
    clear hM hU hP hR ht0 e0 e1 e2 e3 h bA
    go_enter Tryz.func8, Tryz.ntmps8
    go_wp2_with (go_at_call 15; refine hS.mono ?_; rintro e w1 ⟨er, P', D', hr, rfl, t1⟩)
    go_ret
    exact ⟨_, _, _, HR.out _ _ _ hr, rfl, ht t1⟩
  · have HR : Hid (UseR E.n P o D x 0 P D) := hide (.inr (.inr (.inr (.inr ⟨by omega, rfl, rfl, rfl⟩))))
    rw [Us.val]
    clear hM hU hP hS hR ht h bA
    go_enter Tryz.func8, Tryz.ntmps8
    go_wp2_with fail
    go_ret
    exact ⟨_, _, _, HR.out, rfl, ht0⟩

theorem StR.refused {n : Nat} {a k v er : Int} {P' : PM} {D' : Nat → Nat → Int} (h : StR n P o D a k v er P' D') (he : er ≠ 0) : P' = P ∧ D' = D := by
  rcases h with ⟨_, _, h1, h2⟩ | ⟨_, _, _, h0, _⟩ | ⟨_, _, _, _, h1, h2⟩ | ⟨_, _, f, _, _, h0, _⟩
  · exact ⟨h1, h2⟩
  · exact absurd h0 he
  · exact ⟨h1, h2⟩
  · exact absurd h0 he
theorem UseR.refused {n : Nat} {x : Us} {er : Int} {P' : PM} {D' : Nat → Nat → Int} (h : UseR n P o D x er P' D') (he : er ≠ 0) : P' = P ∧ D' = D := by
  rcases h with ⟨_, h0, h1, h2⟩ | ⟨_, h0, h1, h2⟩ | ⟨_, h0, h1, h2⟩ | ⟨_, h⟩ | ⟨_, h0, h1, h2⟩
  · exact ⟨by rw [h1, mapP, if_neg (by rw [← h0]; exact he)], h2⟩
  · exact ⟨by rw [h1, unP, if_neg (by rw [← h0]; exact he)], h2⟩
  · exact ⟨by rw [h1, proP, if_neg (by rw [← h0]; exact he)], h2⟩
  · exact h.refused he
  · exact ⟨h1, h2⟩
theorem UseR.full {n : Nat} {x : Us} {P' : PM} {D' : Nat → Nat → Int} (h : UseR n P o D x 12 P' D') : used (fun f => sh P f + o f) n = n := by
  rcases h with ⟨_, h0, _⟩ | ⟨_, h0, _⟩ | ⟨_, h0, _⟩ | ⟨_, h⟩ | ⟨_, h0, _⟩
  · exfalso; unfold mapE at h0; split at h0
    · omega
    · split at h0
      · omega
      · split at h0 <;> omega
  · exfalso; unfold unE at h0; split at h0
    · omega
    · split at h0 <;> omega
  · exfalso; unfold proE at h0; split at h0
    · omega
    · split at h0
      · omega
      · split at h0 <;> omega
  · rcases h with ⟨_, h0, _⟩ | ⟨_, _, _, h0, _⟩ | ⟨_, _, h1, _⟩ | ⟨_, _, f, _, _, h0, _⟩
    · exfalso; unfold useE at h0; split at h0
      · omega
      · split at h0
        · split at h0 <;> omega
        · omega
    · omega
    · exact h1
    · omega
  · omega
end

section
variable {E : St} {w w' : World} {D D' : Nat → Nat → Int} {A : Nat → Prop} {L : List Sq}
theorem Al.use_ok (h : Al E w D A L) {i : Nat} (hi : i < L.length) (x : Us) (hx : x.ok) : Calls Tryz.prog 8 #[vp L[i].1, x.val] w fun e w' => ∃ er P' D', UseR E.n L[i].2.2 (oth L i hi) D x er P' D' ∧ e = .returned (errV er) ∧ ATurn E w A L w' D' (L.set i (L[i].1, L[i].2.1, P')) := by
  refine ((h.sp i hi).use_ok x hx).mono ?_
  rintro e w' ⟨er, P', D', hr, he, t⟩
  exact ⟨er, P', D', hr, he, h.turn hi t⟩
theorem Al.store_ok (h : Al E w D A L) {i : Nat} (hi : i < L.length) (a k v : Int) (ha : (Lit.int .i64 a).wf = true) : Calls Tryz.prog 15 #[vp L[i].1, .int .i64 a, .int .i64 k, .int .i64 v] w fun e w' => ∃ er P' D', StR E.n L[i].2.2 (oth L i hi) D a k v er P' D' ∧ e = .returned (errV er) ∧ ATurn E w A L w' D' (L.set i (L[i].1, L[i].2.1, P')) := by
  refine ((h.sp i hi).store_ok a k v ha).mono ?_
  rintro e w' ⟨er, P', D', hr, he, t⟩
  exact ⟨er, P', D', hr, he, h.turn hi t⟩
theorem Al.map_ok (h : Al E w D A L) {i : Nat} (hi : i < L.length) (a n prot : Int) (hn : n ≤ 9223372036854775807) : Calls Tryz.prog 14 #[vp L[i].1, .int .i64 a, .int .i64 n, .int .i64 prot] w fun e w' => e = .returned (errV (mapE L[i].2.2 a n prot)) ∧ ATurn E w A L w' D (L.set i (L[i].1, L[i].2.1, mapP L[i].2.2 a n prot)) := by
  refine ((h.sp i hi).map_ok a n prot hn).mono ?_
  rintro e w' ⟨he, t⟩
  exact ⟨he, h.turn hi t⟩
theorem Al.clear_ok (h : Al E w D A L) {i : Nat} (hi : i < L.length) : Calls Tryz.prog 13 #[vp L[i].1] w fun e w' => e = .returned (.tuple #[]) ∧ ATurn E w A L w' D (L.set i (L[i].1, L[i].2.1, fun _ => none)) := by
  refine (h.sp i hi).clear_ok.mono ?_
  rintro e w' ⟨he, t⟩
  exact ⟨he, h.turn hi t⟩
end
end Go.Proofs.YtemomohijidmpaaGreatDoor

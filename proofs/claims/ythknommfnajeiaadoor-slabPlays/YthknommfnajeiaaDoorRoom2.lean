/- Package slab's frameWithRoom, by its Go text: the walk. -/
import Derived.Test.YthknommfnajeiaaDoorRoom
import Derived.Test.YthknommfnajeiaaDoorTaken
namespace Go.Proofs.YthknommfnajeiaaDoor
open Go.RowKit Go.Shelf Go.Lib Go.Sort Go.Maps

/-- The frame in which the next thing is made, if the cache has one. -/
def room (per : Nat) (C : Int → Option Nat) (ks : List Int) : Option Int := (ks.find? (begun per C)).or (ks.find? (vac C))

set_option maxRecDepth 100000 in
set_option maxHeartbeats 4000000 in
theorem room_ok {w : World} {c b per g n m : Nat} {C : Int → Option Nat} {U : Nat → Bool} {T : Int → Option Nat} {A : Nat → Prop} (h : CA w c b per g n C U T m A) (hm : m < 10000) :
    Calls Tryd.prog 62 #[cp c] w fun e w' => ∃ ks, Ks C ks ∧
      ((∃ f, room per C ks = some f ∧ e = .returned (.tuple #[.int .i64 f, .nilIface]) ∧ Below w.heap.size w w') ∨
       (room per C ks = none ∧ (∀ j r, mxb U j r → j < 0) ∧ e = .returned (.tuple #[.int .i64 0, enr 12]) ∧ Below w.heap.size w w') ∨
       (room per C ks = none ∧ ∃ k q, Best U 0 (q * 2 ^ k) k ∧ T ((q * 2 ^ k : Nat) : Int) = none ∧ e = .returned (.tuple #[.int .i64 ((q * 2 ^ k : Nat) : Int), .nilIface]) ∧ Turns w b n A w' (cut U 0 (q * 2 ^ k)) (fun z => if z = ((q * 2 ^ k : Nat) : Int) then some 0 else T z) (m + 1))) := by
  have hA1 : Below w.heap.size w (w.alloc (.cells #[cp c] 68)) := (Below.refl _ w).alloc (Nat.le_refl _) _
  have h1 := h.below hA1
  have hbx : (w.alloc (.cells #[cp c] 68)).cell? ⟨w.heap.size, 0, none⟩ = some (cp c) := by simp
  have hs : num C n ≤ 1000 := by have := num_le C n; have := h.n256; omega
  have hF := frames_ok h1.ch hs
  go_enter Tryd.func62, Tryd.ntmps62
  go_wp2_with fail
  refine hF.mono ?_
  rintro e w2 ⟨v, ks, rfl, hks, hkl, hrow, hb2⟩
  have h2 := h1.below hb2
  obtain ⟨hk1, hk2⟩ := h.keys hks
  have hy : w2.cell? ⟨w.heap.size, 0, none⟩ = some (cp c) := by rw [hb2.cell (p := ⟨w.heap.size, 0, none⟩) (by simp)]; exact hbx
  have hyl : w.heap.size < w2.heap.size := World.block_lt_of_cell? w2 _ hy
  have hB2 : Below w.heap.size w w2 := hA1.trans (hb2.mono (by simp))
  have hi1 := index_ok hrow hk1 (by omega) (begun per C) 80 #[.pointer (some ⟨w.heap.size, 0, none⟩)] (fun _ _ => by kernel_rfl) (fun W' x hb h0 h1 => begun_call (h2.below hb).ch h.per16 h.most w.heap.size (by rw [hb.cell (p := ⟨w.heap.size, 0, none⟩) hyl]; exact hy) x (wf_small h0 (by omega)))
  have hi2 : ∀ q, Calls Tryd.prog 81 #[v, .func (.func 82) #[] #[.pointer (some ⟨w.heap.size, 0, none⟩)]] (w2.drewN q) fun e w' => ((∃ j, ∃ hj : j < ks.length, e = .returned (.int .i64 (j : Nat)) ∧ ks.find? (vac C) = some ks[j]) ∨ (e = .returned (.int .i64 (-1)) ∧ ks.find? (vac C) = none)) ∧ ∃ q', w' = (w2.drewN q).drewN q' := fun q =>
    index_ok (W := w2.drewN q) hrow hk1 (by omega) (vac C) 82 #[.pointer (some ⟨w.heap.size, 0, none⟩)] (fun _ _ => by kernel_rfl) (fun W' x hb h0 h1 => vac_call ((h2.below (w' := w2.drewN q) ⟨rfl, rfl, rfl, Nat.le_refl _, fun _ _ => rfl⟩).below hb).ch w.heap.size (by rw [hb.cell (p := ⟨w.heap.size, 0, none⟩) hyl]; exact hy) x (wf_small h0 (by omega)))
  clear hF hbx h1
  go_wp2_with fail
  refine hi1.mono ?_
  rintro e w3 ⟨hj, q, rfl⟩
  have hB3 : Below w.heap.size w (w2.drewN q) := ⟨hB2.os, hB2.tape, hB2.output, hB2.size, hB2.block⟩
  rcases hj with ⟨j, hj, rfl, hfd⟩ | ⟨rfl, hfd⟩
  · rcases zrow_read hrow with ⟨_, rfl⟩ | ⟨gb, cap, rfl, hN, hgb, hcap, _, hz⟩
    · cases hj
    have hcj := hz j hj
    have hj0 : (0 : Int) ≤ (j : Int) := by omega
    have hj1 : (j : Int) < (ks.length : Int) := by omega
    clear hi1 hi2
    go_wp2_with fail
    go_ret2
    exact ⟨ks, hks, .inl ⟨ks[j], by rw [room, hfd]; rfl, rfl, hB3⟩⟩
  · clear hi1
    go_wp2_with fail
    refine (hi2 q).mono ?_
    rintro e w3 ⟨hj, q', rfl⟩
    have hB4 : Below w.heap.size w (w2.drewN (q + q')) := ⟨hB2.os, hB2.tape, hB2.output, hB2.size, hB2.block⟩
    rcases hj with ⟨j, hj, rfl, hfd2⟩ | ⟨rfl, hfd2⟩
    · rcases zrow_read hrow with ⟨_, rfl⟩ | ⟨gb, cap, rfl, hN, hgb, hcap, _, hz⟩
      · cases hj
      have hcj := hz j hj
      have hj0 : (0 : Int) ≤ (j : Int) := by omega
      have hj1 : (j : Int) < (ks.length : Int) := by omega
      clear hi2
      go_wp2_with fail
      go_ret2
      exact ⟨ks, hks, .inl ⟨ks[j], by rw [room, hfd, hfd2]; rfl, rfl, hB4⟩⟩
    · have hr : room per C ks = none := by rw [room, hfd, hfd2]; rfl
      have h4 := h2.below (w' := w2.drewN (q + q')) ⟨rfl, rfl, rfl, Nat.le_refl _, fun _ _ => rfl⟩
      have c0 := h2.ch.c0
      clear hi2
      by_cases hno : ∀ j r, mxb U j r → j < 0
      · go_wp2_with fail
        refine (alloc_none h4.pool 0 (by omega) hno).mono ?_
        rintro e w5 ⟨rfl, h5⟩
        subst w5
        go_wp2_with fail
        go_ret2
        exact ⟨ks, hks, .inr (.inl ⟨hr, hno, rfl, hB4⟩)⟩
      · obtain ⟨k, p, hB, hT⟩ := h4.pool.best 0 hno
        go_wp2_with fail
        refine (alloc_some h4.pool hm 0 (by omega) k p hB).mono ?_
        rintro e w5 ⟨rfl, t⟩
        go_wp2_with fail
        go_ret2
        refine ⟨ks, hks, .inr (.inr ⟨hr, k, p, hB, hT, rfl, ?_⟩)⟩
        obtain ⟨A', a', f', s'⟩ := t
        refine ⟨A', by simpa using a', ⟨f'.os.trans hB4.os, f'.tape.trans hB4.tape, f'.output.trans hB4.output, Nat.le_trans hB4.size f'.size, fun i hi hn => (f'.block i (Nat.lt_of_lt_of_le hi hB4.size) hn).trans (hB4.block i hi)⟩, fun i hi ha => s' i (Nat.lt_of_lt_of_le hi hB4.size) ha⟩
end Go.Proofs.YthknommfnajeiaaDoor

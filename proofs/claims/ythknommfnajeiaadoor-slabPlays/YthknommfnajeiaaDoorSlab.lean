/- Package slab's New, Frames, Things, by their Go text. -/
import Derived.Test.YthknommfnajeiaaDoorRoom2
namespace Go.Proofs.YthknommfnajeiaaDoor
open Go.RowKit Go.Shelf Go.Lib Go.Sort Go.Maps

set_option maxHeartbeats 1000000 in
theorem cache_nil (w : World) (per : Int) : Calls Tryd.prog 33 #[.pointer none, .int .i64 per] w fun e w' => e = .returned (.tuple #[.pointer none, enr 7]) ∧ w' = w := by
  go_enter Tryd.func33, Tryd.ntmps33
  go_wp2_with fail
  go_ret2
  exact ⟨rfl, rfl⟩

set_option maxHeartbeats 1000000 in
theorem cache_no (w : World) (b : Nat) (per : Int) (h : per < 1 ∨ 16 < per) : Calls Tryd.prog 33 #[pp b, .int .i64 per] w fun e w' => e = .returned (.tuple #[.pointer none, enr 2]) ∧ w' = w := by
  by_cases h1 : per < 1 <;> by_cases h2 : 16 < per
  all_goals first
    | (exfalso; omega)
    | (go_enter Tryd.func33, Tryd.ntmps33
       go_wp2_with fail
       go_ret2
       exact ⟨rfl, rfl⟩)

set_option maxHeartbeats 1000000 in
theorem cache_ok (w : World) (b per : Nat) (h1 : 1 ≤ per) (h2 : per ≤ 16) : Calls Tryd.prog 33 #[pp b, .int .i64 (per : Int)] w fun e w' => ∃ c, e = .returned (.tuple #[cp c, .nilIface]) ∧ ∃ g, Ch w' c b per g 0 (fun _ => none) ∧ Below w.heap.size w w' ∧ w.heap.size ≤ c ∧ w.heap.size ≤ g := by
  have h1' : ¬ (per : Int) < 1 := by omega
  have h2' : ¬ (16 : Int) < (per : Int) := by omega
  have hmm := @run_makeMap Tryd.prog
  go_enter Tryd.func33, Tryd.ntmps33
  go_wp2_with fail
  go_ret2
  refine ⟨w.heap.size + 1, by simp, w.heap.size, ⟨by
    show ((w.heap.push _).push _)[w.heap.size + 1]? = _
    rw [Array.getElem?_push, if_pos (by simp)], ?_⟩, ((Below.refl _ w).alloc (Nat.le_refl _) _).alloc (by simp) _, by omega, Nat.le_refl _⟩
  have : cm (fun _ => none) = fun _ => none := by funext x; rfl
  rw [this]
  exact (PMap.made w).keep (Below.heap_alloc _ _ _ (by simp))

section
variable {w : World} {c b per g n m : Nat} {C : Int → Option Nat} {U : Nat → Bool} {T : Int → Option Nat} {A : Nat → Prop}

set_option maxHeartbeats 1000000 in
theorem count_ok (h : CA w c b per g n C U T m A) : Calls Tryd.prog 41 #[cp c] w fun e w' => e = .returned (.int .i64 (num C n : Nat)) ∧ Below w.heap.size w w' := by
  have hs : num C n ≤ 1000 := by have := num_le C n; have := h.n256; omega
  go_enter Tryd.func41, Tryd.ntmps41
  go_wp2_with fail
  refine (frames_ok h.ch hs).mono ?_
  rintro e w2 ⟨v, ks, rfl, hks, hkl, hrow, hb2⟩
  obtain ⟨a, k, rfl⟩ : ∃ a k, v = .slice a ks.length k := by
    rcases zrow_read hrow with ⟨rfl, rfl⟩ | ⟨gb, cap, rfl, _⟩
    · exact ⟨_, _, rfl⟩
    · exact ⟨_, _, rfl⟩
  go_wp2_with fail
  go_ret
  exact ⟨rfl, hb2⟩

set_option maxRecDepth 100000 in
set_option maxHeartbeats 4000000 in
theorem things_ok (h : CA w c b per g n C U T m A) : Calls Tryd.prog 40 #[cp c] w fun e w' => e = .returned (.int .i64 (tot C n : Nat)) ∧ Below w.heap.size w w' := by
  have hs : num C n ≤ 1000 := by have := num_le C n; have := h.n256; omega
  go_enter Tryd.func40, Tryd.ntmps40
  go_wp2_with fail
  refine (frames_ok h.ch hs).mono ?_
  rintro e w2 ⟨v, ks, rfl, hks, hkl, hrow, hb2⟩
  have htot := tot_keys hks h.within
  obtain ⟨hk1, hk2⟩ := h.keys hks
  have h2 := h.below hb2
  have hmap := h2.ch.map
  have hread : ∀ i, (hi : i < ks.length) → ∃ gb cap, v = .slice (some ⟨gb, 0, none⟩) ks.length cap ∧ w2.cell? ⟨gb, i, none⟩ = some (.int .i64 ks[i]) := by
    intro i hi
    rcases zrow_read hrow with ⟨rfl, rfl⟩ | ⟨gb, cap, rfl, _, _, _, _, hz⟩
    · cases hi
    · exact ⟨gb, cap, rfl, hz i hi⟩
  obtain ⟨av, kv, rfl⟩ : ∃ a k, v = .slice a ks.length k := by
    rcases zrow_read hrow with ⟨rfl, rfl⟩ | ⟨gb, cap, rfl, _⟩
    · exact ⟨_, _, rfl⟩
    · exact ⟨_, _, rfl⟩
  have hle : ∀ i, ((ks.take i).map (fun f => ones (val C f))).sum ≤ 16 * i := by
    intro i; induction i with
    | zero => simp
    | succ i ih =>
      by_cases hi : i < ks.length
      · rw [List.take_succ_eq_append_getElem hi, List.map_append, List.sum_append]
        have := ones_le (val C ks[i])
        simp only [List.map_cons, List.map_nil, List.sum_cons, List.sum_nil]; omega
      · rw [List.take_of_length_le (by omega)] at ih ⊢; omega
  have c2 := h2.ch.c2
  clear hrow
  go_wp2_with fail
  go_loopg [3, 9] ks.length (fun mm s3 s9 wr => ∃ i q : Nat, i + mm = ks.length ∧ s9 = .int .i64 i ∧ s3 = .int .i64 (((ks.take i).map (fun f => ones (val C f))).sum : Nat) ∧ wr = w2.drewN q)
  case atStart => exact ⟨0, 0, by omega, rfl, rfl, rfl⟩
  case round =>
    obtain ⟨i, q, hi, rfl, rfl, hwr⟩ := hrel
    subst wr
    have hl1 := hle i
    by_cases hlt : (i : Int) < (ks.length : Int)
    · have hi' : i < ks.length := by omega
      obtain ⟨gb, cap, he, hcell⟩ := hread i hi'
      cases he
      have hx := hk1 ks[i] (List.getElem_mem hi')
      have hwf : (Lit.int .i64 ks[i]).wf = true := wf_small hx.1 (by omega)
      have hv : val C ks[i] < 65536 := Nat.lt_of_lt_of_le (h.most.val _) (Nat.pow_le_pow_right (by omega : 0 < 2) h.per16)
      have hnx : ((ks.take (i + 1)).map (fun f => ones (val C f))).sum = ((ks.take i).map (fun f => ones (val C f))).sum + ones (val C ks[i]) := by
        rw [List.take_succ_eq_append_getElem hi', List.map_append, List.sum_append]; simp
      have hol := ones_le (val C ks[i])
      have hcm := cm_val C ks[i]
      have hC := ones_call (val C ks[i]) hv
      generalize hS1 : ((ks.take (i + 1)).map (fun f => ones (val C f))).sum = S1 at *
      generalize ((ks.take i).map (fun f => ones (val C f))).sum = S0 at *
      generalize val C ks[i] = v0 at *
      generalize ones v0 = o0 at *
      generalize ks[i] = x0 at *
      clear hread hle htot
      go_wp2_with (first
        | (at_lookup; refine wpList_klook rfl _ _ 109 rfl 115 Tryd.underlying109 _ (zero_u32 _) g (num C n) (cm C) rfl (hmap.keep rfl) x0 rfl hwf ?_; rw [hcm])
        | (go_at_call 65; refine (hC _).mono ?_; rintro e w' ⟨rfl, q', rfl⟩))
      go_roundg (ks.length - (i + 1))
      case measure => omega
      case rel => exact ⟨i + 1, q + q', by omega, by go_num, by rw [hS1, hnx]; go_num, rfl⟩
    · have hil : i = ks.length := by omega
      rw [List.take_of_length_le (by omega), htot]
      go_wp2_with fail
      go_ret
      exact ⟨rfl, hb2.os, hb2.tape, hb2.output, hb2.size, hb2.block⟩
end
end Go.Proofs.YthknommfnajeiaaDoor

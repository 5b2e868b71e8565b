/- The statements' own 'paged', by its Go text. -/
import Derived.Test.YtemomohijidmpaaGreatDoorVUse
namespace Go.Proofs.YtemomohijidmpaaGreatDoor
open Go.RowKit Go.Shelf Go.Lib Go.Sort Go.Maps

/-- One frame more is in use. -/
theorem used_more {t t' : Int → Nat} {n f : Nat} (hf : f < n) (h0 : t (f : Int) = 0) (h1 : t' (f : Int) ≠ 0) (ho : ∀ x : Int, 0 ≤ x → x ≠ (f : Int) → (t x = 0 ↔ t' x = 0)) : used t' n = used t n + 1 := by
  rw [used_eq, used_eq]
  refine sumTo_set (f := f) (d := 1) (by simp [h0, h1]) (fun i hi => ?_) n 0 (by omega) (by omega)
  have := ho i (by omega) (by omega)
  by_cases e : t (i : Int) = 0
  · rw [if_pos e, if_pos (this.1 e)]
  · rw [if_neg e, if_neg (fun e' => e (this.2 e'))]

def P1 : PM := mapTo (fun _ => none) 0 2 3
theorem P1_0 : P1 0 = some (3, -1) := by unfold P1 mapTo; rfl
theorem P1_frm (x : Int) : frm P1 x = -1 := by
  have : P1 x = some (3, -1) ∨ P1 x = none := by
    unfold P1 mapTo; by_cases h : 0 ≤ x ∧ x < 0 + ((2 : Nat) : Int)
    · exact .inl (if_pos h)
    · exact .inr (if_neg h)
  rcases this with h | h
  · rw [frm_some h]
  · exact frm_none h
theorem P1_sh {f : Int} (hf : 0 ≤ f) : sh P1 f = 0 := sh_zero hf (fun a => by rw [P1_frm]; omega)
theorem P2_sh {f z : Int} (_hf : 0 ≤ f) (hz : 0 ≤ z) : sh (putP P1 0 (3, f)) z = if f = z then 1 else 0 := by
  have h := sh_put (P := P1) (a := 0) (by omega) (by omega) (3, f) z
  rw [P1_sh hz, P1_frm, if_neg (by omega)] at h
  simpa using h
theorem P1_pg : (pg P1 0).1 = 3 := by unfold pg; rw [P1_0]; rfl
theorem P2_0 (f : Int) : putP P1 0 (3, f) 0 = some (3, f) := by unfold putP; rw [if_pos rfl]
theorem useE_3 {P : PM} {f : Int} (h : P 0 = some (3, f)) : useE P 0 1 2 = 0 ∧ useE P 0 1 1 = 0 := by unfold useE; rw [h]; exact ⟨by simp, by simp⟩
theorem P3_sh {f g z : Int} (hf : 0 ≤ f) (hz : 0 ≤ z) : sh (putP (putP P1 0 (3, f)) 0 (3, g)) z = if g = z then 1 else 0 := by
  have h := sh_put (P := putP P1 0 (3, f)) (a := 0) (by omega) (by omega) (3, g) z
  rw [P2_sh hf hz, frm_put, if_pos rfl] at h
  simp only at h
  omega

set_option maxRecDepth 100000 in
set_option maxHeartbeats 4000000 in
theorem paged_ok (w : World) : Calls Tryz.prog 4 #[] w fun e w' => e = .returned (.bool true) ∧ Below w.heap.size w w' := by
  go_enter Tryz.func4, Tryz.ntmps4
  go_wp2_with fail
  refine (newStore_ok _ 3 (by omega) (by omega)).mono ?_
  rintro e w1 ⟨b, rfl, E, A0, rfl, hEn, v1, b1, o1, _⟩
  go_wp2_with fail
  refine (newSpace_ok v1).mono ?_
  rintro e w2 ⟨c, rfl, gc, v2, b2, lc, lg⟩
  have a2 := Al.first v2
  have hB2 : Below w.heap.size w w2 := b1.trans (b2.mono b1.size)
  have o2 : ∀ i, i < w.heap.size → ¬ aown E A0 [(c, gc, fun _ => none)] i := fun i hi ho => by
    rcases ho with ho | ⟨x, hx, rfl⟩
    · exact o1 i hi ho
    · simp at hx; subst hx; simp only at hi; have := b1.size; omega
  -- all beyond what was there at first
  have step : ∀ {V V' : World} {A A' : Nat → Prop} {L L' : List Sq} {D' : Nat → Nat → Int}, Below w.heap.size w V → (∀ i, i < w.heap.size → ¬ aown E A L i) → Al E V' D' A' L' → Fr (aown E A L) V V' → (∀ i, i < V.heap.size → aown E A' L' i → aown E A L i) → Below w.heap.size w V' ∧ (∀ i, i < w.heap.size → ¬ aown E A' L' i) := by
    intro V V' A A' L L' D' hb ho _ f s
    exact ⟨⟨f.os.trans hb.os, f.tape.trans hb.tape, f.output.trans hb.output, Nat.le_trans hb.size f.size, fun i hi => (f.block i (Nat.lt_of_lt_of_le hi hb.size) (ho i hi)).trans (hb.block i hi)⟩, fun i hi h => ho i hi (s i (Nat.lt_of_lt_of_le hi hb.size) h)⟩
  clear v1 v2 b1 b2 o1
  have e1 : mapE (fun _ => none) 0 2 3 = 0 := by decide +kernel
  have e1' : mapP (fun _ => none) 0 2 3 = P1 := by unfold mapP; rw [if_pos e1]; rfl
  have hM := a2.map_ok (i := 0) (by simp) 0 2 3 (by omega)
  simp only [List.getElem_cons_zero, List.set_cons_zero] at hM
  rw [e1, e1'] at hM
  go_wp2_with fail
  refine hM.mono ?_
  rintro e w3 ⟨rfl, A3, a3, f3, s3⟩
  obtain ⟨hB3, o3⟩ := step hB2 o2 a3 f3 s3
  clear hM a2 hB2 o2 f3 s3 e1 e1'
  have hS := a3.store_ok (i := 0) (by simp) 0 1 5 (by decide)
  simp only [List.getElem_cons_zero, List.set_cons_zero] at hS
  have hev : errV 0 = .nilIface := rfl
  rw [hev]
  go_wp2_with fail
  refine hS.mono ?_
  rintro e w4 ⟨er, P', D2, hr, rfl, A4, a4, f4, s4⟩
  obtain ⟨hB4, o4⟩ := step hB3 o3 a4 f4 s4
  clear hS hB3 o3 f4 s4
  have hz : ∀ x, 0 ≤ x → totS [(c, gc, P1)] x = 0 := fun x hx => by simp [totS, P1_sh hx]
  have h3 : used (totS [(c, gc, P1)]) E.n = 0 := by rw [used_congr (t' := fun _ => 0) hz]; exact used_zero _
  obtain ⟨f, hf1, rfl, rfl, hD2⟩ : ∃ f : Nat, f < E.n ∧ er = 0 ∧ P' = putP P1 0 (3, (f : Int)) ∧ D2 f 1 = 5 := by
    rcases hr with ⟨h, _⟩ | ⟨_, h, _⟩ | ⟨_, _, h, _⟩ | ⟨_, _, f, hf1, hf2, h4, h5, h6⟩
    · exact absurd (useE_3 P1_0).1 h
    · exact absurd (P1_frm 0) h
    · exfalso
      have e : used (fun x => sh P1 x + oth [(c, gc, P1)] 0 (by simp) x) E.n = used (totS [(c, gc, P1)]) E.n := used_congr (fun x _ => oth_add (L := [(c, gc, P1)]) (i := 0) (by simp) x)
      rw [e, h3] at h; omega
    · exact ⟨f, hf1, h4, by rw [h5, P1_pg], by rw [h6]; simp [upd]⟩
  clear hr a3
  have hf0 : (0 : Int) ≤ (f : Int) := by omega
  have hF := a4.fork_ok (by simp) (i := 0) (by simp)
  simp only [List.getElem_cons_zero, List.cons_append, List.nil_append] at hF
  rw [hev]
  go_wp2_with fail
  refine hF.mono ?_
  rintro e w5 ⟨c', rfl, gc', ⟨A5, a5, f5, s5⟩, _⟩
  obtain ⟨hB5, o5⟩ := step hB4 o4 a5 f5 s5
  clear hF hB4 o4 f5 s5 a4
  have ht5 : ∀ x, 0 ≤ x → totS [(c, gc, putP P1 0 (3, (f : Int))), (c', gc', putP P1 0 (3, (f : Int)))] x = if (f : Int) = x then 2 else 0 := fun x hx => by
    simp only [totS, List.map_cons, List.map_nil, List.sum_cons, List.sum_nil]
    rw [P2_sh hf0 hx]; split <;> rfl
  have hu5 : used (totS [(c, gc, putP P1 0 (3, (f : Int))), (c', gc', putP P1 0 (3, (f : Int)))]) E.n = 1 := by
    rw [used_more (t := totS [(c, gc, P1)]) hf1 (hz _ hf0) (by rw [ht5 _ hf0, if_pos rfl]; decide) (fun x hx hne => by rw [hz x hx, ht5 x hx, if_neg (fun h => hne h.symm)]), h3]
  have hL5 := a5.left
  rw [hu5, hEn] at hL5
  have hS5 := a5.store_ok (i := 1) (by simp) 0 1 6 (by decide)
  simp only [List.getElem_cons_zero, List.getElem_cons_succ, List.set_cons_zero, List.set_cons_succ] at hS5
  go_wp2_with (go_at_call 16; refine hL5.mono ?_; rintro e w6 ⟨rfl, h6⟩; subst w6)
  refine hS5.mono ?_
  rintro e w6 ⟨er, P', D6, hr, rfl, A6, a6, f6, s6⟩
  obtain ⟨hB6, o6⟩ := step hB5 o5 a6 f6 s6
  clear hS5 hL5 hB5 o5 f6 s6
  obtain ⟨g, hg1, hgf, rfl, rfl, hD6⟩ : ∃ g : Nat, g < E.n ∧ g ≠ f ∧ er = 0 ∧ P' = putP (putP P1 0 (3, (f : Int))) 0 (3, (g : Int)) ∧ D6 f 1 = 5 := by
    have hfr : frm (putP P1 0 (3, (f : Int))) 0 = (f : Int) := frm_some (P2_0 _)
    have hta : ∀ x, 0 ≤ x → sh (putP P1 0 (3, (f : Int))) x + oth [(c, gc, putP P1 0 (3, (f : Int))), (c', gc', putP P1 0 (3, (f : Int)))] 1 (by simp) x = if (f : Int) = x then 2 else 0 := fun x hx => by
      rw [← ht5 x hx]
      exact oth_add (L := [(c, gc, putP P1 0 (3, (f : Int))), (c', gc', putP P1 0 (3, (f : Int)))]) (i := 1) (by simp) x
    rcases hr with ⟨h, _⟩ | ⟨_, _, h, _⟩ | ⟨_, _, h, _⟩ | ⟨_, _, g, hg1, hg2, h4, h5, h6⟩
    · exact absurd (useE_3 (P2_0 _)).1 h
    · exfalso; rw [hfr, hta _ hf0, if_pos rfl] at h; omega
    · exfalso
      have e : used (fun x => sh (putP P1 0 (3, (f : Int))) x + oth [(c, gc, putP P1 0 (3, (f : Int))), (c', gc', putP P1 0 (3, (f : Int)))] 1 (by simp) x) E.n = 1 := by
        refine Eq.trans ?_ hu5
        exact used_congr (fun x _ => oth_add (L := [(c, gc, putP P1 0 (3, (f : Int))), (c', gc', putP P1 0 (3, (f : Int)))]) (i := 1) (by simp) x)
      rw [e] at h; omega
    · have hne : g ≠ f := by
        rintro rfl; rw [hta _ (by omega), if_pos rfl] at hg2; omega
      have hne' : ¬ f = g := fun e => hne e.symm
      refine ⟨g, hg1, hne, h4, by rw [h5]; congr 1, ?_⟩
      rw [h6]; simp [upd, row, hne', hD2]
  clear hr a5
  rw [hev]
  have hg0 : (0 : Int) ≤ (g : Int) := by omega
  have hgf' : ¬ (g : Int) = (f : Int) := by omega
  have hl := (a6.sp 0 (by simp)).load 0 1 (by decide)
  simp only [List.getElem_cons_zero] at hl
  have hv : loadV (putP P1 0 (3, (f : Int))) D6 0 1 = 5 := by
    unfold loadV wd
    rw [if_pos (useE_3 (P2_0 _)).2, frm_some (P2_0 _), if_neg (by simp only; omega)]
    simpa using hD6
  rw [hv, (useE_3 (P2_0 (f : Int))).2, hev] at hl
  have ht6 : ∀ x, 0 ≤ x → totS [(c, gc, putP P1 0 (3, (f : Int))), (c', gc', putP (putP P1 0 (3, (f : Int))) 0 (3, (g : Int)))] x = (if (f : Int) = x then 1 else 0) + (if (g : Int) = x then 1 else 0) := fun x hx => by
    simp only [totS, List.map_cons, List.map_nil, List.sum_cons, List.sum_nil]
    rw [P2_sh hf0 hx, P3_sh hf0 hx]; rfl
  have hu6 : used (totS [(c, gc, putP P1 0 (3, (f : Int))), (c', gc', putP (putP P1 0 (3, (f : Int))) 0 (3, (g : Int)))]) E.n = 2 := by
    rw [used_more (t := totS [(c, gc, putP P1 0 (3, (f : Int))), (c', gc', putP P1 0 (3, (f : Int)))]) hg1 (by rw [ht5 _ hg0, if_neg (fun e => hgf' e.symm)]) (by rw [ht6 _ hg0, if_pos rfl]; omega) (fun x hx hne => by
      rw [ht5 x hx, ht6 x hx, if_neg (fun h : (g : Int) = x => hne h.symm)]; split <;> simp), hu5]
  clear ht5 ht6 hu5 hz h3 hD2 hD6 hv
  go_wp2_with fail
  refine hl.mono ?_
  rintro e w7 ⟨rfl, b7⟩
  have a7 := a6.below b7
  have hL7 := a7.left
  rw [hu6, hEn] at hL7
  have hB7 : Below w.heap.size w w7 := hB6.trans (b7.mono hB6.size)
  clear hl a6
  go_wp2_with (go_at_call 16; refine hL7.mono ?_; rintro e w8 ⟨rfl, h8⟩; subst w8)
  go_ret
  exact ⟨rfl, hB7⟩
end Go.Proofs.YtemomohijidmpaaGreatDoor

/- Package slab's frameWithRoom, by its Go text. -/
import Derived.Test.YthknommfnajeiaaDoorRising
import Derived.Test.YthknommfnajeiaaDoorAlloc
import Derived.Deep.RegionWith
namespace Go.Proofs.YthknommfnajeiaaDoor
open Go.RowKit Go.Shelf Go.Lib Go.Sort Go.Maps

theorem zero_u32 (w : World) : (zeroValue 115).run Tryd.prog w = .ok (.int .u32 0) w := by kernel_rfl

theorem Ch.look {w : World} {c b per g s : Nat} {C : Int → Option Nat} (h : Ch w c b per g s C) (x : Int) (hx : (Lit.int .i64 x).wf = true) : (Instr.lookup 109 (.map (some g)) (.int .i64 x) false).run Tryd.prog w = .ok (.int .u32 (val C x : Int)) w := by
  rw [← cm_val]; exact h.map.look Tryd.underlying109 (zero_u32 w) x hx

set_option maxHeartbeats 1000000 in
theorem vac_call {W : World} {c b per g s : Nat} {C : Int → Option Nat} (h : Ch W c b per g s C) (y : Nat) (hy : W.cell? ⟨y, 0, none⟩ = some (cp c)) (x : Int) (hx : (Lit.int .i64 x).wf = true) :
    Calls Tryd.prog 82 #[.int .i64 x, .pointer (some ⟨y, 0, none⟩)] W fun e w' => e = .returned (.bool (vac C x)) ∧ ∃ q, w' = W.drewN q := by
  have c2 := h.c2
  go_enter Tryd.func82, Tryd.ntmps82
  go_wp2_with (at_lookup; refine wpList_klook rfl _ _ 109 rfl 115 Tryd.underlying109 _ (zero_u32 _) g s (cm C) rfl h.map x rfl hx ?_; rw [cm_val])
  go_ret
  refine ⟨?_, 0, rfl⟩
  unfold vac
  by_cases e : val C x = 0 <;> simp [e]

set_option maxHeartbeats 2000000 in
theorem begun_call {W : World} {c b per g s : Nat} {C : Int → Option Nat} (h : Ch W c b per g s C) (hp : per ≤ 16) (hm : Most per C) (y : Nat) (hy : W.cell? ⟨y, 0, none⟩ = some (cp c)) (x : Int) (hx : (Lit.int .i64 x).wf = true) :
    Calls Tryd.prog 80 #[.int .i64 x, .pointer (some ⟨y, 0, none⟩)] W fun e w' => e = .returned (.bool (begun per C x)) ∧ ∃ q, w' = W.drewN q := by
  have c1 := h.c1
  have c2 := h.c2
  have hl : ∀ q, (Instr.lookup 109 (.map (some g)) (.int .i64 x) false).run Tryd.prog (W.drewN q) = .ok (.int .u32 (val C x : Int)) (W.drewN q) := fun q => (h.keep (w' := W.drewN q) rfl rfl).look x hx
  have hv : val C x < 65536 := Nat.lt_of_lt_of_le (hm.val x) (Nat.pow_le_pow_right (by omega : 0 < 2) hp)
  have hb : begun per C x = (!decide (val C x = 0) && decide (ones (val C x) < per)) := rfl
  rw [hb]
  have hC := ones_call (val C x) hv
  clear hb hm hx h
  generalize val C x = m at *
  go_enter Tryd.func80, Tryd.ntmps80
  by_cases hz : m = 0
  · subst hz
    go_upto_region 1 with fail
    go_quiet (fail)
    go_wp2_with fail
    go_ret
    exact ⟨rfl, _, rfl⟩
  · have hd : decide ((m : Int) = 0) = false := by simpa using hz
    have hd2 : ¬ (m : Int) = 0 := by omega
    have hd3 : ((m : Int) != 0) = true := by simpa using hz
    go_upto_region 1 with fail
    go_quiet (first | (go_at_call 65; exact Calls.quiet_of (hC _)))
    go_wp2_with fail
    go_ret
    refine ⟨?_, _, rfl⟩
    simp [hz]

theorem from_find (P : Int → Bool) (d : Int) : ∀ (zs : List Int) (i : Nat), (∃ j, ∃ hj : j < zs.length, idxByFrom (fun _ y => P y) d zs i = ((i + j : Nat) : Int) ∧ zs.find? P = some zs[j]) ∨ (idxByFrom (fun _ y => P y) d zs i = -1 ∧ zs.find? P = none)
  | [], i => .inr ⟨rfl, rfl⟩
  | z :: zs, i => by
    by_cases h : P z = true
    · exact .inl ⟨0, by simp, by simp [idxByFrom, h], by simp [h]⟩
    · rcases from_find P d zs (i + 1) with ⟨j, hj, h1, h2⟩ | ⟨h1, h2⟩
      · exact .inl ⟨j + 1, by simp; omega, by simp [idxByFrom, h, h1]; omega, by simp [h, h2]⟩
      · exact .inr ⟨by simp [idxByFrom, h, h1], by simp [h, h2]⟩
theorem find_same {P Q : Int → Bool} : ∀ {zs : List Int}, (∀ x ∈ zs, P x = Q x) → zs.find? P = zs.find? Q
  | [], _ => rfl
  | z :: zs, h => by rw [List.find?_cons, List.find?_cons, h z (by simp), find_same (fun x hx => h x (by simp [hx]))]

/-- slices.IndexFunc over frames. -/
theorem index_ok {W : World} {N : Nat} {v : Value} {ks : List Int} (hr : W.ownsRow N 3 1 v ks.length (ks.map encZ)) (hk : ∀ x ∈ ks, 0 ≤ x ∧ x < 256) (hl : ks.length ≤ 1000) (P : Int → Bool) (f : Nat) (lb : Array Value) (ef : ∀ args w, (callFunc f args).run Tryd.prog w = .ok (.enter f args) w)
    (hf : ∀ W' x, Below W.heap.size W W' → 0 ≤ x → x < 256 → Calls Tryd.prog f (#[.int .i64 x] ++ lb) W' fun e w' => e = .returned (.bool (P x)) ∧ ∃ q, w' = W'.drewN q) :
    Calls Tryd.prog 81 #[v, .func (.func f) #[] lb] W fun e w' => ((∃ j, ∃ hj : j < ks.length, e = .returned (.int .i64 (j : Nat)) ∧ ks.find? P = some ks[j]) ∨ (e = .returned (.int .i64 (-1)) ∧ ks.find? P = none)) ∧ ∃ q, w' = W.drewN q := by
  rcases zrow_read hr with ⟨rfl, rfl⟩ | ⟨g, cap, rfl, _, _, _, _, hz⟩
  · refine (AnyE.slices_IndexFunc_empty Tryd.indexL none 0 (.func (.func f) #[] lb) W).mono ?_
    rintro e w' ⟨rfl, rfl⟩
    exact ⟨.inr ⟨rfl, rfl⟩, 0, rfl⟩
  · refine (AnyE.slices_IndexFunc Tryd.indexL (fun x : Int => .int .i64 (x % 256)) (fun x => P (x % 256)) f lb ef g 0 ks.length cap ks W (fun W' x hb => hf W' (x % 256) hb (by omega) (by omega)) (Nat.le_refl _) (by omega) ?_).mono ?_
    · intro j hj
      rw [Nat.zero_add, hz j hj, getElem!_pos ks j hj]
      have := hk ks[j] (List.getElem_mem hj)
      rw [Int.emod_eq_of_lt this.1 this.2]
    · rintro e w' ⟨rfl, q, rfl⟩
      refine ⟨?_, q, rfl⟩
      rw [List.take_length, find_same (P := P) (Q := fun x => P (x % 256)) (fun x hx => by have := hk x hx; rw [Int.emod_eq_of_lt this.1 this.2])]
      rcases from_find (fun x => P (x % 256)) default ks 0 with ⟨j, hj, h1, h2⟩ | ⟨h1, h2⟩
      · exact .inl ⟨j, hj, by rw [idxBy, h1, Nat.zero_add], h2⟩
      · exact .inr ⟨by rw [idxBy, h1], h2⟩

theorem num_le (C : Int → Option Nat) (n : Nat) : num C n ≤ n := by
  have := sumTo_cnt (fun f => (C f).isSome) n 0
  rw [num, this]; exact cnt_le _ _ _

/-- A cache and its pool. -/
structure CA (w : World) (c b per g n : Nat) (C : Int → Option Nat) (U : Nat → Bool) (T : Int → Option Nat) (m : Nat) (A : Nat → Prop) : Prop where
  ch : Ch w c b per g (num C n) C
  pool : At w b n U T m A
  per1 : 1 ≤ per
  per16 : per ≤ 16
  most : Most per C
  tk : ∀ x, (C x).isSome = true → T x = some 0
  offc : ¬ A c
  offg : ¬ A g

section
variable {w w' : World} {c b per g n m : Nat} {C : Int → Option Nat} {U : Nat → Bool} {T : Int → Option Nat} {A : Nat → Prop}
theorem CA.n256 (h : CA w c b per g n C U T m A) : n ≤ 256 := by
  obtain ⟨_, _, _, _, _, _, _, _, _, _, hn, _⟩ := h.pool; exact hn
theorem CA.inv (h : CA w c b per g n C U T m A) : Inv n U T := by
  obtain ⟨_, _, _, _, _, _, _, _, _, inv, _, _⟩ := h.pool; exact inv
theorem CA.within (h : CA w c b per g n C U T m A) : Within C n := fun x hx => by
  obtain ⟨_, p, hp, hf⟩ := h.inv.tk x 0 (h.tk x hx)
  have := (hf _ (first_in 0 p)).1
  rw [hp]; exact ⟨by omega, by omega⟩
theorem CA.keys (h : CA w c b per g n C U T m A) {ks : List Int} (hk : Ks C ks) : (∀ x ∈ ks, 0 ≤ x ∧ x < 256) ∧ ks.length ≤ 256 := by
  have hn := h.n256
  have h1 := num_le C n
  refine ⟨fun x hx => ?_, ?_⟩
  · have := h.within x ((hk.2 x).1 hx); omega
  · rw [num_keys hk h.within]; omega
theorem CA.below (h : CA w c b per g n C U T m A) (hb : Below w.heap.size w w') : CA w' c b per g n C U T m A := by
  refine ⟨h.ch.below hb, ?_, h.per1, h.per16, h.most, h.tk, h.offc, h.offg⟩
  obtain ⟨g', O, V, F, s, p, k, pm, hs, inv, hn, hA⟩ := h.pool
  have hl : ∀ i, A i → i < w.heap.size := fun i hi => by
    rcases (hA i).1 hi with h | rfl
    · exact p.own_lt h
    · exact pm.lt
  exact ⟨g', O, V, F, s, p.keep (fun i hi => hb.block i (hl i ((hA i).2 (.inl hi)))), k, pm.keep (hb.block g' (hl g' ((hA g').2 (.inr rfl)))), hs, inv, hn, hA⟩
end
end Go.Proofs.YthknommfnajeiaaDoor

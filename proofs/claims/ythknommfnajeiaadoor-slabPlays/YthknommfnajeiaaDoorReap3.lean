/- Package slab's Reap, by its Go text. -/
import Derived.Test.YthknommfnajeiaaDoorGive3
namespace Go.Proofs.YthknommfnajeiaaDoor
open Go.RowKit Go.Shelf Go.Lib Go.Sort Go.Maps

/-- Without those of a list that have no things. -/
def cutL {α : Type} (C : Int → Option Nat) (M : Int → Option α) (l : List Int) : Int → Option α := fun y => if y ∈ l ∧ val C y = 0 then none else M y
theorem cutL_nil {α : Type} (C : Int → Option Nat) (M : Int → Option α) : cutL C M [] = M := by
  funext y; unfold cutL; rw [if_neg (fun h => by cases h.1)]
theorem cutL_hit {α : Type} {C : Int → Option Nat} {M : Int → Option α} {l : List Int} {x : Int} (h : val C x = 0) : (fun y => if y = x then none else cutL C M l y) = cutL C M (l ++ [x]) := by
  funext y; unfold cutL
  by_cases e : y = x
  · subst e; rw [if_pos rfl, if_pos ⟨by simp, h⟩]
  · rw [if_neg e]
    have : (y ∈ l ++ [x] ∧ val C y = 0) ↔ (y ∈ l ∧ val C y = 0) := by simp [e]
    simp only [this]
theorem cutL_miss {α : Type} {C : Int → Option Nat} {M : Int → Option α} {l : List Int} {x : Int} (h : val C x ≠ 0) : cutL C M (l ++ [x]) = cutL C M l := by
  funext y; unfold cutL
  have : (y ∈ l ++ [x] ∧ val C y = 0) ↔ (y ∈ l ∧ val C y = 0) := by
    constructor
    · rintro ⟨h1, h2⟩
      rcases List.mem_append.1 h1 with h1 | h1
      · exact ⟨h1, h2⟩
      · rw [List.mem_singleton] at h1; subst h1; exact absurd h2 h
    · rintro ⟨h1, h2⟩; exact ⟨List.mem_append_left _ h1, h2⟩
  simp only [this]
theorem cutL_all {C : Int → Option Nat} {ks : List Int} (hk : Ks C ks) : cutL C C ks = reap C := by
  funext y; unfold cutL reap
  by_cases hv : val C y = 0
  · rw [if_pos hv]
    by_cases hy : y ∈ ks
    · rw [if_pos ⟨hy, hv⟩]
    · rw [if_neg (fun h => hy h.1)]
      cases e : C y with
      | none => rfl
      | some m => exact absurd ((hk.2 y).2 (by rw [e]; rfl)) hy
  · rw [if_neg hv, if_neg (fun h => hv h.2)]
/-- The frames that are free when those without things are given back. -/
def backU (C : Int → Option Nat) (U : Nat → Bool) (l : List Int) : Nat → Bool := l.foldl (fun U f => if val C f = 0 then join U 0 f.toNat else U) U
theorem backU_next (C : Int → Option Nat) (U : Nat → Bool) (l : List Int) (x : Int) : backU C U (l ++ [x]) = if val C x = 0 then join (backU C U l) 0 x.toNat else backU C U l := by
  unfold backU; rw [List.foldl_append]; rfl
theorem Most.cutL {per : Nat} {C : Int → Option Nat} (h : Most per C) (l : List Int) : Most per (cutL C C l) := fun x m hm => by
  unfold Proofs.YthknommfnajeiaaDoor.cutL at hm; split at hm
  · cases hm
  · exact h x m hm
theorem cutL_tk {C T : Int → Option Nat} (h : ∀ x, (C x).isSome = true → T x = some 0) (l : List Int) (x : Int) (hx : (cutL C C l x).isSome = true) : cutL C T l x = some 0 := by
  unfold cutL at *; split at hx
  · cases hx
  · rename_i hn; rw [if_neg hn]; exact h x hx
theorem num_del {C : Int → Option Nat} {n f : Nat} (hf : f < n) (h : (C f).isSome = true) : num (fun i => if i = (f : Int) then none else C i) n + 1 = num C n := by
  refine (sumTo_set (f := f) (d := 1) ?_ (fun i hi => ?_) n 0 (by omega) (by omega)).symm
  · simp [h]
  · have : ¬ (i : Int) = (f : Int) := by omega
    simp [this]

section
variable {w : World} {c b per g n m : Nat} {C : Int → Option Nat} {U : Nat → Bool} {T : Int → Option Nat} {A : Nat → Prop}

set_option maxRecDepth 100000 in
set_option maxHeartbeats 8000000 in
theorem creap_ok (h : CA w c b per g n C U T m A) :
    Calls Tryd.prog 38 #[cp c] w fun e w' => ∃ ks, Ks C ks ∧ e = .returned (.int .i64 ((ks.filter (vac C)).length : Nat)) ∧ CTurns w c b per g n A w' (reap C) (backU C U ks) (cutL C T ks) m := by
  have hs : num C n ≤ 1000 := by have := num_le C n; have := h.n256; omega
  go_enter Tryd.func38, Tryd.ntmps38
  go_wp2_with fail
  refine (frames_ok h.ch hs).mono ?_
  rintro e w2 ⟨v, ks, rfl, hks, hkl, hrow, hb2⟩
  obtain ⟨hk1, hk2⟩ := h.keys hks
  have h2 := h.below hb2
  have hread : ∀ i, (hi : i < ks.length) → ∃ gb cap, v = .slice (some ⟨gb, 0, none⟩) ks.length cap ∧ w.heap.size ≤ gb ∧ w2.cell? ⟨gb, i, none⟩ = some (.int .i64 ks[i]) ∧ gb < w2.heap.size := by
    intro i hi
    rcases zrow_read hrow with ⟨rfl, rfl⟩ | ⟨gb, cap, rfl, hN, hgl, _, _, hz⟩
    · cases hi
    · exact ⟨gb, cap, rfl, hN, hz i hi, hgl⟩
  obtain ⟨av, kv, rfl⟩ : ∃ a k, v = .slice a ks.length k := by
    rcases zrow_read hrow with ⟨rfl, rfl⟩ | ⟨gb, cap, rfl, _⟩
    · exact ⟨_, _, rfl⟩
    · exact ⟨_, _, rfl⟩
  have hgw := h.ch.mlt
  have hAw : ∀ i, A i → i < w.heap.size := fun i hi => h.pool.lt' hi
  have hnd := lt_nodup hks.1
  have hwn := h.within
  clear hrow
  go_wp2_with fail
  go_loopg [3, 9] ks.length (fun mm s3 s9 wr => ∃ (i : Nat) (A' : Nat → Prop), i + mm = ks.length ∧ s9 = .int .i64 i ∧ s3 = .int .i64 (((ks.take i).filter (vac C)).length : Nat) ∧ CA wr c b per g n (cutL C C (ks.take i)) (backU C U (ks.take i)) (cutL C T (ks.take i)) m A' ∧ Fr (fun j => A j ∨ j = g) w2 wr ∧ ∀ j, j < w2.heap.size → A' j → A j)
  case atStart =>
    refine ⟨0, A, by omega, rfl, rfl, ?_, Fr.refl _ _, fun _ _ h => h⟩
    rw [List.take_zero, cutL_nil, cutL_nil]; exact h2
  case round =>
    obtain ⟨i, A', hi, rfl, rfl, ca, fr, sub⟩ := hrel
    have hfl : ((ks.take i).filter (vac C)).length ≤ 256 := by
      have h1 := List.length_filter_le (vac C) (ks.take i)
      rw [List.length_take] at h1; omega
    by_cases hlt : (i : Int) < (ks.length : Int)
    · have hi' : i < ks.length := by omega
      obtain ⟨gb, cap, he, hgb, hcell, hgl⟩ := hread i hi'
      cases he
      have hcell' : wr.cell? ⟨gb, i, none⟩ = some (.int .i64 ks[i]) := by
        rw [World.cell?_of_block (w := w2) (a := ⟨gb, i, none⟩) (fr.block gb hgl (fun e => by
          rcases e with e | e
          · have := hAw gb e; omega
          · omega))]; exact hcell
      have hx := hk1 ks[i] (List.getElem_mem hi')
      have hxn := hwn ks[i] ((hks.2 _).1 (List.getElem_mem hi'))
      have hxs := (hks.2 ks[i]).1 (List.getElem_mem hi')
      have hnot : ks[i] ∉ ks.take i := by
        intro hm
        obtain ⟨j, hj, he⟩ := List.getElem_of_mem hm
        rw [List.length_take] at hj
        rw [List.getElem_take] at he
        have := (List.getElem_inj hnd).1 he
        omega
      have hCx : cutL C C (ks.take i) ks[i] = C ks[i] := by unfold cutL; rw [if_neg (fun h => hnot h.1)]
      have hvx : val (cutL C C (ks.take i)) ks[i] = val C ks[i] := by unfold val; rw [hCx]
      have htk : ks.take (i + 1) = ks.take i ++ [ks[i]] := List.take_succ_eq_append_getElem hi'
      have hwf : (Lit.int .i64 ks[i]).wf = true := wf_small hx.1 (by omega)
      have c0 := ca.ch.c0
      have c2 := ca.ch.c2
      have hmap := ca.ch.map
      have hcm := cm_val (cutL C C (ks.take i)) ks[i]
      rw [hvx] at hcm
      by_cases hv : val C ks[i] = 0
      · as_aux_lemma =>
          obtain ⟨q, hq⟩ : ∃ q : Nat, ks[i] = (q : Int) := ⟨ks[i].toNat, by omega⟩
          have hTq : cutL C T (ks.take i) ((q * 2 ^ 0 : Nat) : Int) = some 0 := by
            rw [Nat.pow_zero, Nat.mul_one, ← hq]; exact ca.tk _ (by rw [hCx]; exact hxs)
          have hG := give_ok ca.pool q 0 hTq
          rw [Nat.pow_zero, Nat.mul_one, ← hq] at hG
          have hfn : ((ks.take (i + 1)).filter (vac C)).length = ((ks.take i).filter (vac C)).length + 1 := by
            rw [htk, List.filter_append, List.length_append]; simp [vac, hv]
          have hU' : backU C U (ks.take (i + 1)) = join (backU C U (ks.take i)) 0 q := by
            rw [htk, backU_next, if_pos hv, hq]; rfl
          have hC' := cutL_hit (C := C) (M := C) (l := ks.take i) hv
          have hT' := cutL_hit (C := C) (M := T) (l := ks.take i) hv
          rw [← htk] at hC' hT'
          have hnd' := num_del (C := cutL C C (ks.take i)) (n := n) (f := q) (by omega) (by rw [← hq, hCx]; exact hxs)
          rw [← hq, hC'] at hnd'
          have hcd := cm_del (cutL C C (ks.take i)) ks[i]
          rw [hC'] at hcd
          have hcs := cm_isSome (cutL C C (ks.take i)) ks[i]
          rw [hCx, hxs] at hcs
          rw [hv] at hcm
          rw [hT', ← hU'] at hG
          have hmost := h.most.cutL (ks.take (i + 1))
          have htk' := cutL_tk h.tk (ks.take (i + 1))
          have hoc := ca.offc
          have hog := ca.offg
          have hG' : Calls Tryd.prog 23 #[pp b, .int .i64 ks[i], .int .i64 0] wr fun e w' => e = .returned .nilIface ∧ Turns wr b n A' w' (backU C U (ks.take (i + 1))) (cutL C T (ks.take (i + 1))) m ∧ w'.heap[c]? = some (.cells #[pp b, .int .i64 (per : Int), .map (some g)] 111) ∧ w'.cell? ⟨c, 2, none⟩ = some (.map (some g)) ∧ PMap w' g (num (cutL C C (ks.take i)) n) (cm (cutL C C (ks.take i))) := by
            refine hG.mono ?_
            rintro e w' ⟨he, A5, a5, f5, s5⟩
            have hc5 : Ch w' c b per g (num (cutL C C (ks.take i)) n) (cutL C C (ks.take i)) := ca.ch.keep (f5.block c ca.ch.lt ca.offc) (f5.block g ca.ch.mlt ca.offg)
            exact ⟨he, ⟨A5, a5, f5, s5⟩, hc5.head, hc5.c2, hc5.map⟩
          have hcl := ca.ch.lt
          have hgl' := ca.ch.mlt
          have hcg := ca.ch.ne
          have hAl : ∀ j, A' j → j < wr.heap.size := fun j hj => ca.pool.lt' hj
          clear hG hread hcell hTq hU' hC' hT' hvx hq ca
          generalize hxx : ks[i] = x0 at *
          generalize hs0 : num (cutL C C (ks.take i)) n = s0 at *
          generalize hM0 : cm (cutL C C (ks.take i)) = M0 at *
          go_wp2_with (first
            | (at_lookup; refine wpList_klook rfl _ _ 109 rfl 115 Tryd.underlying109 _ (zero_u32 _) g s0 M0 rfl hmap x0 rfl hwf ?_; rw [hcm])
            | (go_at_call 23; refine hG'.mono ?_; rintro e w5 ⟨rfl, ⟨A5, a5, f5, s5⟩, hd5, c25, pm5⟩)
            | (at_delete; refine wpList_kdel rfl _ _ 109 rfl 115 Tryd.underlying109 g s0 M0 rfl pm5 x0 rfl hwf ?_; intro w6 pm6 g6; rw [hcs, hcd] at pm6))
          have hgw5 : g < w5.heap.size := pm5.lt
          have hsubA : ∀ j, j < w2.heap.size → A5 j → A j := fun j hj h5 => sub j hj (s5 j (Nat.lt_of_lt_of_le hj fr.size) h5)
          go_roundg (ks.length - (i + 1))
          case measure => omega
          case rel =>
            refine ⟨i + 1, A5, by omega, by go_num, by rw [hfn]; go_num, ⟨⟨?_, ?_⟩, ?_, h.per1, h.per16, hmost, htk', fun h5 => hoc (s5 c hcl h5), fun h5 => hog (s5 g hgl' h5)⟩, ?_, hsubA⟩
            · exact (g6.block c (Nat.lt_of_lt_of_le hcl f5.size) (fun e => hcg (Option.some.inj e))).trans hd5
            · rw [show num (cutL C C (ks.take (i + 1))) n = s0 - 1 by omega]; simpa using pm6
            · exact a5.keep' (fun j hj => g6.block j (a5.lt' hj) (fun e => hog (s5 g hgl' (by cases e; exact hj))))
            · refine (fr.trans f5 (fun j hj h' => .inl (sub j hj h'))).trans (Fr.grown g6) (fun j _ e => .inr e)
      · as_aux_lemma =>
          have hfn : ((ks.take (i + 1)).filter (vac C)).length = ((ks.take i).filter (vac C)).length := by
            rw [htk, List.filter_append, List.length_append]; simp [vac, hv]
          have hU' : backU C U (ks.take (i + 1)) = backU C U (ks.take i) := by rw [htk, backU_next, if_neg hv]
          have hC' := cutL_miss (M := C) (l := ks.take i) hv
          have hT' := cutL_miss (M := T) (l := ks.take i) hv
          rw [← htk] at hC' hT'
          rw [← hC', ← hU', ← hT'] at ca
          have hv' : ¬ ((val C ks[i] : Nat) : Int) = 0 := by omega
          have hv2 : (((val C ks[i] : Nat) : Int) == 0) = false := by simpa using hv
          clear hread hcell hvx hU' hC' hT' hCx
          generalize hxx : ks[i] = x0 at *
          generalize hs0 : num (cutL C C (ks.take i)) n = s0 at *
          generalize hM0 : cm (cutL C C (ks.take i)) = M0 at *
          generalize val C x0 = v0 at *
          go_wp2_with (first
            | (at_lookup; refine wpList_klook rfl _ _ 109 rfl 115 Tryd.underlying109 _ (zero_u32 _) g s0 M0 rfl hmap x0 rfl hwf ?_; rw [hcm]))
          go_roundg (ks.length - (i + 1))
          case measure => omega
          case rel => exact ⟨i + 1, A', by omega, by go_num, by rw [hfn], ca, fr, sub⟩
    · have hil : i = ks.length := by omega
      rw [List.take_of_length_le (by omega), cutL_all hks] at ca
      rw [List.take_of_length_le (by omega)]
      go_wp2_with fail
      go_ret
      refine ⟨ks, hks, rfl, A', ca, ⟨fr.os.trans hb2.os, fr.tape.trans hb2.tape, fr.output.trans hb2.output, Nat.le_trans hb2.size fr.size, fun j hj hn => (fr.block j (Nat.lt_of_lt_of_le hj hb2.size) hn).trans (hb2.block j hj)⟩, fun j hj h' => sub j (Nat.lt_of_lt_of_le hj hb2.size) h'⟩
end
end Go.Proofs.YthknommfnajeiaaDoor

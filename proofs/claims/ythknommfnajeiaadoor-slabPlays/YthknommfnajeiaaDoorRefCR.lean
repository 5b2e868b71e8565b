/- The document's cache's Reap, by its Go text. -/
import Derived.Test.YthknommfnajeiaaDoorRefCN
namespace Go.Proofs.YthknommfnajeiaaDoor
open Go.RowKit Go.Shelf Go.Lib Go.Sort Go.Maps

theorem Ks.reap {C : Int → Option Nat} {L : List Int} (h : Ks C L) : Ks (reap C) (L.filter fun x => !vac C x) := by
  refine ⟨h.1.filter _, fun x => ?_⟩
  rw [List.mem_filter, reap_some, h.2 x]
  unfold vac
  constructor
  · rintro ⟨_, h2⟩; simpa using h2
  · intro h2; exact ⟨some_of_val h2, by simpa using h2⟩
theorem filter_len (P : Int → Bool) : ∀ L : List Int, (L.filter fun x => !P x).length + (L.filter P).length = L.length
  | [] => rfl
  | x :: L => by
    have := filter_len P L
    cases e : P x <;> simp [e] <;> omega

set_option maxRecDepth 100000 in
set_option maxHeartbeats 8000000 in
theorem rcreap_ok {w : World} {B rc r f g gt per n m : Nat} {vs : Value} {L : List Int} {C : Int → Option Nat} {U : Nat → Bool} {T : Int → Option Nat} (h : RS w B rc r f g gt per n vs L C U T m) (hB : B ≤ w.heap.size) :
    Calls Tryd.prog 39 #[pp rc] w fun e w' => e = .returned (.int .i64 ((L.filter (vac C)).length : Nat)) ∧ RTurns w B rc r f g gt per n vs w' (reap C) (backU C U L) (cutL C T L) m := by
  have hp16 := h.per16
  have hrcl := h.lt (.inl rfl)
  have hgtl := h.lt (.inr (.inr (.inl rfl)))
  obtain ⟨hk1, hk2⟩ := h.keysIn
  obtain ⟨av, kv, rfl⟩ : ∃ a k, vs = .slice a L.length k := by
    rcases zrow_read h.row with ⟨h', rfl⟩ | ⟨gb, cap, h', _⟩
    · exact ⟨_, _, h'⟩
    · exact ⟨_, _, h'⟩
  have hread : ∀ i, (hi : i < L.length) → ∃ gb, av = some ⟨gb, 0, none⟩ ∧ w.cell? ⟨gb, i, none⟩ = some (.int .i64 L[i]) ∧ gb < w.heap.size ∧ ¬ rown r f g gb := by
    intro i hi
    rcases zrow_read h.row with ⟨_, rfl⟩ | ⟨gb, cap, h', _, hgl, _, _, hz⟩
    · cases hi
    · cases h'; exact ⟨gb, rfl, hz i hi, hgl, (h.vsr gb rfl).1⟩
  have hnd := lt_nodup h.keys.1
  have hwn := h.within
  obtain ⟨i0, hi0, hz0, hz1, hz2⟩ := info_parts (P := Tryd.prog) (e := 3) (z := .int .i64 0) (size := 1) (bytes := 8) (by kernel_rfl)
  have c3 := h.c3
  have hcells : ∀ W : World, Fr (rown r f g) w W → W.heap[rc]? = some (.cells #[pp r, .int .i64 (per : Int), .map (some gt), .slice av L.length kv] 73) ∧ PMap W gt (tot C n) (th per C) := fun W hW =>
    ⟨(hW.block rc hrcl h.rcr).trans h.head, h.map.keep (hW.block gt hgtl h.gtr)⟩
  go_enter Tryd.func39, Tryd.ntmps39
  go_wp2_with fail
  go_loopg [3, 12] L.length (fun mm s3 s12 wr => ∃ i : Nat, i + mm = L.length ∧ s12 = .int .i64 i ∧ wr.ownsRow w.heap.size 3 1 s3 ((L.take i).filter fun x => !vac C x).length (((L.take i).filter fun x => !vac C x).map encZ) ∧ RAt wr r f g n (backU C U (L.take i)) (cutL C T (L.take i)) m ∧ Inv n (backU C U (L.take i)) (cutL C T (L.take i)) ∧ Fr (rown r f g) w wr)
  case atStart =>
    refine ⟨0, by omega, rfl, World.ownsRow_nil _ _ _ _, ?_, ?_, Fr.refl _ _⟩
    · rw [List.take_zero, cutL_nil]; exact h.pool
    · rw [List.take_zero, cutL_nil]; exact h.inv
  case round =>
    obtain ⟨i, hi, rfl, row, R, inv, fr⟩ := hrel
    obtain ⟨hd, pm⟩ := hcells _ fr
    have hfl : ((L.take i).filter fun x => !vac C x).length ≤ 256 := by
      have h1 := List.length_filter_le (fun x => !vac C x) (L.take i)
      rw [List.length_take] at h1; omega
    obtain ⟨a3, k3, hv3⟩ : ∃ a k, u3 = .slice a ((L.take i).filter fun x => !vac C x).length k := by
      rcases row.2 with ⟨e, h0⟩ | ⟨gb, cap, cur, e, _⟩
      · exact ⟨none, 0, by rw [e, h0]⟩
      · exact ⟨_, _, e⟩
    by_cases hlt : (i : Int) < (L.length : Int)
    · have hi' : i < L.length := by omega
      obtain ⟨gb, hgb, hc, hgl, hgr⟩ := hread i hi'
      subst hgb
      as_aux_lemma =>
        have hc' : wr.cell? ⟨gb, i, none⟩ = some (.int .i64 L[i]) := by rw [World.cell?_of_block (w := w) (a := ⟨gb, i, none⟩) (fr.block gb hgl hgr)]; exact hc
        have hx := hk1 L[i] (List.getElem_mem hi')
        have hxn := hwn L[i] ((h.keys.2 _).1 (List.getElem_mem hi'))
        have hxs := (h.keys.2 L[i]).1 (List.getElem_mem hi')
        have hnot : L[i] ∉ L.take i := by
          intro hm
          obtain ⟨j, hj, he⟩ := List.getElem_of_mem hm
          rw [List.length_take] at hj
          rw [List.getElem_take] at he
          have := (List.getElem_inj hnd).1 he
          omega
        have htk : L.take (i + 1) = L.take i ++ [L[i]] := List.take_succ_eq_append_getElem hi'
        obtain ⟨F, hF⟩ : ∃ F : Nat, L[i] = (F : Int) := ⟨L[i].toNat, by omega⟩
        have hv : val C (F : Int) < 65536 := Nat.lt_of_lt_of_le (h.most.val _) (Nat.pow_le_pow_right (by omega : 0 < 2) hp16)
        have hop := ones_pos hv
        have c0 : wr.cell? ⟨rc, 0, none⟩ = some (pp r) := by rw [cell_of_row wr rc 0 _ _ _ hd]; rfl
        have hH := rhas_at (w := wr) (rc := rc) (by rw [cell_of_row wr rc 1 _ _ _ hd]; rfl) (by rw [cell_of_row wr rc 2 _ _ _ hd]; rfl) pm hp16 h.most F (by omega)
        have hol := ones_le (val C (F : Int))
        rw [hF] at hc' htk hxs hnot
        clear hread hc hgl
        by_cases hz : val C (F : Int) = 0
        · have ho0 : ones (val C (F : Int)) = 0 := hop.2 hz
          have hTq : cutL C T (L.take i) ((F * 2 ^ 0 : Nat) : Int) = some 0 := by
            rw [Nat.pow_zero, Nat.mul_one]; unfold cutL; rw [if_neg (fun h' => hnot h'.1)]; exact h.tk _ hxs
          have hG := fun q => rgive_ok (R.keep (w' := wr.drewN q) (fun _ _ => rfl)) inv F 0 hTq
          have inv' := inv.give hTq
          have hU' : backU C U (L.take (i + 1)) = join (backU C U (L.take i)) 0 F := by rw [htk, backU_next, if_pos hz]; rfl
          have hT' := cutL_hit (C := C) (M := T) (l := L.take i) hz
          rw [← htk] at hT'
          have hf' : (L.take (i + 1)).filter (fun x => !vac C x) = (L.take i).filter (fun x => !vac C x) := by
            rw [htk, List.filter_append]; simp [vac, hz]
          rw [Nat.pow_zero, Nat.mul_one, hT', ← hU'] at inv'
          simp only [Nat.pow_zero, Nat.mul_one] at hG
          rw [hT', ← hU'] at hG
          rw [ho0] at hH
          clear hop hU' hT' hTq
          go_wp2_with fail
          refine hH.mono ?_
          rintro e w2 ⟨rfl, q, rfl⟩
          go_wp2_with fail
          refine (hG q).mono ?_
          rintro e w5 ⟨rfl, R5, F5⟩
          go_wp2_with fail
          go_roundg (L.length - (i + 1))
          case measure => omega
          case rel =>
            have fr5 : Fr (rown r f g) w w5 := (fr.trans (Fr.drewN (rown r f g) wr q) (fun _ _ h => h)).trans F5 (fun _ _ h => h)
            refine ⟨i + 1, by omega, by go_num, ?_, R5, inv', fr5⟩
            rw [hf', ← hv3]
            refine ⟨row.1, ?_⟩
            rcases row.2 with h0 | ⟨g3, cap, cur, e, hN, hg, rest⟩
            · exact .inl h0
            · refine .inr ⟨g3, cap, cur, e, hN, (F5.block g3 (lt_of_heap hg) (fun hh => ?_)).trans hg, rest⟩
              have := h.pool.lt hh; omega
        · have hp0 : (0 : Int) < ((ones (val C (F : Int)) : Nat) : Int) := by have := fun e => hz (hop.1 e); omega
          have hU' : backU C U (L.take (i + 1)) = backU C U (L.take i) := by rw [htk, backU_next, if_neg hz]
          have hT' := cutL_miss (M := T) (l := L.take i) hz
          rw [← htk] at hT'
          have hf' : (L.take (i + 1)).filter (fun x => !vac C x) = (L.take i).filter (fun x => !vac C x) ++ [(F : Int)] := by
            rw [htk, List.filter_append]; simp [vac, hz]
          have h63 : ((L.take i).filter fun x => !vac C x).length + 1 ≤ maxLen := by unfold maxLen; omega
          have hby : (((L.take i).filter fun x => !vac C x).length + 1) * 8 ≤ 140737488355328 := by omega
          have h1c : ∀ u ∈ ([.int .i64 (F : Int)] : List Value), u.oneCell' = true := by intro u hu; rw [List.mem_singleton] at hu; rw [hu]; rfl
          rw [← hU', ← hT'] at R inv
          clear hop hU' hT' hol
          generalize ones (val C (F : Int)) = o0 at *
          go_wp2_with fail
          refine hH.mono ?_
          rintro e w2 ⟨rfl, q, rfl⟩
          have hnews := new_one (wr.drewN q) (.int .i64 (F : Int)) 3
          have row2 : (wr.drewN q).ownsRow w.heap.size 3 1 u3 ((L.take i).filter fun x => !vac C x).length (((L.take i).filter fun x => !vac C x).map encZ) := row
          have row6 := World.ownsRow.alloc row2 (.cells #[.int .i64 (F : Int)] 3)
          have hbase : w.heap.size ≤ ((wr.drewN q).alloc (.cells #[.int .i64 (F : Int)] 3)).heap.size := by have := fr.size; simp; omega
          subst hv3
          go_wp2_with (at_builtin; refine wpList_append_own_at _ rfl _ _ 56 rfl w.heap.size 3 i0 (.int .i64 0) 1 8 Tryd.underlying56 hi0 hz0 hz1 hz2 rfl (by decide) _ _ _ rfl row6 ⟨(wr.drewN q).heap.size, 0, none⟩ 1 1 [.int .i64 (F : Int)] rfl rfl hnews h1c h63 hby hbase ?_; intro v7 w7 ho7 hg7 hnil7 hv7)
          go_roundg (L.length - (i + 1))
          case measure => omega
          case rel =>
            have hnr : ∀ j, rown r f g j → w7.heap[j]? = wr.heap[j]? := fun j hj => by
              have hjl := R.lt hj
              rw [hg7.block j (by simp; omega) (fun e => by have := (World.ownsRow.lt row j e.symm).1; have := h.pool.lt hj; omega)]
              exact Below.heap_alloc _ _ _ hjl
            refine ⟨i + 1, by omega, by go_num, ?_, R.keep hnr, inv, ?_⟩
            · rw [hf', List.length_append, List.map_append]; exact ho7
            · refine ⟨hg7.os.trans fr.os, hg7.tape.trans fr.tape, hg7.output.trans fr.output, by have := hg7.size; have := fr.size; simp at *; omega, fun j hj hn => ?_⟩
              rw [hg7.block j (by have := fr.size; simp; omega) (fun e => by have := (World.ownsRow.lt row j e.symm).1; omega), Below.heap_alloc _ _ _ (by have := fr.size; simp; omega)]
              exact fr.block j hj hn
    · as_aux_lemma =>
        have hil : i = L.length := by omega
        have htk : L.take i = L := List.take_of_length_le (by omega)
        rw [htk] at row R inv hv3 hfl
        have hfx := filter_len (vac C) L
        subst hv3
        have c3' : wr.cell? ⟨rc, 3, none⟩ = some (.slice av L.length kv) := by rw [cell_of_row wr rc 3 _ _ _ hd]; rfl
        have z3 : wr.frozen? ⟨rc, 3, none⟩ = false := by simp [World.frozen?, hd]
        have hsub : (L.length : Int) - (((L.filter fun x => !vac C x).length : Nat) : Int) = (((L.filter (vac C)).length : Nat) : Int) := by omega
        have hle : (L.filter (vac C)).length ≤ 256 := by omega
        have hks := h.keys.reap
        generalize (L.filter fun x => !vac C x) = L2 at *
        generalize hnv : (L.filter (vac C)).length = nv at *
        go_wp2_with fail
        go_ret
        have hk8 : ∀ j, j ≠ rc → (wr.setCell ⟨rc, 3, none⟩ (.slice a3 L2.length k3)).heap[j]? = wr.heap[j]? := fun j hj => Below.heap_setCell _ _ _ _ hj
        have hb3 : ∀ j, (Value.slice a3 L2.length k3).ownBlock = some j → w.heap.size ≤ j := fun j hj => (World.ownsRow.lt row j hj).1
        refine ⟨by first | rfl | (rw [hnv]; rfl), .slice a3 L2.length k3, L2, ⟨?_, ?_, ⟨row.1, ?_⟩, ?_, hks, inv, fun x hx => ?_, h.per1, h.per16, h.most.reap, h.rcr, h.gtr, fun j hj => ?_⟩, ?_, fun j hj hr => ?_⟩
        · rw [heap_setCell_same wr rc 3 _ _ _ _ hd]; rfl
        · rw [tot_reap, th_same (isT_reap per C)]; exact pm.keep (hk8 gt (fun e => h.rcgt e.symm))
        · rcases row.2 with h0 | ⟨g3, cap, cur, e, hN, hg, rest⟩
          · exact .inl h0
          · exact .inr ⟨g3, cap, cur, e, Nat.le_trans hB hN, (hk8 g3 (fun e' => by omega)).trans hg, rest⟩
        · exact R.keep (fun j hj => hk8 j (fun e => h.rcr (e ▸ hj)))
        · rw [← cutL_all h.keys] at hx
          exact cutL_tk h.tk L x hx
        · have := hb3 j hj
          refine ⟨fun hh => ?_, by omega, by omega⟩
          have := h.pool.lt hh; omega
        · exact (fr.mono (fun j _ hh => .inr (.inl hh))).setCell rc 3 _ (fun _ => .inl rfl)
        · rcases hr with e | e | e | e
          · exact .inl e
          · exact .inr (.inl e)
          · exact .inr (.inr (.inl e))
          · have := hb3 j e; omega
end Go.Proofs.YthknommfnajeiaaDoor

/- The document's New and Give, each by its Go text. -/
import Derived.Test.YthknommfnajeiaaDoorRefFree
namespace Go.Proofs.YthknommfnajeiaaDoor
open Go.RowKit Go.Shelf Go.Lib Go.Sort

theorem new_one (w : World) (v : Value) (t : TypeId) : ∀ j u, [v][j]? = some u → (w.alloc (.cells #[v] t)).cell? ((⟨w.heap.size, 0, none⟩ : Addr).add j) = some u := by
  intro j u h
  have hh : (w.alloc (.cells #[v] t)).heap[w.heap.size]? = some (.cells #[v] t) := by
    show (w.heap.push _)[w.heap.size]? = _
    rw [Array.getElem?_push, if_pos rfl]
  rw [Addr.add_lit, cell_of_row _ _ _ _ _ _ hh, Nat.zero_add]
  match j, h with
  | 0, h => exact h
  | j + 1, h => simp at h

/-- The document's pool under way: its struct at r, of the frames that it has so far all free. -/
structure Half (w0 w : World) (r g j : Nat) (v : Value) : Prop where
  head : w.heap[r]? = some (.cells #[v, .map (some g)] 99)
  row : w.ownsRow (r + 1) 4 1 v j (List.replicate j (.bool true))
  map : PMap w g 0 (fun _ => none)
  fr : Fr (fun _ => False) w0 w
  lg : w0.heap.size ≤ g
  lr : g < r
  ls : r < w.heap.size

set_option maxRecDepth 100000 in
set_option maxHeartbeats 2000000 in
theorem rnew_ok (w : World) (n : Nat) (h1 : 1 ≤ n) (h2 : n ≤ 256) :
    Calls Tryd.prog 17 #[.int .i64 n] w fun e w' => ∃ r, e = .returned (pp r) ∧ ∃ f g, RAt w' r f g n (fun f => decide (f < n)) (fun _ => none) 0 ∧ Fr (fun _ => False) w w' ∧ w.heap.size ≤ r ∧ w.heap.size ≤ f ∧ w.heap.size ≤ g := by
  have hmm := @run_makeMap Tryd.prog
  obtain ⟨i0, hi, hz0, hz1, hz2⟩ := info_parts (P := Tryd.prog) (e := 4) (z := .bool false) (size := 1) (bytes := 1) (by kernel_rfl)
  have H0 : Half w ((w.alloc (.map #[] 0)).alloc (.cells #[.slice none 0 0, .map (some w.heap.size)] 99)) (w.heap.size + 1) w.heap.size 0 (.slice none 0 0) := by
    refine ⟨?_, World.ownsRow_nil _ _ _ _, (PMap.made w).keep (Below.heap_alloc _ _ _ (by simp)), (Fr.alloc _ w _).trans (Fr.alloc _ _ _) (fun _ _ h => h), Nat.le_refl _, by omega, by simp⟩
    show ((w.heap.push _).push _)[w.heap.size + 1]? = _
    rw [Array.getElem?_push, if_pos (by simp)]
  go_enter Tryd.func17, Tryd.ntmps17
  go_wp2_with fail
  go_loopg [8] n (fun mm s8 wr => ∃ (j : Nat) (v : Value), j + mm = n ∧ s8 = .int .i64 j ∧ Half w wr (w.heap.size + 1) w.heap.size j v)
  case atStart => exact ⟨0, _, by omega, rfl, H0⟩
  case round =>
    obtain ⟨j, v, hj, rfl, H⟩ := hrel
    by_cases hlt : (j : Int) < n
    · have c0 : wr.cell? ⟨w.heap.size + 1, 0, none⟩ = some v := by rw [cell_of_row wr (w.heap.size + 1) _ _ _ _ H.head]; rfl
      have c0' : ∀ o, (wr.alloc o).cell? ⟨w.heap.size + 1, 0, none⟩ = some v := fun o => (World.cell?_of_block (w := wr) (a := ⟨w.heap.size + 1, 0, none⟩) (Below.heap_alloc wr o (w.heap.size + 1) H.ls)).trans c0
      have hnews := new_one wr (.bool true) 4
      have h63 : j + 1 ≤ maxLen := by unfold maxLen; omega
      have hby : (j + 1) * 1 ≤ 140737488355328 := by omega
      have hbase : ∀ o, w.heap.size + 1 + 1 ≤ (wr.alloc o).heap.size := fun o => by have := H.ls; simp; omega
      have h1c : ∀ u ∈ [Value.bool true], u.oneCell' = true := by intro u hu; rw [List.mem_singleton] at hu; subst hu; rfl
      have hstep : ∀ v' w2, w2.ownsRow (w.heap.size + 1 + 1) 4 1 v' (j + 1) (List.replicate j (.bool true) ++ [.bool true]) → (wr.alloc (.cells #[.bool true] 4)).grownBy w2 v.ownBlock → ∃ gb cp, v' = .slice (some ⟨gb, 0, none⟩) (j + 1) cp ∧ Half w (w2.setCell ⟨w.heap.size + 1, 0, none⟩ v') (w.heap.size + 1) w.heap.size (j + 1) v' ∧ w2.cell? ⟨w.heap.size + 1, 0, none⟩ = some v ∧ w2.frozen? ⟨w.heap.size + 1, 0, none⟩ = false := by
        intro v' w2 ho hgr
        obtain ⟨gb, cp, hform⟩ : ∃ gb cp, v' = .slice (some ⟨gb, 0, none⟩) (j + 1) cp := by
          rcases ho.2 with ⟨_, h0⟩ | ⟨g, cap, cur, e, _⟩
          · omega
          · exact ⟨g, cap, e⟩
        refine ⟨gb, cp, hform, ?_⟩
        have hne : ∀ i, i < w.heap.size + 1 + 1 → some i ≠ v.ownBlock := fun i hi e => by have := (World.ownsRow.lt H.row i e.symm).1; omega
        have hb : ∀ i, i < w.heap.size + 1 + 1 → w2.heap[i]? = wr.heap[i]? := fun i hi => (hgr.block i (by have := H.ls; simp; omega) (hne i hi)).trans (Below.heap_alloc _ _ _ (by have := H.ls; omega))
        have hb0 : w2.heap[w.heap.size + 1]? = some (.cells #[v, .map (some w.heap.size)] 99) := (hb (w.heap.size + 1) (by omega)).trans H.head
        refine ⟨⟨?_, ?_, H.map.keep ((Below.heap_setCell _ _ _ _ (fun e => by simp at e)).trans (hb w.heap.size (by omega))), ?_, H.lg, H.lr, ?_⟩, ?_, ?_⟩
        · rw [heap_setCell_same w2 (w.heap.size + 1) 0 v' _ _ _ hb0]; rfl
        · rw [List.replicate_succ']
          exact ownsRow_setCell_below ho (a := ⟨w.heap.size + 1, 0, none⟩) (by show w.heap.size + 1 < w.heap.size + 1 + 1; omega) v'
        · refine Fr.setCell ?_ (w.heap.size + 1) 0 v' (fun hr' => by have := H.lg; have := H.lr; omega)
          refine ⟨hgr.os.trans H.fr.os, hgr.tape.trans H.fr.tape, hgr.output.trans H.fr.output, by have := hgr.size; have := H.fr.size; simp at *; omega, fun i hi _ => ?_⟩
          rw [hb i (by have := H.lg; have := H.lr; omega)]; exact H.fr.block i hi (fun h => h)
        · have := hgr.size; have := H.ls; simp at *; omega
        · rw [cell_of_row w2 (w.heap.size + 1) _ _ _ _ hb0]; rfl
        · simp [World.frozen?, hb0]
      have hrow := H.row
      clear H0
      go_wp2_with (at_builtin; refine wpList_append_own _ rfl _ _ 97 rfl (w.heap.size + 1 + 1) 4 i0 (.bool false) 1 1 Tryd.underlying97 hi hz0 hz1 hz2 rfl (by decide) _ _ _ rfl (hrow.alloc _) ⟨wr.heap.size, 0, none⟩ 1 1 [.bool true] rfl rfl hnews h1c h63 hby (hbase _) ?_; intro v2 w2 ho2 hg2 hnil2; obtain ⟨gb, cp, rfl, H2, c2, z2⟩ := hstep v2 w2 ho2 hg2)
      go_roundg (n - (j + 1))
      case measure => omega
      case rel => exact ⟨j + 1, _, by omega, by go_num, H2⟩
    · have hjn : j = n := by omega
      subst hjn
      go_wp2_with fail
      go_ret
      rcases H.row.2 with ⟨_, h0⟩ | ⟨f, cap, cur, rfl, hf, hh, hc1, hc2, hc3, hc4⟩
      · omega
      · refine ⟨w.heap.size + 1, rfl, f, w.heap.size, ⟨⟨cap, H.head, hc1⟩, ⟨cur, hh, fun i hi => ?_⟩, ⟨0, by exact H.map, Nat.le_refl _⟩, fun i hi => by simpa using hi, h2⟩, H.fr, by have := H.lg; have := H.lr; omega, by have := H.lg; have := H.lr; omega, H.lg⟩
        have : (cur.toList.take (j * 1))[i]? = (List.replicate j (Value.bool true))[i]? := by rw [hc4]
        rw [List.getElem?_take, if_pos (by omega)] at this
        simp [hi] at this ⊢
        exact this
end Go.Proofs.YthknommfnajeiaaDoor

/- Free of package buddy, by its Go text. -/
import Derived.Test.YthknommfnajeiaaDoorFrees
namespace Go.Proofs.YthknommfnajeiaaDoor
open Go.RowKit Go.Shelf Go.Lib Go.Sort

theorem row_read {w : World} {o : Option Nat} {a : Option Addr} {c : Nat} {xs : List Int} (h : RowAt w o (.slice a xs.length c) xs) (j : Nat) (hj : j < xs.length) : ∃ s, a = some ⟨s, 0, none⟩ ∧ w.cell? ⟨s, j, none⟩ = some (.int .i64 (xs.getD j 0)) ∧ s < w.heap.size := by
  cases o with
  | none => obtain ⟨_, h2⟩ := h; subst h2; simp at hj
  | some s =>
    obtain ⟨cc, h1, h2, _, _, h5⟩ := h
    cases h2
    exact ⟨s, rfl, by rw [cell_of_row w s _ _ _ _ h1]; exact h5 j hj, lt_of_heap h1⟩

theorem row_mid {F : Nat → List Int} {k j : Nat} (hj : j < (F k).length) : (cat F k ++ ((F k).take j).map fun b => (b, (k : Int))) ++ [((F k).getD j 0, (k : Int))] = cat F k ++ ((F k).take (j + 1)).map fun b => (b, (k : Int)) := by
  rw [List.append_assoc, List.take_add_one, List.map_append]
  simp [hj, List.getD_eq_getElem?_getD]

theorem new_two (w : World) (x y : Int) (t : TypeId) : ∀ j u, (be (x, y))[j]? = some u → (w.alloc (.cells #[.int .i64 x, .int .i64 y] t)).cell? ((⟨w.heap.size, 0, none⟩ : Addr).add j) = some u := by
  intro j u h
  have hh : (w.alloc (.cells #[.int .i64 x, .int .i64 y] t)).heap[w.heap.size]? = some (.cells #[.int .i64 x, .int .i64 y] t) := by
    show (w.heap.push _)[w.heap.size]? = _
    rw [Array.getElem?_push, if_pos rfl]
  rw [Addr.add_lit, cell_of_row _ _ _ _ _ _ hh, Nat.zero_add]
  match j, h with
  | 0, h => exact h
  | 1, h => exact h
  | j + 2, h => simp [be] at h

set_option maxRecDepth 100000 in
set_option maxHeartbeats 4000000 in
theorem free_ok {w : World} {b n : Nat} {U : Nat → Bool} {T : Int → Option Nat} {m : Nat} {A : Nat → Prop} (h : At w b n U T m A) :
    Calls Tryd.prog 19 #[pp b] w fun e w' => ∃ v, e = .returned v ∧ BL w' w.heap.size v ((blocks U n).map toInt) ∧ Below w.heap.size w w' := by
  obtain ⟨g, O, V, F, s, p, c, pm, hs, inv, hn, hA⟩ := h
  have hle := lf_le c inv.bound
  have c0 := p.cell (k := 0) (by omega)
  have c1 := p.cell (k := 1) (by omega)
  have c2 := p.cell (k := 2) (by omega)
  have c3 := p.cell (k := 3) (by omega)
  have c4 := p.cell (k := 4) (by omega)
  have c5 := p.cell (k := 5) (by omega)
  have c6 := p.cell (k := 6) (by omega)
  obtain ⟨i0, hi, hz0, hz1, hz2⟩ := info_parts (P := Tryd.prog) (e := 62) (z := .agg #[.int .i64 0, .int .i64 0]) (size := 2) (bytes := 16) (by kernel_rfl)
  go_enter Tryd.func19, Tryd.ntmps19
  go_wp2_with fail
  clear c0 c1 c2 c3 c4 c5 c6
  go_loopg [3, 14] 7 (fun mm s3 s14 wr => ∃ k : Nat, k + mm = 7 ∧ BL wr w.heap.size s3 (cat F k) ∧ s14 = .int .i64 k ∧ Below w.heap.size w wr)
  case atStart => exact ⟨0, by omega, World.ownsRow_nil _ _ _ _, rfl, Below.refl _ _⟩
  case round =>
    rename_i v3
    obtain ⟨k, hk, hB, rfl, hw⟩ := hrel
    by_cases hlt : (k : Int) < 7
    · have hk7 : k < 7 := by omega
      obtain ⟨a, cc, hv, _, _⟩ := (p.row k hk7).isSlice
      have hrow := p.row k hk7
      rw [hv] at hrow
      have hix := index7 V k hk7 wr
      rw [hv] at hix
      have hlen := len_le F (k := k) (m := 7) hk7
      go_wp2_with fail
      clear hix
      go_loopg [3, 20] (F k).length (fun mm s3 s20 w2 => ∃ j : Nat, j + mm = (F k).length ∧ BL w2 w.heap.size s3 (cat F k ++ ((F k).take j).map fun b => (b, (k : Int))) ∧ s20 = .int .i64 j ∧ Below w.heap.size w w2)
      case atStart => exact ⟨0, by omega, by simpa using hB, rfl, hw⟩
      case round =>
        rename_i v4
        obtain ⟨j, hj, hB2, rfl, hw2⟩ := hrel
        by_cases hjl : (j : Int) < (F k).length
        · have hjl' : j < (F k).length := by omega
          obtain ⟨sb, rfl, hcj, hsb⟩ := row_read hrow j hjl'
          have hcj2 : wr.cell? ⟨sb, j, none⟩ = some (.int .i64 ((F k).getD j 0)) := by rw [hw2.cell (p := ⟨sb, j, none⟩) hsb]; exact hcj
          have hmid := row_mid (F := F) (k := k) hjl'
          have hbl : ((cat F k ++ ((F k).take j).map fun b => (b, (k : Int))).length + 1) ≤ 257 := by
            have := cat_len F k; have := lf_row F (k := k) (m := 7) hk7; have h2 := Nat.le_mul_of_pos_right (F k).length (Nat.two_pow_pos k)
            simp; omega
          generalize (F k).getD j 0 = x at *
          go_wp2_with (at_builtin; refine wpList_append_own _ rfl _ _ 48 rfl w.heap.size 62 i0 (.agg #[.int .i64 0, .int .i64 0]) 2 16 Tryd.underlying48 hi hz0 hz1 hz2 rfl (by decide) _ _ _ rfl (hB2.alloc _) ⟨wr.heap.size, 0, none⟩ 1 1 (be (x, (k : Int))) rfl rfl (new_two _ _ _ _) (be_one _) (by unfold maxLen; omega) (by omega) (by have := hw2.size; simp; omega) ?_; intro v5 w3 hown3 hg3 hnil3)
          go_roundg ((F k).length - (j + 1))
          case measure => omega
          case rel =>
            refine ⟨j + 1, by omega, ?_, by go_num, ?_⟩
            · rw [← hmid]; unfold BL; rw [bc_app, List.length_append]; exact hown3
            · exact (hw2.alloc hw2.size _).grown hg3 (by have := hw2.size; simp; omega) (fun i hi => (World.ownsRow.lt hB2 i hi).1)
        · have hjl' : j = (F k).length := by omega
          subst hjl'
          rw [List.take_length] at hB2
          go_wp2_with fail
          go_roundg (7 - (k + 1))
          case measure => omega
          case rel => exact ⟨k + 1, by omega, hB2, by go_num, hw2⟩
    · have hk7 : k = 7 := by omega
      subst hk7
      have hsort := sort_ok hB (Nat.le_trans (cat_len F 7) (by omega))
      go_wp2_with (go_at_call 51; refine hsort.mono ?_; rintro e w2 ⟨rfl, M, hM, hp, hso, hw2⟩)
      go_ret
      refine ⟨_, rfl, ?_, hw.trans hw2⟩
      rw [← free_eq c inv.bound M hp hso]
      exact hM
end Go.Proofs.YthknommfnajeiaaDoor

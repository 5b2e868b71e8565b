/- The library's SplitSeq at a slash: its rounds, by its Go text. -/
import Derived.Test.YtjkneekfijibiabGreatDoorUParts
import Derived.Test.YtjkneekfijibiabGreatDoorKeys
import Derived.Sort.LoopGhostIn
import Derived.OneCell
namespace Go.Proofs.YtjkneekfijibiabGreatDoor
open Go.RowKit Go.Shelf
attribute [local go_sem] Oper.semAt_some

/-- A box's block, and its cell. -/
theorem box_cell {W : World} {B : Nat} {v : Value} {t : TypeId} (h : W.heap[B]? = some (.cells #[v] t)) : W.cell? ⟨B, 0, none⟩ = some v ∧ W.frozen? ⟨B, 0, none⟩ = false := by
  constructor
  · rw [cell_of_row W B 0 _ _ _ h]; rfl
  · simp [World.frozen?, h]
theorem box_set {W : World} {B : Nat} {v : Value} {t : TypeId} (u : Value) (h : W.heap[B]? = some (.cells #[v] t)) : (W.setCell ⟨B, 0, none⟩ u).heap[B]? = some (.cells #[u] t) := one_setCell h
theorem grown_box {W1 W : World} {B : Nat} (h : W1.grownBy W (some B)) (u : Value) : W1.grownBy (W.setCell ⟨B, 0, none⟩ u) (some B) :=
  ⟨h.os, h.tape, h.output, by simpa using h.size, fun i hi hne => (Below.heap_setCell _ _ _ _ (fun e => hne (by rw [e]))).trans (h.block i hi hne)⟩

theorem all_cons' {p : List Nm} {x : Nm} {t : List Nm} (h : p.all isName = true) (hx : isName x = true) : (p ++ [x]).all isName = true ∧ p ++ x :: t = (p ++ [x]) ++ t := ⟨by rw [List.all_append, h]; simp [hx], by simp⟩
theorem all_stop {p : List Nm} {x : Nm} {t : List Nm} (hx : isName x = false) : (p ++ x :: t).all isName = false := by rw [List.all_append]; simp [hx]

set_option maxRecDepth 100000 in
set_option maxHeartbeats 2000000 in
theorem iter_ok (l Bs Bp Bv : Nat) (z0 : List UInt8) (hz : z0.length < 100000) (W1 : World) (hBp : Bp ≠ Bs) (hBv : Bv ≠ Bs)
    (c1 : W1.cell? ⟨Bp, 0, none⟩ = some (.string ⟨#[47]⟩)) (c2 : W1.heap[Bs]? = some (.cells #[tx z0] 9)) (c3 : W1.cell? ⟨Bv, 0, none⟩ = some (.int .i64 0)) (stop : World → Prop)
    (hI : ∀ z W, Calls Tryz.prog 173 #[tx z, .string ⟨#[47]⟩] W fun e w' => e = .returned (.int .i64 (Lib.indexByte z 47)) ∧ w' = W)
    (hY : ∀ (x : List UInt8) W, x.length < 100000 → W1.grownBy W (some Bs) → YieldAt Fence.wide 2 Tryz.prog l #[tx x] W fun e W' => (isName x = true ∧ e = .returned (.bool true) ∧ W' = W) ∨ (isName x = false ∧ e = .returned (.bool false) ∧ stop W')) :
    CallsIn Fence.wide 3 Tryz.prog 171 #[.func (.yield l) #[] #[], .pointer (some ⟨Bp, 0, none⟩), .pointer (some ⟨Bs, 0, none⟩), .pointer (some ⟨Bv, 0, none⟩)] W1 fun e W' => (∃ v, e = .returned v) ∧ (((parts z0).all isName = true ∧ W1.grownBy W' (some Bs)) ∨ ((parts z0).all isName = false ∧ stop W')) := by
  have hcell : ∀ {W : World} {B : Nat} {v : Value}, B ≠ Bs → W1.cell? ⟨B, 0, none⟩ = some v → W1.grownBy W (some Bs) → W.cell? ⟨B, 0, none⟩ = some v := fun {W B v} hne hc hg => by
    have hlt : B < W1.heap.size := World.block_lt_of_cell? W1 _ hc
    rw [World.cell?_of_block (w := W1) (a := ⟨B, 0, none⟩) (hg.block B hlt (fun e => hne (Option.some.inj e)))]; exact hc
  have hf : Fence.wide.fn 173 := trivial
  refine callsIn_of_wp Tryz.func171 rfl trivial ?_ rfl
  simp only [Tryz.ntmps171, List.size_toArray, List.length_cons, List.length_nil, Nat.reduceAdd, Nat.reduceSub, Array.replicate_succ, Array.replicate_zero, List.push_toArray, List.append_toArray, List.nil_append, List.cons_append]
  gi_wp2
  gi_loopg [7] z0.length (fun mm _ wr => ∃ (pre : List Nm) (rest : List UInt8), wr.heap[Bs]? = some (.cells #[tx rest] 9) ∧ W1.grownBy wr (some Bs) ∧ parts z0 = pre ++ parts rest ∧ pre.all isName = true ∧ rest.length ≤ z0.length ∧ mm = rest.length)
  case atStart => exact ⟨[], z0, c2, ⟨rfl, rfl, rfl, Nat.le_refl _, fun _ _ _ => rfl⟩, rfl, rfl, Nat.le_refl _, rfl⟩
  case round =>
    obtain ⟨pre, rest, hbx, hg, hp, ha, hle, hmm⟩ := hrel
    have d1 := hcell hBp c1 hg
    have d3 := hcell hBv c3 hg
    obtain ⟨d2, d2f⟩ := box_cell hbx
    have hIx := callsIn_wide (n := 2) |>.2 (hI rest wr)
    by_cases hm : Lib.indexByte rest 47 = -1
    · rw [hm] at hIx
      rw [parts_miss hm] at hp
      obtain ⟨fn, tmps, assign, body, hy, hR⟩ := hY rest wr (by omega) hg
      clear hm
      gi_wp2_with (gi_at_call 173; refine hIx.mono ?_; rintro e w' ⟨rfl, hw'⟩; subst w')
      refine hR.mono ?_
      rintro e W3 (⟨hx, rfl, h3⟩ | ⟨hx, rfl, hst⟩)
      · subst W3
        gi_wp2
        go_end0
        exact ⟨⟨_, rfl⟩, .inl ⟨by rw [hp]; exact (all_cons' (t := []) ha hx).1, hg⟩⟩
      · gi_wp2
        go_end0
        exact ⟨⟨_, rfl⟩, .inr ⟨by rw [hp]; exact all_stop hx, hst⟩⟩
    · have hge := Lib.indexByte_ge rest 47
      obtain ⟨i, hi⟩ : ∃ i : Nat, Lib.indexByte rest 47 = i := ⟨(Lib.indexByte rest 47).toNat, by omega⟩
      rw [hi] at hIx
      obtain ⟨hil, he⟩ := parts_hit hi
      rw [he] at hp
      have s1 := wtext_h rest i (by omega)
      have s2 := wtext_l rest (i + 1) (by omega)
      have hng : ¬ (i : Int) < 0 := by omega
      obtain ⟨fn, tmps, assign, body, hy, hR⟩ := hY (rest.take i) wr (by simp; omega) hg
      clear hm hi hge he
      gi_wp2_with (gi_at_call 173; refine hIx.mono ?_; rintro e w' ⟨rfl, hw'⟩; subst w')
      refine hR.mono ?_
      rintro e W3 (⟨hx, rfl, h3⟩ | ⟨hx, rfl, hst⟩)
      · subst W3
        gi_wp2
        gi_roundg (rest.length - (i + 1))
        case measure => omega
        case rel =>
          have hex : (⟨rest.toArray⟩ : ByteArray).extract (i + 1) rest.length = ⟨(rest.drop (i + 1)).toArray⟩ := by
            apply ByteArray.ext
            simp only [ByteArray.data_extract, List.extract_toArray, List.extract]
            rw [List.take_of_length_le (by simp)]
          rw [hex]
          refine ⟨pre ++ [rest.take i], rest.drop (i + 1), box_set _ hbx, grown_box hg _, ?_, ?_, ?_, ?_⟩
          · rw [hp]; exact (all_cons' ha hx).2
          · exact (all_cons' (t := []) ha hx).1
          · simp; omega
          · simp
      · gi_wp2
        refine bodyPost_ret (results_none rfl _ _ _) rfl ?_
        exact ⟨⟨_, rfl⟩, .inr ⟨by rw [hp]; exact all_stop hx, hst⟩⟩
end Go.Proofs.YtjkneekfijibiabGreatDoor

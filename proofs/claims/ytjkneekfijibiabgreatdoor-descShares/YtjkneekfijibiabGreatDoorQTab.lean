/- Package desc: a table of numbers in memory; at, isFree, Used, Has, by their Go texts. -/
import Derived.Test.YtjkneekfijibiabGreatDoorDAbs
import Derived.Deep.RegionHeld3
namespace Go.Proofs.YtjkneekfijibiabGreatDoor
open Go.RowKit Go.Maps

/-- The program's table at block b: keys, and marks. -/
structure QT (w : World) (b : Nat) (M : Ns) : Prop where
  blk : w.heap[b]? = some (.cells (nv M).toArray 69)
  len : M.length = 8
  pos : ∀ x ∈ M, 0 ≤ x.1 ∧ x.1 < 100000 ∧ (x.1 = 0 → x.2 = false)
/-- A number, free where there is none. -/
def atM (M : Ns) (n : Int) : Int × Bool := if 0 ≤ n ∧ n ≤ 7 then M.getD n.toNat (0, false) else (0, false)
abbrev nuv (x : Int × Bool) : Value := .agg #[.int .i64 x.1, .bool x.2]
theorem atM_in {M : Ns} (hL : M.length = 8) {i : Nat} (hi : i < 8) : atM M i = M[i]'(by rw [hL]; exact hi) := by
  unfold atM
  rw [if_pos (by omega), getD_in (by rw [hL]; exact hi)]
theorem tab_ne (b : Nat) (w : World) : (binOp BinOp.eql 64 (wp b) (.pointer none)).run Tryz.prog w = .ok (.bool false) w := by kernel_rfl
theorem new_num (w : World) : (w.alloc (.cells #[.int .i64 0, .bool false] 66)).heap[w.heap.size]? = some (.cells #[.int .i64 0, .bool false] 66) := by
  show (w.heap.push _)[w.heap.size]? = _
  rw [Array.getElem?_push, if_pos rfl]
theorem two_set {W : World} {i : Nat} {x y : Value} {t : TypeId} (h : W.heap[i]? = some (.cells #[x, y] t)) (u v : Value) : ((W.setCell ⟨i, 0, none⟩ u).setCell ⟨i, 1, none⟩ v).cell? ⟨i, 0, none⟩ = some u ∧ ((W.setCell ⟨i, 0, none⟩ u).setCell ⟨i, 1, none⟩ v).cell? ⟨i, 1, none⟩ = some v := by
  have h1 := heap_cell_same W i 0 u _ _ _ h
  have h2 := heap_cell_same _ i 1 v _ _ _ h1
  exact ⟨by rw [cell_of_row _ i 0 _ _ _ h2]; rfl, by rw [cell_of_row _ i 1 _ _ _ h2]; rfl⟩
section
variable {w w' : World} {b : Nat} {M : Ns}
theorem QT.keep (h : QT w b M) (hk : w'.heap[b]? = w.heap[b]?) : QT w' b M := ⟨hk.trans h.blk, h.len, h.pos⟩
theorem QT.lt (h : QT w b M) : b < w.heap.size := (Array.getElem?_eq_some_iff.1 h.blk).1
theorem QT.below (h : QT w b M) (hb : Below w.heap.size w w') : QT w' b M := h.keep (hb.block b h.lt)
theorem QT.at (h : QT w b M) {i : Nat} (hi : i < 8) : w.cell? ⟨b, i * 2, none⟩ = some (.int .i64 (M[i]'(by rw [h.len]; exact hi)).1) ∧ w.cell? ⟨b, i * 2 + 1, none⟩ = some (.bool (M[i]'(by rw [h.len]; exact hi)).2) := by
  obtain ⟨e1, e2⟩ := nv_at M i (by rw [h.len]; exact hi)
  rw [cell_of_row _ _ _ _ _ _ h.blk, cell_of_row _ _ _ _ _ _ h.blk]
  rw [Nat.mul_comm]
  exact ⟨by simpa using e1, by simpa using e2⟩
theorem QT.free (h : QT w b M) (o : Nat) : w.frozen? ⟨b, o, none⟩ = false := by
  simp [World.frozen?, h.blk]
theorem QT.nn (h : QT w b M) {i : Nat} (hi : i < M.length) : 0 ≤ M[i].1 ∧ M[i].1 < 100000 ∧ (M[i].1 = 0 → M[i].2 = false) := h.pos _ (List.getElem_mem hi)

set_option maxRecDepth 100000 in
set_option maxHeartbeats 2000000 in
theorem QT.at_ok (h : QT w b M) (n : Int) : Calls Tryz.prog 93 #[wp b, .int .i64 n] w fun e w' => e = .returned (nuv (atM M n)) ∧ Below w.heap.size w w' := by
  have h9 := tab_ne b
  have bA : Below w.heap.size w (w.alloc (.cells #[.int .i64 0, .bool false] 66)) := (Below.refl _ w).alloc (Nat.le_refl _) _
  have hA := h.below bA
  have hn := new_num w
  have hr0 : (w.alloc (.cells #[.int .i64 0, .bool false] 66)).cell? ⟨w.heap.size, 0, none⟩ = some (.int .i64 0) := by rw [cell_of_row _ _ 0 _ _ _ hn]; rfl
  have hr1 : (w.alloc (.cells #[.int .i64 0, .bool false] 66)).cell? ⟨w.heap.size, 1, none⟩ = some (.bool false) := by rw [cell_of_row _ _ 1 _ _ _ hn]; rfl
  have s0 := fun u v => (two_set hn u v).1
  have s1 := fun u v => (two_set hn u v).2
  by_cases hn0 : n < 0
  · rw [show atM M n = (0, false) from if_neg (by omega)]
    clear h hA hn
    go_enter Tryz.func93, Tryz.ntmps93
    go_wp2_with fail
    refine bodyPost_ret (v := .agg #[.int .i64 0, .bool false]) (by simp [results, Tryz.results93, go_sem]) rfl ⟨rfl, ?_⟩
    repeat first | exact Below.refl _ _ | refine Below.alloc ?_ (by first | omega | (simp <;> omega)) _ | refine Below.setCell ?_ (by first | omega | (simp <;> omega)) _
  · by_cases hn8 : 8 ≤ n
    · rw [show atM M n = (0, false) from if_neg (by omega)]
      clear h hA hn
      go_enter Tryz.func93, Tryz.ntmps93
      go_wp2_with fail
      refine bodyPost_ret (v := .agg #[.int .i64 0, .bool false]) (by simp [results, Tryz.results93, go_sem]) rfl ⟨rfl, ?_⟩
      repeat first | exact Below.refl _ _ | refine Below.alloc ?_ (by first | omega | (simp <;> omega)) _ | refine Below.setCell ?_ (by first | omega | (simp <;> omega)) _
    · obtain ⟨i, rfl⟩ : ∃ i : Nat, n = i := ⟨n.toNat, by omega⟩
      have hi : i < 8 := by omega
      rw [atM_in h.len hi]
      obtain ⟨c0, c1⟩ := hA.at hi
      generalize (M[i]'(by rw [h.len]; exact hi)) = x at *
      obtain ⟨X, Y⟩ := x
      simp only at c0 c1
      have hi8 : (i : Int) < 8 := by omega
      clear h hA hn hn0 hn8
      go_enter Tryz.func93, Tryz.ntmps93
      go_wp2_with fail
      refine bodyPost_ret (v := .agg #[.int .i64 X, .bool Y]) (by simp [results, Tryz.results93, go_sem]) rfl ⟨rfl, ?_⟩
      repeat first | exact Below.refl _ _ | refine Below.alloc ?_ (by first | omega | (simp <;> omega)) _ | refine Below.setCell ?_ (by first | omega | (simp <;> omega)) _

set_option maxHeartbeats 1000000 in
theorem isFree_ok (w : World) (X : Int) (Y : Bool) : Calls Tryz.prog 94 #[.agg #[.int .i64 X, .bool Y]] w fun e w' => e = .returned (.bool (X == 0)) ∧ Below w.heap.size w w' := by
  have bA : Below w.heap.size w (w.alloc (.cells #[.int .i64 X, .bool Y] 66)) := (Below.refl _ w).alloc (Nat.le_refl _) _
  obtain ⟨c0, c1⟩ := new_pair w (.int .i64 X) (.bool Y) 66
  go_enter Tryz.func94, Tryz.ntmps94
  go_wp2_with fail
  go_ret
  exact ⟨rfl, bA⟩
theorem hasM {M : Ns} (hL : M.length = 8) (hp : ∀ x ∈ M, 0 ≤ x.1) (n : Int) : hasN M n = !((atM M n).1 == 0) := by
  by_cases hn : 0 ≤ n ∧ n ≤ 7
  · obtain ⟨i, rfl⟩ : ∃ i : Nat, n = i := ⟨n.toNat, by omega⟩
    have hi : i < 8 := by omega
    have hiL : i < M.length := by omega
    rw [atM_in hL hi]
    unfold hasN
    rw [getD_in hiL]
    have := hp _ (List.getElem_mem hiL)
    have e1 : decide ((0 : Int) ≤ (i : Int)) = true := by simp
    have e2 : decide ((i : Int) ≤ 7) = true := by simp; omega
    rw [e1, e2]
    by_cases h0 : M[i].1 = 0
    · rw [h0]; rfl
    · have : (0 : Int) < M[i].1 := by omega
      simp [this, h0]
  · rw [show atM M n = (0, false) from if_neg hn]
    unfold hasN
    have hb : (decide (0 ≤ n) && decide (n ≤ 7)) = false := by
      simp only [Bool.and_eq_false_iff, decide_eq_false_iff_not]; omega
    rw [hb]; rfl

set_option maxRecDepth 100000 in
set_option maxHeartbeats 2000000 in
theorem QT.has_ok (h : QT w b M) (f : Nat) (n : Int) : Calls Tryz.prog 34 #[wp f, wp b, .int .i64 n] w fun e w' => e = .returned (.bool (hasN M n)) ∧ Below w.heap.size w w' := by
  rw [hasM h.len (fun x hx => (h.pos x hx).1) n]
  have hA := h.at_ok n
  generalize atM M n = x at *
  obtain ⟨X, Y⟩ := x
  clear h
  go_enter Tryz.func34, Tryz.ntmps34
  go_wp2_with (first
    | (go_at_call 93; refine hA.mono ?_; rintro e w1 ⟨rfl, b1⟩)
    | (go_at_call 94; refine (isFree_ok _ X Y).mono ?_; rintro e w2 ⟨rfl, b2⟩))
  go_ret
  exact ⟨rfl, b1.trans (b2.mono b1.size)⟩

set_option maxRecDepth 100000 in
set_option maxHeartbeats 2000000 in
theorem QT.used_ok (h : QT w b M) : Calls Tryz.prog 32 #[wp b] w fun e w' => e = .returned (.int .i64 (usedN M : Int)) ∧ Below w.heap.size w w' := by
  have HL : Aside (M.length = 8) := h.len
  go_enter Tryz.func32, Tryz.ntmps32
  go_wp2_with fail
  go_loopg [3, 4, 5] 8 (fun g s3 _ s5 wx => ∃ i : Nat, Aside (i + g = 8) ∧ s3 = .int .i64 (usedN (M.take i) : Int) ∧ s5 = .int .i64 (i : Int) ∧ Below w.heap.size w wx)
  case atStart => exact ⟨0, rfl, rfl, rfl, Below.refl _ _⟩
  case round =>
    obtain ⟨i, HI, rfl, rfl, hb⟩ := hrel
    have hi9 : i ≤ 8 := by have := HI.out; omega
    have hi9' : (i : Int) ≤ 8 := by omega
    by_cases hlt : (i : Int) < 8
    · have hiL : i < M.length := by have := HL.out; omega
      have hA := (h.below hb).at_ok i
      rw [atM_in h.len (by omega)] at hA
      have hnn := (h.nn hiL).1
      have hu := used_take (N := M) (i := i) hiL
      have hul := used_le (M.take i)
      rw [List.length_take] at hul
      obtain ⟨U, hU⟩ : ∃ U, usedN (M.take i) = U := ⟨_, rfl⟩
      obtain ⟨U2, hU2⟩ : ∃ U2, usedN (M.take (i + 1)) = U2 := ⟨_, rfl⟩
      rw [hU, hU2] at hu
      rw [hU] at hul
      have hU9 : (U : Int) ≤ 8 := by omega
      have HU2 : Aside (usedN (M.take (i + 1)) = U2) := hU2
      rw [hU]
      generalize M[i] = x at *
      obtain ⟨X, Y⟩ := x
      simp only at hu hnn
      have hsz := hb.size
      clear hU hU2 h
      by_cases hX : X = 0
      · subst hX
        rw [if_neg (by omega)] at hu
        have HU : Aside (U2 = U) := hu
        clear hu hul hnn
        go_wp2_with (first
          | (go_at_call 93; refine hA.mono ?_; rintro e w1 ⟨rfl, b1⟩)
          | (go_at_call 94; refine (isFree_ok _ 0 Y).mono ?_; rintro e w2 ⟨rfl, b2⟩))
        go_roundg (7 - i)
        case measure => have := HI.out; omega
        case rel => exact ⟨i + 1, (show i + 1 + (7 - i) = 8 by omega), by rw [HU2.out, HU.out], by rfl, hb.trans ((b1.trans (b2.mono b1.size)).mono hsz)⟩
      · rw [if_pos (by omega)] at hu
        have HU : Aside (U2 = U + 1) := hu
        have hX' : (X == 0) = false := by simpa using hX
        clear hu hul hnn hX
        go_wp2_with (first
          | (go_at_call 93; refine hA.mono ?_; rintro e w1 ⟨rfl, b1⟩)
          | (go_at_call 94; refine (isFree_ok _ X Y).mono ?_; rintro e w2 ⟨rfl, b2⟩))
        go_roundg (7 - i)
        case measure => have := HI.out; omega
        case rel => exact ⟨i + 1, (show i + 1 + (7 - i) = 8 by omega), by rw [HU2.out, HU.out]; rfl, by rfl, hb.trans ((b1.trans (b2.mono b1.size)).mono hsz)⟩
    · have e8 : M.take i = M := List.take_of_length_le (by have := HL.out; omega)
      rw [e8]
      go_wp2_with fail
      go_ret
      exact ⟨rfl, hb⟩
end
end Go.Proofs.YtjkneekfijibiabGreatDoor

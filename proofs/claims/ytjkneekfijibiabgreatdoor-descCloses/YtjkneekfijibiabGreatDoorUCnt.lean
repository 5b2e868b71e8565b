/- Package desc: a table of numbers in memory; at, isFree, Used, Has, by their Go texts. -/
import Derived.Test.YtjkneekfijibiabGreatDoorDAbs
import Derived.Deep.RegionHeld3
import Derived.Test.YtjkneekfijibiabGreatDoorWAbs
namespace Go.Proofs.YtjkneekfijibiabGreatDoor
open Go.RowKit Go.Maps

/-- The program's table at block b: keys, and marks. -/
structure QT (w : World) (b : Nat) (M : Ns) : Prop where
  blk : w.heap[b]? = some (.cells (nv M).toArray 69)
  len : M.length = 8
  pos : ∀ x ∈ M, 0 ≤ x.1 ∧ x.1 < 100000 ∧ (x.1 = 0 → x.2 = false)
/-- A number, free where there is none. -/
def atM (M : Ns) (n : Int) : Int × Bool := if 0 ≤ n ∧ n ≤ 7 then M.getD n.toNat (0, false) else (0, false)
abbrev nuv (x : Int × Bool) : Value := .agg #[.int .i64 x.1, .bool x.2]
theorem atM_in {M : Ns} (hL : M.length = 8) {i : Nat} (hi : i < 8) : atM M i = M[i]'(by rw [hL]; exact hi) := by
  unfold atM
  rw [if_pos (by omega), getD_in (by rw [hL]; exact hi)]
theorem tab_ne (b : Nat) (w : World) : (binOp BinOp.eql 64 (wp b) (.pointer none)).run Tryz.prog w = .ok (.bool false) w := by kernel_rfl
theorem new_num (w : World) : (w.alloc (.cells #[.int .i64 0, .bool false] 66)).heap[w.heap.size]? = some (.cells #[.int .i64 0, .bool false] 66) := by
  show (w.heap.push _)[w.heap.size]? = _
  rw [Array.getElem?_push, if_pos rfl]
theorem two_set {W : World} {i : Nat} {x y : Value} {t : TypeId} (h : W.heap[i]? = some (.cells #[x, y] t)) (u v : Value) : ((W.setCell ⟨i, 0, none⟩ u).setCell ⟨i, 1, none⟩ v).cell? ⟨i, 0, none⟩ = some u ∧ ((W.setCell ⟨i, 0, none⟩ u).setCell ⟨i, 1, none⟩ v).cell? ⟨i, 1, none⟩ = some v := by
  have h1 := heap_cell_same W i 0 u _ _ _ h
  have h2 := heap_cell_same _ i 1 v _ _ _ h1
  exact ⟨by rw [cell_of_row _ i 0 _ _ _ h2]; rfl, by rw [cell_of_row _ i 1 _ _ _ h2]; rfl⟩
section
variable {w w' : World} {b : Nat} {M : Ns}
theorem QT.keep (h : QT w b M) (hk : w'.heap[b]? = w.heap[b]?) : QT w' b M := ⟨hk.trans h.blk, h.len, h.pos⟩
theorem QT.lt (h : QT w b M) : b < w.heap.size := (Array.getElem?_eq_some_iff.1 h.blk).1
theorem QT.below (h : QT w b M) (hb : Below w.heap.size w w') : QT w' b M := h.keep (hb.block b h.lt)
theorem QT.at (h : QT w b M) {i : Nat} (hi : i < 8) : w.cell? ⟨b, i * 2, none⟩ = some (.int .i64 (M[i]'(by rw [h.len]; exact hi)).1) ∧ w.cell? ⟨b, i * 2 + 1, none⟩ = some (.bool (M[i]'(by rw [h.len]; exact hi)).2) := by
  obtain ⟨e1, e2⟩ := nv_at M i (by rw [h.len]; exact hi)
  rw [cell_of_row _ _ _ _ _ _ h.blk, cell_of_row _ _ _ _ _ _ h.blk]
  rw [Nat.mul_comm]
  exact ⟨by simpa using e1, by simpa using e2⟩
theorem QT.free (h : QT w b M) (o : Nat) : w.frozen? ⟨b, o, none⟩ = false := by
  simp [World.frozen?, h.blk]
theorem QT.nn (h : QT w b M) {i : Nat} (hi : i < M.length) : 0 ≤ M[i].1 ∧ M[i].1 < 100000 ∧ (M[i].1 = 0 → M[i].2 = false) := h.pos _ (List.getElem_mem hi)

set_option maxRecDepth 100000 in
set_option maxHeartbeats 2000000 in
theorem QT.at_ok (h : QT w b M) (n : Int) : Calls Tryz.prog 93 #[wp b, .int .i64 n] w fun e w' => e = .returned (nuv (atM M n)) ∧ Below w.heap.size w w' := by
  have h9 := tab_ne b
  have bA : Below w.heap.size w (w.alloc (.cells #[.int .i64 0, .bool false] 66)) := (Below.refl _ w).alloc (Nat.le_refl _) _
  have hA := h.below bA
  have hn := new_num w
  have hr0 : (w.alloc (.cells #[.int .i64 0, .bool false] 66)).cell? ⟨w.heap.size, 0, none⟩ = some (.int .i64 0) := by rw [cell_of_row _ _ 0 _ _ _ hn]; rfl
  have hr1 : (w.alloc (.cells #[.int .i64 0, .bool false] 66)).cell? ⟨w.heap.size, 1, none⟩ = some (.bool false) := by rw [cell_of_row _ _ 1 _ _ _ hn]; rfl
  have s0 := fun u v => (two_set hn u v).1
  have s1 := fun u v => (two_set hn u v).2
  by_cases hn0 : n < 0
  · rw [show atM M n = (0, false) from if_neg (by omega)]
    clear h hA hn
    go_enter Tryz.func93, Tryz.ntmps93
    go_wp2_with fail
    refine bodyPost_ret (v := .agg #[.int .i64 0, .bool false]) (by simp [results, Tryz.results93, go_sem]) rfl ⟨rfl, ?_⟩
    repeat first | exact Below.refl _ _ | refine Below.alloc ?_ (by first | omega | (simp <;> omega)) _ | refine Below.setCell ?_ (by first | omega | (simp <;> omega)) _
  · by_cases hn8 : 8 ≤ n
    · rw [show atM M n = (0, false) from if_neg (by omega)]
      clear h hA hn
      go_enter Tryz.func93, Tryz.ntmps93
      go_wp2_with fail
      refine bodyPost_ret (v := .agg #[.int .i64 0, .bool false]) (by simp [results, Tryz.results93, go_sem]) rfl ⟨rfl, ?_⟩
      repeat first | exact Below.refl _ _ | refine Below.alloc ?_ (by first | omega | (simp <;> omega)) _ | refine Below.setCell ?_ (by first | omega | (simp <;> omega)) _
    · obtain ⟨i, rfl⟩ : ∃ i : Nat, n = i := ⟨n.toNat, by omega⟩
      have hi : i < 8 := by omega
      rw [atM_in h.len hi]
      obtain ⟨c0, c1⟩ := hA.at hi
      generalize (M[i]'(by rw [h.len]; exact hi)) = x at *
      obtain ⟨X, Y⟩ := x
      simp only at c0 c1
      have hi8 : (i : Int) < 8 := by omega
      clear h hA hn hn0 hn8
      go_enter Tryz.func93, Tryz.ntmps93
      go_wp2_with fail
      refine bodyPost_ret (v := .agg #[.int .i64 X, .bool Y]) (by simp [results, Tryz.results93, go_sem]) rfl ⟨rfl, ?_⟩
      repeat first | exact Below.refl _ _ | refine Below.alloc ?_ (by first | omega | (simp <;> omega)) _ | refine Below.setCell ?_ (by first | omega | (simp <;> omega)) _

set_option maxHeartbeats 1000000 in
theorem isFree_ok (w : World) (X : Int) (Y : Bool) : Calls Tryz.prog 94 #[.agg #[.int .i64 X, .bool Y]] w fun e w' => e = .returned (.bool (X == 0)) ∧ Below w.heap.size w w' := by
  have bA : Below w.heap.size w (w.alloc (.cells #[.int .i64 X, .bool Y] 66)) := (Below.refl _ w).alloc (Nat.le_refl _) _
  obtain ⟨c0, c1⟩ := new_pair w (.int .i64 X) (.bool Y) 66
  go_enter Tryz.func94, Tryz.ntmps94
  go_wp2_with fail
  go_ret
  exact ⟨rfl, bA⟩
theorem hasM {M : Ns} (hL : M.length = 8) (hp : ∀ x ∈ M, 0 ≤ x.1) (n : Int) : hasN M n = !((atM M n).1 == 0) := by
  by_cases hn : 0 ≤ n ∧ n ≤ 7
  · obtain ⟨i, rfl⟩ : ∃ i : Nat, n = i := ⟨n.toNat, by omega⟩
    have hi : i < 8 := by omega
    have hiL : i < M.length := by omega
    rw [atM_in hL hi]
    unfold hasN
    rw [getD_in hiL]
    have := hp _ (List.getElem_mem hiL)
    have e1 : decide ((0 : Int) ≤ (i : Int)) = true := by simp
    have e2 : decide ((i : Int) ≤ 7) = true := by simp; omega
    rw [e1, e2]
    by_cases h0 : M[i].1 = 0
    · rw [h0]; rfl
    · have : (0 : Int) < M[i].1 := by omega
      simp [this, h0]
  · rw [show atM M n = (0, false) from if_neg hn]
    unfold hasN
    have hb : (decide (0 ≤ n) && decide (n ≤ 7)) = false := by
      simp only [Bool.and_eq_false_iff, decide_eq_false_iff_not]; omega
    rw [hb]; rfl

set_option maxRecDepth 100000 in
set_option maxHeartbeats 2000000 in
theorem QT.has_ok (h : QT w b M) (f : Nat) (n : Int) : Calls Tryz.prog 34 #[wp f, wp b, .int .i64 n] w fun e w' => e = .returned (.bool (hasN M n)) ∧ Below w.heap.size w w' := by
  rw [hasM h.len (fun x hx => (h.pos x hx).1) n]
  have hA := h.at_ok n
  generalize atM M n = x at *
  obtain ⟨X, Y⟩ := x
  clear h
  go_enter Tryz.func34, Tryz.ntmps34
  go_wp2_with (first
    | (go_at_call 93; refine hA.mono ?_; rintro e w1 ⟨rfl, b1⟩)
    | (go_at_call 94; refine (isFree_ok _ X Y).mono ?_; rintro e w2 ⟨rfl, b2⟩))
  go_ret
  exact ⟨rfl, b1.trans (b2.mono b1.size)⟩

set_option maxRecDepth 100000 in
set_option maxHeartbeats 2000000 in
theorem QT.used_ok (h : QT w b M) : Calls Tryz.prog 32 #[wp b] w fun e w' => e = .returned (.int .i64 (usedN M : Int)) ∧ Below w.heap.size w w' := by
  have HL : Aside (M.length = 8) := h.len
  go_enter Tryz.func32, Tryz.ntmps32
  go_wp2_with fail
  go_loopg [3, 4, 5] 8 (fun g s3 _ s5 wx => ∃ i : Nat, Aside (i + g = 8) ∧ s3 = .int .i64 (usedN (M.take i) : Int) ∧ s5 = .int .i64 (i : Int) ∧ Below w.heap.size w wx)
  case atStart => exact ⟨0, rfl, rfl, rfl, Below.refl _ _⟩
  case round =>
    obtain ⟨i, HI, rfl, rfl, hb⟩ := hrel
    have hi9 : i ≤ 8 := by have := HI.out; omega
    have hi9' : (i : Int) ≤ 8 := by omega
    by_cases hlt : (i : Int) < 8
    · have hiL : i < M.length := by have := HL.out; omega
      have hA := (h.below hb).at_ok i
      rw [atM_in h.len (by omega)] at hA
      have hnn := (h.nn hiL).1
      have hu := used_take (N := M) (i := i) hiL
      have hul := used_le (M.take i)
      rw [List.length_take] at hul
      obtain ⟨U, hU⟩ : ∃ U, usedN (M.take i) = U := ⟨_, rfl⟩
      obtain ⟨U2, hU2⟩ : ∃ U2, usedN (M.take (i + 1)) = U2 := ⟨_, rfl⟩
      rw [hU, hU2] at hu
      rw [hU] at hul
      have hU9 : (U : Int) ≤ 8 := by omega
      have HU2 : Aside (usedN (M.take (i + 1)) = U2) := hU2
      rw [hU]
      generalize M[i] = x at *
      obtain ⟨X, Y⟩ := x
      simp only at hu hnn
      have hsz := hb.size
      clear hU hU2 h
      by_cases hX : X = 0
      · subst hX
        rw [if_neg (by omega)] at hu
        have HU : Aside (U2 = U) := hu
        clear hu hul hnn
        go_wp2_with (first
          | (go_at_call 93; refine hA.mono ?_; rintro e w1 ⟨rfl, b1⟩)
          | (go_at_call 94; refine (isFree_ok _ 0 Y).mono ?_; rintro e w2 ⟨rfl, b2⟩))
        go_roundg (7 - i)
        case measure => have := HI.out; omega
        case rel => exact ⟨i + 1, (show i + 1 + (7 - i) = 8 by omega), by rw [HU2.out, HU.out], by rfl, hb.trans ((b1.trans (b2.mono b1.size)).mono hsz)⟩
      · rw [if_pos (by omega)] at hu
        have HU : Aside (U2 = U + 1) := hu
        have hX' : (X == 0) = false := by simpa using hX
        clear hu hul hnn hX
        go_wp2_with (first
          | (go_at_call 93; refine hA.mono ?_; rintro e w1 ⟨rfl, b1⟩)
          | (go_at_call 94; refine (isFree_ok _ X Y).mono ?_; rintro e w2 ⟨rfl, b2⟩))
        go_roundg (7 - i)
        case measure => have := HI.out; omega
        case rel => exact ⟨i + 1, (show i + 1 + (7 - i) = 8 by omega), by rw [HU2.out, HU.out]; rfl, by rfl, hb.trans ((b1.trans (b2.mono b1.size)).mono hsz)⟩
    · have e8 : M.take i = M := List.take_of_length_le (by have := HL.out; omega)
      rw [e8]
      go_wp2_with fail
      go_ret
      exact ⟨rfl, hb⟩
end
end Go.Proofs.YtjkneekfijibiabGreatDoor

namespace Go.Proofs.YtjkneekfijibiabGreatDoor
open Go.RowKit Go.Maps

/-- How many names of one node lead to k. -/
def cnt1 : Option Nd → Int → Nat
  | some (.dir C), k => (C.filter (fun x => decide (x.2 = k))).length
  | _, _ => 0
def cntTo (T : Wd) (k : Int) : Nat → Nat
  | 0 => 0
  | m + 1 => cntTo T k m + cnt1 (T m) k
/-- How many names lead to k. -/
def cntT (T : Wd) (k : Int) : Nat := cntTo T k 64

theorem cntTo_same {T T' : Wd} {k : Int} : ∀ m : Nat, (∀ i : Nat, i < m → cnt1 (T' i) k = cnt1 (T i) k) → cntTo T' k m = cntTo T k m
  | 0, _ => rfl
  | m + 1, h => by rw [cntTo, cntTo, cntTo_same m (fun i hi => h i (by omega)), h m (by omega)]
theorem cntTo_one {T T' : Wd} {k : Int} {d : Nat} (hd : ∀ i : Nat, i ≠ d → cnt1 (T' i) k = cnt1 (T i) k) : ∀ m : Nat, d < m → cntTo T' k m + cnt1 (T d) k = cntTo T k m + cnt1 (T' d) k
  | 0, h => by omega
  | m + 1, h => by
    rw [cntTo, cntTo]
    by_cases e : m = d
    · subst e
      rw [cntTo_same m (fun i hi => hd i (by omega))]; omega
    · have := cntTo_one hd m (by omega)
      rw [hd m e]; omega
/-- One node turned. -/
theorem cntT_one {T T' : Wd} {k d : Int} (h0 : 0 ≤ d) (h1 : d < 64) (h : ∀ i, i ≠ d → cnt1 (T' i) k = cnt1 (T i) k) : cntT T' k + cnt1 (T d) k = cntT T k + cnt1 (T' d) k := by
  obtain ⟨e, rfl⟩ : ∃ e : Nat, d = e := ⟨d.toNat, by omega⟩
  exact cntTo_one (fun i hi => h i (by omega)) 64 (by omega)
theorem cntT_same {T T' : Wd} {k : Int} (h : ∀ i, cnt1 (T' i) k = cnt1 (T i) k) : cntT T' k = cntT T k := cntTo_same 64 (fun i _ => h i)

theorem cntTo_pos {T : Wd} {k : Int} : ∀ m : Nat, cntTo T k m ≠ 0 → ∃ i : Nat, i < m ∧ cnt1 (T i) k ≠ 0
  | 0, h => absurd rfl h
  | m + 1, h => by
    rw [cntTo] at h
    by_cases e : cnt1 (T m) k = 0
    · obtain ⟨i, hi, h2⟩ := cntTo_pos (T := T) (k := k) m (fun e0 => h (by rw [e0, e]))
      exact ⟨i, by omega, h2⟩
    · exact ⟨m, by omega, e⟩
theorem cntTo_ge {T : Wd} {k : Int} {i : Nat} : ∀ m : Nat, i < m → cnt1 (T i) k ≤ cntTo T k m
  | 0, h => by omega
  | m + 1, h => by
    rw [cntTo]
    by_cases e : i = m
    · subst e; omega
    · have := cntTo_ge (T := T) (k := k) m (show i < m by omega); omega

theorem cnt1_pos {C : List (Nm × Int)} {k : Int} (h : cnt1 (some (.dir C)) k ≠ 0) : ∃ s, (s, k) ∈ C := by
  unfold cnt1 at h
  obtain ⟨⟨s, n⟩, hx⟩ := List.exists_mem_of_length_pos (Nat.pos_of_ne_zero h)
  rw [List.mem_filter] at hx
  have e : n = k := by simpa using hx.2
  exact ⟨s, by rw [← e]; exact hx.1⟩
theorem cnt1_mem {C : List (Nm × Int)} {s : Nm} {k : Int} (h : (s, k) ∈ C) : cnt1 (some (.dir C)) k ≠ 0 := by
  unfold cnt1
  exact Nat.ne_of_gt (List.length_pos_of_mem (List.mem_filter.2 ⟨h, by simp⟩))
theorem mem_lookup : ∀ {C : List (Nm × Int)} {s : Nm} {n : Int}, (C.map (·.1)).Nodup → (s, n) ∈ C → C.lookup s = some n
  | (a, b) :: C, s, n, hn, h => by
    rw [List.map_cons, List.nodup_cons] at hn
    rcases List.mem_cons.1 h with e | h
    · cases e; simp [List.lookup]
    · have hne : s ≠ a := fun e => hn.1 (by rw [← e]; exact List.mem_map.2 ⟨(s, n), h, rfl⟩)
      have : (s == a) = false := by simp [hne]
      rw [List.lookup, this]
      exact mem_lookup hn.2 h
/-- Led, by its count. -/
theorem led_cnt {T : Wd} (hT : TrOk T) (n : Int) : Led T n ↔ n = 0 ∨ cntT T n ≠ 0 := by
  unfold Led
  constructor
  · rintro (h | ⟨k, C, s, hk, hl⟩)
    · exact .inl h
    · right
      have hkey := hT.key k (by rw [hk]; rfl)
      obtain ⟨e, rfl⟩ : ∃ e : Nat, k = e := ⟨k.toNat, by omega⟩
      have h1 := cnt1_mem (lookup_mem hl)
      have h2 := cntTo_ge (T := T) (k := n) (i := e) 64 (by omega)
      rw [hk] at h2
      unfold cntT; omega
  · rintro (h | h)
    · exact .inl h
    · right
      obtain ⟨i, _, hi⟩ := cntTo_pos 64 h
      cases hd : T (i : Int) with
      | none => rw [hd] at hi; exact absurd rfl hi
      | some nd => cases nd with
        | file b x => rw [hd] at hi; exact absurd rfl hi
        | dir C =>
          rw [hd] at hi
          obtain ⟨s, hs⟩ := cnt1_pos hi
          exact ⟨i, C, s, hd, mem_lookup (hT.nodup _ _ hd) hs⟩

/-- What holds of every tree besides: nothing leads to the first node, and all are led to, or held. -/
structure TrLv (T : Wd) : Prop extends TrOk T where
  nr : cntT T 0 = 0
  lv : ∀ k nd, T k = some nd → k = 0 ∨ cntT T k ≠ 0 ∨ heldT nd ≠ 0

/-- One node gone. -/
def eraT (T : Wd) (n : Int) : Wd := fun k => if k = n then none else T k
theorem eraT_other {T : Wd} {n k : Int} (h : k ≠ n) : eraT T n k = T k := if_neg h
theorem eraT_same (T : Wd) (n : Int) : eraT T n n = none := if_pos rfl

theorem cnt_set_none {T : Wd} {n : Int} {x : Nd} (h : T n = none) (hx : ∀ k, cnt1 (some x) k = 0) (k : Int) : cntT (setT T n x) k = cntT T k := cntT_same (fun i => by
  by_cases e : i = n
  · subst e; rw [setT_same, h, hx]; rfl
  · rw [setT_other _ e])
theorem cnt_setF {T : Wd} {n : Int} {b b' : List UInt8} {x x' : Nat} (h : T n = some (.file b x)) (k : Int) : cntT (setT T n (.file b' x')) k = cntT T k := cntT_same (fun i => by
  by_cases e : i = n
  · subst e; rw [setT_same, h]; rfl
  · rw [setT_other _ e])
theorem cnt_era {T : Wd} {n : Int} (h : ∀ k, cnt1 (T n) k = 0) (k : Int) : cntT (eraT T n) k = cntT T k := cntT_same (fun i => by
  by_cases e : i = n
  · subst e; rw [eraT_same, h]; rfl
  · rw [eraT_other e])
theorem cnt_add {T : Wd} (hT : TrOk T) {d n : Int} {nm : Nm} {C : List (Nm × Int)} (hd : T d = some (.dir C)) (k : Int) : cntT (addT T d nm n) k = cntT T k + if k = n then 1 else 0 := by
  have hkey := hT.key d (by rw [hd]; rfl)
  rw [addT_eq hd]
  have h1 := cntT_one (T := T) (T' := setT T d (.dir ((nm, n) :: C))) (k := k) hkey.1 hkey.2 (fun i hi => by rw [setT_other _ hi])
  rw [setT_same, hd] at h1
  have h2 : cnt1 (some (.dir ((nm, n) :: C))) k = cnt1 (some (.dir C)) k + if k = n then 1 else 0 := by
    simp only [cnt1, List.filter_cons]
    by_cases e : n = k
    · subst e; simp
    · simp [e, Ne.symm e]
  omega
theorem filter_cnt {nm : Nm} {n : Int} : ∀ {C : List (Nm × Int)}, (C.map (·.1)).Nodup → C.lookup nm = some n → ∀ k, ((C.filter (fun x => x.1 != nm)).filter (fun x => decide (x.2 = k))).length + (if k = n then 1 else 0) = (C.filter (fun x => decide (x.2 = k))).length
  | (a, b) :: C, hn, hl, k => by
    rw [List.map_cons, List.nodup_cons] at hn
    by_cases e : nm = a
    · subst e
      have hb : b = n := by simpa [List.lookup] using hl
      subst hb
      have hf := filter_same hn.1
      simp only [List.filter_cons, bne_self_eq_false, Bool.false_eq_true, if_false, hf]
      by_cases e2 : b = k
      · simp [e2]
      · simp [e2, Ne.symm e2]
    · have hne : (nm == a) = false := by simp [e]
      rw [List.lookup, hne] at hl
      have ih := filter_cnt hn.2 hl k
      have hbne : (a != nm) = true := by simp [Ne.symm e]
      simp only [List.filter_cons, hbne, if_true]
      by_cases e2 : b = k
      · simp only [e2, decide_true, if_true, List.length_cons]; omega
      · simp only [e2, decide_false, Bool.false_eq_true, if_false]; omega
theorem cnt_del {T : Wd} (hT : TrOk T) {d n : Int} {nm : Nm} {C : List (Nm × Int)} (hd : T d = some (.dir C)) (hl : C.lookup nm = some n) (k : Int) : cntT (delT T d nm) k + (if k = n then 1 else 0) = cntT T k := by
  have hkey := hT.key d (by rw [hd]; rfl)
  rw [delT_eq hd]
  have h1 := cntT_one (T := T) (T' := setT T d (.dir (C.filter (fun x => x.1 != nm)))) (k := k) hkey.1 hkey.2 (fun i hi => by rw [setT_other _ hi])
  rw [setT_same, hd] at h1
  have h2 := filter_cnt (hT.nodup d C hd) hl k
  simp only [cnt1] at h1
  omega

/-- What goes when all but n are led to, or held. -/
theorem sweep_one {T : Wd} (hT : TrOk T) (n : Int) (hl : ∀ k nd, k ≠ n → T k = some nd → k = 0 ∨ cntT T k ≠ 0 ∨ heldT nd ≠ 0) (nd : Nd) (hn : T n = some nd) (h0 : n ≠ 0) :
    sweepT T = if cntT T n = 0 ∧ heldT nd = 0 then eraT T n else T := by
  have hk : ∀ k, k ≠ n → sweepT T k = T k := fun k hk => sweepT_stay (fun nd h => by
    rcases hl k nd hk h with e | e | e
    · exact .inl ((led_cnt hT k).2 (.inl e))
    · exact .inl ((led_cnt hT k).2 (.inr e))
    · exact .inr e)
  funext k
  by_cases e : k = n
  · subst e
    by_cases hz : cntT T k = 0 ∧ heldT nd = 0
    · rw [if_pos hz, eraT_same]
      exact sweepT_go hn (fun h => by
        rcases h with h | h
        · rcases (led_cnt hT k).1 h with e | e
          · exact h0 e
          · exact e hz.1
        · exact h hz.2)
    · rw [if_neg hz]
      refine sweepT_stay (fun nd' h' => ?_)
      rw [hn] at h'; cases h'
      by_cases e1 : cntT T k = 0
      · exact .inr (fun e2 => hz ⟨e1, e2⟩)
      · exact .inl ((led_cnt hT k).2 (.inr e1))
  · rw [hk k e]
    split
    · rw [eraT_other e]
    · rfl
/-- And where all are led to, or held, nothing goes. -/
theorem sweep_none {T : Wd} (hT : TrOk T) (hl : ∀ k nd, T k = some nd → k = 0 ∨ cntT T k ≠ 0 ∨ heldT nd ≠ 0) : sweepT T = T := by
  funext k
  exact sweepT_stay (fun nd h => by
    rcases hl k nd h with e | e | e
    · exact .inl ((led_cnt hT k).2 (.inl e))
    · exact .inl ((led_cnt hT k).2 (.inr e))
    · exact .inr e)
end Go.Proofs.YtjkneekfijibiabGreatDoor

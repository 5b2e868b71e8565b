/- Package desc: what a table and its ENTRIES tell alike; find, by its Go text. -/
import Derived.Test.YtjkneekfijibiabGreatDoorQStep
import Derived.Deep.RegionHeld3
namespace Go.Proofs.YtjkneekfijibiabGreatDoor
open Go.RowKit Go.Maps

theorem alike_ns : ∀ {M N : Ns}, M.length = N.length → (∀ i (h : i < M.length) (h' : i < N.length), (0 < M[i].1 ↔ 0 < N[i].1) ∧ (M[i].1 = 0 ↔ N[i].1 = 0)) → usedN M = usedN N ∧ leastN M = leastN N
  | [], [], _, _ => ⟨rfl, rfl⟩
  | [], _ :: _, h, _ => by simp at h
  | _ :: _, [], h, _ => by simp at h
  | x :: M, y :: N, h, k => by
    obtain ⟨h1, h2⟩ := alike_ns (M := M) (N := N) (by simpa using h) (fun i hi hi' => k (i + 1) (by simpa using hi) (by simpa using hi'))
    obtain ⟨k1, k2⟩ := k 0 (by simp) (by simp)
    simp only [List.getElem_cons_zero] at k1 k2
    constructor
    · unfold usedN at h1 ⊢
      by_cases e : 0 < x.1
      · rw [List.filter_cons_of_pos (by simpa using e), List.filter_cons_of_pos (by simpa using k1.1 e), List.length_cons, List.length_cons, h1]
      · rw [List.filter_cons_of_neg (by simpa using e), List.filter_cons_of_neg (by simpa using fun z => e (k1.2 z)), h1]
    · rw [leastN, leastN, h2]
      by_cases e : x.1 = 0
      · rw [if_pos e, if_pos (k2.1 e)]
      · rw [if_neg e, if_neg (fun z => e (k2.2 z))]
section
variable {w w' w2 : World} {f b n : Nat} {D D' : DS} {g g' : QG} {M N N' : Ns} {d k : Int} {e : En}
theorem QTb.pos (t : QTb w b g M N) (h : QF w f D g n) (i : Nat) (h1 : i < M.length) (h2 : i < N.length) : (0 < M[i].1 ↔ 0 < N[i].1) ∧ (M[i].1 = 0 ↔ N[i].1 = 0) := by
  rcases (t.rel i h1 h2).2 with ⟨a, c⟩ | ⟨a, c⟩
  · rw [a, c]; simp
  · have := (h.key _ _ c).2.1
    omega
theorem QTb.nnAt (t : QTb w b g M N) (i : Nat) (hi : i < N.length) : 0 ≤ N[i].1 := by
  rcases (t.rel i (by rw [t.tab.len]; have := t.len; omega) hi).2 with ⟨_, c⟩ | ⟨c, _⟩
  · omega
  · omega
theorem QTb.eqs (t : QTb w b g M N) (h : QF w f D g n) : usedN M = usedN N ∧ leastN M = leastN N := alike_ns (t.tab.len.trans t.len.symm) (t.pos h)
theorem QTb.hasEq (t : QTb w b g M N) (h : QF w f D g n) (x : Int) : hasN M x = hasN N x := by
  by_cases hx : 0 ≤ x ∧ x ≤ 7
  · obtain ⟨i, rfl⟩ : ∃ i : Nat, x = i := ⟨x.toNat, by omega⟩
    have h1 : i < M.length := by have := t.tab.len; omega
    have h2 : i < N.length := by have := t.len; omega
    have hp := (t.pos h i h1 h2).1
    unfold hasN
    rw [getD_in h1, getD_in h2]
    by_cases e : 0 < M[i].1
    · simp [e, hp.1 e]
    · simp [e, show ¬ 0 < N[i].1 from fun z => e (hp.2 z)]
  · unfold hasN
    have hb : (decide (0 ≤ x) && decide (x ≤ 7)) = false := by
      simp only [Bool.and_eq_false_iff, decide_eq_false_iff_not]; omega
    rw [hb]; rfl
theorem QTb.keyOf (t : QTb w b g M N) {i : Nat} (h1 : i < M.length) (h2 : i < N.length) (h0 : 0 < N[i].1) : g.K M[i].1 = some N[i].1 := by
  rcases (t.rel i h1 h2).2 with ⟨a, c⟩ | ⟨a, c⟩
  · omega
  · exact c
theorem QTb.used_ok (t : QTb w b g M N) (h : QF w f D g n) : Calls Tryz.prog 32 #[wp b] w fun e w' => e = .returned (.int .i64 (usedN N : Int)) ∧ Below w.heap.size w w' := by
  rw [← (t.eqs h).1]; exact t.tab.used_ok
theorem QTb.has_ok (t : QTb w b g M N) (h : QF w f D g n) (x : Int) : Calls Tryz.prog 34 #[wp f, wp b, .int .i64 x] w fun e w' => e = .returned (.bool (hasN N x)) ∧ Below w.heap.size w w' := by
  rw [← t.hasEq h x]; exact t.tab.has_ok f x

theorem fil_ne (b : Nat) (w : World) : (binOp BinOp.eql 60 (wp b) (.pointer none)).run Tryz.prog w = .ok (.bool false) w := by kernel_rfl
theorem ent_ne (b : Nat) (w : World) : (binOp BinOp.eql 149 (wp b) (.pointer none)).run Tryz.prog w = .ok (.bool false) w := by kernel_rfl
theorem ent_nil (w : World) : (binOp BinOp.eql 149 (.pointer none) (.pointer none)).run Tryz.prog w = .ok (.bool true) w := by kernel_rfl

theorem num_field (X : Int) (Y : Bool) (w : World) : (Instr.field 66 (.agg #[.int .i64 X, .bool Y]) 0).run Tryz.prog w = .ok (.int .i64 X) w := by kernel_rfl
theorem num_mark (X : Int) (Y : Bool) (w : World) : (Instr.field 66 (.agg #[.int .i64 X, .bool Y]) 1).run Tryz.prog w = .ok (.bool Y) w := by kernel_rfl
set_option maxRecDepth 100000 in
set_option maxHeartbeats 2000000 in
theorem QF.find_gen (h : QF w f D g n) (t : QT w b M) (x : Int) (v : Value) (hv : gv g (atM M x).1 = v) (hat : 0 ≤ (atM M x).1 ∧ (atM M x).1 < 100000) (z : Bool) (hz : (∃ q, v = wp q ∧ z = false) ∨ (v = .pointer none ∧ z = true)) :
    Calls Tryz.prog 77 #[wp f, wp b, .int .i64 x] w fun e w' => e = .returned (.tuple (if z = true then #[.pointer none, uer 7] else #[v, .nilIface])) ∧ Below w.heap.size w w' := by
  have hA : ∀ V, Below w.heap.size w V → Calls Tryz.prog 93 #[wp b, .int .i64 x] V fun e w' => e = .returned (nuv (atM M x)) ∧ Below w.heap.size w w' ∧ w'.cell? ⟨f, 1, none⟩ = some (.map (some g.gO)) ∧ (Instr.lookup 142 (.map (some g.gO)) (.int .i64 (atM M x).1) false).run Tryz.prog w' = .ok v w' := fun V hV => by
    refine ((t.below hV).at_ok x).mono ?_
    rintro e w1 ⟨rfl, b1⟩
    have b2 := hV.trans (b1.mono hV.size)
    refine ⟨rfl, b2, (h.below b2).cells.2, ?_⟩
    rw [(h.below b2).look hat.1 hat.2, hv]
  have c1 := h.cells.2
  have h9 := fil_ne f
  generalize atM M x = y at *
  obtain ⟨X, Y⟩ := y
  simp only [nuv] at hA
  have hfl := num_field X Y
  have HZ : Aside ((∃ q, v = wp q ∧ z = false) ∨ (v = .pointer none ∧ z = true)) := hz
  have hen := ent_ne
  have hel := ent_nil
  clear h t hv hat hz
  go_enter Tryz.func77, Tryz.ntmps77
  go_upto_region 3 with fail
  go_region_held3 (fun w' => w'.cell? ⟨f, 1, none⟩ = some (.map (some g.gO))) (first | exact c1 | exact c2) (first
    | (go_at_call 93; refine (hA _ ⟨by rfl, by rfl, by rfl, by exact Nat.le_refl _, fun _ _ => by rfl⟩).mono ?_; rintro e w2 ⟨rfl, b2, c2, hlk⟩))
  all_goals
    rcases HZ.out with ⟨q, rfl, rfl⟩ | ⟨rfl, rfl⟩
    · clear HZ
      go_wp2_with fail
      go_ret2
      exact ⟨rfl, b2⟩
    · clear HZ
      go_wp2_with fail
      go_ret2
      exact ⟨rfl, b2⟩
theorem QF.find_yes (h : QF w f D g n) (t : QTb w b g M N) {i : Nat} (hi : i < 8) (hiL : i < N.length) (h0 : 0 < N[i].1) :
    Calls Tryz.prog 77 #[wp f, wp b, .int .i64 (i : Int)] w fun e w' => e = .returned (.tuple #[wp (g.B N[i].1), .nilIface]) ∧ Below w.heap.size w w' := by
  have hM : i < M.length := by have := t.tab.len; omega
  have hk := t.keyOf hM hiL h0
  have hat := atM_in t.tab.len hi
  exact h.find_gen t.tab i _ (by rw [hat, gv_some hk]) (by rw [hat]; exact ⟨(t.tab.nn hM).1, (t.tab.nn hM).2.1⟩) false (.inl ⟨_, rfl, rfl⟩)
theorem QF.find_no (h : QF w f D g n) (t : QTb w b g M N) (x : Int) (hx : hasN N x = false) :
    Calls Tryz.prog 77 #[wp f, wp b, .int .i64 x] w fun e w' => e = .returned (.tuple #[.pointer none, uer 7]) ∧ Below w.heap.size w w' := by
  have h1 := hasM t.tab.len (fun x hx => (t.tab.pos x hx).1) x
  rw [t.hasEq h x, hx] at h1
  have h2 : (atM M x).1 = 0 := by
    by_cases e : (atM M x).1 = 0
    · exact e
    · simp [e] at h1
  exact h.find_gen t.tab x _ (by rw [h2, gv_none h.k0]) (by rw [h2]; omega) true (.inr ⟨rfl, rfl⟩)
end
end Go.Proofs.YtjkneekfijibiabGreatDoor

namespace Go.Proofs.YtjkneekfijibiabGreatDoor
open Go.RowKit Go.Maps

section
variable {w w' w2 : World} {f b n : Nat} {D D' : DS} {g g' : QG} {M N N' : Ns} {d k : Int} {e : En}
set_option maxHeartbeats 1000000 in
theorem least1_ok (w : World) (X : Int) (Y : Bool) : Calls Tryz.prog 139 #[.agg #[.int .i64 X, .bool Y]] w fun e w' => e = .returned (.bool (X == 0)) ∧ Below w.heap.size w w' := by
  have bA : Below w.heap.size w (w.alloc (.cells #[.int .i64 X, .bool Y] 66)) := (Below.refl _ w).alloc (Nat.le_refl _) _
  obtain ⟨c0, c1⟩ := new_pair w (.int .i64 X) (.bool Y) 66
  go_enter Tryz.func139, Tryz.ntmps139
  go_wp2_with (go_at_call 94; refine (isFree_ok _ X Y).mono ?_; rintro e w2 ⟨rfl, b2⟩)
  go_ret
  exact ⟨rfl, bA.trans (b2.mono bA.size)⟩

set_option maxRecDepth 100000 in
set_option maxHeartbeats 2000000 in
theorem QT.index_ok (h : QT w b M) : Calls Tryz.prog 138 #[.slice (some ⟨b, 0, none⟩) 8 8, .func (.func 139) #[] #[]] w fun e w' => e = .returned (.int .i64 (leastN M)) ∧ Below w.heap.size w w' := by
  have HL : Aside (M.length = 8) := h.len
  go_enter Tryz.func138, Tryz.ntmps138
  go_wp2_with fail
  go_loopg [5, 8] 8 (fun g _ s8 wx => ∃ i : Nat, Aside (i + g = 8) ∧ s8 = .int .i64 (i : Int) ∧ Aside (∀ j (hj : j < M.length), j < i → M[j].1 ≠ 0) ∧ Below w.heap.size w wx)
  case atStart => exact ⟨0, rfl, rfl, (fun j _ hj => by omega), Below.refl _ _⟩
  case round =>
    obtain ⟨i, HI, rfl, HN, hb⟩ := hrel
    have hi9 : i ≤ 8 := by have := HI.out; omega
    have hi9' : (i : Int) ≤ 8 := by omega
    by_cases hlt : (i : Int) < 8
    · have hiL : i < M.length := by have := HL.out; omega
      obtain ⟨c0, c1⟩ := (h.below hb).at (i := i) (by omega)
      have HX0 : Aside (M[i].1 = 0 → leastN M = i) := fun e => least_at hiL (fun j hj => HN.out j (by omega) hj) e
      have HX1 : Aside (M[i].1 ≠ 0 → ∀ j (hj : j < M.length), j < i + 1 → M[j].1 ≠ 0) := fun e j hj hji => by
        by_cases e2 : j = i
        · subst e2; exact e
        · exact HN.out j hj (by omega)
      generalize M[i].1 = X at *
      generalize M[i].2 = Y at *
      have hsz := hb.size
      clear h hiL
      by_cases hX : X = 0
      · have E9 : Aside (leastN M = i) := HX0.out hX
        subst hX
        go_wp2_with (go_at_call 139; refine (least1_ok _ 0 Y).mono ?_; rintro e w2 ⟨rfl, b2⟩)
        go_ret
        exact ⟨by rw [E9.out]; rfl, hb.trans (b2.mono hsz)⟩
      · have hX' : (X == 0) = false := by simpa using hX
        clear hX
        go_wp2_with (go_at_call 139; refine (least1_ok _ X Y).mono ?_; rintro e w2 ⟨rfl, b2⟩)
        go_roundg (7 - i)
        case measure => have := HI.out; omega
        case rel => exact ⟨i + 1, (show i + 1 + (7 - i) = 8 by omega), by rfl, HX1.out (by simpa using hX'), hb.trans (b2.mono hsz)⟩
    · have e9 : leastN M = -1 := least_none (fun x hx => by
        obtain ⟨j, hj, rfl⟩ := List.getElem_of_mem hx
        exact HN.out j hj (by have := HL.out; omega))
      have E9 : Aside (leastN M = -1) := e9
      clear e9
      go_wp2_with fail
      go_ret
      exact ⟨by rw [E9.out]; rfl, hb⟩
set_option maxRecDepth 100000 in
set_option maxHeartbeats 2000000 in
theorem QT.least_ok (h : QT w b M) : Calls Tryz.prog 106 #[wp b] w fun e w' => e = .returned (.tuple #[.int .i64 (leastN M), .bool (decide (0 ≤ leastN M))]) ∧ Below w.heap.size w w' := by
  have hI := h.index_ok
  generalize leastN M = L at *
  clear h
  go_enter Tryz.func106, Tryz.ntmps106
  go_wp2_with (go_at_call 138; refine hI.mono ?_; rintro e w2 ⟨rfl, b2⟩)
  go_ret2
  exact ⟨rfl, b2⟩
theorem QTb.least_ok (t : QTb w b g M N) (h : QF w f D g n) : Calls Tryz.prog 106 #[wp b] w fun e w' => e = .returned (.tuple #[.int .i64 (leastN N), .bool (decide (0 ≤ leastN N))]) ∧ Below w.heap.size w w' := by
  rw [← (t.eqs h).2]; exact t.tab.least_ok

set_option maxRecDepth 100000 in
set_option maxHeartbeats 2000000 in
theorem QF.open_ok (h : QF w f D g n) : Calls Tryz.prog 36 #[wp f] w fun e w' => e = .returned (.int .i64 (n : Int)) ∧ w' = w := by
  have c1 := h.cells.2
  have h9 := fil_ne f
  have hl := h.map
  go_enter Tryz.func36, Tryz.ntmps36
  go_wp2_with (refine wpList_klen rfl _ 142 rfl 149 Tryz.underlying142 g.gO _ _ rfl hl ?_)
  go_ret
  exact ⟨rfl, rfl⟩
theorem map_ne (g : Nat) (w : World) : (binOp BinOp.eql 142 (.map (some g)) (.map none)).run Tryz.prog w = .ok (.bool false) w := by kernel_rfl
set_option maxRecDepth 100000 in
set_option maxHeartbeats 4000000 in
theorem QF.room_ok (h : QF w f D g n) (t : QTb w b g M N) (x : Nat) (hx : x ≤ 2) (hn : n < 1000) : Calls Tryz.prog 103 #[wp f, wp b, .int .i64 (x : Int)] w fun e w' => e = .returned (.bool (decide (usedN N + x ≤ 8) && decide (n + x ≤ 40))) ∧ Below w.heap.size w w' := by
  have hU := t.used_ok h
  have hul := used_le N
  rw [t.len] at hul
  have c1 := h.cells.2
  have h8 := tab_ne b
  have h9 := fil_ne f
  have h7 := map_ne g.gO
  have hO : ∀ V, Below w.heap.size w V → Calls Tryz.prog 36 #[wp f] V fun e w' => e = .returned (.int .i64 (n : Int)) ∧ w' = V := fun V hV => (h.below hV).open_ok
  generalize usedN N = U at *
  have hU8 : (U : Int) ≤ 8 := by omega
  have hx8 : (x : Int) ≤ 2 := by omega
  have hn8 : (n : Int) < 1000 := by omega
  by_cases hu : U + x ≤ 8
  · have e1 : decide (U + x ≤ 8) = true := by simpa using hu
    have e2 : (U : Int) + (x : Int) ≤ 8 := by omega
    have E3 : Aside (decide ((n : Int) + (x : Int) ≤ 40) = decide (n + x ≤ 40)) := by
      show decide ((n : Int) + (x : Int) ≤ 40) = decide (n + x ≤ 40)
      by_cases hh : n + x ≤ 40
      · rw [decide_eq_true hh, decide_eq_true (by omega)]
      · rw [decide_eq_false hh, decide_eq_false (by omega)]
    rw [e1, Bool.true_and]
    rw [← E3.out]
    clear h t hul hu e1 E3
    go_enter Tryz.func103, Tryz.ntmps103
    go_wp2_with (first
      | (go_at_call 32; refine hU.mono ?_; rintro e w1 ⟨rfl, b1⟩)
      | (go_at_call 36; refine (hO _ b1).mono ?_; rintro e w2 ⟨rfl, hw2⟩; subst w2))
    go_ret
    exact ⟨rfl, b1⟩
  · have e1 : decide (U + x ≤ 8) = false := by simpa using hu
    have e2 : ¬ ((U : Int) + (x : Int) ≤ 8) := by omega
    rw [e1, Bool.false_and]
    clear h t hul hu e1
    go_enter Tryz.func103, Tryz.ntmps103
    go_wp2_with (go_at_call 32; refine hU.mono ?_; rintro e w1 ⟨rfl, b1⟩)
    go_ret
    exact ⟨rfl, b1⟩
theorem isUse_ok (w : World) (x : Int) : Calls Tryz.prog 102 #[.int .i64 x] w fun e w' => e = .returned (.bool (decide (1 ≤ x) && decide (x ≤ 3))) ∧ w' = w := by
  go_enter Tryz.func102, Tryz.ntmps102
  by_cases h1 : 1 ≤ x
  · go_wp2_with fail
    go_ret
    exact ⟨by simp [h1], rfl⟩
  · go_wp2_with fail
    go_ret
    exact ⟨by simp; omega, rfl⟩
theorem QF.isFile_ok (h : QF w f D g n) (he : D.E d = some e) : Calls Tryz.prog 108 #[wp (g.B d)] w fun x w' => x = .returned (.bool (e.kind == 1)) ∧ w' = w := by
  obtain ⟨c, h1, _⟩ := h.ent d e he
  obtain ⟨c0, _⟩ := h.ecell he h1
  go_enter Tryz.func108, Tryz.ntmps108
  go_wp2_with fail
  go_ret
  exact ⟨rfl, rfl⟩
end
end Go.Proofs.YtjkneekfijibiabGreatDoor

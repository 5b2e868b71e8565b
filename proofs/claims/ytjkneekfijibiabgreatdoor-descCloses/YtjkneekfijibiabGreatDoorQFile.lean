/- Close, Dup2, Pipe, plainly. -/
import Derived.Test.YtjkneekfijibiabGreatDoorQFree
import Derived.Test.YtjkneekfijibiabGreatDoorQNode
import Derived.Test.YtjkneekfijibiabGreatDoorDRw
import Derived.Test.YtjkneekfijibiabGreatDoorXSm
namespace Go.Proofs.YtjkneekfijibiabGreatDoor
open Go.RowKit Go.Maps

theorem holdN_no {T : Wd} {x : Int} (h : holdE T x 1 ≠ 0) : holdN T x 1 = T := by
  unfold holdE at h; unfold holdN
  cases hn : T x with
  | none => rfl
  | some nd => cases nd with
    | dir C => rfl
    | file b y =>
      rw [hn] at h
      simp only at h ⊢
      by_cases h9 : (y : Int) + 1 < 0
      · omega
      · rw [if_neg h9] at h; exact absurd rfl h
/-- How many there are. -/
def IsN {α : Type} (F : Int → Option α) (n : Nat) : Prop := ∃ ks : List Int, ks.Nodup ∧ ks.length = n ∧ ∀ x, x ∈ ks ↔ (F x).isSome = true
theorem IsN.one {α : Type} {F : Int → Option α} {n n' : Nat} (h : IsN F n) (h' : IsN F n') : n = n' := by
  obtain ⟨a, ha, rfl, ma⟩ := h
  obtain ⟨b, hb, rfl, mb⟩ := h'
  exact perm_len ha hb (fun x => (ma x).trans (mb x).symm)
theorem IsN.few {α : Type} {F : Int → Option α} {n : Nat} (h : IsN F n) {B : Int} (h0 : 0 ≤ B) (hB : ∀ x, (F x).isSome = true → 0 < x ∧ x ≤ B) : (n : Int) ≤ B := by
  obtain ⟨ks, h1, rfl, h2⟩ := h
  have h5 := int_sub (b := ((List.range B.toNat).map (fun i : Nat => (i : Int) + 1))) h1 (fun x hx => by
    have := hB x ((h2 x).1 hx)
    exact List.mem_map.2 ⟨(x - 1).toNat, List.mem_range.2 (by omega), by omega⟩)
  simp at h5
  omega
noncomputable def closeD (D : DS) (N : Ns) (x : Int) : DS := if hasN N x = true then closeK D (N.getD x.toNat (0, false)).1 else D
def closeN (N : Ns) (x : Int) : Ns := if hasN N x = true then N.set x.toNat (0, false) else N
def dup2E (N : Ns) (x y : Int) : Int := if hasN N x = true then (if 0 ≤ y ∧ y ≤ 7 then 0 else 2) else 7
noncomputable def dup2D (D : DS) (N : Ns) (x y : Int) : DS := if dup2E N x y = 0 ∧ x ≠ y then (if (N.getD y.toNat (0, false)).1 = 0 then incR D (N.getD x.toNat (0, false)).1 else closeK (incR D (N.getD x.toNat (0, false)).1) (N.getD y.toNat (0, false)).1) else D
def dup2N (N : Ns) (x y : Int) : Ns := if dup2E N x y = 0 ∧ x ≠ y then N.set y.toNat ((N.getD x.toNat (0, false)).1, false) else N
def noPipe (N : Ns) (n : Nat) : Prop := usedN N + 2 > 8 ∨ n + 2 > 40
/-- What Pipe comes to. -/
def PipeO (D : DS) (N : Ns) (n : Nat) (x y c : Int) (D' : DS) (N' : Ns) : Prop := (noPipe N n ∧ x = 0 ∧ y = 0 ∧ c = 12 ∧ D' = D ∧ N' = N) ∨ (¬ noPipe N n ∧ x = leastN N ∧ y = leastN (pipeN1 D N) ∧ c = 0 ∧ D' = pipeD D ∧ N' = pipeN D N)
section
variable {D : DS} {Ts : List Ns} {k j i : Nat} {d : Int} {e : En}
theorem used_set : ∀ (N : Ns) (i : Nat) (y : Int × Bool), usedN (N.set i y) ≤ usedN N + 1
  | [], _, _ => by simp [usedN]
  | x :: N, 0, y => by
    simp only [List.set_cons_zero, usedN, List.filter_cons]
    split <;> split <;> simp <;> omega
  | x :: N, i + 1, y => by
    have := used_set N i y
    simp only [List.set_cons_succ, usedN, List.filter_cons] at this ⊢
    split
    · simp; omega
    · exact this
theorem Inv.nn (h : Inv D Ts k) (hj : j < Ts.length) : ∀ x ∈ Ts[j], 0 ≤ x.1 := fun x hx => ((h.tab _ (List.getElem_mem hj)).2 x hx).1
theorem Inv.pipe_room (h : Inv D Ts k) (hj : j < Ts.length) {n : Nat} (hf : ¬ noPipe Ts[j] n) : ¬ leastN Ts[j] < 0 ∧ ¬ leastN (pipeN1 D Ts[j]) < 0 := by
  have h0 := h.core.giv.n0
  have hl := h.len hj
  have hu : usedN Ts[j] + 2 ≤ 8 := by unfold noPipe at hf; omega
  have e1 : ¬ leastN Ts[j] < 0 := fun z => by
    have := (used_least (h.nn hj)).1 z; omega
  refine ⟨e1, fun z => ?_⟩
  have h2 : ∀ x ∈ pipeN1 D Ts[j], 0 ≤ x.1 := fun x hx => by
    unfold pipeN1 addN at hx
    rcases List.mem_or_eq_of_mem_set hx with h1 | h1
    · exact h.nn hj x h1
    · rw [h1]; show 0 ≤ D.nx + 1 + 1; omega
  have h3 := (used_least h2).1 z
  have h4 : usedN (pipeN1 D Ts[j]) ≤ usedN Ts[j] + 1 := used_set _ _ _
  have h5 : (pipeN1 D Ts[j]).length = 8 := by unfold pipeN1 addN; rw [List.length_set]; exact hl
  omega
theorem Inv.closeO (h : Inv D Ts k) (hk : k ≤ 900) (hj : j < Ts.length) (x : Int) : Inv (closeD D Ts[j] x) (Ts.set j (closeN Ts[j] x)) k := by
  unfold closeD closeN
  by_cases hx : hasN Ts[j] x = true
  · obtain ⟨i, rfl, hi, hiL, h0⟩ := hasN_at hx (h.len hj)
    rw [if_pos hx, if_pos hx, getD_in hiL, show (i : Int).toNat = i by omega]
    exact h.close hk hj hiL h0
  · rw [if_neg hx, if_neg hx]; exact h.setSelf hj
theorem Inv.dup2O (h : Inv D Ts k) (hk : k ≤ 900) (hj : j < Ts.length) (x y : Int) : Inv (dup2D D Ts[j] x y) (Ts.set j (dup2N Ts[j] x y)) k := by
  unfold dup2D dup2N
  by_cases hz : dup2E Ts[j] x y = 0 ∧ x ≠ y
  · rw [if_pos hz, if_pos hz]
    obtain ⟨hz, hne⟩ := hz
    unfold dup2E at hz
    by_cases hx : hasN Ts[j] x = true
    · rw [if_pos hx] at hz
      by_cases hy : 0 ≤ y ∧ y ≤ 7
      · obtain ⟨i, rfl, hi, hiL, h0⟩ := hasN_at hx (h.len hj)
        obtain ⟨i2, rfl⟩ : ∃ i2 : Nat, y = i2 := ⟨y.toNat, by omega⟩
        have hiL2 : i2 < Ts[j].length := by rw [h.len hj]; omega
        rw [getD_in hiL, getD_in hiL2, show (i2 : Int).toNat = i2 by omega]
        by_cases e0 : Ts[j][i2].1 = 0
        · rw [if_pos e0]
          exact h.dup hj hiL2 e0 h0 (cntS_pos hj hiL) false
        · rw [if_neg e0]
          have := h.nn hj _ (List.getElem_mem hiL2)
          exact (h.dup2 hk hj hiL2 (by omega) h0 (cntS_pos hj hiL)).1
      · rw [if_neg hy] at hz; omega
    · rw [if_neg hx] at hz; omega
  · rw [if_neg hz, if_neg hz]; exact h.setSelf hj
end
end Go.Proofs.YtjkneekfijibiabGreatDoor

namespace Go.Proofs.YtjkneekfijibiabGreatDoor
open Go.RowKit Go.Maps

section
variable {w w' w2 w0 w1 : World} {f b n q : Nat} {D D' : DS} {g g' g1 : QG} {M N N' : Ns} {d k m : Int} {e : En} {T' : Wd}
theorem new_six (w : World) (a b c d e x : Value) (t : TypeId) : (w.alloc (.cells #[a, b, c, d, e, x] t)).heap[w.heap.size]? = some (.cells #[a, b, c, d, e, x] t) := by
  show (w.heap.push _)[w.heap.size]? = _
  rw [Array.getElem?_push, if_pos rfl]
theorem QTb.nn (t : QTb w b g M N) : ∀ x ∈ N, 0 ≤ x.1 := fun x hx => by
  obtain ⟨i, hi, rfl⟩ := List.getElem_of_mem hx
  rcases (t.rel i (by rw [t.tab.len]; have := t.len; omega) hi).2 with ⟨_, c⟩ | ⟨c, _⟩
  · omega
  · omega
theorem QTb.least_used (t : QTb w b g M N) : leastN N < 0 ↔ 8 ≤ usedN N := by
  have hu := used_least t.nn
  rw [t.len] at hu
  exact hu
theorem QF.room1 (h : QF w f D g n) (t : QTb w b g M N) (hn : n < 1000) {z : Bool} (hz : (z = true ∧ roomy N n) ∨ (z = false ∧ ¬ roomy N n)) : Calls Tryz.prog 103 #[wp f, wp b, .int .i64 1] w fun e w' => e = .returned (.bool z) ∧ Below w.heap.size w w' := by
  have hR := h.room_ok t 1 (by omega) hn
  have hu := t.least_used
  have e1 : (decide (usedN N + 1 ≤ 8) && decide (n + 1 ≤ 40)) = z := by
    rcases hz with ⟨rfl, hr⟩ | ⟨rfl, hr⟩
    · obtain ⟨r1, r2⟩ := hr
      have : ¬ 8 ≤ usedN N := fun x => r1 (hu.2 x)
      rw [decide_eq_true (by omega), decide_eq_true (by omega)]; rfl
    · by_cases h1 : leastN N < 0
      · have := hu.1 h1
        rw [decide_eq_false (by omega)]; rfl
      · have : ¬ n < 40 := fun x => hr ⟨h1, x⟩
        rw [decide_eq_false (p := n + 1 ≤ 40) (by omega), Bool.and_false]
  rw [e1] at hR
  exact hR
/-- What is asked of File: all is small. -/
structure FOk (D : DS) (N : Ns) (n s : Nat) : Prop where
  lv : TrLv D.T
  num : IsNum D.T s
  sm : Sm 900 D.T
  giv : Given D
  live : Live D N
  few : n < 1000
set_option maxRecDepth 100000 in
set_option maxHeartbeats 4000000 in
theorem QF.file_arg (h : QF w f D g n) (t : QTb w b g M N) (p : List UInt8) (pr : Int) (mk : Bool) (hp : ¬ (1 ≤ pr ∧ pr ≤ 3)) :
    Calls Tryz.prog 42 #[wp f, wp b, tx p, .int .i64 pr, .bool mk] w fun y w' => y = .returned (.tuple #[.int .i64 0, uer 1]) ∧ QGo w w' f D g b N := by
  have hU := isUse_ok w pr
  have e1 : (decide (1 ≤ pr) && decide (pr ≤ 3)) = false := by
    simp only [Bool.and_eq_false_iff, decide_eq_false_iff_not]; omega
  rw [e1] at hU
  have hs := h.same t (Below.refl _ w)
  clear h t hp e1
  go_enter Tryz.func42, Tryz.ntmps42
  go_wp2_with (go_at_call 102; refine hU.mono ?_; rintro y w1 ⟨rfl, hw1⟩; subst w1)
  go_ret2
  exact ⟨rfl, hs⟩
theorem use_yes (w : World) {pr : Int} (hp : 1 ≤ pr ∧ pr ≤ 3) : Calls Tryz.prog 102 #[.int .i64 pr] w fun e w' => e = .returned (.bool true) ∧ w' = w := by
  have hU := isUse_ok w pr
  have e1 : (decide (1 ≤ pr) && decide (pr ≤ 3)) = true := by simp; omega
  rw [e1] at hU
  exact hU
set_option maxRecDepth 100000 in
set_option maxHeartbeats 4000000 in
theorem QF.file_full (h : QF w f D g n) (t : QTb w b g M N) (p : List UInt8) (pr : Int) (mk : Bool) (hp : 1 ≤ pr ∧ pr ≤ 3) (hr : ¬ roomy N n) (hn : n < 1000) :
    Calls Tryz.prog 42 #[wp f, wp b, tx p, .int .i64 pr, .bool mk] w fun y w' => y = .returned (.tuple #[.int .i64 0, uer 12]) ∧ QGo w w' f D g b N := by
  have hU := use_yes w hp
  have hR := h.room1 t hn (z := false) (.inr ⟨rfl, hr⟩)
  have hs : ∀ w', Below w.heap.size w w' → QGo w w' f D g b N := fun w' hb => h.same t hb
  clear h t hp hr
  go_enter Tryz.func42, Tryz.ntmps42
  go_wp2_with (first
    | (go_at_call 102; refine hU.mono ?_; rintro y w1 ⟨rfl, hw1⟩; subst w1)
    | (go_at_call 103; refine hR.mono ?_; rintro y w2 ⟨rfl, b2⟩))
  go_ret2
  exact ⟨rfl, hs _ b2⟩
set_option maxRecDepth 100000 in
set_option maxHeartbeats 4000000 in
/-- Where the path's node is refused. -/
theorem QF.file_bad (h : QF w f D g n) (t : QTb w b g M N) (p : List UInt8) (pr : Int) (mk : Bool) (hp : 1 ≤ pr ∧ pr ≤ 3) (hr : roomy N n) (hn : n < 1000) {c : Int}
    (hN : ∀ V, Below w.heap.size w V → Calls Tryz.prog 104 #[wp f, tx p, .bool mk] V fun e w' => (∃ k, e = .returned (.tuple #[.int .i64 k, uer c])) ∧ QGo w w' f D g b N) :
    Calls Tryz.prog 42 #[wp f, wp b, tx p, .int .i64 pr, .bool mk] w fun y w' => y = .returned (.tuple #[.int .i64 0, uer c]) ∧ QGo w w' f D g b N := by
  have hU := use_yes w hp
  have hR := h.room1 t hn (z := true) (.inl ⟨rfl, hr⟩)
  clear h t hp hr
  go_enter Tryz.func42, Tryz.ntmps42
  go_wp2_with (first
    | (go_at_call 102; refine hU.mono ?_; rintro y w1 ⟨rfl, hw1⟩; subst w1)
    | (go_at_call 103; refine hR.mono ?_; rintro y w2 ⟨rfl, b2⟩)
    | (go_at_call 104; refine (hN _ b2).mono ?_; rintro y w3 ⟨⟨k, rfl⟩, hG⟩))
  go_ret2
  exact ⟨rfl, hG⟩
/-- A world of the same tree: one more step. -/
theorem QSt.hold (hq : QSt w w1 f D T' g n b M N) (hT : TrLv T') (x : Int) (hx0 : 0 ≤ x) (hx1 : x < 100000) (hx : ∀ b y, T' x = some (.file b y) → y + 1 ≤ 1000) : Calls Tryz.prog 57 #[wp g.r, .int .i64 x] w1 fun e w' => e = .returned (uev (holdE T' x 1)) ∧ QSt w w' f D (holdN T' x 1) g n b M N := by
  obtain ⟨⟨g1, a1, a2, a3, a4, a5, a6⟩, wt⟩ := hq
  rw [← a5]
  refine (a1.hold1 a2 hT x hx0 hx1 hx).mono ?_
  rintro e w' ⟨rfl, ⟨⟨g2, c1, c2, c3, c4, c5, c6⟩, wt2⟩⟩
  refine ⟨rfl, ⟨⟨g2, c1, c2, fun i hi => (c3 i (Nat.lt_of_lt_of_le hi wt.size)).trans (a3 i hi), c4.trans a4, c5.trans a5, c6.trans a6⟩, wt.weaken wt2 (fun i hi z => ?_)⟩⟩
  rcases z with z | z
  · exact .inl (by rw [← a3 i hi]; exact z)
  · exact .inr z
theorem QSt.cell0 (hq : QSt w w1 f D T' g n b M N) : w1.cell? ⟨f, 0, none⟩ = some (wp g.r) := by
  obtain ⟨⟨g1, a1, a2, a3, a4, a5, _⟩, wt⟩ := hq
  rw [← a5]; exact a1.cells.1
/-- A number for a new ENTRY. -/
theorem QSt.add (hq : QSt w w1 f D T' g n b M N) (hg : Given D) (hl : ¬ leastN N < 0) (hL : Live D N) (hn : n < 1000) (pr nd : Int) :
    Calls Tryz.prog 105 #[wp f, wp b, wp w1.heap.size] (w1.alloc (.cells #[.int .i64 1, .int .i64 pr, .int .i64 0, .int .i64 nd, .int .i64 0, .pointer none] 180)) fun x w' => x = .returned (.int .i64 (leastN N)) ∧ QGo w w' f (addD { D with T := T' } ⟨1, pr, nd, 0, 0⟩) g b (addN D N) := by
  obtain ⟨⟨g1, a1, a2, a3, a4, a5, _⟩, wt⟩ := hq
  obtain ⟨n1, n2, n3⟩ := hg.new
  refine (a1.add_ok (e := ⟨1, pr, nd, 0, 0⟩) (q := w1.heap.size) a2 ((Below.refl _ w1).alloc (Nat.le_refl _) _) (Nat.le_refl _) (new_six _ _ _ _ _ _ _ _) n1 hg.n0 hl hL hn).mono ?_
  rintro x w' ⟨rfl, hG⟩
  exact ⟨rfl, QGo.after a3 a4 a5 wt hG.go⟩
set_option maxRecDepth 100000 in
set_option maxHeartbeats 4000000 in
/-- Where the node is there, or made. -/
theorem QF.file_go {s : Nat} {Q : Int → Wd → Prop} (h : QF w f D g n) (t : QTb w b g M N) (p : List UInt8) (pr : Int) (mk : Bool) (hp : 1 ≤ pr ∧ pr ≤ 3) (hr : roomy N n) (ok : FOk D N n s)
    (hN : ∀ V, Below w.heap.size w V → Calls Tryz.prog 104 #[wp f, tx p, .bool mk] V fun e w' => ∃ k T1, e = .returned (.tuple #[.int .i64 k, .nilIface]) ∧ Q k T1 ∧ QSt w w' f D T1 g n b M N)
    (hQ : ∀ k T1, Q k T1 → TrLv T1 ∧ 0 ≤ k ∧ k < 100000 ∧ ∀ b y, T1 k = some (.file b y) → y + 1 ≤ 1000) :
    Calls Tryz.prog 42 #[wp f, wp b, tx p, .int .i64 pr, .bool mk] w fun y w' => ∃ k T1, Q k T1 ∧ ((holdE T1 k 1 ≠ 0 ∧ y = .returned (.tuple #[.int .i64 0, uer (holdE T1 k 1)]) ∧ QGo w w' f { D with T := holdN T1 k 1 } g b N) ∨ (holdE T1 k 1 = 0 ∧ y = .returned (.tuple #[.int .i64 (leastN N), .nilIface]) ∧ QGo w w' f (addD { D with T := holdN T1 k 1 } ⟨1, pr, k, 0, 0⟩) g b (addN D N))) := by
  have hU := use_yes w hp
  have hR := h.room1 t ok.few (z := true) (.inl ⟨rfl, hr⟩)
  have HH : Aside (∀ k T1 V, Q k T1 → QSt w V f D T1 g n b M N → V.cell? ⟨f, 0, none⟩ = some (wp g.r) ∧ Calls Tryz.prog 57 #[wp g.r, .int .i64 k] V fun e w' => ∃ c, e = .returned (uev c) ∧ c = holdE T1 k 1 ∧ QSt w w' f D (holdN T1 k 1) g n b M N) := fun k T1 V hq hV => by
    obtain ⟨l1, l2, l3, l4⟩ := hQ k T1 hq
    refine ⟨hV.cell0, (hV.hold l1 k l2 l3 l4).mono ?_⟩
    rintro e w' ⟨rfl, st⟩
    exact ⟨_, rfl, rfl, st⟩
  have HA : Aside (∀ k T2 V, QSt w V f D T2 g n b M N → Calls Tryz.prog 105 #[wp f, wp b, wp V.heap.size] (V.alloc (.cells #[.int .i64 1, .int .i64 pr, .int .i64 0, .int .i64 k, .int .i64 0, .pointer none] 180)) fun x w' => x = .returned (.int .i64 (leastN N)) ∧ QGo w w' f (addD { D with T := T2 } ⟨1, pr, k, 0, 0⟩) g b (addN D N)) := fun k T2 V hV => hV.add ok.giv hr.1 ok.live ok.few pr k
  generalize leastN N = L at *
  clear h t hp hr ok hQ
  go_enter Tryz.func42, Tryz.ntmps42
  go_upto_region 6 with (first
    | (go_at_call 102; refine hU.mono ?_; rintro y w1 ⟨rfl, hw1⟩; subst w1)
    | (go_at_call 103; refine hR.mono ?_; rintro y w2 ⟨rfl, b2⟩)
    | (go_at_call 104; refine (hN _ b2).mono ?_; rintro y w3 ⟨k, T1, rfl, hq, hst⟩))
  obtain ⟨c0, hHd⟩ := HH.out k T1 _ hq hst
  have HQ1 : Aside (Q k T1) := hq
  clear hq hst HH hU hR hN
  go_upto_region 9 with (go_at_call 57; refine hHd.mono ?_; rintro y w4 ⟨c, rfl, hc, hst2⟩; have HC : Aside _ := hc; have HS : Aside _ := hst2; clear hc hst2)
  clear hHd c0
  by_cases hz : c = 0
  · subst hz
    have hA := HA.out k _ _ HS.out
    have HE : Aside (holdE T1 k 1 = 0) := HC.out.symm
    clear HA HS HC
    have hu0 : uev 0 = .nilIface := rfl
    rw [hu0]
    clear hu0
    go_wp2_with (go_at_call 105; refine hA.mono ?_; rintro y w5 ⟨rfl, hG⟩)
    go_ret2
    exact ⟨k, T1, HQ1.out, .inr ⟨HE.out, rfl, hG⟩⟩
  · rw [uev_ne hz]
    have HE : Aside (holdE T1 k 1 ≠ 0 ∧ c = holdE T1 k 1) := ⟨fun e => hz (HC.out.trans e), HC.out⟩
    have HG := HS.out.go
    clear HA HS HC hz
    go_wp2_with fail
    go_ret2
    exact ⟨k, T1, HQ1.out, .inl ⟨HE.out.1, by rw [← HE.out.2]; rfl, HG⟩⟩
/-- File, whatever it comes to. -/
theorem QF.file_ok (h : QF w f D g n) (t : QTb w b g M N) {s : Nat} (ok : FOk D N n s) (p : List UInt8) (hpl : p.length < 100000) (pr : Int) (mk : Bool) (hm : w.cell? ⟨2, 0, none⟩ = some (.int .i64 m)) (hg : w.cell? ⟨0, 0, none⟩ = some errT) :
    Calls Tryz.prog 42 #[wp f, wp b, tx p, .int .i64 pr, .bool mk] w fun y w' => ∃ k c D' N', y = .returned (.tuple #[.int .i64 k, uev c]) ∧ FileO D N n s p pr mk k c D' N' ∧ QGo w w' f D' g b N' := by
  by_cases hp : 1 ≤ pr ∧ pr ≤ 3
  · by_cases hr : roomy N n
    · by_cases h7 : (findT D.T p).2 = 7 ∧ mk = true
      · obtain ⟨hE, rfl⟩ := h7
        have hNd : ∀ V, Below w.heap.size w V → _ := fun V hV => (h.below hV).node_make (t.below hV) ok.lv ok.num p hpl (cell_below hm hV) (cell_below hg hV) (fun k C e => by have := ok.sm.1 k C e; omega) hE
        by_cases hM : makeE D.T s p = 0
        · refine (h.file_go t p pr true hp hr ok (Q := fun k T1 => IsFree D.T k ∧ k < 64 ∧ T1 = makeN D.T p false k) (fun V hV => (hNd V hV).mono ?_) ?_).mono ?_
          · rintro e w' (⟨a, _⟩ | ⟨a, k, c1, c2, rfl, st⟩)
            · exact absurd hM a
            · exact ⟨k, _, rfl, ⟨c1, c2, rfl⟩, st.upon hV⟩
          · rintro k T1 ⟨c1, c2, rfl⟩
            have hmh := made_hold ok.lv.toTrOk hM c1
            exact ⟨ok.lv.make hM c1 c2 false, c1.pos, by omega, fun b y e => by have := hmh.2 b y e; omega⟩
          · rintro y w' ⟨k, T1, ⟨c1, c2, rfl⟩, hx⟩
            have hmh := made_hold ok.lv.toTrOk hM c1
            rcases hx with ⟨hx, _⟩ | ⟨_, rfl, hG⟩
            · exact absurd hmh.1 hx
            · exact ⟨_, 0, _, _, rfl, .made hp hr hE rfl hM k c1, hG⟩
        · refine (h.file_bad t p pr true hp hr ok.few (c := makeE D.T s p) (fun V hV => (hNd V hV).mono ?_)).mono ?_
          · rintro e w' (⟨a, rfl, st⟩ | ⟨a, _⟩)
            · exact ⟨⟨_, rfl⟩, (st.upon hV).go⟩
            · exact absurd a hM
          · rintro y w' ⟨rfl, hG⟩
            exact ⟨0, _, D, N, by rw [uev_ne hM], .unmade hp hr hE rfl hM, hG⟩
      · have hNd : ∀ V, Below w.heap.size w V → _ := fun V hV => (h.below hV).node_find ok.lv p hpl (cell_below hm hV) (cell_below hg hV) mk h7
        by_cases hE : (findT D.T p).2 = 0
        · have hsome := findT_some ok.lv.toTrOk hE
          have hkey := ok.lv.key _ hsome
          refine (h.file_go t p pr mk hp hr ok (Q := fun k T1 => k = (findT D.T p).1 ∧ T1 = D.T) (fun V hV => (hNd V hV).mono ?_) ?_).mono ?_
          · rintro e w' ⟨rfl, b1⟩
            exact ⟨_, D.T, by rw [hE]; rfl, ⟨rfl, rfl⟩, (h.below hV |>.still (t.below hV) b1).upon hV⟩
          · rintro k T1 ⟨rfl, rfl⟩
            exact ⟨ok.lv, hkey.1, by omega, fun b y e => by have := (ok.sm.2 _ b y e).1; omega⟩
          · rintro y w' ⟨k, T1, ⟨rfl, rfl⟩, hx⟩
            rcases hx with ⟨hx, rfl, hG⟩ | ⟨hx, rfl, hG⟩
            · rw [holdN_no hx] at hG
              exact ⟨0, _, D, N, by rw [uev_ne hx], .dir hp hr hE hx, hG⟩
            · exact ⟨_, 0, _, _, rfl, .opened hp hr hE hx, hG⟩
        · refine (h.file_bad t p pr mk hp hr ok.few (c := (findT D.T p).2) (fun V hV => (hNd V hV).mono ?_)).mono ?_
          · rintro e w' ⟨rfl, b1⟩
            exact ⟨⟨_, by rw [uev_ne hE]⟩, h.same t (hV.trans (b1.mono hV.size))⟩
          · rintro y w' ⟨rfl, hG⟩
            exact ⟨0, _, D, N, by rw [uev_ne hE], .no hp hr hE h7, hG⟩
    · refine (h.file_full t p pr mk hp hr ok.few).mono ?_
      rintro y w' ⟨rfl, hG⟩
      exact ⟨0, 12, D, N, rfl, .full hp hr, hG⟩
  · refine (h.file_arg t p pr mk hp).mono ?_
    rintro y w' ⟨rfl, hG⟩
    exact ⟨0, 1, D, N, rfl, .arg hp, hG⟩
end
end Go.Proofs.YtjkneekfijibiabGreatDoor

/- Package desc: Pipe, by its Go text. -/
import Derived.Test.YtjkneekfijibiabGreatDoorQFile
import Derived.Test.YtjkneekfijibiabGreatDoorDRw
import Derived.Test.YtjkneekfijibiabGreatDoorUBytes
namespace Go.Proofs.YtjkneekfijibiabGreatDoor
open Go.RowKit Go.Maps

abbrev pcells : Array Value := #[.int .i64 0, .int .i64 0, .int .i64 0, .int .i64 0, .int .u8 0, .int .u8 0, .int .u8 0, .int .u8 0, .int .u8 0, .int .u8 0, .int .u8 0, .int .u8 0, .int .u8 0, .int .u8 0, .int .u8 0, .int .u8 0, .int .u8 0, .int .u8 0, .int .u8 0, .int .u8 0, .int .i64 0]
theorem new_tb (w : World) (t : TypeId) : Tb (w.alloc (.cells pcells t)) w.heap.size 0 0 [] := by
  have hn : (w.alloc (.cells pcells t)).heap[w.heap.size]? = some (.cells pcells t) := by
    show (w.heap.push _)[w.heap.size]? = _
    rw [Array.getElem?_push, if_pos rfl]
  refine ⟨by simp, ?_, ?_, fun k hk => ?_, ?_, fun k _ => ?_⟩
  · rw [cell_of_row _ _ _ _ _ _ hn]; rfl
  · rw [cell_of_row _ _ _ _ _ _ hn]; rfl
  · rw [cell_of_row _ _ _ _ _ _ hn, bt_out _ _ (Nat.zero_le _)]
    have : k = 0 ∨ k = 1 ∨ k = 2 ∨ k = 3 ∨ k = 4 ∨ k = 5 ∨ k = 6 ∨ k = 7 ∨ k = 8 ∨ k = 9 ∨ k = 10 ∨ k = 11 ∨ k = 12 ∨ k = 13 ∨ k = 14 ∨ k = 15 := by omega
    rcases this with rfl | rfl | rfl | rfl | rfl | rfl | rfl | rfl | rfl | rfl | rfl | rfl | rfl | rfl | rfl | rfl <;> rfl
  · rw [cell_of_row _ _ _ _ _ _ hn]; rfl
  · unfold World.frozen?
    simp only
    rw [hn]
    simp
section
variable {w w' w2 w0 w1 : World} {f b n q : Nat} {D D' : DS} {g g' g1 : QG} {M N N' : Ns} {d k m : Int} {e : En} {T' : Wd}
/-- An end of a pipe is opened. -/
def opP (D : DS) (p : Int) (x : Pi) (kd : Int) : DS := { D with P := fun i => if i = p then some (x.1, opF x.2.1 kd, opI x.2.2 kd) else D.P i }
theorem QF.openEnd (h : QF w f D g n) (t : QTb w b g M N) {p : Int} {x : Pi} (hp : D.P p = some x) (hF : 0 ≤ x.2.1 ∧ x.2.1 < 1000) (hI : 0 ≤ x.2.2 ∧ x.2.2 < 1000) (kd pr : Int) (hkd : kd ≠ 1) (hE : D.E (D.nx + 1) = none) (h0 : 0 ≤ D.nx) (hl : ¬ leastN N < 0) (hL : Live D N) (hn : n < 1000) :
    Calls Tryz.prog 158 #[wp (g.Q p), .int .i64 kd] w fun y w' => (∃ v, y = .returned v) ∧ Calls Tryz.prog 105 #[wp f, wp b, wp w'.heap.size] (w'.alloc (.cells #[.int .i64 kd, .int .i64 pr, .int .i64 0, .int .i64 0, .int .i64 0, wp (g.Q p)] 180)) fun x9 w2 => x9 = .returned (.int .i64 (leastN N)) ∧ QGoQ w w2 f (addD (opP D p x kd) ⟨kd, pr, 0, p, 0⟩) g b (addN D N) (n + 1) := by
  obtain ⟨tb, tk⟩ := h.pipe p x hp
  refine (tb.open_ok kd hF.1 hF.2 hI.1 hI.2).mono ?_
  rintro y w' ⟨rfl, tb', hg⟩
  refine ⟨⟨_, rfl⟩, ?_⟩
  have h1 : QF w' f (opP D p x kd) g n := h.piped hp (x' := (x.1, opF x.2.1 kd, opI x.2.2 kd)) tb' hg
  have t1 := t.offOwn (by rw [tk]; rfl) hg
  have hpv : pv g ⟨kd, pr, 0, p, 0⟩ = wp (g.Q p) := if_neg hkd
  refine (h1.add_ok (e := ⟨kd, pr, 0, p, 0⟩) (q := w'.heap.size) t1 ((Below.refl _ w').alloc (Nat.le_refl _) _) (Nat.le_refl _) (by rw [ecells, hpv]; exact new_six _ _ _ _ _ _ _ _) hE h0 hl hL hn).mono ?_
  rintro z w2 ⟨rfl, ⟨⟨g', M', a, c, x9, y9⟩, wt⟩⟩
  exact ⟨rfl, ⟨g', M', a, c, ⟨fun i hi => x9.kap i (Nat.lt_of_lt_of_le hi hg.size), x9.key, x9.r⟩, y9⟩, (Wt.grown hg (.inl (by rw [tk]; rfl))).trans wt⟩
set_option maxRecDepth 100000 in
set_option maxHeartbeats 4000000 in
theorem QF.addEnd_ok (h : QF w f D g n) (t : QTb w b g M N) {p : Int} {x : Pi} (hp : D.P p = some x) (hF : 0 ≤ x.2.1 ∧ x.2.1 < 1000) (hI : 0 ≤ x.2.2 ∧ x.2.2 < 1000) (kd pr : Int) (hkd : kd ≠ 1) (hE : D.E (D.nx + 1) = none) (h0 : 0 ≤ D.nx) (hl : ¬ leastN N < 0) (hL : Live D N) (hn : n < 1000) :
    Calls Tryz.prog 130 #[wp f, wp b, wp (g.Q p), .int .i64 kd, .int .i64 pr] w fun x9 w2 => x9 = .returned (.int .i64 (leastN N)) ∧ QGoQ w w2 f (addD (opP D p x kd) ⟨kd, pr, 0, p, 0⟩) g b (addN D N) (n + 1) := by
  have hO := h.openEnd t hp hF hI kd pr hkd hE h0 hl hL hn
  generalize addD (opP D p x kd) ⟨kd, pr, 0, p, 0⟩ = D2 at *
  generalize addN D N = N2 at *
  generalize leastN N = L at *
  clear h t hp hF hI hE h0 hl hL hn
  generalize hQ : g.Q p = q at *
  clear hQ
  go_enter Tryz.func130, Tryz.ntmps130
  go_wp2_with (first
    | (go_at_call 158; refine hO.mono ?_; rintro y w1 ⟨⟨v, rfl⟩, hA⟩)
    | (go_at_call 105; refine hA.mono ?_; rintro y w2 ⟨rfl, hG⟩))
  go_ret
  exact ⟨rfl, hG⟩
theorem QF.room2 (h : QF w f D g n) (t : QTb w b g M N) (hn : n < 1000) {z : Bool} (hz : (z = true ∧ ¬ (usedN N + 2 > 8 ∨ n + 2 > 40)) ∨ (z = false ∧ (usedN N + 2 > 8 ∨ n + 2 > 40))) : Calls Tryz.prog 103 #[wp f, wp b, .int .i64 2] w fun e w' => e = .returned (.bool z) ∧ Below w.heap.size w w' := by
  have hR := h.room_ok t 2 (by omega) hn
  have e1 : (decide (usedN N + 2 ≤ 8) && decide (n + 2 ≤ 40)) = z := by
    rcases hz with ⟨rfl, hr⟩ | ⟨rfl, hr⟩
    · rw [decide_eq_true (by omega), decide_eq_true (by omega)]; rfl
    · by_cases h1 : usedN N + 2 ≤ 8
      · rw [decide_eq_false (p := n + 2 ≤ 40) (by omega), Bool.and_false]
      · rw [decide_eq_false h1]; rfl
  rw [e1] at hR
  exact hR
set_option maxRecDepth 100000 in
set_option maxHeartbeats 4000000 in
theorem QF.pipe_no (h : QF w f D g n) (t : QTb w b g M N) (hf : usedN N + 2 > 8 ∨ n + 2 > 40) (hn : n < 1000) :
    Calls Tryz.prog 80 #[wp f, wp b] w fun x w' => x = .returned (.tuple #[.int .i64 0, .int .i64 0, uer 12]) ∧ QGo w w' f D g b N := by
  have hR := h.room2 t hn (.inr ⟨rfl, hf⟩)
  have hs : ∀ w', Below w.heap.size w w' → QGo w w' f D g b N := fun w' hb => h.same t hb
  clear h t hf
  go_enter Tryz.func80, Tryz.ntmps80
  go_wp2_with (go_at_call 103; refine hR.mono ?_; rintro y w1 ⟨rfl, b1⟩)
  go_ret3
  exact ⟨rfl, hs _ b1⟩
theorem pipe_same (D : DS) : addD (opP (addD (opP { D with P := fun i => if i = D.nx + 1 then some ([], 0, 0) else D.P i, nx := D.nx + 1 } (D.nx + 1) ([], 0, 0) 2) ⟨2, 1, 0, D.nx + 1, 0⟩) (D.nx + 1) ([], 1, 0) 3) ⟨3, 2, 0, D.nx + 1, 0⟩ = pipeD D := by
  unfold pipeD pipeD1 pipeD0 opP addD
  simp only [DS.mk.injEq, true_and, and_true]
  funext i
  by_cases e : i = D.nx + 1
  · simp [e, opF, opI]
  · simp [e]
theorem Live.add {D : DS} {N : Ns} (h : Live D N) (e : En) : Live (addD D e) (addN D N) := fun i hi h0 => by
  show (if (addN D N)[i].1 = D.nx + 1 then some e else D.E (addN D N)[i].1).isSome = true
  by_cases e1 : (addN D N)[i].1 = D.nx + 1
  · rw [if_pos e1]; rfl
  · rw [if_neg e1]
    unfold addN at e1 h0 hi ⊢
    rw [List.length_set] at hi
    by_cases e2 : (leastN N).toNat = i
    · rw [List.getElem_set] at e1
      rw [if_pos e2] at e1
      exact absurd rfl e1
    · rw [List.getElem_set_ne e2] at h0 ⊢
      exact h i hi h0
set_option maxRecDepth 100000 in
set_option maxHeartbeats 4000000 in
theorem QF.pipe_yes (h : QF w f D g n) (t : QTb w b g M N) (hG : Given D) (hg : D.nx < 890) (hE : ∀ d e, D.E d = some e → e.pipe ≠ D.nx + 1 ∨ e.kind = 1) (hf : ¬ (usedN N + 2 > 8 ∨ n + 2 > 40)) (hl1 : ¬ leastN N < 0) (hl2 : ¬ leastN (pipeN1 D N) < 0) (hL : Live D N) :
    Calls Tryz.prog 80 #[wp f, wp b] w fun x w' => x = .returned (.tuple #[.int .i64 (leastN N), .int .i64 (leastN (pipeN1 D N)), .nilIface]) ∧ QGo w w' f (pipeD D) g b (pipeN D N) := by
  have hn : n < 1000 := by omega
  have hR := h.room2 t hn (.inl ⟨rfl, hf⟩)
  have hnew := hG.new
  have H1 : ∀ V, Below w.heap.size w V → Calls Tryz.prog 130 #[wp f, wp b, wp V.heap.size, .int .i64 2, .int .i64 1] (V.alloc (.cells pcells 217)) fun x9 w2 => x9 = .returned (.int .i64 (leastN N)) ∧ Calls Tryz.prog 130 #[wp f, wp b, wp V.heap.size, .int .i64 3, .int .i64 2] w2 fun x8 w3 => x8 = .returned (.int .i64 (leastN (pipeN1 D N))) ∧ QGo w w3 f (pipeD D) g b (pipeN D N) := fun V hV => by
    have hV' := h.below hV
    have bA : Below V.heap.size V (V.alloc (.cells pcells 217)) := (Below.refl _ V).alloc (Nat.le_refl _) _
    obtain ⟨g1, a1, a2, a3, a4, a5⟩ := hV'.newPipe (q := V.heap.size) (p := D.nx + 1) (Nat.le_refl _) (by show V.heap.size < (V.heap.push _).size; rw [Array.size_push]; omega) bA hnew.2.2 hE (x := ([], 0, 0)) (new_tb V _) (D.nx + 1)
    have hbl : b < V.heap.size := (t.below hV).tab.lt
    have t1 : QTb (V.alloc (.cells pcells 217)) b g1 M N := (t.below hV).sameK (bA.block b hbl) a2 a3
    have hg0 := hG.n0
    have hE1 : D.E (D.nx + 1 + 1) = none := by
      cases hx : D.E (D.nx + 1 + 1) with
      | none => rfl
      | some e => have := hG.e _ (by rw [hx]; rfl); omega
    rw [← a5]
    refine (a1.addEnd_ok t1 (p := D.nx + 1) (x := ([], 0, 0)) (if_pos rfl) ⟨by simp, by simp⟩ ⟨by simp, by simp⟩ 2 1 (by omega) hE1 (show 0 ≤ D.nx + 1 by omega) hl1 hL hn).mono ?_
    rintro y w2 ⟨rfl, ⟨⟨g2, M2, c1, c2, c3, c4⟩, wt2⟩⟩
    refine ⟨rfl, ?_⟩
    rw [← c4]
    have hN1 : addN { D with P := fun i => if i = D.nx + 1 then some ([], 0, 0) else D.P i, nx := D.nx + 1 } N = pipeN1 D N := rfl
    rw [hN1] at c2
    have hL1 : Live (addD (opP { D with P := fun i => if i = D.nx + 1 then some ([], 0, 0) else D.P i, nx := D.nx + 1 } (D.nx + 1) ([], 0, 0) 2) ⟨2, 1, 0, D.nx + 1, 0⟩) (pipeN1 D N) := Live.add (D := opP { D with P := fun i => if i = D.nx + 1 then some ([], 0, 0) else D.P i, nx := D.nx + 1 } (D.nx + 1) ([], 0, 0) 2) (N := N) hL _
    have hE2 : (addD (opP { D with P := fun i => if i = D.nx + 1 then some ([], 0, 0) else D.P i, nx := D.nx + 1 } (D.nx + 1) ([], 0, 0) 2) ⟨2, 1, 0, D.nx + 1, 0⟩).E (D.nx + 1 + 1 + 1) = none := by
      show (if D.nx + 1 + 1 + 1 = D.nx + 1 + 1 then _ else D.E (D.nx + 1 + 1 + 1)) = none
      rw [if_neg (by omega)]
      cases hx : D.E (D.nx + 1 + 1 + 1) with
      | none => rfl
      | some e => have := hG.e _ (by rw [hx]; rfl); omega
    refine (c1.addEnd_ok c2 (p := D.nx + 1) (x := ([], 1, 0)) (show (if D.nx + 1 = D.nx + 1 then _ else _) = _ from if_pos rfl) ⟨by simp, by simp⟩ ⟨by simp, by simp⟩ 3 2 (by omega) hE2 (show 0 ≤ D.nx + 1 + 1 by omega) hl2 hL1 (by omega)).mono ?_
    rintro y w3 ⟨rfl, hQ⟩
    rw [pipe_same] at hQ
    refine ⟨rfl, ?_⟩
    obtain ⟨⟨g3, M3, d1, d2, d3, d4⟩, wt3⟩ := hQ
    have hs1 := hV.size
    have hs2 := bA.size
    have hs3 := wt2.size
    have hkp : ∀ i, i < w.heap.size → g1.kap i = g.kap i := fun i hi => a2 i (by omega)
    have hkp2 : ∀ i, i < w.heap.size → g2.kap i = g.kap i := fun i hi => (c3.kap i (by omega)).trans (hkp i hi)
    have wt1 : Wt (fun i => (g.kap i).isSome = true ∨ i = b) w (V.alloc (.cells pcells 217)) := Wt.below _ (hV.trans (bA.mono hV.size))
    refine ⟨⟨g3, _, M3, d1, d2, ⟨fun i hi => (d3.kap i (by omega)).trans (hkp2 i hi), fun k d hk hd => ?_, d3.r.trans (c3.r.trans a4)⟩⟩, (wt1.weaken wt2 (fun i hi z => ?_)).weaken wt3 (fun i hi z => ?_)⟩
    · refine d3.key k d (c3.key k d (by rw [a3]; exact hk) ?_) hd
      show (if d = D.nx + 1 + 1 then some _ else D.E d).isSome = true
      split
      · rfl
      · exact (h.key k d hk).1
    · rcases z with z | z
      · exact .inl (by rw [← hkp i hi]; exact z)
      · exact .inr z
    · rcases z with z | z
      · exact .inl (by rw [← hkp2 i hi]; exact z)
      · exact .inr z
  generalize leastN (pipeN1 D N) = L2 at *
  generalize leastN N = L1 at *
  generalize pipeD D = D2 at *
  generalize pipeN D N = N2 at *
  clear h t hG hg hE hf hl1 hl2 hL hnew
  go_enter Tryz.func80, Tryz.ntmps80
  go_upto_region 4 with (go_at_call 103; refine hR.mono ?_; rintro y w1 ⟨rfl, b1⟩)
  have hA := H1 _ b1
  clear H1 hR
  go_wp2_with (first
    | (go_at_call 130; refine hA2.mono ?_; rintro y w3 ⟨rfl, hG⟩)
    | (go_at_call 130; refine hA.mono ?_; rintro y w2 ⟨rfl, hA2⟩))
  go_ret3
  exact ⟨rfl, hG⟩
end
end Go.Proofs.YtjkneekfijibiabGreatDoor

namespace Go.Proofs.YtjkneekfijibiabGreatDoor
open Go.RowKit Go.Maps

section
variable {w w' w2 w0 w1 : World} {f b n q : Nat} {D D' : DS} {g g' g1 : QG} {M N N' : Ns} {d k m : Int} {e : En} {T' : Wd}
set_option maxRecDepth 100000 in
set_option maxHeartbeats 4000000 in
theorem QF.usable_no (h : QF w f D g n) (t : QTb w b g M N) (x u : Int) (hx : hasN N x = false) : Calls Tryz.prog 107 #[wp f, wp b, .int .i64 x, .int .i64 u] w fun y w' => y = .returned (.tuple #[.pointer none, uer 7]) ∧ Below w.heap.size w w' := by
  have hF := h.find_no t x hx
  clear h t hx
  go_enter Tryz.func107, Tryz.ntmps107
  go_wp2_with (go_at_call 77; refine hF.mono ?_; rintro y w1 ⟨rfl, b1⟩)
  go_ret2
  exact ⟨rfl, b1⟩
set_option maxRecDepth 100000 in
set_option maxHeartbeats 4000000 in
theorem QF.usable_false (h : QF w f D g n) (t : QTb w b g M N) {i : Nat} (hi : i < 8) (hiL : i < N.length) (h0 : 0 < N[i].1) (he : D.E N[i].1 = some e) (u : Int) (hu : (u = 1 ∧ e.prot = 2) ∨ (u = 2 ∧ e.prot = 1)) : Calls Tryz.prog 107 #[wp f, wp b, .int .i64 (i : Int), .int .i64 u] w fun y w' => y = .returned (.tuple #[.pointer none, uer 13]) ∧ Below w.heap.size w w' := by
  have hF := h.find_yes t hi hiL h0
  have hc : ∀ V, Below w.heap.size w V → V.cell? ⟨g.B N[i].1, 1, none⟩ = some (.int .i64 e.prot) := fun V hV => by
    obtain ⟨c, h1, _⟩ := (h.below hV).ent _ e he
    exact ((h.below hV).ecell he h1).2.1
  generalize g.B N[i].1 = q at *
  generalize e.prot = pr at *
  clear h t he h0
  rcases hu with ⟨rfl, rfl⟩ | ⟨rfl, rfl⟩
  · go_enter Tryz.func107, Tryz.ntmps107
    go_wp2_with (go_at_call 77; refine hF.mono ?_; rintro y w1 ⟨rfl, b1⟩; have c1 := hc _ b1)
    go_ret2
    exact ⟨rfl, b1⟩
  · go_enter Tryz.func107, Tryz.ntmps107
    go_wp2_with (go_at_call 77; refine hF.mono ?_; rintro y w1 ⟨rfl, b1⟩; have c1 := hc _ b1)
    go_ret2
    exact ⟨rfl, b1⟩
set_option maxRecDepth 100000 in
set_option maxHeartbeats 4000000 in
theorem QF.usable_yes (h : QF w f D g n) (t : QTb w b g M N) {i : Nat} (hi : i < 8) (hiL : i < N.length) (h0 : 0 < N[i].1) (he : D.E N[i].1 = some e) (u : Int) (hu : (u = 1 ∧ (e.prot = 1 ∨ e.prot = 3)) ∨ (u = 2 ∧ (e.prot = 2 ∨ e.prot = 3))) : Calls Tryz.prog 107 #[wp f, wp b, .int .i64 (i : Int), .int .i64 u] w fun y w' => y = .returned (.tuple #[wp (g.B N[i].1), .nilIface]) ∧ Below w.heap.size w w' := by
  have hF := h.find_yes t hi hiL h0
  have hc : ∀ V, Below w.heap.size w V → V.cell? ⟨g.B N[i].1, 1, none⟩ = some (.int .i64 e.prot) := fun V hV => by
    obtain ⟨c, h1, _⟩ := (h.below hV).ent _ e he
    exact ((h.below hV).ecell he h1).2.1
  generalize g.B N[i].1 = q at *
  generalize e.prot = pr at *
  clear h t he h0
  rcases hu with ⟨rfl, rfl | rfl⟩ | ⟨rfl, rfl | rfl⟩
  all_goals
    go_enter Tryz.func107, Tryz.ntmps107
    go_wp2_with (go_at_call 77; refine hF.mono ?_; rintro y w1 ⟨rfl, b1⟩; have c1 := hc _ b1)
    go_ret2
    exact ⟨rfl, b1⟩
set_option maxRecDepth 100000 in
set_option maxHeartbeats 4000000 in
theorem QF.read_no (h : QF w f D g n) (t : QTb w b g M N) (x a c : Int) (hc : c ≠ 0) (hU : Calls Tryz.prog 107 #[wp f, wp b, .int .i64 x, .int .i64 1] w fun y w' => y = .returned (.tuple #[.pointer none, uer c]) ∧ Below w.heap.size w w') :
    Calls Tryz.prog 45 #[wp f, wp b, .int .i64 x, .int .i64 a] w fun y w' => y = .returned (.tuple #[tx [], uev c]) ∧ QGo w w' f D g b N := by
  have hs : ∀ w', Below w.heap.size w w' → QGo w w' f D g b N := fun w' hb => h.same t hb
  rw [uev_ne hc]
  clear h t hc
  go_enter Tryz.func45, Tryz.ntmps45
  go_wp2_with (go_at_call 107; refine hU.mono ?_; rintro y w1 ⟨rfl, b1⟩)
  go_ret2
  exact ⟨rfl, hs _ b1⟩
theorem erT_uev (c : Int) : erT c = uev c := rfl
set_option maxRecDepth 100000 in
set_option maxHeartbeats 4000000 in
theorem QF.read_end (h : QF w f D g n) (t : QTb w b g M N) {i : Nat} (hi : i < 8) (hiL : i < N.length) (h0 : 0 < N[i].1) (he : D.E N[i].1 = some e) (a : Int) (hk : e.kind ≠ 1) (hpr : e.prot = 1 ∨ e.prot = 3) {p : Pi} (hp : D.P e.pipe = some p) (hI : 0 ≤ p.2.2) :
    Calls Tryz.prog 45 #[wp f, wp b, .int .i64 (i : Int), .int .i64 a] w fun y w' => y = .returned (.tuple #[tx (p.1.take a.toNat), uev (rdE p.2.2 p.1 a)]) ∧ QGo w w' f { D with P := fun j => if j = e.pipe then some (p.1.drop a.toNat, p.2.1, p.2.2) else D.P j } g b N := by
  have hU := h.usable_yes t hi hiL h0 he 1 (.inl ⟨rfl, hpr⟩)
  have hk' : (e.kind == 1) = false := by simpa using hk
  have hpv : pv g e = wp (g.Q e.pipe) := if_neg hk
  have hat : ∀ V, Below w.heap.size w V → V.cell? ⟨g.B N[i].1, 5, none⟩ = some (wp (g.Q e.pipe)) ∧ Calls Tryz.prog 108 #[wp (g.B N[i].1)] V (fun x w' => x = .returned (.bool false) ∧ w' = V) ∧ Calls Tryz.prog 110 #[wp (g.Q e.pipe), .int .i64 a] V fun y w' => y = .returned (.tuple #[tx (p.1.take a.toNat), uev (rdE p.2.2 p.1 a)]) ∧ QGo w w' f { D with P := fun j => if j = e.pipe then some (p.1.drop a.toNat, p.2.1, p.2.2) else D.P j } g b N := fun V hV => by
    have hV' := h.below hV
    obtain ⟨c, h1, _⟩ := hV'.ent _ e he
    have e5 := (hV'.ecell he h1).2.2.2.2.2.1
    rw [hpv] at e5
    have hIs := hV'.isFile_ok he
    rw [hk'] at hIs
    obtain ⟨tb, tk⟩ := hV'.pipe _ p hp
    refine ⟨e5, hIs, (tb.read_ok a hI).mono ?_⟩
    rintro y w' ⟨rfl, tb', hg⟩
    exact ⟨rfl, ⟨⟨g, n, M, hV'.piped hp (x' := (p.1.drop a.toNat, p.2.1, p.2.2)) tb' hg, (t.below hV).offOwn (by rw [tk]; rfl) hg, Ext.refl _ _ _⟩, (Wt.below _ hV).trans (Wt.grown hg (.inl (by rw [tk]; rfl)))⟩⟩
  generalize ({ D with P := fun j => if j = e.pipe then some (p.1.drop a.toNat, p.2.1, p.2.2) else D.P j } : DS) = D2 at *
  generalize g.B N[i].1 = q at *
  generalize g.Q e.pipe = Q at *
  generalize uev (rdE p.2.2 p.1 a) = U at *
  generalize List.take a.toNat p.1 = S at *
  clear h t hk hpr hp hI he h0 hk' hpv
  go_enter Tryz.func45, Tryz.ntmps45
  go_wp2_with (first
    | (go_at_call 107; refine hU.mono ?_; rintro y w1 ⟨rfl, b1⟩; obtain ⟨c5, hIs, hRd⟩ := hat _ b1)
    | (go_at_call 108; refine hIs.mono ?_; rintro y w2 ⟨rfl, hw2⟩; subst w2)
    | (go_at_call 110; refine hRd.mono ?_; rintro y w3 ⟨rfl, hG⟩))
  go_ret2
  exact ⟨rfl, hG⟩
theorem readS_err {T : Wd} {x a c : Int} (h : readE T x a c ≠ 0) : readS T x a c = [] := by
  unfold readE at h; unfold readS
  cases hn : T x with
  | none => rfl
  | some nd => cases nd with
    | dir C => rfl
    | file b y =>
      have hf : fileT T x = 0 := by unfold fileT; rw [hn]
      rw [if_neg (fun e => e hf)] at h
      simp only
      by_cases h9 : a < 0 ∨ c < 0
      · rw [if_pos h9]
      · rw [if_neg h9] at h; exact absurd rfl h
set_option maxRecDepth 100000 in
set_option maxHeartbeats 4000000 in
theorem QF.read_file (h : QF w f D g n) (t : QTb w b g M N) {i : Nat} (hi : i < 8) (hiL : i < N.length) (h0 : 0 < N[i].1) (he : D.E N[i].1 = some e) (a : Int) (hk : e.kind = 1) (hpr : e.prot = 1 ∨ e.prot = 3) (hnd : 0 ≤ e.node ∧ e.node < 1000) (hps : 0 ≤ e.pos ∧ e.pos ≤ 200) (hl : (readS D.T e.node e.pos a).length ≤ 100000) :
    Calls Tryz.prog 45 #[wp f, wp b, .int .i64 (i : Int), .int .i64 a] w fun y w' => y = .returned (.tuple #[tx (readS D.T e.node e.pos a), uev (readE D.T e.node e.pos a)]) ∧ QGo w w' f { D with E := fun j => if j = N[i].1 then some { e with pos := e.pos + (readS D.T e.node e.pos a).length } else D.E j } g b N := by
  have hU := h.usable_yes t hi hiL h0 he 1 (.inl ⟨rfl, hpr⟩)
  have hat : ∀ V, Below w.heap.size w V → (V.cell? ⟨f, 0, none⟩ = some (wp g.r) ∧ V.cell? ⟨g.B N[i].1, 3, none⟩ = some (.int .i64 e.node) ∧ V.cell? ⟨g.B N[i].1, 4, none⟩ = some (.int .i64 e.pos)) ∧ V.frozen? ⟨g.B N[i].1, 4, none⟩ = false := fun V hV => by
    have hV' := h.below hV
    obtain ⟨c, h1, _⟩ := hV'.ent _ e he
    obtain ⟨_, _, _, e3, e4, _, ez⟩ := hV'.ecell he h1
    exact ⟨⟨hV'.cells.1, e3, e4⟩, ez 4⟩
  have hIs : ∀ V, Below w.heap.size w V → Calls Tryz.prog 108 #[wp (g.B N[i].1)] V fun x w' => x = .returned (.bool true) ∧ w' = V := fun V hV => by
    have := (h.below hV).isFile_ok he
    rw [hk] at this
    exact this
  have hRd : ∀ V, Below w.heap.size w V → Calls Tryz.prog 21 #[wp g.r, .int .i64 e.node, .int .i64 e.pos, .int .i64 a] V fun y w' => y = .returned (.tuple #[tx (readS D.T e.node e.pos a), uev (readE D.T e.node e.pos a)]) ∧ Below w.heap.size w w' := fun V hV => by
    obtain ⟨O, p, _⟩ := (h.below hV).tree
    refine (p.read_ok e.node e.pos a (wf_few hnd.1 (by omega))).mono ?_
    rintro y w' ⟨rfl, z, rfl⟩
    exact ⟨rfl, ⟨hV.os, hV.tape, hV.output, hV.size, hV.block⟩⟩
  obtain ⟨c9, hc9, _, hkb⟩ := h.ent _ e he
  have HF : Aside (∀ V, Below w.heap.size w V → QGo w (V.setCell ⟨g.B N[i].1, 4, none⟩ (.int .i64 (e.pos + (readS D.T e.node e.pos a).length))) f { D with E := fun j => if j = N[i].1 then some { e with pos := e.pos + (readS D.T e.node e.pos a).length } else D.E j } g b N) := fun V hV => by
    have gg := tgrown_set V (g.B N[i].1) 4 (.int .i64 (e.pos + (readS D.T e.node e.pos a).length))
    exact ⟨⟨g, n, M, (h.below hV).place he _, (t.below hV).offOwn (by rw [hkb]; rfl) gg, Ext.refl _ _ _⟩, (Wt.below _ hV).trans (Wt.grown gg (.inl (by rw [hkb]; rfl)))⟩
  have HE : Aside (readE D.T e.node e.pos a ≠ 0 → tx (readS D.T e.node e.pos a) = tx [] ∧ ∀ V, Below w.heap.size w V → QGo w V f { D with E := fun j => if j = N[i].1 then some { e with pos := e.pos + (readS D.T e.node e.pos a).length } else D.E j } g b N) := fun hz => by
    rw [readS_err hz]
    refine ⟨rfl, fun V hV => ?_⟩
    have hD : ({ D with E := fun j => if j = N[i].1 then some { e with pos := e.pos + (([] : List UInt8).length : Int) } else D.E j } : DS) = D := by
      have hE : (fun j => if j = N[i].1 then some { e with pos := e.pos + (([] : List UInt8).length : Int) } else D.E j) = D.E := by
        funext j
        by_cases ej : j = N[i].1
        · rw [if_pos ej, ej, he]; simp
        · rw [if_neg ej]
      rw [hE]
    rw [hD]
    exact h.same t hV
  generalize hD2 : ({ D with E := fun j => if j = N[i].1 then some { e with pos := e.pos + (readS D.T e.node e.pos a).length } else D.E j } : DS) = D2 at *
  generalize hS9 : readS D.T e.node e.pos a = S9 at *
  generalize hC9 : readE D.T e.node e.pos a = C9 at *
  generalize g.B N[i].1 = q at *
  generalize e.node = nd at *
  generalize e.pos = ps at *
  obtain ⟨hps0, hps1⟩ := hps
  have HW : Aside (wrap64 (ps + (S9.length : Int)) = ps + (S9.length : Int)) := by show wrap64 _ = _; unfold wrap64; omega
  clear h t hk hpr he h0 hnd hl hkb hc9 hD2 hS9 hC9 hps0 hps1
  go_enter Tryz.func45, Tryz.ntmps45
  go_upto_region 6 with (first
    | (go_at_call 107; refine hU.mono ?_; rintro y w1 ⟨rfl, b1⟩)
    | (go_at_call 108; refine (hIs _ b1).mono ?_; rintro y w2 ⟨rfl, hw2⟩; subst w2))
  obtain ⟨hc1, hz1⟩ := hat _ b1
  go_region_held3 (fun w' => w'.cell? ⟨f, 0, none⟩ = some (wp g.r) ∧ w'.cell? ⟨q, 3, none⟩ = some (.int .i64 nd) ∧ w'.cell? ⟨q, 4, none⟩ = some (.int .i64 ps)) (first | exact hc1 | exact (hat _ b3).1) (first
    | (go_at_call 21; refine (hRd _ (below_dr b1)).mono ?_; rintro y w3 ⟨rfl, b3⟩))
  all_goals
    obtain ⟨⟨_, _, k4⟩, kz⟩ := hat _ b3
    clear hat hRd hIs hU hc1 hz1
    by_cases hz : C9 = 0
    · have HG := HF.out _ b3
      have HW9 := HW.out
      subst hz
      clear HE HF HW
      rw [show uev 0 = .nilIface from rfl]
      go_wp2_with fail
      go_ret2
      exact ⟨rfl, HG⟩
    · have HX := HE.out hz
      have HC : Aside (tx S9 = tx [] ∧ C9 ≠ 0) := ⟨HX.1, hz⟩
      rw [uev_ne hz]
      have HG := HX.2 _ b3
      clear HE HF HW HX hz
      go_wp2_with fail
      go_ret2
      exact ⟨by rw [HC.out.1, uev_ne HC.out.2]; rfl, HG⟩
end
end Go.Proofs.YtjkneekfijibiabGreatDoor

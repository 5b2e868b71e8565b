/- The document's own spaces: Store where a frame is wanted, by its Go text. -/
import Derived.Test.YtcllfedpdcjbcaaDoorVRef7
namespace Go.Proofs.YtcllfedpdcjbcaaDoor
open Go.RowKit Go.Shelf Go.Lib Go.Sort Go.Maps

section
variable {w w' : World} {rm gR n nx gs : Nat} {P : PM} {D : Nat → Nat → Int} {φ : Int → Int} {t o : Int → Nat}

/-- A page's cells, one by one. -/
theorem ten_cells {W : World} {i : Nat} {c0 c1 c2 c3 c4 c5 c6 c7 c8 c9 : Value} {T : TypeId} (h : W.heap[i]? = some (.cells #[c0, c1, c2, c3, c4, c5, c6, c7, c8, c9] T)) : (W.cell? ⟨i, 0, none⟩ = some c0 ∧ W.cell? ⟨i, 1, none⟩ = some c1 ∧ W.cell? ⟨i, 2, none⟩ = some c2 ∧ W.cell? ⟨i, 3, none⟩ = some c3 ∧ W.cell? ⟨i, 4, none⟩ = some c4 ∧ W.cell? ⟨i, 5, none⟩ = some c5 ∧ W.cell? ⟨i, 6, none⟩ = some c6 ∧ W.cell? ⟨i, 7, none⟩ = some c7 ∧ W.cell? ⟨i, 8, none⟩ = some c8 ∧ W.cell? ⟨i, 9, none⟩ = some c9) ∧ ∀ j, W.frozen? ⟨i, j, none⟩ = false := by
  refine ⟨⟨?_, ?_, ?_, ?_, ?_, ?_, ?_, ?_, ?_, ?_⟩, fun j => by simp [World.frozen?, h]⟩ <;> (rw [cell_of_row W i _ _ _ _ h]; rfl)
theorem RM.live {Rr : Int → Option Nat} {s : Nat} (h : RM w rm gR n nx Rr s) (j : Nat) : w.frozen? ⟨rm, j, none⟩ = false := by simp [World.frozen?, h.head]

set_option maxRecDepth 100000 in
set_option maxHeartbeats 8000000 in
/-- A frame is wanted, and none is left. -/
theorem RF.store_full (h : RF w rm gR n nx gs P D φ t) (a k v : Int) (ha : (Lit.int .i64 a).wf = true) (hz : useE P a k 2 = 0) {x y : Int} (hP : P a = some (x, y)) (hy : y = -1 ∨ (0 ≤ y ∧ 1 < t y)) (hu : used t n = n) : Calls Tryd.prog 67 #[.map (some gs), vp rm, .int .i64 a, .int .i64 k, .int .i64 v] w fun e w' => e = .returned (.int .i64 12) ∧ Below w.heap.size w w' := by
  have hU := ruse_ok h.sp h.ok a k 2 ha (.inr rfl)
  rw [hz] at hU
  obtain ⟨Rr, s, m, r⟩ := h.mem
  have hg := rpv_get hP D φ (rpg 0 (fun _ => 0) 0)
  simp only at hg
  have hL : ∀ W, Below w.heap.size w W → Calls Tryd.prog 76 #[vp rm] W fun e w' => e = .returned (.int .i64 0) ∧ Below w.heap.size w w' := fun W hb => by
    have hs := r.size
    refine ((m.below hb).left (by omega) h.n256).mono ?_
    rintro e w' ⟨he, q, hw⟩
    refine ⟨by rw [he, show n - s = 0 by omega]; rfl, ?_⟩
    subst hw
    exact ⟨hb.os, hb.tape, hb.output, hb.size, hb.block⟩
  have hsp := h.sp
  have hmm := m.map
  have c1 := m.c1
  have hrl := m.lt
  have hnx := h.nx9
  have hFF : (y = -1 ∧ rid φ y = 0) ∨ (y ≠ -1 ∧ rid φ y = φ y ∧ 1 ≤ φ y ∧ φ y ≤ (nx : Int) ∧ (tm Rr (φ y)).getD (.int .i64 0) = .int .i64 (t y : Int) ∧ (1 : Int) < (t y : Int)) := by
    rcases hy with e | ⟨e1, e2⟩
    · exact .inl ⟨e, by rw [e, rid_none]⟩
    · obtain ⟨r1, r2, r3⟩ := r.here y e1 (by omega)
      exact .inr ⟨by omega, by unfold rid; rw [if_neg (by omega)], r2, r3, by rw [tm_val]; unfold val; rw [r1]; rfl, by omega⟩
  clear hz hP r h hu hy
  generalize rwd D y = R at *
  generalize rpv P D φ = M at *
  generalize lenP P = lp at *
  rcases hFF with ⟨hy, hF⟩ | ⟨hy, hF, r2, r3, hv, h1⟩
  · rw [hF] at hg
    go_enter Tryd.func67, Tryd.ntmps67
    go_wp2_with fail
    refine hU.mono ?_
    rintro e w1 ⟨rfl, b1⟩
    clear hU
    have hsp1 := hsp.keep (b1.block _ hsp.lt)
    have hbA : ∀ ob q, Below w.heap.size w ((w1.alloc ob).drewN q) := fun ob q => ⟨b1.os, b1.tape, b1.output, (b1.alloc b1.size ob).size, (b1.alloc b1.size ob).block⟩
    go_upto_region 5 with (at_lookup; refine wpList_klook rfl _ _ 114 rfl 174 Tryd.underlying114 _ (zero_rpage _) gs _ _ rfl hsp1 a rfl ha ?_; rw [hg]; simp only [rpg])
    go_quiet (fail)
    go_wp2_with fail
    refine (hL _ (hbA _ _)).mono ?_
    rintro e w2 ⟨rfl, b2⟩
    go_wp2_with fail
    go_ret
    exact ⟨rfl, b2⟩
  · rw [hF] at hg
    have hwF : (Lit.int .i64 (φ y)).wf = true := wf_small (by omega) (by omega)
    have hFq : (φ y == 0) = false := by simp; omega
    generalize φ y = F at *
    generalize t y = ty at *
    go_enter Tryd.func67, Tryd.ntmps67
    go_wp2_with fail
    refine hU.mono ?_
    rintro e w1 ⟨rfl, b1⟩
    clear hU
    have hsp1 := hsp.keep (b1.block _ hsp.lt)
    have hbA : ∀ ob q, Below w.heap.size w ((w1.alloc ob).drewN q) := fun ob q => ⟨b1.os, b1.tape, b1.output, (b1.alloc b1.size ob).size, (b1.alloc b1.size ob).block⟩
    have hmA : ∀ ob q, PMap ((w1.alloc ob).drewN q) gR s (tm Rr) := fun ob q => hmm.keep ((hbA ob q).block _ hmm.lt)
    have hlk : ∀ ob q, (Instr.lookup 65 (.map (some gR)) (.int .i64 F) false).run Tryd.prog ((w1.alloc ob).drewN q) = .ok (.int .i64 (ty : Int)) ((w1.alloc ob).drewN q) := fun ob q => by
      rw [(hmA ob q).look Tryd.underlying65 (zero_int _) F hwF, hv]
    have c1A : ∀ ob, (w1.alloc ob).cell? ⟨rm, 1, none⟩ = some (.map (some gR)) := fun ob => by
      rw [World.cell?_of_block (w := w) (a := ⟨rm, 1, none⟩) ((b1.alloc b1.size ob).block rm hrl)]; exact c1
    go_upto_region 5 with (at_lookup; refine wpList_klook rfl _ _ 114 rfl 174 Tryd.underlying114 _ (zero_rpage _) gs _ _ rfl hsp1 a rfl ha ?_; rw [hg]; simp only [rpg])
    go_quiet (fail)
    go_wp2_with fail
    refine (hL _ (hbA _ _)).mono ?_
    rintro e w2 ⟨rfl, b2⟩
    go_wp2_with fail
    go_ret
    exact ⟨rfl, b2⟩
end
end Go.Proofs.YtcllfedpdcjbcaaDoor

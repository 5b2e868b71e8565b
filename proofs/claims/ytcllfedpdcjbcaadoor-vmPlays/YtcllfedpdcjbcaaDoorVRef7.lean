/- The document's own spaces: Store, by its Go text. -/
import Derived.Test.YtcllfedpdcjbcaaDoorVRef6
import Derived.BigQuiet
namespace Go.Proofs.YtcllfedpdcjbcaaDoor
open Go.RowKit Go.Shelf Go.Lib Go.Sort Go.Maps

section
variable {w w' : World} {rm gR n nx gs : Nat} {P : PM} {D : Nat → Nat → Int} {φ : Int → Int} {t o : Int → Nat}

set_option maxRecDepth 100000 in
set_option maxHeartbeats 2000000 in
theorem RF.store_no (h : RF w rm gR n nx gs P D φ t) (a k v : Int) (ha : (Lit.int .i64 a).wf = true) (hz : useE P a k 2 ≠ 0) : Calls Tryd.prog 67 #[.map (some gs), vp rm, .int .i64 a, .int .i64 k, .int .i64 v] w fun e w' => e = .returned (.int .i64 (useE P a k 2)) ∧ Below w.heap.size w w' := by
  have hU := ruse_ok h.sp h.ok a k 2 ha (.inr rfl)
  generalize useE P a k 2 = er at *
  go_enter Tryd.func67, Tryd.ntmps67
  go_wp2_with fail
  refine hU.mono ?_
  rintro e w1 ⟨rfl, b1⟩
  go_wp2_with fail
  go_ret
  exact ⟨rfl, b1⟩

/-- A page's words, one of them written. -/
def wput (R : Nat → Int) (k : Nat) (v : Int) : Nat → Int := fun j => if j = k then v else R j

set_option maxRecDepth 100000 in
set_option maxHeartbeats 8000000 in
/-- The frame is the page's own: the word is written. -/
theorem RF.store_own (h : RF w rm gR n nx gs P D φ t) (a k v : Int) (ha : (Lit.int .i64 a).wf = true) (hz : useE P a k 2 = 0) (hk : 0 ≤ k ∧ k < 8) {x y : Int} (hP : P a = some (x, y)) (hy : 0 ≤ y) (ht : t y = 1) : Calls Tryd.prog 67 #[.map (some gs), vp rm, .int .i64 a, .int .i64 k, .int .i64 v] w fun e w' => e = .returned (.int .i64 0) ∧ ∃ w2, Below w.heap.size w w2 ∧ w2.grownBy w' (some gs) ∧ PMap w' gs (lenP P) (fun i => if i = a then some (rpg x (wput (rwd D y) k.toNat v) (rid φ y)) else rpv P D φ i) := by
  have hU := ruse_ok h.sp h.ok a k 2 ha (.inr rfl)
  rw [hz] at hU
  obtain ⟨Rr, s, m, r⟩ := h.mem
  obtain ⟨r1, r2, r3⟩ := r.here y hy (by omega)
  have hg := rpv_get hP D φ (rpg 0 (fun _ => 0) 0)
  have hF : rid φ y = φ y := by unfold rid; rw [if_neg (by omega)]
  have hsm : (rpv P D φ a).isSome = true := by rw [rpv_isSome, hP]; rfl
  have hsz : lenP P < maxLen := by have := lenP_le P; unfold maxLen; omega
  have hwF : (Lit.int .i64 (φ y)).wf = true := wf_small (by omega) (by have := h.nx9; omega)
  have hv : (tm Rr (φ y)).getD (.int .i64 0) = .int .i64 1 := by rw [tm_val]; unfold val; rw [r1, ht]; rfl
  have hF0 : decide (φ y = 0) = false := decide_eq_false (by omega)
  have hF1 : ¬ φ y = 0 := by omega
  simp only at hg
  rw [hF] at hg
  rw [hF]
  have hsp := h.sp
  have hmm := m.map
  have c1 := m.c1
  have hrl := m.lt
  clear hz hP r1 r r2 r3 h
  generalize φ y = F at *
  generalize rwd D y = R at *
  generalize rpv P D φ = M at *
  generalize lenP P = lp at *
  have hk8 : k = 0 ∨ k = 1 ∨ k = 2 ∨ k = 3 ∨ k = 4 ∨ k = 5 ∨ k = 6 ∨ k = 7 := by omega
  clear hk
  have hFq : (F == 0) = false := by simpa using hF1
  have hW : ∀ w1, Below w.heap.size w w1 → ∀ ob q i u, Below w.heap.size w (((w1.alloc ob).drewN q).setCell ⟨w1.heap.size, i, none⟩ u) := fun w1 b1 ob q i u => Below.setCell (w := (w1.alloc ob).drewN q) ⟨b1.os, b1.tape, b1.output, Nat.le_trans b1.size (by show w1.heap.size ≤ (w1.heap.push ob).size; simp), fun k hk => ((b1.alloc b1.size ob).block k hk)⟩ b1.size u
  rcases hk8 with rfl | rfl | rfl | rfl | rfl | rfl | rfl | rfl
  all_goals
    go_enter Tryd.func67, Tryd.ntmps67
    go_wp2_with fail
    refine hU.mono ?_
    rintro e w1 ⟨rfl, b1⟩
    clear hU
    have hsp1 := hsp.keep (b1.block _ hsp.lt)
    have hmA : ∀ ob q, PMap ((w1.alloc ob).drewN q) gR s (tm Rr) := fun ob q => (hmm.keep (b1.block _ hmm.lt)).keep (Below.heap_alloc _ _ _ (by have := hmm.lt; have := b1.size; omega))
    have hlk : ∀ ob q, (Instr.lookup 65 (.map (some gR)) (.int .i64 F) false).run Tryd.prog ((w1.alloc ob).drewN q) = .ok (.int .i64 1) ((w1.alloc ob).drewN q) := fun ob q => by
      rw [(hmA ob q).look Tryd.underlying65 (zero_int _) F hwF, hv]
    have c1A : ∀ ob, (w1.alloc ob).cell? ⟨rm, 1, none⟩ = some (.map (some gR)) := fun ob => by
      rw [World.cell?_of_block (w := w) (a := ⟨rm, 1, none⟩) ((Below.heap_alloc w1 ob rm (by have := b1.size; omega)).trans (b1.block rm hrl))]; exact c1
    have hb2 := hW w1 b1
    have hsp2 : ∀ ob q i u, PMap (((w1.alloc ob).drewN q).setCell ⟨w1.heap.size, i, none⟩ u) gs lp M := fun ob q i u => hsp.keep ((hb2 ob q i u).block _ hsp.lt)
    go_upto_region 5 with (at_lookup; refine wpList_klook rfl _ _ 114 rfl 174 Tryd.underlying114 _ (zero_rpage _) gs _ _ rfl hsp1 a rfl ha ?_; rw [hg]; simp only [rpg])
    go_quiet (fail)
    go_wp2_with (at_mapUpdate; refine wpList_kput rfl _ _ _ 114 rfl 174 Tryd.underlying114 gs _ _ rfl (hsp2 _ _ _ _) hsz a rfl ha _ rfl ?_; intro w3 pm3 g3; rw [if_pos hsm] at pm3)
    go_ret
    exact ⟨rfl, _, hb2 _ _ _ _, g3, pm3⟩
end
end Go.Proofs.YtcllfedpdcjbcaaDoor

/- The document's own spaces: Store where a frame is taken, by its Go text. -/
import Derived.Test.YtcllfedpdcjbcaaDoorVRef8
namespace Go.Proofs.YtcllfedpdcjbcaaDoor
open Go.RowKit Go.Shelf Go.Lib Go.Sort Go.Maps

section
variable {w w' : World} {rm gR n nx gs : Nat} {P : PM} {D : Nat → Nat → Int} {φ : Int → Int} {t o : Int → Nat}

theorem rgrown_set (w : World) (b o : Nat) (v : Value) : w.grownBy (w.setCell ⟨b, o, none⟩ v) (some b) :=
  ⟨rfl, rfl, rfl, by simp [World.setCell], fun k _ h => Below.heap_setCell _ _ _ _ (fun e => h (by rw [e]))⟩

/-- The document's store and the page, behind a frame's number that was taken. -/
theorem taken_number {w2 w3 w4 : World} {i0 s : Nat} {Rr : Int → Option Nat} {c0 c1 c2 c3 c4 c5 c6 c7 c8 c9 : Value} (b2 : Below w.heap.size w w2) (hi : w.heap.size ≤ i0) (hrl : rm < w.heap.size) (hgl : gR < w.heap.size) (hn3 : w3.heap[i0]? = some (.cells #[c0, c1, c2, c3, c4, c5, c6, c7, c8, c9] 174)) (m3 : RM w3 rm gR n nx Rr s) (g3 : w2.grownBy w3 (some gR)) (hw4 : (w3.setCell ⟨rm, 2, none⟩ (.int .i64 ((nx : Int) + 1))).setCell ⟨i0, 9, none⟩ (.int .i64 ((nx : Int) + 1)) = w4) :
    w4.heap[i0]? = some (.cells #[c0, c1, c2, c3, c4, c5, c6, c7, c8, .int .i64 ((nx : Int) + 1)] 174) ∧ RM w4 rm gR n (nx + 1) Rr s ∧ Fr (rwr rm gR gs) w w4 ∧ (gs < w.heap.size → gs ≠ gR → gs ≠ rm → w4.heap[gs]? = w.heap[gs]?) := by
  subst hw4
  refine ⟨?_, ⟨?_, ?_, m3.small⟩, ?_, fun hl hg hm => ?_⟩
  · have h1 : (w3.setCell ⟨rm, 2, none⟩ (.int .i64 ((nx : Int) + 1))).heap[i0]? = _ := (heap_setCell_other _ _ i0 _ (by show i0 ≠ rm; omega)).trans hn3
    have h2 := heap_setCell_same _ i0 9 (.int .i64 ((nx : Int) + 1)) _ _ _ h1
    rw [h2]; rfl
  · rw [heap_setCell_other _ _ rm _ (by show rm ≠ i0; omega)]
    have h2 := heap_setCell_same _ rm 2 (.int .i64 ((nx : Int) + 1)) _ _ _ m3.head
    rw [h2]; rfl
  · exact m3.map.keep ((heap_setCell_other _ _ gR _ (by show gR ≠ i0; omega)).trans (heap_setCell_other _ _ gR _ (fun e => m3.ne e.symm)))
  · exact (((fr_below (B := rwr rm gR gs) b2).trans (Fr.grown g3) (fun i _ e => .inl e)).trans (Fr.grown (rgrown_set _ _ _ _)) (fun i _ e => .inr (.inr e))).trans (Fr.grown (rgrown_set _ _ _ _)) (fun i hi' e => by omega)
  · rw [heap_setCell_other _ _ gs _ (by show gs ≠ i0; omega), heap_setCell_other _ _ gs _ hm, g3.block gs (by have := b2.size; omega) (fun e => hg (Option.some.inj e)), b2.block gs hl]

/-- .. and behind the word and the page. -/
theorem put_number {w4 w5 w6 : World} {i0 s j : Nat} {u : Value} {Rr : Int → Option Nat} {td : Int → Nat} (hi : w.heap.size ≤ i0) (hrl : rm < w.heap.size) (hgl : gR < w.heap.size) (hgr : gs ≠ gR) (hgm : gs ≠ rm) (m4 : RM w4 rm gR n (nx + 1) Rr s) (f4 : Fr (rwr rm gR gs) w w4) (r3 : Rel n nx td φ Rr s) (g5 : w4.drew.grownBy w5 (some gR)) (pm5 : PMap w5 gR (if (tm Rr ((nx : Int) + 1)).isSome then s else s + 1) (fun i => if i = (nx : Int) + 1 then some (.int .i64 1) else tm Rr i)) (g6 : (w5.setCell ⟨i0, j, none⟩ u).grownBy w6 (some gs)) :
    RM w6 rm gR n (nx + 1) (putC Rr ((nx + 1 : Nat) : Int) 1) (s + 1) ∧ Fr (rwr rm gR gs) w w6 := by
  have hno : (tm Rr ((nx : Int) + 1)).isSome = false := by
    rw [tm_isSome]
    cases e : Rr ((nx : Int) + 1) with
    | none => rfl
    | some k =>
      obtain ⟨f, f0, f1, f2⟩ := r3.only _ _ e
      have := (r3.here f f0 f1).2.2
      omega
  rw [hno] at pm5
  have hpm : (fun i => if i = (nx : Int) + 1 then some (.int .i64 1) else tm Rr i) = tm (putC Rr ((nx + 1 : Nat) : Int) 1) := tm_putC Rr ((nx + 1 : Nat) : Int) 1
  rw [hpm] at pm5
  have hz4 := f4.size
  have hz5 : w4.heap.size ≤ w5.heap.size := g5.size
  have hz6 : (w5.setCell ⟨i0, j, none⟩ u).heap.size = w5.heap.size := by simp [World.setCell]
  have k6 : ∀ i, i < w.heap.size → i ≠ gs → w6.heap[i]? = w5.heap[i]? := fun i hl hne => (g6.block i (by omega) (fun e => hne (Option.some.inj e))).trans (heap_setCell_other _ _ i _ (by show i ≠ i0; omega))
  refine ⟨⟨?_, ?_, fun x k hx => ?_⟩, ?_⟩
  · exact ((k6 rm hrl (fun e => hgm e.symm)).trans (g5.block rm (by show rm < w4.heap.size; omega) (fun e => m4.ne (Option.some.inj e)))).trans m4.head
  · exact pm5.keep (k6 gR hgl (fun e => hgr e.symm))
  · unfold putC at hx; split at hx
    · cases hx; omega
    · exact m4.small x k hx
  · exact (((f4.trans (Fr.drew (fun _ => False) w4) (fun _ _ h => h.elim)).trans (Fr.grown g5) (fun i _ e => .inl e)).trans (Fr.grown (rgrown_set _ _ _ _)) (fun i hi' e => by omega)).trans (Fr.grown g6) (fun i _ e => .inr (.inl e))

set_option maxRecDepth 100000 in
set_option maxHeartbeats 16000000 in
/-- A frame is wanted, and taken. -/
theorem RF.store_new (h : RF w rm gR n nx gs P D φ t) (a k v : Int) (ha : (Lit.int .i64 a).wf = true) (hz : useE P a k 2 = 0) (hk : 0 ≤ k ∧ k < 8) {x y : Int} (hP : P a = some (x, y)) (hy : y = -1 ∨ (0 ≤ y ∧ 1 < t y)) (hu : used t n < n) (hnx : nx < 900) : Calls Tryd.prog 67 #[.map (some gs), vp rm, .int .i64 a, .int .i64 k, .int .i64 v] w fun e w' => e = .returned (.int .i64 0) ∧ (∃ Rr s, RM w' rm gR n (nx + 1) (putC Rr ((nx + 1 : Nat) : Int) 1) (s + 1) ∧ Rel n nx (tdrop t y) φ Rr s) ∧ PMap w' gs (lenP P) (fun i => if i = a then some (rpg x (wput (rwd D y) k.toNat v) ((nx : Int) + 1)) else rpv P D φ i) ∧ Fr (rwr rm gR gs) w w' := by
  have hU := ruse_ok h.sp h.ok a k 2 ha (.inr rfl)
  rw [hz] at hU
  obtain ⟨Rr, s, m, r⟩ := h.mem
  have hg := rpv_get hP D φ (rpg 0 (fun _ => 0) 0)
  simp only at hg
  have hfx : frm P a = y := frm_some hP
  obtain ⟨L, hL0, hLn⟩ : ∃ L : Nat, n - s = L ∧ ¬ (L : Int) = 0 := ⟨_, rfl, by have := r.size; omega⟩
  have hL : ∀ W, Below w.heap.size w W → Calls Tryd.prog 76 #[vp rm] W fun e w' => e = .returned (.int .i64 (L : Int)) ∧ ∃ q, w' = W.drewN q := fun W hb => by
    have hs := r.size
    refine ((m.below hb).left (by omega) h.n256).mono ?_
    rintro e w' ⟨he, q, hw⟩
    exact ⟨by rw [he, hL0], q, hw⟩
  have hLs : ∀ W, Below w.heap.size w W → Calls Tryd.prog 105 #[vp rm, .int .i64 (rid φ y)] W fun e w' => e = .returned (.tuple #[]) ∧ (∃ Rr s, RM w' rm gR n nx Rr s ∧ Rel n nx (tdrop t y) φ Rr s) ∧ W.grownBy w' (some gR) := fun W hb => by
    have := (h.below hb).less a
    rw [hfx] at this
    exact this
  have hsm : (rpv P D φ a).isSome = true := by rw [rpv_isSome, hP]; rfl
  have hsz : lenP P < maxLen := by have := lenP_le P; unfold maxLen; omega
  have hsp := h.sp
  have hmm := m.map
  have c1 := m.c1
  have hrl := m.lt
  have hgl := m.glt
  have hrg := m.ne
  have hsl := hsp.lt
  have hgr := h.ngr
  have hgm := h.ngm
  have hn256 := h.n256
  have hFF : (y = -1 ∧ rid φ y = 0) ∨ (y ≠ -1 ∧ 1 ≤ rid φ y ∧ rid φ y ≤ (nx : Int) ∧ (tm Rr (rid φ y)).getD (.int .i64 0) = .int .i64 (t y : Int) ∧ (1 : Int) < (t y : Int)) := by
    rcases hy with e | ⟨e1, e2⟩
    · exact .inl ⟨e, by rw [e, rid_none]⟩
    · obtain ⟨r1, r2, r3⟩ := r.here y e1 (by omega)
      have hF : rid φ y = φ y := by unfold rid; rw [if_neg (by omega)]
      rw [hF]
      exact .inr ⟨by omega, r2, r3, by rw [tm_val]; unfold val; rw [r1]; rfl, by omega⟩
  clear hz hP r h hu hy hfx m hL0
  generalize rwd D y = R at *
  generalize rpv P D φ = M at *
  generalize lenP P = lp at *
  generalize hF : rid φ y = F at *
  generalize tdrop t y = td at *
  generalize t y = ty at *
  have hk8 : k = 0 ∨ k = 1 ∨ k = 2 ∨ k = 3 ∨ k = 4 ∨ k = 5 ∨ k = 6 ∨ k = 7 := by omega
  clear hk hF
  rcases hFF with ⟨hy, rfl⟩ | ⟨hy, r2, r3, hv, h1⟩
  · rcases hk8 with rfl | rfl | rfl | rfl | rfl | rfl | rfl | rfl
    all_goals
      go_enter Tryd.func67, Tryd.ntmps67
      go_wp2_with fail
      refine hU.mono ?_
      rintro e w1 ⟨rfl, b1⟩
      clear hU
      have hsp1 := hsp.keep (b1.block _ hsp.lt)
      have hbA : ∀ ob q, Below w.heap.size w ((w1.alloc ob).drewN q) := fun ob q => ⟨b1.os, b1.tape, b1.output, (b1.alloc b1.size ob).size, (b1.alloc b1.size ob).block⟩
      have hbA2 : ∀ ob q q', Below w.heap.size w (((w1.alloc ob).drewN q).drewN q') := fun ob q q' => ⟨b1.os, b1.tape, b1.output, (b1.alloc b1.size ob).size, (b1.alloc b1.size ob).block⟩
      go_upto_region 5 with (at_lookup; refine wpList_klook rfl _ _ 114 rfl 174 Tryd.underlying114 _ (zero_rpage _) gs _ _ rfl hsp1 a rfl ha ?_; rw [hg]; simp only [rpg])
      go_quiet (fail)
      go_wp2_with fail
      refine (hL _ (hbA _ _)).mono ?_
      rintro e w2 ⟨rfl, q, hq⟩
      have hn2 : w2.heap[w1.heap.size]? = some (.cells #[.int .i64 x, .int .i64 (R 0), .int .i64 (R 1), .int .i64 (R 2), .int .i64 (R 3), .int .i64 (R 4), .int .i64 (R 5), .int .i64 (R 6), .int .i64 (R 7), .int .i64 0] 174) := by rw [hq]; exact heap_new w1 _
      have b2 : Below w.heap.size w w2 := by rw [hq]; exact hbA2 _ _ _
      obtain ⟨i0, hi0⟩ : ∃ i0, w1.heap.size = i0 := ⟨_, rfl⟩
      rw [hi0] at hn2 ⊢
      have hi : w.heap.size ≤ i0 := by rw [← hi0]; exact b1.size
      clear hq hbA hbA2 hsp1 b1 hi0 hL
      have q9 := (ten_cells hn2).1.2.2.2.2.2.2.2.2.2
      go_wp2_with fail
      refine (hLs _ b2).mono ?_
      rintro e w3 ⟨rfl, ⟨Rr', s', m3, r3⟩, g3⟩
      have hn3 := (g3.block i0 (lt_of_heap hn2) (fun e => by have := Option.some.inj e; omega)).trans hn2
      clear hLs q9
      have d1 := m3.c1
      have d2 := m3.c2
      have dl := m3.live
      obtain ⟨⟨e0, e1, e2, e3, e4, e5, e6, e7, e8, e9⟩, hfz⟩ := ten_cells hn3
      go_upto_region 11 with fail
      obtain ⟨w4, hw4⟩ : ∃ w4, (w3.setCell ⟨rm, 2, none⟩ (.int .i64 ((nx : Int) + 1))).setCell ⟨i0, 9, none⟩ (.int .i64 ((nx : Int) + 1)) = w4 := ⟨_, rfl⟩
      rw [hw4]
      obtain ⟨hn4, m4, f4, k4⟩ := taken_number (gs := gs) b2 hi hrl hgl hn3 m3 g3 hw4
      clear e0 e1 e2 e3 e4 e5 e6 e7 e8 e9 hfz d1 d2 dl hw4 hn3 hn2
      have d1 := m4.c1
      have e9 := (ten_cells hn4).1.2.2.2.2.2.2.2.2.2
      have hm4 : PMap w4.drew gR s' (tm Rr') := m4.map.keep rfl
      have hs9 : s' < maxLen := by have := r3.size; have := used_le td n; unfold maxLen; omega
      have hwN : (Lit.int .i64 ((nx : Int) + 1)).wf = true := wf_small (by omega) (by omega)
      have hten : ∀ w5, w4.drew.grownBy w5 (some gR) → _ := fun w5 (g5 : w4.drew.grownBy w5 (some gR)) => ten_cells ((g5.block i0 (lt_of_heap hn4) (fun e => by have := Option.some.inj e; omega)).trans hn4)
      have hsp5 : ∀ w5, w4.drew.grownBy w5 (some gR) → ∀ j u, PMap (w5.setCell ⟨i0, j, none⟩ u) gs lp M := fun w5 g5 j u => hsp.keep (by
        rw [heap_setCell_other _ _ gs _ (by show gs ≠ i0; omega), g5.block gs (by show gs < w4.heap.size; have := f4.size; omega) (fun e => hgr (Option.some.inj e))]; exact k4 hsl hgr hgm)
      have hfin : ∀ w5 w6 pm5 j u, w4.drew.grownBy w5 (some gR) → _ → _ := fun w5 w6 pm5 j u (g5 : w4.drew.grownBy w5 (some gR)) (g6 : (w5.setCell ⟨i0, j, none⟩ u).grownBy w6 (some gs)) => put_number hi hrl hgl hgr hgm m4 f4 r3 g5 pm5 g6
      have HR := hide r3
      clear b2 g3 m3 m4 f4 hn4 hmm c1 r3 k4
      obtain ⟨w5, hrun, pm5, g5⟩ := hm4.put Tryd.underlying65 hs9 ((nx : Int) + 1) hwN (.int .i64 1)
      obtain ⟨⟨e0, e1, e2, e3, e4, e5, e6, e7, e8, e9'⟩, hfz⟩ := hten w5 g5
      go_region
      all_goals
        go_wp2_with (at_mapUpdate; refine wpList_kput rfl _ _ _ 114 rfl 174 Tryd.underlying114 gs _ _ rfl (hsp5 _ g5 _ _) hsz a rfl ha _ rfl ?_; intro w6 pm6 g6; rw [if_pos hsm] at pm6)
        go_ret
        exact ⟨rfl, ⟨_, _, (hfin _ _ pm5 _ _ g5 g6).1, HR⟩, pm6, (hfin _ _ pm5 _ _ g5 g6).2⟩
  · have hwF : (Lit.int .i64 F).wf = true := wf_small (by omega) (by omega)
    have hFq : (F == 0) = false := by simp; omega
    rcases hk8 with rfl | rfl | rfl | rfl | rfl | rfl | rfl | rfl
    all_goals
      go_enter Tryd.func67, Tryd.ntmps67
      go_wp2_with fail
      refine hU.mono ?_
      rintro e w1 ⟨rfl, b1⟩
      clear hU
      have hsp1 := hsp.keep (b1.block _ hsp.lt)
      have hbA : ∀ ob q, Below w.heap.size w ((w1.alloc ob).drewN q) := fun ob q => ⟨b1.os, b1.tape, b1.output, (b1.alloc b1.size ob).size, (b1.alloc b1.size ob).block⟩
      have hbA2 : ∀ ob q q', Below w.heap.size w (((w1.alloc ob).drewN q).drewN q') := fun ob q q' => ⟨b1.os, b1.tape, b1.output, (b1.alloc b1.size ob).size, (b1.alloc b1.size ob).block⟩
      have hmA : ∀ ob q, PMap ((w1.alloc ob).drewN q) gR s (tm Rr) := fun ob q => hmm.keep ((hbA ob q).block _ hmm.lt)
      have hlk : ∀ ob q, (Instr.lookup 65 (.map (some gR)) (.int .i64 F) false).run Tryd.prog ((w1.alloc ob).drewN q) = .ok (.int .i64 (ty : Int)) ((w1.alloc ob).drewN q) := fun ob q => by
        rw [(hmA ob q).look Tryd.underlying65 (zero_int _) F hwF, hv]
      have c1A : ∀ ob, (w1.alloc ob).cell? ⟨rm, 1, none⟩ = some (.map (some gR)) := fun ob => by
        rw [World.cell?_of_block (w := w) (a := ⟨rm, 1, none⟩) ((b1.alloc b1.size ob).block rm hrl)]; exact c1
      go_upto_region 5 with (at_lookup; refine wpList_klook rfl _ _ 114 rfl 174 Tryd.underlying114 _ (zero_rpage _) gs _ _ rfl hsp1 a rfl ha ?_; rw [hg]; simp only [rpg])
      go_quiet (fail)
      go_wp2_with fail
      refine (hL _ (hbA _ _)).mono ?_
      rintro e w2 ⟨rfl, q, hq⟩
      have hn2 : w2.heap[w1.heap.size]? = some (.cells #[.int .i64 x, .int .i64 (R 0), .int .i64 (R 1), .int .i64 (R 2), .int .i64 (R 3), .int .i64 (R 4), .int .i64 (R 5), .int .i64 (R 6), .int .i64 (R 7), .int .i64 F] 174) := by rw [hq]; exact heap_new w1 _
      have b2 : Below w.heap.size w w2 := by rw [hq]; exact hbA2 _ _ _
      obtain ⟨i0, hi0⟩ : ∃ i0, w1.heap.size = i0 := ⟨_, rfl⟩
      rw [hi0] at hn2 ⊢
      have hi : w.heap.size ≤ i0 := by rw [← hi0]; exact b1.size
      clear hq hlk c1A hmA hbA hbA2 hsp1 b1 hi0 hL
      have q9 := (ten_cells hn2).1.2.2.2.2.2.2.2.2.2
      go_wp2_with fail
      refine (hLs _ b2).mono ?_
      rintro e w3 ⟨rfl, ⟨Rr', s', m3, r3⟩, g3⟩
      have hn3 := (g3.block i0 (lt_of_heap hn2) (fun e => by have := Option.some.inj e; omega)).trans hn2
      clear hLs q9
      have d1 := m3.c1
      have d2 := m3.c2
      have dl := m3.live
      obtain ⟨⟨e0, e1, e2, e3, e4, e5, e6, e7, e8, e9⟩, hfz⟩ := ten_cells hn3
      go_upto_region 11 with fail
      obtain ⟨w4, hw4⟩ : ∃ w4, (w3.setCell ⟨rm, 2, none⟩ (.int .i64 ((nx : Int) + 1))).setCell ⟨i0, 9, none⟩ (.int .i64 ((nx : Int) + 1)) = w4 := ⟨_, rfl⟩
      rw [hw4]
      obtain ⟨hn4, m4, f4, k4⟩ := taken_number (gs := gs) b2 hi hrl hgl hn3 m3 g3 hw4
      clear e0 e1 e2 e3 e4 e5 e6 e7 e8 e9 hfz d1 d2 dl hw4 hn3 hn2
      have d1 := m4.c1
      have e9 := (ten_cells hn4).1.2.2.2.2.2.2.2.2.2
      have hm4 : PMap w4.drew gR s' (tm Rr') := m4.map.keep rfl
      have hs9 : s' < maxLen := by have := r3.size; have := used_le td n; unfold maxLen; omega
      have hwN : (Lit.int .i64 ((nx : Int) + 1)).wf = true := wf_small (by omega) (by omega)
      have hten : ∀ w5, w4.drew.grownBy w5 (some gR) → _ := fun w5 (g5 : w4.drew.grownBy w5 (some gR)) => ten_cells ((g5.block i0 (lt_of_heap hn4) (fun e => by have := Option.some.inj e; omega)).trans hn4)
      have hsp5 : ∀ w5, w4.drew.grownBy w5 (some gR) → ∀ j u, PMap (w5.setCell ⟨i0, j, none⟩ u) gs lp M := fun w5 g5 j u => hsp.keep (by
        rw [heap_setCell_other _ _ gs _ (by show gs ≠ i0; omega), g5.block gs (by show gs < w4.heap.size; have := f4.size; omega) (fun e => hgr (Option.some.inj e))]; exact k4 hsl hgr hgm)
      have hfin : ∀ w5 w6 pm5 j u, w4.drew.grownBy w5 (some gR) → _ → _ := fun w5 w6 pm5 j u (g5 : w4.drew.grownBy w5 (some gR)) (g6 : (w5.setCell ⟨i0, j, none⟩ u).grownBy w6 (some gs)) => put_number hi hrl hgl hgr hgm m4 f4 r3 g5 pm5 g6
      have HR := hide r3
      clear b2 g3 m3 m4 f4 hn4 hmm c1 r3 k4
      obtain ⟨w5, hrun, pm5, g5⟩ := hm4.put Tryd.underlying65 hs9 ((nx : Int) + 1) hwN (.int .i64 1)
      obtain ⟨⟨e0, e1, e2, e3, e4, e5, e6, e7, e8, e9'⟩, hfz⟩ := hten w5 g5
      go_region
      all_goals
        go_wp2_with (at_mapUpdate; refine wpList_kput rfl _ _ _ 114 rfl 174 Tryd.underlying114 gs _ _ rfl (hsp5 _ g5 _ _) hsz a rfl ha _ rfl ?_; intro w6 pm6 g6; rw [if_pos hsm] at pm6)
        go_ret
        exact ⟨rfl, ⟨_, _, (hfin _ _ pm5 _ _ g5 g6).1, HR⟩, pm6, (hfin _ _ pm5 _ _ g5 g6).2⟩
end
end Go.Proofs.YtcllfedpdcjbcaaDoor

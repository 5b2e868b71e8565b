/- A new key of a map keyed by numbers: its entry made first, and stored into later. -/
import Derived.Test.YtjkneekfijibiabGreatDoorRangesDel
import Derived.WideKeyEntry
import Derived.Test.YtjkneekfijibiabGreatDoorDClose5
import Derived.Test.YtjkneekfijibiabGreatDoorQTab
namespace Go.Proofs.YtjkneekfijibiabGreatDoor
open Go.RowKit Go.Maps

theorem last_born {es : Array MapEntry} {clock : Nat} (h : ∀ x ∈ es.toList, x.born < clock) (x : MapEntry) (hx : x.born = clock) : (es.push x).findIdx? (fun e => ((e.born : Nat) : Int) == ((clock : Nat) : Int)) = some es.size := by
  rw [Array.findIdx?_push, Array.findIdx?_eq_none_iff.2 (fun y hy => by
    have := h y (Array.mem_toList_iff.2 hy)
    simp
    omega)]
  simp [hx]
theorem PMap.fresh {w : World} {g n : Nat} {M : Int → Option Value} {t e : TypeId} {z : Value} (m : PMap w g n M) (ht : Tryz.prog.underlying t = some (.map 3 e)) (hz : ∀ u : World, (zeroValue e).run Tryz.prog u = .ok z u) (hn : n < maxLen) (a : Int) (ha : (Lit.int .i64 a).wf = true) (hM : M a = none) :
    ∃ (st : Nat) (w1 : World), (Instr.mapEntry t (.map (some g)) (.int .i64 a)).run Tryz.prog w = .ok (.tuple #[z, .int .i64 (st : Int)]) w1 ∧ w.grownBy w1 (some g) ∧ ∀ (v : Value) (w2 : World), w2.heap[g]? = w1.heap[g]? → ∃ w3, (Instr.entryStore t (.map (some g)) (.int .i64 (st : Int)) v).run Tryz.prog w2 = .ok () w3 ∧ PMap w3 g (n + 1) (fun i => if i = a then some v else M i) ∧ w2.grownBy w3 (some g) := by
  have hk := keyOf_int_mk Tryz.underlying3 ha
  have hask := m.look_ok ht (hz w) a ha
  have hput := fun v => m.put ht hn a ha v
  obtain ⟨D, ⟨es, clock, hb, F, hsz, hD⟩, hs, hS, hMM⟩ := m
  obtain ⟨s1, s2, _⟩ := F.stamped
  have hgl : g < w.heap.size := (Array.getElem?_eq_some_iff.1 hb).1
  rcases keyedInt.find w hk es.toList (fun x hx => by
    obtain ⟨y, hy⟩ := F.reads x hx
    exact ⟨_, WideElems.rd_key hy⟩) with ⟨h1, h2⟩ | ⟨j, e0, h1, h2, h3⟩
  · refine ⟨clock, { w with heap := w.heap.setIfInBounds g (.map (es.push ⟨.int .i64 a, z, clock⟩) (clock + 1)) }, ?_, ?_, fun v w2 hw2 => ?_⟩
    · simp [goInt, Instr.mapEntry, run_underlying ht, MapKept.run_getObj_map hb, keyedInt.check w false hk, h1, hz, MapKept.run_setObj_map _ hb, Result.andThen]
    · exact ⟨rfl, rfl, rfl, by simp, fun i hi hne => by
        show (w.heap.setIfInBounds g _)[i]? = _
        rw [Array.getElem?_setIfInBounds_ne (fun e => hne (by rw [e]))]⟩
    · have hb2 : w2.heap[g]? = some (.map (es.push ⟨.int .i64 a, z, clock⟩) (clock + 1)) := by
        rw [hw2]
        show (w.heap.setIfInBounds g _)[g]? = _
        rw [Array.getElem?_setIfInBounds_self_of_lt hgl]
      have hg2 : g < w2.heap.size := (Array.getElem?_eq_some_iff.1 hb2).1
      obtain ⟨w', hrun, pm, _⟩ := hput v
      have hrun2 : (Instr.mapUpdate t (.map (some g)) (.int .i64 a) v).run Tryz.prog w = .ok () { w with heap := w.heap.setIfInBounds g (.map (es.push ⟨.int .i64 a, v, clock⟩) (clock + 1)) } := by
        simp [Instr.mapUpdate, run_underlying ht, MapKept.run_getObj_map hb, keyedInt.check w false hk, h1, MapKept.run_setObj_map _ hb, Result.andThen]
      have hw' : w' = { w with heap := w.heap.setIfInBounds g (.map (es.push ⟨.int .i64 a, v, clock⟩) (clock + 1)) } := by
        rw [hrun] at hrun2
        cases hrun2
        rfl
      have hmod : (es.push ⟨.int .i64 a, z, clock⟩).modify es.size (fun e => { e with val := v }) = es.push ⟨.int .i64 a, v, clock⟩ := by
        apply Array.ext'
        rw [Array.toList_modify, Array.toList_push, Array.toList_push, ← Array.length_toList, WideElems.modify_last]
      refine ⟨{ w2 with heap := w2.heap.setIfInBounds g (.map (es.push ⟨.int .i64 a, v, clock⟩) (clock + 1)) }, ?_, ?_, ?_⟩
      · simp [Instr.entryStore, MapKept.run_getObj_map hb2, asInt, asIntOf, last_born s1 ⟨.int .i64 a, z, clock⟩ rfl, hmod, MapKept.run_setObj_map _ hb2, Result.andThen]
      · rw [hM] at pm
        refine PMap.keep (w := w') pm ?_
        rw [hw']
        show (w2.heap.setIfInBounds g _)[g]? = (w.heap.setIfInBounds g _)[g]?
        rw [Array.getElem?_setIfInBounds_self_of_lt hg2, Array.getElem?_setIfInBounds_self_of_lt hgl]
      · exact ⟨rfl, rfl, rfl, by simp, fun i hi hne => by
          show (w2.heap.setIfInBounds g _)[i]? = _
          rw [Array.getElem?_setIfInBounds_ne (fun e => hne (by rw [e]))]⟩
  · exfalso
    simp [Instr.lookup, run_underlying ht, MapKept.run_getObj_map hb, keyedInt.check w es.isEmpty hk, h1, hM, Result.andThen] at hask
end Go.Proofs.YtjkneekfijibiabGreatDoor

namespace Go.Proofs.YtjkneekfijibiabGreatDoor
open Go.RowKit Go.Maps

section
variable {w w' : World} {f r gN s gE gR gP sE sR sP b : Nat} {D : DS} {G : Int → Nat} {N : Ns}
theorem RFt.setNx (h : RFt w f D r gN s G gE gR gP sE sR sP b N) (x : Int) : RFt (w.setCell ⟨f, 4, none⟩ (.int .i64 x)) f { D with nx := x } r gN s G gE gR gP sE sR sP b N ∧ w.grownBy (w.setCell ⟨f, 4, none⟩ (.int .i64 x)) (some f) := by
  have g := tgrown_set w f 4 (.int .i64 x)
  obtain ⟨n1, n2, n3⟩ := h.toRFm.fe
  have hk : ∀ i, i < w.heap.size → i ≠ f → (w.setCell ⟨f, 4, none⟩ (.int .i64 x)).heap[i]? = w.heap[i]? := fun i hi hne => g.block i hi (fun e => hne (Option.some.inj e))
  refine ⟨⟨⟨?_, h.tree.keep (fun i ht => hk i (h.tree.lt ht) (h.apart i ht).1), h.mE.keep (hk _ h.mE.lt (Ne.symm n1)), h.mR.keep (hk _ h.mR.lt (Ne.symm n2)), h.mP.keep (hk _ h.mP.lt (Ne.symm n3)), h.er, h.ep, h.rp, h.apart⟩, h.tab.keep (hk b h.tab.lt (fun e => h.off (.inl e))), h.off⟩, g⟩
  rw [heap_cell_same w f 4 _ _ _ _ h.head]
  rfl
theorem RFt.putE' (h : RFt w f D r gN s G gE gR gP sE sR sP b N) {k : Int} {e : En} {z : Nat} (hg : w.grownBy w' (some gE)) (hm : PMap w' gE z (fun i => if i = k then some (env e) else (D.E i).map env)) : RFt w' f { D with E := fun i => if i = k then some e else D.E i } r gN s G gE gR gP z sR sP b N := by
  obtain ⟨n1, n2, n3⟩ := h.toRFm.fe
  have hk : ∀ i, i < w.heap.size → i ≠ gE → w'.heap[i]? = w.heap[i]? := fun i hi hne => hg.block i hi (fun e => hne (Option.some.inj e))
  refine ⟨⟨(hk f (h.toRFm.lt (.inl rfl)) n1).trans h.head, h.tree.keep (fun i ht => hk i (h.tree.lt ht) (h.apart i ht).2.1), ?_, h.mR.keep (hk _ h.mR.lt (Ne.symm h.er)), h.mP.keep (hk _ h.mP.lt (Ne.symm h.ep)), h.er, h.ep, h.rp, h.apart⟩, h.tab.keep (hk b h.tab.lt (fun e => h.off (.inr (.inl e)))), h.off⟩
  have e2 : (fun i => (if i = k then some e else D.E i).map env) = fun i => if i = k then some (env e) else (D.E i).map env := by
    funext i
    split <;> rfl
  show PMap w' gE z (fun i => (if i = k then some e else D.E i).map env)
  rw [e2]
  exact hm
set_option maxRecDepth 100000 in
set_option maxHeartbeats 4000000 in
theorem RFt.add_ok (h : RFt w f D r gN s G gE gR gP sE sR sP b N) (e : En) (hl : ¬ leastN N < 0) (h0 : 0 ≤ D.nx) (h1 : D.nx < 10000) (hE : D.E (D.nx + 1) = none) (hR : D.R (D.nx + 1) = none) (hsE : sE < 1000) (hsR : sR < 1000) :
    Calls Tryz.prog 129 #[wp f, wp b, env e] w fun x w' => x = .returned (.int .i64 (leastN N)) ∧ RGo w w' f D (addD D e) r gN G gE gR gP b (addN D N) := by
  rcases least_lt (N := N) with hx | ⟨k, hk, hkL, hk0⟩
  · omega
  have hk8 : k < 8 := by have := h.tab.2; omega
  have hwk : (Lit.int .i64 (D.nx + 1)).wf = true := wf_few (by omega) (by omega)
  have hN : addN D N = N.set k (D.nx + 1, false) := by unfold addN; rw [hk, show (k : Int).toNat = k by omega]
  rw [hN, hk]
  have bA : Below w.heap.size w (w.alloc (.cells #[.int .i64 e.kind, .int .i64 e.prot, .int .i64 e.node, .int .i64 e.pipe, .int .i64 e.pos] 213)) := (Below.refl _ w).alloc (Nat.le_refl _) _
  have hA := h.below bA
  obtain ⟨WA, hWA⟩ : ∃ WA, w.alloc (.cells #[.int .i64 e.kind, .int .i64 e.prot, .int .i64 e.node, .int .i64 e.pipe, .int .i64 e.pos] 213) = WA := ⟨_, rfl⟩
  have hi0 : WA.heap[w.heap.size]? = some (.cells #[.int .i64 e.kind, .int .i64 e.prot, .int .i64 e.node, .int .i64 e.pipe, .int .i64 e.pos] 213) := by rw [← hWA]; exact new_five _ _ _ _ _ _ _
  rw [hWA] at bA hA
  obtain ⟨a0, a1, a2, a3, a4⟩ := hA.toRFm.cells
  have z4 : WA.frozen? ⟨f, 4, none⟩ = false := by simp [World.frozen?, hA.head]
  obtain ⟨h2, g2⟩ := hA.setNx (D.nx + 1)
  obtain ⟨W1, hW1⟩ : ∃ W1, WA.setCell ⟨f, 4, none⟩ (.int .i64 (D.nx + 1)) = W1 := ⟨_, rfl⟩
  rw [hW1] at h2 g2
  obtain ⟨c0, c1, c2, c3, c4⟩ := h2.toRFm.cells
  have hf0 : w.heap.size ≠ f := fun e => by have := h.toRFm.lt (i := f) (.inl rfl); omega
  have hi1 : W1.heap[w.heap.size]? = some (.cells #[.int .i64 e.kind, .int .i64 e.prot, .int .i64 e.node, .int .i64 e.pipe, .int .i64 e.pos] 213) := by
    rw [g2.block _ (Array.getElem?_eq_some_iff.1 hi0).1 (fun e => hf0 (Option.some.inj e))]; exact hi0
  have bD : Below W1.heap.size W1 W1.drew := below_dr (Below.refl _ W1)
  have h3 := h2.below bD
  have e0 : W1.cell? ⟨w.heap.size, 0, none⟩ = some (.int .i64 e.kind) := by rw [cell_of_row _ _ _ _ _ _ hi1]; rfl
  have e1 : W1.cell? ⟨w.heap.size, 1, none⟩ = some (.int .i64 e.prot) := by rw [cell_of_row _ _ _ _ _ _ hi1]; rfl
  have e2 : W1.cell? ⟨w.heap.size, 2, none⟩ = some (.int .i64 e.node) := by rw [cell_of_row _ _ _ _ _ _ hi1]; rfl
  have e3 : W1.cell? ⟨w.heap.size, 3, none⟩ = some (.int .i64 e.pipe) := by rw [cell_of_row _ _ _ _ _ _ hi1]; rfl
  have e4 : W1.cell? ⟨w.heap.size, 4, none⟩ = some (.int .i64 e.pos) := by rw [cell_of_row _ _ _ _ _ _ hi1]; rfl
  obtain ⟨st1, U1, r1, gU1, k1⟩ := h3.mE.fresh Tryz.underlying84 (fun u => zero_en u) (by unfold maxLen; omega) (D.nx + 1) hwk (by show (D.E (D.nx + 1)).map env = none; rw [hE]; rfl)
  have hi2 : U1.heap[w.heap.size]? = some (.cells #[.int .i64 e.kind, .int .i64 e.prot, .int .i64 e.node, .int .i64 e.pipe, .int .i64 e.pos] 213) := by
    rw [gU1.block _ (Array.getElem?_eq_some_iff.1 hi1).1 (fun e => by have := h.mE.lt; have := Option.some.inj e; omega)]; exact hi1
  have d0 : U1.cell? ⟨w.heap.size, 0, none⟩ = some (.int .i64 e.kind) := by rw [cell_of_row _ _ _ _ _ _ hi2]; rfl
  have d1 : U1.cell? ⟨w.heap.size, 1, none⟩ = some (.int .i64 e.prot) := by rw [cell_of_row _ _ _ _ _ _ hi2]; rfl
  have d2 : U1.cell? ⟨w.heap.size, 2, none⟩ = some (.int .i64 e.node) := by rw [cell_of_row _ _ _ _ _ _ hi2]; rfl
  have d3 : U1.cell? ⟨w.heap.size, 3, none⟩ = some (.int .i64 e.pipe) := by rw [cell_of_row _ _ _ _ _ _ hi2]; rfl
  have d4 : U1.cell? ⟨w.heap.size, 4, none⟩ = some (.int .i64 e.pos) := by rw [cell_of_row _ _ _ _ _ _ hi2]; rfl
  obtain ⟨U2, r2, pm2, gU2⟩ := k1 (env e) U1 rfl
  have gE2 : W1.drew.grownBy U2 (some gE) := tgrown_trans gU1 gU2
  have h4 := h3.putE' gE2 pm2
  obtain ⟨st2, U3, r3, gU3, k3⟩ := h4.mR.fresh Tryz.underlying85 (fun u => zero_num u) (by unfold maxLen; omega) (D.nx + 1) hwk (by show (D.R (D.nx + 1)).map (Value.int .i64 ·) = none; rw [hR]; rfl)
  obtain ⟨U4, r4, pm4, gU4⟩ := k3 (.int .i64 1) U3 rfl
  have gR4 : U2.grownBy U4 (some gR) := tgrown_trans gU3 gU4
  have h5 := h4.putR gR4 pm4
  have wt5 : Wt (fun i => fown f r gN D.T G gE gR gP i ∨ i = b) w U4 := (Wt.below _ bA).trans ((Wt.grown g2 (.inl (.inl rfl))).trans ((Wt.below _ bD).trans ((Wt.grown gE2 (.inl (.inr (.inl rfl)))).trans (Wt.grown gR4 (.inl (.inr (.inr (.inl rfl))))))))
  have hLs := h5.tab.least_ok
  rw [hk] at hLs
  have hfin : ∀ V, Below U4.heap.size U4 V → V.cell? ⟨f, 4, none⟩ = some (.int .i64 (D.nx + 1)) ∧ (∃ u, V.cell? ⟨b, k * 2, none⟩ = some u) ∧ (∃ u, V.cell? ⟨b, k * 2 + 1, none⟩ = some u) ∧ V.frozen? ⟨b, k * 2, none⟩ = false ∧ V.frozen? ⟨b, k * 2 + 1, none⟩ = false ∧ RGo w ((V.setCell ⟨b, k * 2, none⟩ (.int .i64 (D.nx + 1))).setCell ⟨b, k * 2 + 1, none⟩ (.bool false)).drew f D (addD D e) r gN G gE gR gP b (N.set k (D.nx + 1, false)) := fun V hV => by
    have h6 := h5.below hV
    obtain ⟨h7, g7⟩ := h6.putT hk8 (D.nx + 1, false)
    exact ⟨h6.toRFm.cells.2.2.2.2, ⟨_, (h6.tab.at hk8).1⟩, ⟨_, (h6.tab.at hk8).2⟩, h6.tab.free _, h6.tab.free _, s, _, _, sP, h7.below (below_dr (Below.refl _ _)), wt5.trans ((Wt.below _ hV).trans ((Wt.grown g7 (.inr rfl)).trans (Wt.below _ (below_dr (Below.refl _ _)))))⟩
  have hw1 : wrap64 (D.nx + 1) = D.nx + 1 := by unfold wrap64; omega
  generalize addD D e = D2 at *
  generalize N.set k (D.nx + 1, false) = N2 at *
  generalize D.nx = x at *
  have hk8' : (k : Int) < 8 := by omega
  obtain ⟨kd, pr, nd, pi, ps⟩ := e
  simp only at hWA e0 e1 e2 e3 e4 d0 d1 d2 d3 d4 r2
  clear h hl h0 h1 hE hR hsE hsR hkL hk0 hwk hN bA hA hi0 h2 g2 hi1 hi2 bD h3 gU1 k1 pm2 gU2 gE2 h4 gU3 k3 pm4 gU4 gR4 h5 wt5 hk hf0
  go_enter Tryz.func129, Tryz.ntmps129
  go_upto_region 2 with fail
  clear a0 a1 a2 a3 a4 z4 hWA hW1 hw1
  go_region
  all_goals
    clear r1 r2 r3 r4 e0 e1 e2 e3 e4 d0 d1 d2 d3 d4 c0 c1 c2 c3 c4
    go_upto_region 4 with (go_at_call 128; refine hLs.mono ?_; rintro e w6 ⟨rfl, b6⟩)
    obtain ⟨v4, ⟨u1, v1⟩, ⟨u2, v2⟩, y1, y2, hG⟩ := hfin _ b6
    clear hLs hfin
    go_region
    all_goals
      go_wp2_with fail
      go_ret
      exact ⟨rfl, hG⟩
end
end Go.Proofs.YtjkneekfijibiabGreatDoor

namespace Go.Proofs.YtjkneekfijibiabGreatDoor
open Go.RowKit Go.Maps

section
variable {w w' : World} {f r gN s gE gR gP sE sR sP b : Nat} {D : DS} {G : Int → Nat} {N : Ns}
theorem RFm.few (h : RFm w f D r gN s G gE gR gP sE sR sP) (g : Given D) : sE < 1000 ∧ sR < 1000 ∧ sP < 1000 := by
  have h1 := size_le h.mE g.n0 (fun x hx => g.e x (by rw [Option.isSome_map] at hx; exact hx))
  have h2 := size_le h.mR g.n0 (fun x hx => g.r x (by rw [Option.isSome_map] at hx; exact hx))
  have h3 := size_le h.mP g.n0 (fun x hx => g.p x (by rw [Option.isSome_map] at hx; exact hx))
  have := g.n1
  omega
theorem RFt.add_given (h : RFt w f D r gN s G gE gR gP sE sR sP b N) (g : Given D) (e : En) (hl : ¬ leastN N < 0) :
    Calls Tryz.prog 129 #[wp f, wp b, env e] w fun x w' => x = .returned (.int .i64 (leastN N)) ∧ RGo w w' f D (addD D e) r gN G gE gR gP b (addN D N) := by
  obtain ⟨a, b', c⟩ := h.toRFm.few g
  obtain ⟨x, y, z⟩ := g.new
  exact h.add_ok e hl g.n0 (by have := g.n1; omega) x y a b'
set_option maxRecDepth 100000 in
set_option maxHeartbeats 4000000 in
theorem RFt.pipe_no (h : RFt w f D r gN s G gE gR gP sE sR sP b N) (hf : usedN N + 2 > 8 ∨ sE + 2 > 40) (hsE : sE < 1000) :
    Calls Tryz.prog 81 #[wp f, wp b] w fun x w' => x = .returned (.tuple #[.int .i64 0, .int .i64 0, .int .i64 12]) ∧ RGo w w' f D D r gN G gE gR gP b N := by
  have hU := h.tab.used_ok
  have hul := used_le N
  have hL := h.tab.2
  obtain ⟨U, hUe⟩ : ∃ U, usedN N = U := ⟨_, rfl⟩
  rw [hUe] at hU hf hul
  have hfin : ∀ V, Below w.heap.size w V → V.cell? ⟨f, 1, none⟩ = some (.map (some gE)) ∧ (∀ ty, (Builtin.len_ #[84] ty #[.map (some gE)]).run Tryz.prog V = .ok (.int .i64 sE) V) ∧ RGo w V f D D r gN G gE gR gP b N := fun V hV => by
    have h2 := h.below hV
    exact ⟨h2.toRFm.cells.2.1, fun ty => h2.mE.len Tryz.underlying84 ty, h.same hV⟩
  by_cases hu : (8 : Int) < (U : Int) + 2
  · clear h hf hUe
    go_enter Tryz.func81, Tryz.ntmps81
    go_wp2_with (go_at_call 33; refine hU.mono ?_; rintro e w1 ⟨rfl, b1⟩)
    go_ret3
    exact ⟨rfl, (hfin _ b1).2.2⟩
  · have he : (40 : Int) < (sE : Int) + 2 := by omega
    clear h hf hUe
    go_enter Tryz.func81, Tryz.ntmps81
    go_wp2_with (go_at_call 33; refine hU.mono ?_; rintro e w1 ⟨rfl, b1⟩; obtain ⟨c1, l1, hG⟩ := hfin _ b1)
    go_ret3
    exact ⟨rfl, hG⟩
end
end Go.Proofs.YtjkneekfijibiabGreatDoor

namespace Go.Proofs.YtjkneekfijibiabGreatDoor
open Go.RowKit Go.Maps

section
variable {w w' w2 : World} {f r gN s gE gR gP sE sR sP b : Nat} {D D1 D2 : DS} {G : Int → Nat} {N N1 N2 : Ns}
theorem RGo.andThen (hT : D1.T = D.T) (h1 : RGo w w' f D D1 r gN G gE gR gP b N1) (h2 : RGo w' w2 f D1 D2 r gN G gE gR gP b N2) : RGo w w2 f D D2 r gN G gE gR gP b N2 := by
  obtain ⟨_, _, _, _, _, a⟩ := h1
  obtain ⟨s', e', r', p', c, d⟩ := h2
  rw [hT] at d
  exact ⟨s', e', r', p', c, a.trans d⟩

set_option maxRecDepth 100000 in
set_option maxHeartbeats 4000000 in
theorem RFt.pipe_yes (h : RFt w f D r gN s G gE gR gP sE sR sP b N) (g : Given D) (hg : D.nx < 890) (hf : ¬ (usedN N + 2 > 8 ∨ sE + 2 > 40)) (hl1 : ¬ leastN N < 0) (hl2 : ¬ leastN (pipeN1 D N) < 0) :
    Calls Tryz.prog 81 #[wp f, wp b] w fun x w' => x = .returned (.tuple #[.int .i64 (leastN N), .int .i64 (leastN (pipeN1 D N)), .int .i64 0]) ∧ RGo w w' f D (pipeD D) r gN G gE gR gP b (pipeN D N) := by
  have hU := h.tab.used_ok
  obtain ⟨U, hUe⟩ : ∃ U, usedN N = U := ⟨_, rfl⟩
  rw [hUe] at hU hf
  have hu : ¬ (8 : Int) < (U : Int) + 2 := by omega
  have he : ¬ (40 : Int) < (sE : Int) + 2 := by omega
  have g0 := g.pipe0 (by omega)
  have g1 := g0.add (by show D.nx + 1 < 899; omega) ⟨2, 1, 0, D.nx + 1, 0⟩
  have hwk : (Lit.int .i64 (D.nx + 1)).wf = true := wf_few (by have := g.n0; omega) (by omega)
  have hfin : ∀ V, Below w.heap.size w V → V.cell? ⟨f, 1, none⟩ = some (.map (some gE)) ∧ (∀ ty, (Builtin.len_ #[84] ty #[.map (some gE)]).run Tryz.prog V = .ok (.int .i64 sE) V) ∧ V.cell? ⟨f, 4, none⟩ = some (.int .i64 D.nx) ∧ V.frozen? ⟨f, 4, none⟩ = false ∧ ∃ W1 W2, V.setCell ⟨f, 4, none⟩ (.int .i64 (D.nx + 1)) = W1 ∧ W1.cell? ⟨f, 4, none⟩ = some (.int .i64 (D.nx + 1)) ∧ W1.cell? ⟨f, 3, none⟩ = some (.map (some gP)) ∧ (Instr.mapUpdate 86 (.map (some gP)) (.int .i64 (D.nx + 1)) (.agg #[.string ⟨#[]⟩, .int .i64 1, .int .i64 1])).run Tryz.prog W1 = .ok () W2 ∧ RGo w W2 f D (pipeD0 D) r gN G gE gR gP b N := fun V hV => by
    have h2 := h.below hV
    obtain ⟨h3, g3⟩ := h2.setNx (D.nx + 1)
    obtain ⟨W2, r2, pm2, gW2⟩ := h3.mP.put Tryz.underlying86 (by have := (h.toRFm.few g).2.2; unfold maxLen; omega) (D.nx + 1) hwk (piv ([], 1, 1))
    have h4 := h3.putP gW2 pm2
    refine ⟨h2.toRFm.cells.2.1, fun ty => h2.mE.len Tryz.underlying84 ty, h2.toRFm.cells.2.2.2.2, by simp [World.frozen?, h2.head], _, W2, rfl, h3.toRFm.cells.2.2.2.2, h3.toRFm.cells.2.2.2.1, r2, s, sE, sR, _, h4, (Wt.below _ hV).trans ((Wt.grown g3 (.inl (.inl rfl))).trans (Wt.grown gW2 (.inl (.inr (.inr (.inr (.inl rfl)))))))⟩
  have hA1 : ∀ V, RGo w V f D (pipeD0 D) r gN G gE gR gP b N → Calls Tryz.prog 129 #[wp f, wp b, .agg #[.int .i64 2, .int .i64 1, .int .i64 0, .int .i64 (D.nx + 1), .int .i64 0]] V fun x w' => x = .returned (.int .i64 (leastN N)) ∧ RGo w w' f D (pipeD1 D) r gN G gE gR gP b (pipeN1 D N) := fun V hV => by
    have hV' := hV
    obtain ⟨s', e', r', p', a, c⟩ := hV'
    refine (a.add_given g0 ⟨2, 1, 0, D.nx + 1, 0⟩ hl1).mono ?_
    rintro x w' ⟨rfl, hR⟩
    exact ⟨rfl, RGo.andThen (D1 := pipeD0 D) rfl hV hR⟩
  have hA2 : ∀ V, RGo w V f D (pipeD1 D) r gN G gE gR gP b (pipeN1 D N) → Calls Tryz.prog 129 #[wp f, wp b, .agg #[.int .i64 3, .int .i64 2, .int .i64 0, .int .i64 (D.nx + 1), .int .i64 0]] V fun x w' => x = .returned (.int .i64 (leastN (pipeN1 D N))) ∧ RGo w w' f D (pipeD D) r gN G gE gR gP b (pipeN D N) := fun V hV => by
    have hV' := hV
    obtain ⟨s', e', r', p', a, c⟩ := hV'
    refine (a.add_given g1 ⟨3, 2, 0, D.nx + 1, 0⟩ hl2).mono ?_
    rintro x w' ⟨rfl, hR⟩
    exact ⟨rfl, RGo.andThen (D1 := pipeD1 D) rfl hV hR⟩
  have hw1 : wrap64 (D.nx + 1) = D.nx + 1 := by have := g.n0; unfold wrap64; omega
  have hU8 : (U : Int) ≤ 8 := by omega
  have hE40 : (sE : Int) ≤ 40 := by omega
  generalize leastN (pipeN1 D N) = L2 at *
  generalize leastN N = L1 at *
  generalize pipeD D = D3 at *
  generalize pipeN D N = N3 at *
  generalize pipeN1 D N = N2 at *
  generalize pipeD1 D = D2 at *
  generalize pipeD0 D = D1 at *
  generalize D.nx = x at *
  clear h g hg hf hl1 hl2 g0 g1 hwk hUe
  go_enter Tryz.func81, Tryz.ntmps81
  go_upto_region 3 with (go_at_call 33; refine hU.mono ?_; rintro e w1 ⟨rfl, b1⟩; obtain ⟨c1, l1, c4, z4, W1, W2, eW1, d4, d3, r2, hG⟩ := hfin _ b1)
  clear hU hfin hu he
  go_wp2_with (first
    | (go_at_call 129; refine (hA2 _ hG2).mono ?_; rintro e w3 ⟨rfl, hG3⟩)
    | (go_at_call 129; refine (hA1 _ hG).mono ?_; rintro e w2 ⟨rfl, hG2⟩))
  go_ret3
  exact ⟨rfl, hG3⟩
end
end Go.Proofs.YtjkneekfijibiabGreatDoor

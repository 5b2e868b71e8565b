/- The document's own files: Read, by its Go text. -/
import Derived.Test.YtjkneekfijibiabGreatDoorDPipe2
import Derived.Deep.RegionHeld3
namespace Go.Proofs.YtjkneekfijibiabGreatDoor
open Go.RowKit Go.Maps

section
variable {w w' : World} {f r gN s gE gR gP sE sR sP b : Nat} {D : DS} {G : Int → Nat} {N : Ns}
/-- An ENTRY looked up by a number, in a region that draws: what lies ready. -/
structure LookS (w : World) (f gE b i : Nat) (X : Int) (e : En) : Prop where
  c0 : w.cell? ⟨b, i * 2, none⟩ = some (.int .i64 X)
  ca : ∀ o, (w.alloc o).cell? ⟨b, i * 2, none⟩ = some (.int .i64 X)
  f1 : w.cell? ⟨f, 1, none⟩ = some (.map (some gE))
  cf : ∀ o, (w.alloc o).cell? ⟨f, 1, none⟩ = some (.map (some gE))
  l1 : (Instr.lookup 84 (.map (some gE)) (.int .i64 X) false).run Tryz.prog w.drew = .ok (env e) w.drew
  l2 : ∀ o, (Instr.lookup 84 (.map (some gE)) (.int .i64 X) false).run Tryz.prog (w.alloc o).drew = .ok (env e) (w.alloc o).drew
theorem RFt.looks (h : RFt w f D r gN s G gE gR gP sE sR sP b N) {i : Nat} (hi : i < 8) (hiL : i < N.length) {e : En} (h0 : 0 < N[i].1) (h1 : N[i].1 < 100000) (he : D.E N[i].1 = some e) : LookS w f gE b i N[i].1 e := by
  have hwk : (Lit.int .i64 N[i].1).wf = true := wf_few (by omega) (by omega)
  have hA : ∀ o, Below w.heap.size w (w.alloc o) := fun o => (Below.refl _ w).alloc (Nat.le_refl _) o
  exact ⟨(h.tab.at hi).1, fun o => ((h.below (hA o)).tab.at hi).1, h.toRFm.cells.2.1, fun o => (h.below (hA o)).toRFm.cells.2.1, (h.toRFm.below (below_dr (Below.refl _ w))).lookE hwk he, fun o => (h.toRFm.below (below_dr (hA o))).lookE hwk he⟩

set_option maxRecDepth 100000 in
set_option maxHeartbeats 4000000 in
theorem RFt.read_no (h : RFt w f D r gN s G gE gR gP sE sR sP b N) (n a : Int) (hn : hasN N n = false) :
    Calls Tryz.prog 88 #[wp f, wp b, .int .i64 n, .int .i64 a] w fun x w' => x = .returned (.tuple #[tx [], .int .i64 7]) ∧ RGo w w' f D D r gN G gE gR gP b N := by
  have hH := h.tab.has_ok n
  rw [hn] at hH
  have hfin := h.same (Below.refl _ w)
  clear h hn
  go_enter Tryz.func88, Tryz.ntmps88
  go_wp2_with (go_at_call 35; refine hH.mono ?_; rintro e w1 ⟨rfl, hw1⟩; subst w1)
  go_ret2
  exact ⟨rfl, hfin⟩
set_option maxRecDepth 100000 in
set_option maxHeartbeats 4000000 in
theorem RFt.read_false (h : RFt w f D r gN s G gE gR gP sE sR sP b N) {i : Nat} (hi : i < 8) (hiL : i < N.length) {e : En} (a : Int) (h0 : 0 < N[i].1) (h1 : N[i].1 < 100000) (he : D.E N[i].1 = some e) (hn : hasN N i = true) (hp : e.prot = 2) :
    Calls Tryz.prog 88 #[wp f, wp b, .int .i64 (i : Int), .int .i64 a] w fun x w' => x = .returned (.tuple #[tx [], .int .i64 13]) ∧ RGo w w' f D D r gN G gE gR gP b N := by
  have hH := h.tab.has_ok i
  rw [hn] at hH
  obtain ⟨c0, ca, f1, cf, l1, l2⟩ := h.looks hi hiL h0 h1 he
  have hA : ∀ o, Below w.heap.size w (w.alloc o) := fun o => (Below.refl _ w).alloc (Nat.le_refl _) o
  have hfin : ∀ V, Below w.heap.size w V → RGo w V f D D r gN G gE gR gP b N := fun V hV => h.same hV
  have hi8 : (i : Int) < 8 := by omega
  generalize N[i].1 = X at *
  clear h hn he h0 h1
  obtain ⟨kd, pr, nd, pi, ps⟩ := e
  simp only at hp
  subst hp
  go_enter Tryz.func88, Tryz.ntmps88
  go_upto_region 3 with (go_at_call 35; refine hH.mono ?_; rintro e w1 ⟨rfl, hw1⟩; subst w1)
  go_region
  all_goals
    go_wp2_with fail
    go_ret2
    exact ⟨rfl, hfin _ (below_dr (hA _))⟩
end
end Go.Proofs.YtjkneekfijibiabGreatDoor

namespace Go.Proofs.YtjkneekfijibiabGreatDoor
open Go.RowKit Go.Maps

section
variable {w w' : World} {f r gN s gE gR gP sE sR sP b : Nat} {D : DS} {G : Int → Nat} {N : Ns}
theorem new_pi (w : World) (B : List UInt8) (F I : Int) (hB : B.length ≤ 16) : Rt (w.alloc (.cells #[tx B, .int .i64 F, .int .i64 I] 220)).drew w.heap.size F I B := by
  have hb : (w.alloc (.cells #[tx B, .int .i64 F, .int .i64 I] 220)).drew.heap[w.heap.size]? = some (.cells #[tx B, .int .i64 F, .int .i64 I] 220) := by
    show (w.heap.push _)[w.heap.size]? = _
    rw [Array.getElem?_push, if_pos rfl]
  exact ⟨hB, by rw [cell_of_row _ _ _ _ _ _ hb]; rfl, by rw [cell_of_row _ _ _ _ _ _ hb]; rfl, by rw [cell_of_row _ _ _ _ _ _ hb]; rfl, fun k hk => by unfold World.frozen?; simp only [hb]; simp⟩
/-- A pipe looked up, asked, and put back: what lies ready. -/
structure PipeS (w : World) (W : World) (f i0 gP : Nat) (q : Int) (p : Pi) (kd : Int) : Prop where
  k0 : W.cell? ⟨i0, 0, none⟩ = some (.int .i64 kd)
  k3 : W.cell? ⟨i0, 3, none⟩ = some (.int .i64 q)
  f3 : W.cell? ⟨f, 3, none⟩ = some (.map (some gP))
  a3 : ∀ o, (W.alloc o).cell? ⟨i0, 3, none⟩ = some (.int .i64 q)
  af : ∀ o, (W.alloc o).cell? ⟨f, 3, none⟩ = some (.map (some gP))
  l1 : (Instr.lookup 86 (.map (some gP)) (.int .i64 q) false).run Tryz.prog W.drew = .ok (piv p) W.drew
  l2 : ∀ o, (Instr.lookup 86 (.map (some gP)) (.int .i64 q) false).run Tryz.prog (W.alloc o).drew = .ok (piv p) (W.alloc o).drew
  rt : Rt (W.alloc (.cells #[tx p.1, .int .i64 p.2.1, .int .i64 p.2.2] 220)).drew W.heap.size p.2.1 p.2.2 p.1
  late : ∀ w7, (W.alloc (.cells #[tx p.1, .int .i64 p.2.1, .int .i64 p.2.2] 220)).drew.grownBy w7 (some W.heap.size) → w7.cell? ⟨i0, 3, none⟩ = some (.int .i64 q) ∧ w7.cell? ⟨f, 3, none⟩ = some (.map (some gP))
theorem RFt.pipes (h : RFt w f D r gN s G gE gR gP sE sR sP b N) {W : World} {i0 : Nat} {e : En} (hW : Below w.heap.size w W) (hi0 : W.heap[i0]? = some (.cells #[.int .i64 e.kind, .int .i64 e.prot, .int .i64 e.node, .int .i64 e.pipe, .int .i64 e.pos] 213)) {p : Pi} (hq : 0 ≤ e.pipe ∧ e.pipe < 100000) (hp : D.P e.pipe = some p) (hB : p.1.length ≤ 16) : PipeS w W f i0 gP e.pipe p e.kind := by
  have hwq : (Lit.int .i64 e.pipe).wf = true := wf_few (by omega) (by omega)
  have hA : ∀ o, Below W.heap.size W (W.alloc o) := fun o => (Below.refl _ W).alloc (Nat.le_refl _) o
  have h2 := h.below hW
  have hil : i0 < W.heap.size := (Array.getElem?_eq_some_iff.1 hi0).1
  have hk : ∀ V, Below W.heap.size W V → V.heap[i0]? = some (.cells #[.int .i64 e.kind, .int .i64 e.prot, .int .i64 e.node, .int .i64 e.pipe, .int .i64 e.pos] 213) := fun V hV => (hV.block _ hil).trans hi0
  refine ⟨by rw [cell_of_row _ _ _ _ _ _ hi0]; rfl, by rw [cell_of_row _ _ _ _ _ _ hi0]; rfl, h2.toRFm.cells.2.2.2.1, fun o => by rw [cell_of_row _ _ _ _ _ _ (hk _ (hA o))]; rfl, fun o => (h2.below (hA o)).toRFm.cells.2.2.2.1, (h2.below (below_dr (Below.refl _ W))).toRFm.lookP hwq hp, fun o => (h2.below (below_dr (hA o))).toRFm.lookP hwq hp, new_pi W _ _ _ hB, fun w7 g7 => ?_⟩
  have b7 : Below W.heap.size W w7 := (below_dr (hA _)).grown g7 (below_dr (hA _)).size (fun k e => by have := Option.some.inj e; omega)
  exact ⟨by rw [cell_of_row _ _ _ _ _ _ (hk _ b7)]; rfl, (h2.below b7).toRFm.cells.2.2.2.1⟩
theorem RFt.putBack (h : RFt w f D r gN s G gE gR gP sE sR sP b N) {W w7 : World} (hW : Below w.heap.size w W) {o : Obj} (g7 : (W.alloc o).drew.grownBy w7 (some W.heap.size)) {q : Int} (hq : 0 ≤ q ∧ q < 100000) (hs : sP < 1000) (p : Pi) : ∃ w8, (Instr.mapUpdate 86 (.map (some gP)) (.int .i64 q) (piv p)).run Tryz.prog w7.drew = .ok () w8 ∧ RGo w w8 f D { D with P := fun i => if i = q then some p else D.P i } r gN G gE gR gP b N := by
  have hwq : (Lit.int .i64 q).wf = true := wf_few (by omega) (by omega)
  have hA : Below W.heap.size W (W.alloc o).drew := below_dr ((Below.refl _ W).alloc (Nat.le_refl _) o)
  have b7 : Below W.heap.size W w7 := hA.grown g7 hA.size (fun k e => by have := Option.some.inj e; omega)
  have b8 := below_dr (hW.trans (b7.mono hW.size))
  have h8 := h.below b8
  obtain ⟨w8, r8, pm8, g8⟩ := h8.mP.put Tryz.underlying86 (by unfold maxLen; omega) q hwq (piv p)
  exact ⟨w8, r8, s, sE, sR, _, h8.putP g8 pm8, (Wt.below _ b8).trans (Wt.grown g8 (.inl (.inr (.inr (.inr (.inl rfl))))))⟩

set_option maxRecDepth 100000 in
set_option maxHeartbeats 4000000 in
theorem RFt.read_end (h : RFt w f D r gN s G gE gR gP sE sR sP b N) {i : Nat} (hi : i < 8) (hiL : i < N.length) {e : En} (a : Int) (h0 : 0 < N[i].1) (h1 : N[i].1 < 100000) (he : D.E N[i].1 = some e) (hn : hasN N i = true) (hk : e.kind = 2) (hpr : e.prot = 1) {p : Pi} (hq : 0 ≤ e.pipe ∧ e.pipe < 100000) (hp : D.P e.pipe = some p) (hB : p.1.length ≤ 16) (hs : sP < 1000) :
    Calls Tryz.prog 88 #[wp f, wp b, .int .i64 (i : Int), .int .i64 a] w fun x w' => x = .returned (.tuple #[tx (p.1.take a.toNat), .int .i64 (rdE p.2.2 p.1 a)]) ∧ RGo w w' f D { D with P := fun j => if j = e.pipe then some (p.1.drop a.toNat, p.2.1, p.2.2) else D.P j } r gN G gE gR gP b N := by
  have hH := h.tab.has_ok i
  rw [hn] at hH
  obtain ⟨c0, ca, f1, cf, l1, l2⟩ := h.looks hi hiL h0 h1 he
  have hA : Below w.heap.size w (w.alloc (.cells #[.int .i64 e.kind, .int .i64 e.prot, .int .i64 e.node, .int .i64 e.pipe, .int .i64 e.pos] 213)).drew := below_dr ((Below.refl _ w).alloc (Nat.le_refl _) _)
  have pS := h.pipes hA (i0 := w.heap.size) (e := e) (new_five _ _ _ _ _ _ _) hq hp hB
  have hfin : ∀ w7, _ → ∃ w8, _ := fun w7 g7 => h.putBack hA (o := .cells #[tx p.1, .int .i64 p.2.1, .int .i64 p.2.2] 220) (w7 := w7) g7 hq hs (p.1.drop a.toNat, p.2.1, p.2.2)
  have hi8 : (i : Int) < 8 := by omega
  generalize ({ D with P := fun j => if j = e.pipe then some (p.1.drop a.toNat, p.2.1, p.2.2) else D.P j } : DS) = D2 at *
  generalize N[i].1 = X at *
  clear h hn he h0 h1 hq hs hA hp hB
  obtain ⟨kd, pr, nd, pi, ps⟩ := e
  obtain ⟨B, F, I⟩ := p
  simp only at hk hpr pS hfin
  subst hk
  subst hpr
  go_enter Tryz.func88, Tryz.ntmps88
  go_upto_region 3 with (go_at_call 35; refine hH.mono ?_; rintro e w1 ⟨rfl, hw1⟩; subst w1)
  go_region
  all_goals
    obtain ⟨W, hW⟩ : ∃ W, (w.alloc (.cells #[.int .i64 2, .int .i64 1, .int .i64 nd, .int .i64 pi, .int .i64 ps] 213)).drew = W := ⟨_, rfl⟩
    have k1 : W.cell? ⟨w.heap.size, 1, none⟩ = some (.int .i64 1) := by rw [← hW]; simp
    rw [hW] at pS hfin ⊢
    obtain ⟨k0, k3, f3, a3, af, pl1, pl2, rt, late⟩ := pS
    have hRd := rt.read_ok a
    clear hW c0 ca f1 cf l1 l2 hH rt
    go_upto_region 7 with fail
    go_region
    all_goals
      clear a3 af pl1 pl2
      go_upto_region 9 with (go_at_call 133; refine hRd.mono ?_; rintro e w7 ⟨rfl, rt7, g7⟩)
      obtain ⟨w8, r8, hR⟩ := hfin w7 g7
      obtain ⟨v3, vf⟩ := late w7 g7
      have u0 := rt7.text
      have u1 := rt7.frm
      have u2 := rt7.int
      clear hRd rt7 g7 hfin late
      go_region
      all_goals
        go_wp2_with fail
        go_ret2
        exact ⟨rfl, hR⟩
end
end Go.Proofs.YtjkneekfijibiabGreatDoor

namespace Go.Proofs.YtjkneekfijibiabGreatDoor
open Go.RowKit Go.Maps

section
variable {w w' : World} {f r gN s gE gR gP sE sR sP b : Nat} {D : DS} {G : Int → Nat} {N : Ns}
/-- An ENTRY put back. -/
theorem RFt.putEntry (h : RFt w f D r gN s G gE gR gP sE sR sP b N) {V : World} (hV : Below w.heap.size w V) {k : Int} (h0 : 0 < k) (h1 : k < 100000) (hs : sE < 1000) (e : En) : ∃ w5, (Instr.mapUpdate 84 (.map (some gE)) (.int .i64 k) (env e)).run Tryz.prog V.drew = .ok () w5 ∧ RGo w w5 f D { D with E := fun j => if j = k then some e else D.E j } r gN G gE gR gP b N := by
  have hwk : (Lit.int .i64 k).wf = true := wf_few (by omega) (by omega)
  have hB := below_dr hV
  have h9 := h.below hB
  obtain ⟨w5, hrun, pm5, g5⟩ := h9.mE.put Tryz.underlying84 (by unfold maxLen; omega) k hwk (env e)
  exact ⟨w5, hrun, RGo.trans hB h (h9.putE g5 pm5)⟩
/-- The place of an ENTRY's own copy turned. -/
theorem five_put {W : World} {i0 : Nat} {a b c d e : Value} {t : TypeId} (h : W.heap[i0]? = some (.cells #[a, b, c, d, e] t)) (x : Value) : (W.setCell ⟨i0, 4, none⟩ x).heap[i0]? = some (.cells #[a, b, c, d, x] t) := by
  rw [heap_cell_same W i0 4 x _ _ _ h]; rfl
theorem five_at {W : World} {i0 : Nat} {a b c d e : Value} {t : TypeId} (h : W.heap[i0]? = some (.cells #[a, b, c, d, e] t)) : W.cell? ⟨i0, 0, none⟩ = some a ∧ W.cell? ⟨i0, 1, none⟩ = some b ∧ W.cell? ⟨i0, 2, none⟩ = some c ∧ W.cell? ⟨i0, 3, none⟩ = some d ∧ W.cell? ⟨i0, 4, none⟩ = some e ∧ W.frozen? ⟨i0, 4, none⟩ = false := by
  refine ⟨by rw [cell_of_row _ _ _ _ _ _ h]; rfl, by rw [cell_of_row _ _ _ _ _ _ h]; rfl, by rw [cell_of_row _ _ _ _ _ _ h]; rfl, by rw [cell_of_row _ _ _ _ _ _ h]; rfl, by rw [cell_of_row _ _ _ _ _ _ h]; rfl, by unfold World.frozen?; simp only [h]; simp⟩

set_option maxRecDepth 100000 in
set_option maxHeartbeats 4000000 in
theorem RFt.read_file (h : RFt w f D r gN s G gE gR gP sE sR sP b N) {i : Nat} (hi : i < 8) (hiL : i < N.length) {e : En} (a : Int) (h0 : 0 < N[i].1) (h1 : N[i].1 < 100000) (he : D.E N[i].1 = some e) (hn : hasN N i = true) (hk : e.kind = 1) (hpr : e.prot = 1 ∨ e.prot = 3) (hnd : 0 ≤ e.node ∧ e.node < 100000) (hps : 0 ≤ e.pos ∧ e.pos < 100000) (hT : TrOk D.T) (hs : sE < 1000) (hl : (readS D.T e.node e.pos a).length ≤ 100000) :
    Calls Tryz.prog 88 #[wp f, wp b, .int .i64 (i : Int), .int .i64 a] w fun x w' => x = .returned (.tuple #[tx (readS D.T e.node e.pos a), .int .i64 (readE D.T e.node e.pos a)]) ∧ RGo w w' f D { D with E := fun j => if j = N[i].1 then some { e with pos := e.pos + (readS D.T e.node e.pos a).length } else D.E j } r gN G gE gR gP b N := by
  have hH := h.tab.has_ok i
  rw [hn] at hH
  obtain ⟨c0, ca, f1, cf, l1, l2⟩ := h.looks hi hiL h0 h1 he
  have hA : Below w.heap.size w (w.alloc (.cells #[.int .i64 e.kind, .int .i64 e.prot, .int .i64 e.node, .int .i64 e.pipe, .int .i64 e.pos] 213)).drew := below_dr ((Below.refl _ w).alloc (Nat.le_refl _) _)
  have hwn : (Lit.int .i64 e.node).wf = true := wf_few (by omega) (by omega)
  obtain ⟨S, hS⟩ : ∃ S, readS D.T e.node e.pos a = S := ⟨_, rfl⟩
  obtain ⟨Er, hEr⟩ : ∃ Er, readE D.T e.node e.pos a = Er := ⟨_, rfl⟩
  rw [hS] at hl
  rw [hS, hEr]
  have hRd : ∀ V, Below w.heap.size w V → Calls Tryz.prog 61 #[wp r, .int .i64 e.node, .int .i64 e.pos, .int .i64 a] V fun x w' => x = .returned (.tuple #[tx S, .int .i64 Er]) ∧ Below V.heap.size V w' := fun V hV => by
    have := (h.below hV).tree.read_ok hT e.node e.pos a hwn
    rw [hS, hEr] at this
    exact this
  have hfin : ∀ V, Below w.heap.size w V → _ := fun V hV => h.putEntry hV h0 h1 hs { e with pos := e.pos + S.length }
  have hcl : ∀ V, Below w.heap.size w V → V.cell? ⟨b, i * 2, none⟩ = some (.int .i64 N[i].1) ∧ V.cell? ⟨f, 1, none⟩ = some (.map (some gE)) ∧ V.cell? ⟨f, 0, none⟩ = some (wp r) := fun V hV => ⟨((h.below hV).tab.at hi).1, (h.below hV).toRFm.cells.2.1, (h.below hV).toRFm.cells.1⟩
  have hi8 : (i : Int) < 8 := by omega
  have hw1 : wrap64 (e.pos + (S.length : Int)) = e.pos + (S.length : Int) := by unfold wrap64; omega
  have hnf := new_five w (.int .i64 e.kind) (.int .i64 e.prot) (.int .i64 e.node) (.int .i64 e.pipe) (.int .i64 e.pos) 213
  generalize ({ D with E := fun j => if j = N[i].1 then some { e with pos := e.pos + S.length } else D.E j } : DS) = D2 at *
  generalize N[i].1 = X at *
  clear h hn he h0 h1 hs hS hEr hT hwn hl
  obtain ⟨kd, pr, nd, pi, ps⟩ := e
  simp only at hk hpr hfin hRd hw1 hps hnd hA hnf
  subst hk
  obtain ⟨W, hW⟩ : ∃ W, (w.alloc (.cells #[.int .i64 1, .int .i64 pr, .int .i64 nd, .int .i64 pi, .int .i64 ps] 213)).drew = W := ⟨_, rfl⟩
  have hi1 : W.heap[w.heap.size]? = some (.cells #[.int .i64 1, .int .i64 pr, .int .i64 nd, .int .i64 pi, .int .i64 ps] 213) := by rw [← hW]; exact hnf
  rw [hW] at hA
  have hil : w.heap.size < W.heap.size := (Array.getElem?_eq_some_iff.1 hi1).1
  have HW : Aside ((w.alloc (.cells #[.int .i64 1, .int .i64 pr, .int .i64 nd, .int .i64 pi, .int .i64 ps] 213)).drew = W) := hW
  have hLate : ∀ V, Below W.heap.size W V → V.heap[w.heap.size]? = some (.cells #[.int .i64 1, .int .i64 pr, .int .i64 nd, .int .i64 pi, .int .i64 ps] 213) ∧ Below w.heap.size w V := fun V hV => ⟨(hV.block _ hil).trans hi1, hA.trans (hV.mono hA.size)⟩
  have hEnd : ∀ V, Below W.heap.size W V → ∀ V2, V.setCell ⟨w.heap.size, 4, none⟩ (.int .i64 (ps + (S.length : Int))) = V2 → V2.heap[w.heap.size]? = some (.cells #[.int .i64 1, .int .i64 pr, .int .i64 nd, .int .i64 pi, .int .i64 (ps + (S.length : Int))] 213) ∧ Below w.heap.size w V2 := fun V hV V2 e => by
    obtain ⟨a1, a2⟩ := hLate V hV
    refine ⟨by rw [← e]; exact five_put a1 _, ?_⟩
    have g := tgrown_set V w.heap.size 4 (.int .i64 (ps + (S.length : Int)))
    rw [e] at g
    exact a2.grown g a2.size (fun k e => by have := Option.some.inj e; omega)
  clear hW hnf hps hnd
  obtain ⟨m0, m1, m2, m3, m4, m5⟩ := five_at hi1
  obtain ⟨y0, y1, y2⟩ := hcl W hA
  have hRW : ∀ V, Below W.heap.size W V → Calls Tryz.prog 61 #[wp r, .int .i64 nd, .int .i64 ps, .int .i64 a] V fun x w' => x = .returned (.tuple #[tx S, .int .i64 Er]) ∧ Below W.heap.size W w' ∧ (w'.cell? ⟨w.heap.size, 2, none⟩ = some (.int .i64 nd) ∧ w'.cell? ⟨w.heap.size, 4, none⟩ = some (.int .i64 ps) ∧ w'.cell? ⟨f, 0, none⟩ = some (wp r)) := fun V hV => by
    refine (hRd V (hLate V hV).2).mono ?_
    rintro x w' ⟨rfl, b'⟩
    have b2 := hV.trans (b'.mono hV.size)
    obtain ⟨a1, a2⟩ := hLate w' b2
    exact ⟨rfl, b2, (five_at a1).2.2.1, (five_at a1).2.2.2.2.1, (hcl w' a2).2.2⟩
  rcases hpr with rfl | rfl
  all_goals
    go_enter Tryz.func88, Tryz.ntmps88
    go_upto_region 3 with (go_at_call 35; refine hH.mono ?_; rintro e w1 ⟨rfl, hw1⟩; subst w1)
    go_region
    all_goals
      rw [HW.out]
      clear c0 ca f1 cf l1 l2 hH
      go_upto_region 11 with fail
      go_region_held3 (fun w' => w'.cell? ⟨w.heap.size, 2, none⟩ = some (.int .i64 nd) ∧ w'.cell? ⟨w.heap.size, 4, none⟩ = some (.int .i64 ps) ∧ w'.cell? ⟨f, 0, none⟩ = some (wp r)) (first | exact ⟨m2, m4, y2⟩ | exact hq6) (first
        | (go_at_call 61; refine (hRW _ ⟨by rfl, by rfl, by rfl, by exact Nat.le_refl _, fun _ _ => by rfl⟩).mono ?_; rintro e w6 ⟨rfl, b6, hq6⟩))
      all_goals
        obtain ⟨a1, a2⟩ := hLate w6 b6
        obtain ⟨p0, p1, p2, p3, p4, p5⟩ := five_at a1
        obtain ⟨V2, hV2⟩ : ∃ V2, w6.setCell ⟨w.heap.size, 4, none⟩ (.int .i64 (ps + (S.length : Int))) = V2 := ⟨_, rfl⟩
        obtain ⟨b1, b2⟩ := hEnd w6 b6 V2 hV2
        obtain ⟨v0, v1, v2, v3, v4, v5⟩ := five_at b1
        obtain ⟨x0, x1, x2⟩ := hcl V2 b2
        obtain ⟨w8, r8, hR⟩ := hfin V2 b2
        clear m0 m1 m2 m3 m4 m5 y0 y1 y2 hRW hLate hEnd hRd hfin hcl a1 a2 hq6 b1 b2 hi1 hil hA
        go_upto_region 13 with fail
        clear p0 p1 p2 p3 p4 p5 hV2
        go_region
        all_goals
          go_wp2_with fail
          go_ret2
          exact ⟨rfl, hR⟩
end
end Go.Proofs.YtjkneekfijibiabGreatDoor

namespace Go.Proofs.YtjkneekfijibiabGreatDoor
open Go.RowKit Go.Maps

section
variable {w w' : World} {f r gN s gE gR gP sE sR sP b : Nat} {D : DS} {G : Int → Nat} {N : Ns}
set_option maxRecDepth 100000 in
set_option maxHeartbeats 4000000 in
theorem RFt.write_no (h : RFt w f D r gN s G gE gR gP sE sR sP b N) (n : Int) (x : List UInt8) (a : Int) (hn : hasN N n = false) :
    Calls Tryz.prog 89 #[wp f, wp b, .int .i64 n, tx x, .int .i64 a] w fun y w' => y = .returned (.tuple #[.int .i64 0, .int .i64 7]) ∧ RGo w w' f D D r gN G gE gR gP b N := by
  have hH := h.tab.has_ok n
  rw [hn] at hH
  have hfin := h.same (Below.refl _ w)
  clear h hn
  go_enter Tryz.func89, Tryz.ntmps89
  go_wp2_with (go_at_call 35; refine hH.mono ?_; rintro e w1 ⟨rfl, hw1⟩; subst w1)
  go_ret2
  exact ⟨rfl, hfin⟩
set_option maxRecDepth 100000 in
set_option maxHeartbeats 4000000 in
theorem RFt.write_false (h : RFt w f D r gN s G gE gR gP sE sR sP b N) {i : Nat} (hi : i < 8) (hiL : i < N.length) {e : En} (x : List UInt8) (a : Int) (h0 : 0 < N[i].1) (h1 : N[i].1 < 100000) (he : D.E N[i].1 = some e) (hn : hasN N i = true) (hp : e.prot = 1) :
    Calls Tryz.prog 89 #[wp f, wp b, .int .i64 (i : Int), tx x, .int .i64 a] w fun y w' => y = .returned (.tuple #[.int .i64 0, .int .i64 13]) ∧ RGo w w' f D D r gN G gE gR gP b N := by
  have hH := h.tab.has_ok i
  rw [hn] at hH
  obtain ⟨c0, ca, f1, cf, l1, l2⟩ := h.looks hi hiL h0 h1 he
  have hA : ∀ o, Below w.heap.size w (w.alloc o) := fun o => (Below.refl _ w).alloc (Nat.le_refl _) o
  have hfin : ∀ V, Below w.heap.size w V → RGo w V f D D r gN G gE gR gP b N := fun V hV => h.same hV
  have hi8 : (i : Int) < 8 := by omega
  generalize N[i].1 = X at *
  clear h hn he h0 h1
  obtain ⟨kd, pr, nd, pi, ps⟩ := e
  simp only at hp
  subst hp
  go_enter Tryz.func89, Tryz.ntmps89
  go_upto_region 3 with (go_at_call 35; refine hH.mono ?_; rintro e w1 ⟨rfl, hw1⟩; subst w1)
  go_region
  all_goals
    go_wp2_with fail
    go_ret2
    exact ⟨rfl, hfin _ (below_dr (hA _))⟩
set_option maxRecDepth 100000 in
set_option maxHeartbeats 4000000 in
theorem RFt.write_end (h : RFt w f D r gN s G gE gR gP sE sR sP b N) {i : Nat} (hi : i < 8) (hiL : i < N.length) {e : En} (x : List UInt8) (a : Int) (h0 : 0 < N[i].1) (h1 : N[i].1 < 100000) (he : D.E N[i].1 = some e) (hn : hasN N i = true) (hk : e.kind = 3) (hpr : e.prot = 2) {p : Pi} (hq : 0 ≤ e.pipe ∧ e.pipe < 100000) (hp : D.P e.pipe = some p) (hB : p.1.length ≤ 16) (hs : sP < 1000) (hx : x.length ≤ 1000) :
    Calls Tryz.prog 89 #[wp f, wp b, .int .i64 (i : Int), tx x, .int .i64 a] w fun y w' => y = .returned (.tuple #[.int .i64 (wrN p.2.1 p.1 x : Int), .int .i64 (wrE p.2.1 p.1 x)]) ∧ RGo w w' f D { D with P := fun j => if j = e.pipe then some (wrB p.2.1 p.1 x, p.2.1, p.2.2) else D.P j } r gN G gE gR gP b N := by
  have hH := h.tab.has_ok i
  rw [hn] at hH
  obtain ⟨c0, ca, f1, cf, l1, l2⟩ := h.looks hi hiL h0 h1 he
  have hA : Below w.heap.size w (w.alloc (.cells #[.int .i64 e.kind, .int .i64 e.prot, .int .i64 e.node, .int .i64 e.pipe, .int .i64 e.pos] 213)).drew := below_dr ((Below.refl _ w).alloc (Nat.le_refl _) _)
  have pS := h.pipes hA (i0 := w.heap.size) (e := e) (new_five _ _ _ _ _ _ _) hq hp hB
  have hfin : ∀ w7, _ → ∃ w8, _ := fun w7 g7 => h.putBack hA (o := .cells #[tx p.1, .int .i64 p.2.1, .int .i64 p.2.2] 220) (w7 := w7) g7 hq hs (wrB p.2.1 p.1 x, p.2.1, p.2.2)
  have hi8 : (i : Int) < 8 := by omega
  generalize ({ D with P := fun j => if j = e.pipe then some (wrB p.2.1 p.1 x, p.2.1, p.2.2) else D.P j } : DS) = D2 at *
  generalize N[i].1 = X at *
  clear h hn he h0 h1 hq hs hA hp hB
  obtain ⟨kd, pr, nd, pi, ps⟩ := e
  obtain ⟨B, F, I⟩ := p
  simp only at hk hpr pS hfin
  subst hk
  subst hpr
  go_enter Tryz.func89, Tryz.ntmps89
  go_upto_region 3 with (go_at_call 35; refine hH.mono ?_; rintro e w1 ⟨rfl, hw1⟩; subst w1)
  go_region
  all_goals
    obtain ⟨W, hW⟩ : ∃ W, (w.alloc (.cells #[.int .i64 3, .int .i64 2, .int .i64 nd, .int .i64 pi, .int .i64 ps] 213)).drew = W := ⟨_, rfl⟩
    have k1 : W.cell? ⟨w.heap.size, 1, none⟩ = some (.int .i64 2) := by rw [← hW]; simp
    rw [hW] at pS hfin ⊢
    obtain ⟨k0, k3, f3, a3, af, pl1, pl2, rt, late⟩ := pS
    have hRd := rt.write_ok x hx
    clear hW c0 ca f1 cf l1 l2 hH rt
    go_upto_region 7 with fail
    go_region
    all_goals
      clear a3 af pl1 pl2
      go_upto_region 9 with (go_at_call 134; refine hRd.mono ?_; rintro e w7 ⟨rfl, rt7, g7⟩)
      obtain ⟨w8, r8, hR⟩ := hfin w7 g7
      obtain ⟨v3, vf⟩ := late w7 g7
      have u0 := rt7.text
      have u1 := rt7.frm
      have u2 := rt7.int
      clear hRd rt7 g7 hfin late
      go_region
      all_goals
        go_wp2_with fail
        go_ret2
        exact ⟨rfl, hR⟩
end
end Go.Proofs.YtjkneekfijibiabGreatDoor

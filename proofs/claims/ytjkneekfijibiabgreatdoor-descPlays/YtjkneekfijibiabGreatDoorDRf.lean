/- The document's own tree: a new one, by its Go text. -/
import Derived.Test.YtjkneekfijibiabGreatDoorWHold
import Derived.Test.YtjkneekfijibiabGreatDoorWBuf3
import Derived.Test.YtjkneekfijibiabGreatDoorTubesR
namespace Go.Proofs.YtjkneekfijibiabGreatDoor
open Go.RowKit Go.Maps

/-- A new tree. -/
def newT : Wd := fun k => if k = 0 then some (.dir []) else none
theorem newT_dir {k : Int} {C : List (Nm × Int)} (h : newT k = some (.dir C)) : k = 0 ∧ C = [] := by
  unfold newT at h
  by_cases e : k = 0
  · rw [if_pos e] at h; cases h; exact ⟨e, rfl⟩
  · rw [if_neg e] at h; cases h
theorem newT_ok : TrOk newT := by
  refine ⟨⟨[], rfl⟩, fun k h => ?_, fun k C h => by rw [(newT_dir h).2]; simp, fun k C s n h e => (by rw [(newT_dir h).2] at e; cases e), fun k C x h e => (by rw [(newT_dir h).2] at e; cases e), fun k b x h => ?_⟩
  · unfold newT at h
    by_cases e : k = 0
    · omega
    · rw [if_neg e] at h; cases h
  · unfold newT at h
    by_cases e : k = 0
    · rw [if_pos e] at h; cases h
    · rw [if_neg e] at h; cases h

set_option maxRecDepth 100000 in
set_option maxHeartbeats 4000000 in
theorem newTree_ok (w : World) :
    Calls Tryz.prog 10 #[] w fun e w' => ∃ r, e = .returned (wp r) ∧ ∃ gN g, RTr w' r gN 1 newT (fun _ => g) ∧ Below w.heap.size w w' ∧ w.heap.size ≤ r ∧ w.heap.size ≤ gN ∧ w.heap.size ≤ g := by
  have hmm := @run_makeMap Tryz.prog
  have hsz1 : (w.alloc (.map #[] 0)).heap.size = w.heap.size + 1 := by show (w.heap.push _).size = _; rw [Array.size_push]
  have hsz2 : ((w.alloc (.map #[] 0)).alloc (.map #[] 0)).heap.size = w.heap.size + 2 := by show ((w.heap.push _).push _).size = _; rw [Array.size_push, Array.size_push]
  have hpA : PMap ((w.alloc (.map #[] 0)).alloc (.map #[] 0)) w.heap.size 0 (fun _ => none) := (PMap.made w).keep (Below.heap_alloc _ _ _ (by rw [hsz1]; omega))
  have hsA : SMap ((w.alloc (.map #[] 0)).alloc (.map #[] 0)) (w.heap.size + 1) 0 (fun _ => none) := by
    have := SMap.made (w.alloc (.map #[] 0))
    rw [hsz1] at this; exact this
  have bA : Below w.heap.size w ((w.alloc (.map #[] 0)).alloc (.map #[] 0)) := ((Below.refl _ w).alloc (Nat.le_refl _) _).alloc (by rw [hsz1]; omega) _
  obtain ⟨w1, hrun, pm1, g1⟩ := hpA.put Tryz.underlying33 (by unfold maxLen; omega) 0 (by decide) (.agg #[.map (some (w.heap.size + 1)), .bool true, tx [], .int .i64 0])
  have hs1 : SMap w1 (w.heap.size + 1) 0 (fun _ => none) := hsA.keep (g1.block _ (by rw [hsz2]; omega) (fun e => by have := Option.some.inj e; omega))
  have b1 : Below w.heap.size w w1 := below_grown bA (by rw [hsz2]; omega) g1 (Nat.le_refl _)
  have hz1 : w.heap.size + 2 ≤ w1.heap.size := by have := g1.size; rw [hsz2] at this; exact this
  have hfin : RTr (w1.alloc (.cells #[.map (some w.heap.size)] 35)) w1.heap.size w.heap.size 1 newT (fun _ => w.heap.size + 1) := by
    refine ⟨?_, ?_, fun k C e => ?_, fun k C e => by omega, fun k k' C C' e e' _ => ?_⟩
    · show (w1.heap.push _)[w1.heap.size]? = _
      rw [Array.getElem?_push, if_pos rfl]
    · have e : (fun i => if i = (0 : Int) then some (Value.agg #[.map (some (w.heap.size + 1)), .bool true, tx [], .int .i64 0]) else (fun _ => none) i) = fun k => (newT k).map (ndv (fun _ => w.heap.size + 1) k) := by
        funext i; unfold newT; by_cases e : i = 0 <;> simp [e, ndv]
      rw [← e]
      exact pm1.keep (Below.heap_alloc _ _ _ pm1.lt)
    · obtain ⟨_, rfl⟩ := newT_dir e
      exact hs1.keep (Below.heap_alloc _ _ _ hs1.lt)
    · rw [(newT_dir e).1, (newT_dir e').1]
  have b2 : Below w.heap.size w (w1.alloc (.cells #[.map (some w.heap.size)] 35)) := b1.alloc b1.size _
  clear pm1 g1 hs1 hpA hsA bA b1 hsz1 hsz2
  go_enter Tryz.func10, Tryz.ntmps10
  go_wp2_with fail
  go_ret
  exact ⟨w1.heap.size, rfl, w.heap.size, w.heap.size + 1, hfin, b2, by omega, by omega, by omega⟩
end Go.Proofs.YtjkneekfijibiabGreatDoor



namespace Go.Proofs.YtjkneekfijibiabGreatDoor
open Go.RowKit Go.Maps

section
variable {w w' : World} {r gN s : Nat} {T : Wd} {G : Int → Nat}

set_option maxRecDepth 100000 in
set_option maxHeartbeats 4000000 in
theorem RTr.write_ok (h : RTr w r gN s T G) (hT : TrOk T) (n a : Int) (x : List UInt8) (hw : (Lit.int .i64 n).wf = true) (hsz : s < maxLen) (hxl : x.length < 100000) :
    Calls Tryz.prog 60 #[wp r, .int .i64 n, .int .i64 a, tx x] w fun e w' => e = .returned (.int .i64 (writeE T n a x)) ∧ RTr w' r gN s (writeN T n a x) G ∧ w.grownBy w' (some gN) := by
  have hF := h.file_ok n hw
  have hxs := tx_len x
  by_cases hf : fileT T n = 0
  · obtain ⟨b, hh, hn⟩ := fileT_zero hf
    rw [hf] at hF
    obtain ⟨X, hX⟩ : ∃ X, x.length = X := ⟨_, rfl⟩
    rw [hX] at hxs hxl
    by_cases ha : a < 0
    · have e1 : writeE T n a x = 2 := by unfold writeE; rw [if_neg (fun e => e hf), if_pos ha]
      have e2 : writeN T n a x = T := by unfold writeN; rw [e1, if_pos (.inl (by omega))]
      rw [e1, e2]
      go_enter Tryz.func60, Tryz.ntmps60
      go_wp2_with fail
      refine hF.mono ?_
      rintro e w1 ⟨rfl, b1⟩
      clear hF
      go_wp2_with fail
      go_ret
      exact ⟨rfl, h.below b1, gby_below b1⟩
    · by_cases hlim : (200 : Int) < X ∨ 200 - (X : Int) < a
      · have e1 : writeE T n a x = 4 := by unfold writeE; rw [if_neg (fun e => e hf), if_neg ha, hX, if_pos hlim]
        have e2 : writeN T n a x = T := by unfold writeN; rw [e1, if_pos (.inl (by omega))]
        rw [e1, e2]
        by_cases hl1 : (200 : Int) < X
        · go_enter Tryz.func60, Tryz.ntmps60
          go_wp2_with fail
          refine hF.mono ?_
          rintro e w1 ⟨rfl, b1⟩
          clear hF
          go_wp2_with fail
          go_ret
          exact ⟨rfl, h.below b1, gby_below b1⟩
        · have hl2 := hlim.resolve_left hl1
          go_enter Tryz.func60, Tryz.ntmps60
          go_wp2_with fail
          refine hF.mono ?_
          rintro e w1 ⟨rfl, b1⟩
          clear hF
          go_wp2_with fail
          go_ret
          exact ⟨rfl, h.below b1, gby_below b1⟩
      · have hl1 : ¬ (200 : Int) < X := fun e => hlim (.inl e)
        have hl2 : ¬ 200 - (X : Int) < a := fun e => hlim (.inr e)
        have e1 : writeE T n a x = 0 := by unfold writeE; rw [if_neg (fun e => e hf), if_neg ha, hX, if_neg hlim]
        by_cases hx0 : x = []
        · have e2 : writeN T n a x = T := by unfold writeN; rw [if_pos (.inr hx0)]
          rw [e1, e2]
          subst hx0
          go_enter Tryz.func60, Tryz.ntmps60
          go_wp2_with fail
          refine hF.mono ?_
          rintro e w1 ⟨rfl, b1⟩
          clear hF
          go_wp2_with fail
          go_ret
          exact ⟨rfl, h.below b1, gby_below b1⟩
        · have e2 : writeN T n a x = setT T n (.file (overT b a.toNat x) hh) := by unfold writeN; rw [e1, if_neg (fun e => e.elim (fun e => e rfl) hx0), hn]
          rw [e1, e2]
          have hbs := (hT.small n b hh hn).1
          have hxe : x.isEmpty = false := by cases x with
            | nil => exact absurd rfl hx0
            | cons _ _ => rfl
          obtain ⟨b', hb'⟩ : ∃ b', overT b a.toNat x = b' := ⟨_, rfl⟩
          rw [hb']
          go_enter Tryz.func60, Tryz.ntmps60
          go_wp2_with fail
          refine hF.mono ?_
          rintro e w1 ⟨rfl, b1⟩
          have h1 := h.below b1
          have c0 := h1.c0
          have hmap := h1.map
          have hg := node_file (G := G) hn
          have bA : Below w.heap.size w (w1.alloc (.cells #[.map none, .bool false, tx b, .int .i64 (hh : Int)] 113)) := b1.alloc b1.size _
          have hnew : (w1.alloc (.cells #[.map none, .bool false, tx b, .int .i64 (hh : Int)] 113)).heap[w1.heap.size]? = some (.cells #[.map none, .bool false, tx b, .int .i64 (hh : Int)] 113) := by
            show (w1.heap.push _)[w1.heap.size]? = _
            rw [Array.getElem?_push, if_pos rfl]
          obtain ⟨i0, hi0⟩ : ∃ i0, w1.heap.size = i0 := ⟨_, rfl⟩
          have hi : w.heap.size ≤ i0 := by rw [← hi0]; exact b1.size
          clear hF
          go_upto_region 11 with (at_lookup; refine wpList_klook rfl _ _ 33 rfl 113 Tryz.underlying33 _ (zero_node _) gN _ _ rfl hmap n rfl hw ?_; rw [hg])
          obtain ⟨w2, hw2⟩ : ∃ w2, w1.alloc (.cells #[.map none, .bool false, tx b, .int .i64 (hh : Int)] 113) = w2 := ⟨_, rfl⟩
          rw [hw2, hi0] at hnew
          rw [hw2] at bA
          rw [hw2]
          try rw [hi0]
          clear hw2 hi0 hmap c0 h1 hg b1
          have hil : i0 < w2.heap.size := (Array.getElem?_eq_some_iff.1 hnew).1
          obtain ⟨⟨q0, q1, q2, q3⟩, qf⟩ := node_cells hnew
          obtain ⟨v3, w3, hconv, hbf, b3⟩ := bfr_made w2 b
          obtain ⟨A, hA⟩ : ∃ A : Nat, a = (A : Int) := ⟨a.toNat, by omega⟩
          subst hA
          rw [Int.toNat_natCast] at hb'
          go_upto_region 12 with fail
          clear q0 q1 q2 q3 qf hconv
          go_loopg [11] (A + X - b.length) (fun mm s11 wr => ∃ l, Bfr wr w2.heap.size s11 l ∧ padT l (A + X) = padT b (A + X) ∧ l.length + mm = max b.length (A + X) ∧ Below w2.heap.size w2 wr)
          case atStart => exact ⟨b, hbf, rfl, by omega, b3⟩
          case round =>
            clear hbf b3
            obtain ⟨l, hbl, hpd, hll, b4⟩ := hrel
            have hbl' := hbl
            obtain ⟨g, cap, rfl, hgB, hgl, hcap, _, _⟩ := hbl'
            obtain ⟨L, hL⟩ : ∃ L, l.length = L := ⟨_, rfl⟩
            rw [hL] at hbl hll hcap ⊢
            by_cases hlt : (L : Int) < (A : Int) + (X : Int)
            · have hbA := hbl.alloc (.cells #[.int .u8 0] 5)
              have hst := padT_step (b := l) (n := A + X) (by omega)
              have hcell : (wr.alloc (.cells #[.int .u8 0] 5)).cell? ⟨wr.heap.size, 0, none⟩ = some (.int .u8 (((0 : UInt8).toNat : Nat) : Int)) := by
                have : (wr.alloc (.cells #[.int .u8 0] 5)).heap[wr.heap.size]? = some (.cells #[.int .u8 0] 5) := by
                  show (wr.heap.push _)[wr.heap.size]? = _
                  rw [Array.getElem?_push, if_pos rfl]
                rw [cell_of_row _ _ 0 _ _ _ this]; rfl
              have hsB : w2.heap.size ≤ (wr.alloc (.cells #[.int .u8 0] 5)).heap.size := Nat.le_trans b4.size (by show _ ≤ (wr.heap.push _).size; rw [Array.size_push]; omega)
              have b5 : Below w2.heap.size w2 (wr.alloc (.cells #[.int .u8 0] 5)) := b4.alloc b4.size _
              go_wp2_with (at_builtin; refine wpList_bapp rfl _ _ rfl rfl hbA hsB 0 ⟨wr.heap.size, 0, none⟩ _ rfl hcell (by omega) ?_; intro v6 w6 hb6 b6)
              go_roundg (gk - 1)
              case measure => omega
              case rel => exact ⟨l ++ [0], hb6, by rw [hst, hpd], by rw [List.length_append, List.length_singleton]; omega, b5.trans b6⟩
            · have hlp : l = padT b (A + X) := by rw [← hpd]; exact (padT_same (by omega)).symm
              have hcp := fun ty => hbl.copy (g := g) (cap := cap) (by rw [hL]) A x (by omega) ty
              have hgB' := hgB
              rw [hL] at hcp
              have hb5 := (hcp 0).2.1
              have hrc := fun ty => (hcp ty).1
              rw [hX] at hrc
              have hbb : l.take A ++ x ++ l.drop (A + x.length) = b' := by rw [← hb', hlp, ← hX]; rfl
              rw [hbb] at hb5
              have b5 : Below w2.heap.size w2 (wr.setCells g A (u8s x)) := below_setCells' hgB _ _ _ b4
              have hAL : (A : Int) ≤ (L : Int) := by omega
              have hLc : (L : Int) ≤ (cap : Int) := by omega
              have hX1 : 1 ≤ X := by rw [← hX]; cases x with
                | nil => exact absurd rfl hx0
                | cons _ _ => simp
              have hcA : ¬ cap = A := by omega
              have hcA1 : ¬ A = cap := by omega
              have hcA2 : ¬ cap - A = 0 := by omega
              have hcA3 : ¬ cap ≤ A := by omega
              have hcA4 : ¬ (A : Int) = (cap : Int) := by omega
              have hcA5 : ¬ (cap : Int) = (A : Int) := by omega
              clear hcp hbl hlp hpd
              go_upto_region 15 with fail
              obtain ⟨w5, hw5⟩ : ∃ w5, wr.setCells g A (u8s x) = w5 := ⟨_, rfl⟩
              rw [hw5] at hb5 b5 ⊢
              have htx := hb5.text
              have hnew5 : w5.heap[i0]? = some (.cells #[.map none, .bool false, tx b, .int .i64 (hh : Int)] 113) := (b5.block i0 hil).trans hnew
              obtain ⟨⟨q0, q1, q2, q3⟩, qf⟩ := node_cells hnew5
              have b6 : Below w.heap.size w w5 := bA.trans (b5.mono bA.size)
              have hset := heap_cell_same w5 i0 2 (tx b') _ _ _ hnew5
              have b7 : Below w.heap.size w (w5.setCell ⟨i0, 2, none⟩ (tx b')) := b6.setCell (p := ⟨i0, 2, none⟩) hi _
              clear hw5 hrc hb5 b4
              go_upto_region 16 with fail
              obtain ⟨w7, hw7⟩ : ∃ w7, w5.setCell ⟨i0, 2, none⟩ (tx b') = w7 := ⟨_, rfl⟩
              rw [hw7] at hset b7 ⊢
              replace hset : w7.heap[i0]? = some (.cells #[.map none, .bool false, tx b', .int .i64 (hh : Int)] 113) := hset
              have h3 := h.below b7
              obtain ⟨⟨q0, q1, q2, q3⟩, qf⟩ := node_cells hset
              have c0 := h3.c0
              have hm3 : PMap w7.drew gN s (fun k => (T k).map (ndv G k)) := h3.map.keep rfl
              obtain ⟨w8, hrun, pm8, g8⟩ := hm3.put Tryz.underlying33 hsz n hw (.agg #[.map none, .bool false, tx b', .int .i64 (hh : Int)])
              have hfin := (h3.keep (w' := w7.drew) (fun _ _ => rfl)).put (b' := b') (x' := hh) hn g8 pm8
              have hgr : w.grownBy w8 (some gN) := ⟨g8.os.trans b7.os, g8.tape.trans b7.tape, g8.output.trans b7.output, Nat.le_trans b7.size g8.size, fun k hk hne => (g8.block k (Nat.lt_of_lt_of_le hk b7.size) hne).trans (b7.block k hk)⟩
              clear hset hm3 h3 hnew hnew5 bA b5 b6 pm8 g8 b7 hw7 htx
              go_region
              go_wp2_with fail
              go_ret
              exact ⟨rfl, hfin, hgr⟩
  · have e1 : writeE T n a x = fileT T n := by unfold writeE; rw [if_pos hf]
    have e2 : writeN T n a x = T := by unfold writeN; rw [e1, if_pos (.inl hf)]
    have hq : (fileT T n == 0) = false := by simp [hf]
    rw [e1, e2]
    generalize fileT T n = c at *
    go_enter Tryz.func60, Tryz.ntmps60
    go_wp2_with fail
    refine hF.mono ?_
    rintro e w1 ⟨rfl, b1⟩
    clear hF
    go_wp2_with fail
    go_ret
    exact ⟨rfl, h.below b1, gby_below b1⟩
end
end Go.Proofs.YtjkneekfijibiabGreatDoor

namespace Go.Proofs.YtjkneekfijibiabGreatDoor
open Go.RowKit Go.Maps

abbrev env (e : En) : Value := .agg #[.int .i64 e.kind, .int .i64 e.prot, .int .i64 e.node, .int .i64 e.pipe, .int .i64 e.pos]
abbrev en0 : Value := .agg #[.int .i64 0, .int .i64 0, .int .i64 0, .int .i64 0, .int .i64 0]
abbrev piv (p : Pi) : Value := .agg #[tx p.1, .int .i64 p.2.1, .int .i64 p.2.2]
abbrev pi0 : Value := .agg #[tx [], .int .i64 0, .int .i64 0]
theorem zero_en (w : World) : (zeroValue 213).run Tryz.prog w = .ok en0 w := by kernel_rfl
theorem zero_pi (w : World) : (zeroValue 220).run Tryz.prog w = .ok pi0 w := by kernel_rfl
/-- In memory. -/
structure RFm (w : World) (f : Nat) (D : DS) (r gN s : Nat) (G : Int → Nat) (gE gR gP sE sR sP : Nat) : Prop where
  head : w.heap[f]? = some (.cells #[wp r, .map (some gE), .map (some gR), .map (some gP), .int .i64 D.nx] 88)
  tree : RTr w r gN s D.T G
  mE : PMap w gE sE (fun k => (D.E k).map env)
  mR : PMap w gR sR (fun k => (D.R k).map (.int .i64 ·))
  mP : PMap w gP sP (fun k => (D.P k).map piv)
  er : gE ≠ gR
  ep : gE ≠ gP
  rp : gR ≠ gP
  apart : ∀ i, town r gN D.T G i → i ≠ f ∧ i ≠ gE ∧ i ≠ gR ∧ i ≠ gP
/-- Its blocks. -/
def fown (f r gN : Nat) (T : Wd) (G : Int → Nat) (gE gR gP : Nat) (i : Nat) : Prop := i = f ∨ i = gE ∨ i = gR ∨ i = gP ∨ town r gN T G i
section
variable {w w' : World} {f r gN s gE gR gP sE sR sP b : Nat} {D : DS} {G : Int → Nat} {N : Ns}
theorem RFm.cells (h : RFm w f D r gN s G gE gR gP sE sR sP) : w.cell? ⟨f, 0, none⟩ = some (wp r) ∧ w.cell? ⟨f, 1, none⟩ = some (.map (some gE)) ∧ w.cell? ⟨f, 2, none⟩ = some (.map (some gR)) ∧ w.cell? ⟨f, 3, none⟩ = some (.map (some gP)) ∧ w.cell? ⟨f, 4, none⟩ = some (.int .i64 D.nx) :=
  ⟨by rw [cell_of_row _ _ _ _ _ _ h.head]; rfl, by rw [cell_of_row _ _ _ _ _ _ h.head]; rfl, by rw [cell_of_row _ _ _ _ _ _ h.head]; rfl, by rw [cell_of_row _ _ _ _ _ _ h.head]; rfl, by rw [cell_of_row _ _ _ _ _ _ h.head]; rfl⟩
theorem RFm.lt (h : RFm w f D r gN s G gE gR gP sE sR sP) {i : Nat} (hi : fown f r gN D.T G gE gR gP i) : i < w.heap.size := by
  rcases hi with rfl | rfl | rfl | rfl | ht
  · exact World.block_lt_of_cell? w _ h.cells.1
  · exact h.mE.lt
  · exact h.mR.lt
  · exact h.mP.lt
  · exact h.tree.lt ht
theorem RFm.keep (h : RFm w f D r gN s G gE gR gP sE sR sP) (hk : ∀ i, fown f r gN D.T G gE gR gP i → w'.heap[i]? = w.heap[i]?) : RFm w' f D r gN s G gE gR gP sE sR sP :=
  ⟨(hk f (.inl rfl)).trans h.head, h.tree.keep (fun i ht => hk i (.inr (.inr (.inr (.inr ht))))), h.mE.keep (hk _ (.inr (.inl rfl))), h.mR.keep (hk _ (.inr (.inr (.inl rfl)))), h.mP.keep (hk _ (.inr (.inr (.inr (.inl rfl))))), h.er, h.ep, h.rp, h.apart⟩
theorem RFm.below (h : RFm w f D r gN s G gE gR gP sE sR sP) (hb : Below w.heap.size w w') : RFm w' f D r gN s G gE gR gP sE sR sP := h.keep (fun i hi => hb.block i (h.lt hi))
theorem RFm.fe (h : RFm w f D r gN s G gE gR gP sE sR sP) : f ≠ gE ∧ f ≠ gR ∧ f ≠ gP := by
  refine ⟨fun e => ?_, fun e => ?_, fun e => ?_⟩
  · obtain ⟨es, cl, hm⟩ := h.mE.isMap; rw [← e, h.head] at hm; cases hm
  · obtain ⟨es, cl, hm⟩ := h.mR.isMap; rw [← e, h.head] at hm; cases hm
  · obtain ⟨es, cl, hm⟩ := h.mP.isMap; rw [← e, h.head] at hm; cases hm
/-- A table beside it. -/
structure RFt (w : World) (f : Nat) (D : DS) (r gN s : Nat) (G : Int → Nat) (gE gR gP sE sR sP : Nat) (b : Nat) (N : Ns) : Prop extends RFm w f D r gN s G gE gR gP sE sR sP where
  tab : FdT w b N
  off : ¬ fown f r gN D.T G gE gR gP b
theorem RFt.below (h : RFt w f D r gN s G gE gR gP sE sR sP b N) (hb : Below w.heap.size w w') : RFt w' f D r gN s G gE gR gP sE sR sP b N := ⟨h.toRFm.below hb, h.tab.below hb, h.off⟩
end
end Go.Proofs.YtjkneekfijibiabGreatDoor

/- Package tree: a new node at a PLACE, by its Go text. -/
import Derived.Test.YtpibokijbidgdabDoorUMake
namespace Go.Proofs.YtpibokijbidgdabDoor
open Go.RowKit Go.Maps

section
variable {w w' : World} {r gN s : Nat} {T : Wd} {Z : Int → Nat} {B G : Int → Nat} {V : Int → Value} {O : Nat → Prop}

theorem ptr_neq (b : Nat) (w : World) : (binOp BinOp.neq 129 (wp b) (.pointer none)).run Tryd.prog w = .ok (.bool true) w := by kernel_rfl
theorem ptr_nnil (w : World) : (binOp BinOp.neq 129 (.pointer none) (.pointer none)).run Tryd.prog w = .ok (.bool false) w := by kernel_rfl

set_option maxRecDepth 100000 in
set_option maxHeartbeats 4000000 in
theorem PTr.add_no (h : PTr w r gN s T Z B G V O) (hT : TrOk T) (p : List UInt8) (b : Nat) (hp : p.length < 100000) (m : Int) (hm : w.cell? ⟨1, 0, none⟩ = some (.int .i64 m)) (hE : makeE T s p ≠ 0) :
    Calls Tryd.prog 82 #[wp r, tx p, wp b] w fun e w' => e = .returned (.tuple #[.int .i64 0, uer (makeE T s p)]) ∧ Below w.heap.size w w' := by
  have hs1 := h.num.pos hT
  unfold makeE at hE ⊢
  by_cases hz : (placeT T p).2.2 = 0
  · rw [if_neg (fun e => e hz)] at hE ⊢
    cases hh : hasT T (placeT T p).1 (placeT T p).2.1 with
    | some n =>
      rw [if_pos (show (some n).isSome = true from rfl)]
      have hFr := h.free_twice hT hs1 p hp m hm hz hh
      clear hE hh hz
      go_enter Tryd.func82, Tryd.ntmps82
      go_wp2_with (go_at_call 78; refine hFr.mono ?_; rintro e w1 ⟨rfl, b1⟩)
      go_ret2
      refine ⟨rfl, ?_⟩
      repeat first | exact b1 | refine Below.alloc ?_ (by first | omega | (have := b1.size; omega) | (simp <;> omega)) _
    | none =>
      rw [hh] at hE
      simp only [Option.isSome_none, Bool.false_eq_true, if_false] at hE ⊢
      have h60 : 60 ≤ s := by
        by_cases e : 60 ≤ s
        · exact e
        · rw [if_neg e] at hE; exact absurd rfl hE
      rw [if_pos h60]
      have hFr := h.free_ok hT hs1 p hp m hm hz hh
      have h6 : (60 : Int) ≤ (s : Int) := by omega
      clear hE hh hz h60
      generalize (placeT T p).1 = d at *
      generalize (placeT T p).2.1 = nm at *
      go_enter Tryd.func82, Tryd.ntmps82
      go_wp2_with (first
        | (go_at_call 78; refine hFr.mono ?_; rintro e w1 ⟨rfl, b1⟩; have h1 := h.below (b1.alloc b1.size (.cells #[.map (some (G d)), tx nm] 144)); have c0 := h1.c0; have hmap := h1.map)
        | (refine wpList_klen rfl _ 131 rfl 129 Tryd.underlying131 gN _ _ rfl hmap ?_))
      go_ret2
      refine ⟨rfl, ?_⟩
      repeat first | exact b1 | refine Below.alloc ?_ (by first | omega | (have := b1.size; omega) | (simp <;> omega)) _
  · rw [if_pos hz] at hE ⊢
    have hFr := h.free_bad hT hs1 p hp m hm hz
    generalize (placeT T p).2.2 = z at *
    go_enter Tryd.func82, Tryd.ntmps82
    go_wp2_with (go_at_call 78; refine hFr.mono ?_; rintro e w1 ⟨rfl, b1⟩)
    go_ret2
    refine ⟨rfl, ?_⟩
    repeat first | exact b1 | refine Below.alloc ?_ (by first | omega | (have := b1.size; omega) | (simp <;> omega)) _

/-- A new node's cells, behind its count. -/
theorem new_cells {b g : Nat} {k : Int} {dir : Bool} (h : w.heap[b]? = some (.cells #[if dir = true then .map (some g) else .map none, .slice none 0 0, .int .i64 0, .int .i64 0] 142)) :
    (w.setCell ⟨b, 2, none⟩ (.int .i64 1)).heap[b]? = some (.cells (ncells (fun _ => g) (fun _ => .slice none 0 0) (fun _ => 1) k (newNd dir)) 142) ∧ (w.cell? ⟨b, 2, none⟩).isSome = true ∧ w.frozen? ⟨b, 2, none⟩ = false := by
  refine ⟨?_, ?_, by simp [World.frozen?, h]⟩
  · rw [heap_cell_same w b 2 _ _ _ _ h]
    cases dir <;> simp [ncells, newNd]
  · rw [cell_of_row w b 2 _ _ _ h]; rfl

set_option maxRecDepth 100000 in
set_option maxHeartbeats 4000000 in
theorem PTr.add_yes (h : PTr w r gN s T (cntT T) B G V O) (hT : TrLv T) (p : List UInt8) (b g : Nat) (dir : Bool) (hp : p.length < 100000) (m : Int) (hm : w.cell? ⟨1, 0, none⟩ = some (.int .i64 m)) (hC : ∀ k C, T k = some (.dir C) → C.length ≤ 1000)
    (hb : w.heap[b]? = some (.cells #[if dir = true then .map (some g) else .map none, .slice none 0 0, .int .i64 0, .int .i64 0] 142)) (hbO : ¬ O b) (hgd : dir = true → SMap w g 0 (fun _ => none) ∧ ¬ O g) (hE : makeE T s p = 0) :
    Calls Tryd.prog 82 #[wp r, tx p, wp b] w fun e w' => ∃ k, IsFree T k ∧ k < 64 ∧ e = .returned (.tuple #[.int .i64 k, .nilIface]) ∧ PT w' r (makeN T p dir k) (fun i => O i ∨ i = b ∨ (i = g ∧ newNd dir = .dir [])) ∧ Wt (fun i => O i ∨ i = b ∨ (i = g ∧ newNd dir = .dir [])) w w' := by
  have hTok := hT.toTrOk
  have hs1 := h.num.pos hTok
  have hnum := h.num
  obtain ⟨hz, ⟨C, hd, hl⟩, hnm, hs60⟩ := makeE_zero hTok hE
  have hFr := h.free_ok hTok hs1 p hp m hm hz (by rw [hasT_eq hd]; exact hl)
  have hnl := isName_len hnm
  have hCl := hC _ C hd
  have h6 : ¬ (60 : Int) ≤ (s : Int) := by omega
  unfold makeN
  clear hz hE
  generalize (placeT T p).1 = d at *
  generalize (placeT T p).2.1 = nm at *
  obtain ⟨OO, hOO⟩ : ∃ OO : Nat → Prop, (fun i => O i ∨ i = b ∨ (i = g ∧ newNd dir = .dir [])) = OO := ⟨_, rfl⟩
  rw [hOO]
  have hO1 : ∀ i, O i → OO i := fun i hi => by rw [← hOO]; exact .inl hi
  have hOb : OO b := by rw [← hOO]; exact .inr (.inl rfl)
  -- the turns, ahead of the walk
  have hput : ∀ (k : Int) w1, Below w.heap.size w w1 → T k = none → 0 ≤ k → k < 64 → ∃ w2, (Instr.mapUpdate 131 (.map (some gN)) (.int .i64 k) (wp b)).run Tryd.prog (w1.setCell ⟨b, 2, none⟩ (.int .i64 1)) = .ok () w2 ∧
      PTr w2 r gN (s + 1) (setT T k (newNd dir)) (fun i => if i = k then 1 else cntT T i) (fun i => if i = k then b else B i) (fun i => if i = k then g else G i) (fun i => if i = k then .slice none 0 0 else V i) OO ∧ Wt OO w w2 ∧ ∀ i, w.heap.size ≤ i → i < w1.heap.size → w2.heap[i]? = w1.heap[i]? := fun k w1 b1 hk h0 h1 => by
    have hbl : b < w.heap.size := (Array.getElem?_eq_some_iff.1 hb).1
    have hb1 := (b1.block b hbl).trans hb
    obtain ⟨hnc, _, _⟩ := new_cells (k := k) hb1
    have gc : w1.grownBy (w1.setCell ⟨b, 2, none⟩ (.int .i64 1)) (some b) := ⟨rfl, rfl, rfl, by simp [World.setCell], fun i _ hne => Below.heap_setCell _ _ _ _ (fun e => hne (by rw [e]))⟩
    have h2 : PTr (w1.setCell ⟨b, 2, none⟩ (.int .i64 1)) r gN s T (cntT T) B G V O := (h.below b1).keep (fun i hi => gc.block i (Nat.lt_of_lt_of_le (h.lt i hi) b1.size) (fun e => hbO (by rw [← Option.some.inj e]; exact hi))) gc.size
    obtain ⟨w2, hrun, pm, g2⟩ := h2.map.put Tryd.underlying131 (by unfold maxLen; omega) k (wf_few h0 (by omega)) (wp b)
    rw [show ((T k).map (fun _ => wp (B k))).isSome = false by rw [hk]; rfl] at pm
    simp only [Bool.false_eq_true, if_false] at pm
    refine ⟨w2, hrun, ?_, ?_, fun i hi hi1 => ?_⟩
    · have h3 := h2.new (nd := newNd dir) hk g2 pm hnc hbO (by
        cases dir with
        | true =>
          obtain ⟨hS, hgO⟩ := hgd rfl
          refine .inl ⟨rfl, (hS.keep (b1.block g hS.lt)).keep (Below.heap_setCell _ _ _ _ (fun e => ?_)), hgO⟩
          obtain ⟨es, cl, hm⟩ := hS.isMap
          rw [show g = b from e, hb] at hm; cases hm
        | false => exact .inr rfl)
      rw [hOO] at h3
      exact h3
    · refine (Wt.below _ b1).trans ((Wt.grown gc hOb).trans (.grown g2 (hO1 _ h.ownN)))
    · rw [g2.block i (by simpa using hi1) (fun e => by have := h.lt _ h.ownN; rw [← Option.some.inj e] at this; omega)]
      exact Below.heap_setCell _ _ _ _ (by show i ≠ b; omega)
  have hset : ∀ (k : Int) w2, T k = none → 0 ≤ k → k < 64 → PTr w2 r gN (s + 1) (setT T k (newNd dir)) (fun i => if i = k then 1 else cntT T i) (fun i => if i = k then b else B i) (fun i => if i = k then g else G i) (fun i => if i = k then .slice none 0 0 else V i) OO →
      Calls Tryd.prog 81 #[plc (some (G d)) nm, .int .i64 k] w2 fun e w' => (∃ v, e = .returned v) ∧ PT w' r (addT (setT T k (newNd dir)) d nm k) OO ∧ Wt OO w2 w' := fun k w2 hk h0 h1 h2 => by
    obtain ⟨hdk, hd', hc, _⟩ := make_turn hT dir hd hl hnm hk h0 h1
    have hSm := h2.dirs d C hd'
    rw [if_neg hdk] at hSm
    refine (set_ok hSm (by unfold maxLen; omega) nm (by omega) (by simp only [hl, Option.map_none]) k).mono ?_
    rintro e w3 ⟨hv, sm, g3⟩
    have h3 := h2.add (d := d) (nm := nm) (n := k) hd' (w' := w3) (by rw [if_neg hdk]; exact g3) (by rw [if_neg hdk]; exact sm)
    exact ⟨hv, ⟨gN, s + 1, _, _, _, h3.as rfl (fun i _ => hc i)⟩, .grown g3 (hO1 _ (h.ownG d C hd))⟩
  have hbcell : ∀ w1, Below w.heap.size w w1 → ∃ v, w1.cell? ⟨b, 2, none⟩ = some v ∧ w1.frozen? ⟨b, 2, none⟩ = false := fun w1 b1 => by
    have hbl : b < w.heap.size := (Array.getElem?_eq_some_iff.1 hb).1
    obtain ⟨_, hs, hf⟩ := new_cells (k := 0) ((b1.block b hbl).trans hb)
    obtain ⟨v, hv⟩ := Option.isSome_iff_exists.1 hs
    exact ⟨v, hv, hf⟩
  have p1 := ptr_neq
  have p2 := ptr_nnil
  obtain ⟨C0, hroot⟩ := hTok.root
  go_enter Tryd.func82, Tryd.ntmps82
  go_wp2_with (first
    | (go_at_call 78; refine hFr.mono ?_; rintro e w1 ⟨rfl, b1⟩; have b8 := b1.alloc b1.size (.cells #[.map (some (G d)), tx nm] 144); have h1 := h.below b8; have c0 := h1.c0; have hmap := h1.map)
    | (refine wpList_klen rfl _ 131 rfl 129 Tryd.underlying131 gN _ _ rfl hmap ?_))
  have q2 : (w1.alloc (.cells #[.map (some (G d)), tx nm] 144)).heap[w1.heap.size]? = some (.cells #[.map (some (G d)), tx nm] 144) := World.alloc_heap_new _ _
  have q3 : w1.heap.size < (w1.alloc (.cells #[.map (some (G d)), tx nm] 144)).heap.size := by simp
  generalize w1.alloc (.cells #[.map (some (G d)), tx nm] 144) = w2 at *
  clear hmap
  go_loopg [10] 64 (fun mm s10 wr => ∃ (i : Nat), i + mm = 65 ∧ s10 = .int .i64 (i : Int) ∧ 1 ≤ i ∧ i ≤ s ∧ (∀ j : Nat, j < i → (T j).isSome = true) ∧ wr = w2)
  case atStart => exact ⟨1, by omega, rfl, by omega, by omega, fun j hj => by
    have : j = 0 := by omega
    subst this; rw [show ((0 : Nat) : Int) = 0 from rfl, hroot]; rfl, rfl⟩
  case round =>
    obtain ⟨i, hi, rfl, hi1, his, hall, hw⟩ := hrel
    subst hw
    have hwf : (Lit.int .i64 (i : Int)).wf = true := wf_few (by omega) (by omega)
    have hlk := h1.look (i : Int) hwf
    cases hn : T (i : Int) with
    | some nd =>
      rw [hn] at hlk
      simp only [Option.isSome_some, if_true] at hlk
      have hi2 : i + 1 ≤ s := hnum.free (k := i + 1) (fun j hj => by
        by_cases e : j = i
        · rw [e, hn]; rfl
        · exact hall j (by omega))
      go_wp2_with fail
      go_roundg (gk - 1)
      case measure => omega
      case rel => exact ⟨i + 1, by omega, by go_num, by omega, hi2, fun j hj => by
        by_cases e : j = i
        · rw [e, hn]; rfl
        · exact hall j (by omega), rfl⟩
    | none =>
      rw [hn] at hlk
      simp only [Option.isSome_none, Bool.false_eq_true, if_false] at hlk
      have hfree : IsFree T (i : Int) := ⟨by omega, hn, fun j h0 h1 => by
        obtain ⟨j', rfl⟩ : ∃ j' : Nat, j = j' := ⟨j.toNat, by omega⟩
        exact hall j' (by omega)⟩
      obtain ⟨w3, hrun, h3, wt3, hk3⟩ := hput (i : Int) _ b8 hn (by omega) (by omega)
      have hS := hset (i : Int) w3 hn (by omega) (by omega) h3
      obtain ⟨vb, bc, bf⟩ := hbcell _ b8
      obtain ⟨x0, x1, _, _⟩ := plc_cells ((hk3 _ b1.size q3).trans q2)
      have hr0 : (wr.setCell ⟨b, 2, none⟩ (.int .i64 1)).cell? ⟨r, 0, none⟩ = some (.map (some gN)) := by
        rw [World.cell?_of_block (w := wr) (a := ⟨r, 0, none⟩) (Below.heap_setCell wr ⟨b, 2, none⟩ (.int .i64 1) r (fun e => hbO ((show r = b from e) ▸ h.ownR)))]; exact c0
      have hi64 : (i : Int) < 64 := by omega
      clear hput hset hall hn
      go_wp2_with (go_at_call 81; refine hS.mono ?_; rintro e w4 ⟨⟨v, rfl⟩, h4, wt4⟩)
      go_ret2
      exact ⟨(i : Int), hfree, hi64, rfl, h4, wt3.trans wt4⟩
end
end Go.Proofs.YtpibokijbidgdabDoor

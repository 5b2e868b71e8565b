/- Package tree: a new node, by its Go text: what it wants. -/
import Derived.Test.YtjkneekfijibiabGreatDoorUAddT
namespace Go.Proofs.YtjkneekfijibiabGreatDoor
open Go.RowKit Go.Maps

section
variable {w w' : World} {r gN s : Nat} {T : Wd} {Z : Int → Nat} {B G : Int → Nat} {V : Int → Value} {O : Nat → Prop}

/-- A node more. -/
theorem PTr.new (h : PTr w r gN s T Z B G V O) {k : Int} {b g z : Nat} {nd : Nd} (hk : T k = none) (hg : w.grownBy w' (some gN)) (pm : PMap w' gN (s + 1) (fun i => if i = k then some (wp b) else (T i).map (fun _ => wp (B i))))
    (hnode : w.heap[b]? = some (.cells (ncells (fun _ => g) (fun _ => .slice none 0 0) (fun _ => z) k nd) 128)) (hbO : ¬ O b) (hnd : (nd = .dir [] ∧ SMap w g 0 (fun _ => none) ∧ ¬ O g) ∨ nd = .file [] 0) :
    PTr w' r gN (s + 1) (setT T k nd) (fun i => if i = k then z else Z i) (fun i => if i = k then b else B i) (fun i => if i = k then g else G i) (fun i => if i = k then .slice none 0 0 else V i) (fun i => O i ∨ i = b ∨ (i = g ∧ nd = .dir [])) := by
  obtain ⟨es, cl, hm⟩ := h.map.isMap
  have hkp : ∀ i, i < w.heap.size → i ≠ gN → w'.heap[i]? = w.heap[i]? := fun i hi hne => hg.block i hi (fun e => hne (Option.some.inj e))
  have hbl : b < w.heap.size := (Array.getElem?_eq_some_iff.1 hnode).1
  have hbN : b ≠ gN := fun e => hbO (by rw [e]; exact h.ownN)
  have hne : ∀ i nd', T i = some nd' → i ≠ k := fun i nd' e e1 => by rw [e1, hk] at e; cases e
  have hold : ∀ i nd', setT T k nd i = some nd' → (i = k ∧ nd' = nd) ∨ (i ≠ k ∧ T i = some nd') := fun i nd' e => by
    by_cases e1 : i = k
    · subst e1; rw [setT_same] at e; cases e; exact .inl ⟨rfl, rfl⟩
    · rw [setT_other _ e1] at e; exact .inr ⟨e1, e⟩
  have hsm : ∀ i, (setT T k nd i).isSome = true → i = k ∨ (i ≠ k ∧ (T i).isSome = true) := fun i e => by
    by_cases e1 : i = k
    · exact .inl e1
    · rw [setT_other _ e1] at e; exact .inr ⟨e1, e⟩
  refine ⟨(hkp r (h.lt _ h.ownR) (fun e => by rw [← e, h.head] at hm; cases hm)).trans h.head, ?_, fun i nd' e => ?_, fun i C e => ?_, fun i c x e => ?_, fun i C e => ?_, fun i i' C C' e e' hG => ?_, fun i i' e e' hB => ?_, .inl h.ownR, .inl h.ownN, fun i e => ?_, fun i C e => ?_, fun i c x j e hj => ?_, fun i hi => ?_⟩
  · have e : (fun i => if i = k then some (wp b) else (T i).map (fun _ => wp (B i))) = fun i => (setT T k nd i).map (fun _ => wp (if i = k then b else B i)) := by
      funext i
      by_cases e1 : i = k
      · subst e1; rw [setT_same, if_pos rfl]; simp
      · rw [setT_other _ e1, if_neg e1]; simp [e1]
    rw [e] at pm
    exact pm
  · rcases hold i nd' e with ⟨rfl, rfl⟩ | ⟨e1, e⟩
    · simp only [if_true]
      have e2 : ncells (fun j => if j = i then g else G j) (fun j => if j = i then .slice none 0 0 else V j) (fun j => if j = i then z else Z j) i nd' = ncells (fun _ => g) (fun _ => .slice none 0 0) (fun _ => z) i nd' := by cases nd' <;> simp [ncells]
      rw [e2]
      exact (hkp b hbl hbN).trans hnode
    · simp only [if_neg e1]
      have e2 : ncells (fun j => if j = k then g else G j) (fun j => if j = k then .slice none 0 0 else V j) (fun j => if j = k then z else Z j) i nd' = ncells G V Z i nd' := by cases nd' <;> simp [ncells, e1]
      rw [e2]
      exact (hkp _ (h.lt _ (h.ownB i (by rw [e]; rfl))) (fun e3 => by rw [← e3, h.node i nd' e] at hm; cases hm)).trans (h.node i nd' e)
  · rcases hold i _ e with ⟨rfl, e9⟩ | ⟨e1, e⟩
    · simp only [if_true]
      rcases hnd with ⟨e8, hS, hgO⟩ | e8
      · rw [e8] at e9; cases e9
        exact hS.keep (hkp g hS.lt (fun e7 => hgO (by rw [e7]; exact h.ownN)))
      · rw [e8] at e9; cases e9
    · simp only [if_neg e1]
      exact (h.dirs i C e).keep (hkp _ (h.dirs i C e).lt (h.sep i C e))
  · rcases hold i _ e with ⟨rfl, e9⟩ | ⟨e1, e⟩
    · simp only [if_true]
      rcases hnd with ⟨e8, _⟩ | e8
      · rw [e8] at e9; cases e9
      · rw [e8] at e9; cases e9; exact .inl ⟨rfl, rfl⟩
    · simp only [if_neg e1]
      exact (h.data i c x e).grown hg (fun y hy => by rw [map_no_cell hm] at hy; cases hy)
  · rcases hold i _ e with ⟨rfl, e9⟩ | ⟨e1, e⟩
    · simp only [if_true]
      rcases hnd with ⟨_, _, hgO⟩ | e8
      · exact fun e7 => hgO (by rw [e7]; exact h.ownN)
      · rw [e8] at e9; cases e9
    · simp only [if_neg e1]
      exact h.sep i C e
  · have hg2 : ∀ j D, j ≠ k → T j = some (.dir D) → nd = .dir [] → G j ≠ g := fun j D _ hj e8 e7 => by
      rcases hnd with ⟨_, _, hgO⟩ | e9
      · exact hgO (by rw [← e7]; exact h.ownG j D hj)
      · rw [e9] at e8; cases e8
    have hdn : ∀ D, Nd.dir D = nd → nd = .dir [] := fun D e9 => by
      rcases hnd with ⟨e8, _⟩ | e8
      · exact e8
      · rw [e8] at e9; cases e9
    rcases hold i _ e with ⟨e1, e9⟩ | ⟨e1, e⟩
    · rcases hold i' _ e' with ⟨e1', e9'⟩ | ⟨e1', e'⟩
      · rw [e1, e1']
      · rw [if_pos e1, if_neg e1'] at hG
        exact absurd hG.symm (hg2 i' C' e1' e' (hdn C e9))
    · rcases hold i' _ e' with ⟨e1', e9'⟩ | ⟨e1', e'⟩
      · rw [if_neg e1, if_pos e1'] at hG
        exact absurd hG (hg2 i C e1 e (hdn C' e9'))
      · rw [if_neg e1, if_neg e1'] at hG
        exact h.inj i i' C C' e e' hG
  · rcases hsm i e with e1 | ⟨e1, e⟩
    · rcases hsm i' e' with e1' | ⟨e1', e'⟩
      · rw [e1, e1']
      · simp only [if_pos e1, if_neg e1'] at hB
        exact absurd (by rw [hB]; exact h.ownB i' e') hbO
    · rcases hsm i' e' with e1' | ⟨e1', e'⟩
      · simp only [if_neg e1, if_pos e1'] at hB
        exact absurd (by rw [← hB]; exact h.ownB i e) hbO
      · simp only [if_neg e1, if_neg e1'] at hB
        exact h.binj i i' e e' hB
  · rcases hsm i e with e1 | ⟨e1, e⟩
    · simp only [if_pos e1]; exact .inr (.inl trivial)
    · simp only [if_neg e1]; exact .inl (h.ownB i e)
  · rcases hold i _ e with ⟨e1, e9⟩ | ⟨e1, e⟩
    · simp only [if_pos e1]
      rcases hnd with ⟨e8, _⟩ | e8
      · exact .inr (.inr ⟨trivial, e8⟩)
      · rw [e8] at e9; cases e9
    · simp only [if_neg e1]; exact .inl (h.ownG i C e)
  · rcases hold i _ e with ⟨e1, _⟩ | ⟨e1, e⟩
    · simp only [if_pos e1] at hj; cases hj
    · simp only [if_neg e1] at hj; exact .inl (h.ownD i c x j e hj)
  · rcases hi with hi | rfl | ⟨rfl, e8⟩
    · exact Nat.lt_of_lt_of_le (h.lt i hi) hg.size
    · exact Nat.lt_of_lt_of_le hbl hg.size
    · rcases hnd with ⟨_, hS, _⟩ | e9
      · exact Nat.lt_of_lt_of_le hS.lt hg.size
      · rw [e9] at e8; cases e8

theorem cnt_none (hT : TrOk T) {k : Int} (hk : T k = none) (h0 : k ≠ 0) : cntT T k = 0 := by
  by_cases e : cntT T k = 0
  · exact e
  · rcases (led_cnt hT k).2 (.inr e) with e1 | ⟨d, C, sx, hd, hl⟩
    · exact absurd e1 h0
    · have := hT.child d C sx k hd hl
      rw [hk] at this; cases this
theorem newNd_cnt (dir : Bool) (k : Int) : cnt1 (some (newNd dir)) k = 0 := by cases dir <;> rfl
theorem make_turn (hT : TrLv T) {d k : Int} {nm : Nm} {C : List (Nm × Int)} (dir : Bool) (hd : T d = some (.dir C)) (hl : C.lookup nm = none) (hnm : isName nm = true) (hk : T k = none) (h0 : 0 ≤ k) (h1 : k < 64) :
    d ≠ k ∧ setT T k (newNd dir) d = some (.dir C) ∧ (∀ i, cntT (addT (setT T k (newNd dir)) d nm k) i = if i = k then 1 else cntT T i) ∧ TrLv (addT (setT T k (newNd dir)) d nm k) := by
  have hdk : d ≠ k := by rintro rfl; rw [hk] at hd; cases hd
  have hk0 : k ≠ 0 := by rintro rfl; obtain ⟨D, e⟩ := hT.root; rw [e] at hk; cases hk
  have hd' : setT T k (newNd dir) d = some (.dir C) := by rw [setT_other _ hdk]; exact hd
  have hok := hT.toTrOk.new hk h0 h1 dir
  have hcs := cnt_set_none (x := newNd dir) hk (newNd_cnt dir)
  have hc : ∀ i, cntT (addT (setT T k (newNd dir)) d nm k) i = if i = k then 1 else cntT T i := fun i => by
    rw [cnt_add hok hd', hcs]
    by_cases e : i = k
    · rw [if_pos e, if_pos e, e, cnt_none hT.toTrOk hk hk0]
    · rw [if_neg e, if_neg e, Nat.add_zero]
  refine ⟨hdk, hd', hc, ?_⟩
  refine { toTrOk := hok.add hd' hl hnm (by rw [setT_same]; rfl), nr := by rw [hc, if_neg (Ne.symm hk0)]; exact hT.nr, lv := fun i nd e => ?_ }
  rw [hc]
  by_cases e1 : i = k
  · rw [if_pos e1]; exact .inr (.inl (by decide))
  · rw [if_neg e1]
    rw [addT_eq hd'] at e
    by_cases e2 : i = d
    · subst e2
      rw [setT_same] at e; cases e
      rcases hT.lv i _ hd with e3 | e3 | e3
      · exact .inl e3
      · exact .inr (.inl e3)
      · exact absurd rfl e3
    · rw [setT_other _ e2, setT_other _ e1] at e; exact hT.lv i nd e
end
end Go.Proofs.YtjkneekfijibiabGreatDoor

namespace Go.Proofs.YtjkneekfijibiabGreatDoor
open Go.RowKit Go.Maps

section
variable {w w' : World} {r gN s : Nat} {T : Wd} {Z : Int → Nat} {B G : Int → Nat} {V : Int → Value} {O : Nat → Prop}

theorem ptr_neq (b : Nat) (w : World) : (binOp BinOp.neq 106 (wp b) (.pointer none)).run Tryz.prog w = .ok (.bool true) w := by kernel_rfl
theorem ptr_nnil (w : World) : (binOp BinOp.neq 106 (.pointer none) (.pointer none)).run Tryz.prog w = .ok (.bool false) w := by kernel_rfl

set_option maxRecDepth 100000 in
set_option maxHeartbeats 4000000 in
theorem PTr.add_no (h : PTr w r gN s T Z B G V O) (hT : TrOk T) (p : List UInt8) (b : Nat) (hp : p.length < 100000) (m : Int) (hm : w.cell? ⟨2, 0, none⟩ = some (.int .i64 m)) (hE : makeE T s p ≠ 0) :
    Calls Tryz.prog 63 #[wp r, tx p, wp b] w fun e w' => e = .returned (.tuple #[.int .i64 0, uer (makeE T s p)]) ∧ Below w.heap.size w w' := by
  have hs1 := h.num.pos hT
  unfold makeE at hE ⊢
  by_cases hz : (placeT T p).2.2 = 0
  · rw [if_neg (fun e => e hz)] at hE ⊢
    cases hh : hasT T (placeT T p).1 (placeT T p).2.1 with
    | some n =>
      rw [if_pos (show (some n).isSome = true from rfl)]
      have hFr := h.free_twice hT hs1 p hp m hm hz hh
      clear hE hh hz
      go_enter Tryz.func63, Tryz.ntmps63
      go_wp2_with (go_at_call 66; refine hFr.mono ?_; rintro e w1 ⟨rfl, b1⟩)
      go_ret2
      refine ⟨rfl, ?_⟩
      repeat first | exact b1 | refine Below.alloc ?_ (by first | omega | (have := b1.size; omega) | (simp <;> omega)) _
    | none =>
      rw [hh] at hE
      simp only [Option.isSome_none, Bool.false_eq_true, if_false] at hE ⊢
      have h60 : 60 ≤ s := by
        by_cases e : 60 ≤ s
        · exact e
        · rw [if_neg e] at hE; exact absurd rfl hE
      rw [if_pos h60]
      have hFr := h.free_ok hT hs1 p hp m hm hz hh
      have h6 : (60 : Int) ≤ (s : Int) := by omega
      clear hE hh hz h60
      generalize (placeT T p).1 = d at *
      generalize (placeT T p).2.1 = nm at *
      go_enter Tryz.func63, Tryz.ntmps63
      go_wp2_with (first
        | (go_at_call 66; refine hFr.mono ?_; rintro e w1 ⟨rfl, b1⟩; have h1 := h.below (b1.alloc b1.size (.cells #[.map (some (G d)), tx nm] 132)); have c0 := h1.c0; have hmap := h1.map)
        | (refine wpList_klen rfl _ 108 rfl 106 Tryz.underlying108 gN _ _ rfl hmap ?_))
      go_ret2
      refine ⟨rfl, ?_⟩
      repeat first | exact b1 | refine Below.alloc ?_ (by first | omega | (have := b1.size; omega) | (simp <;> omega)) _
  · rw [if_pos hz] at hE ⊢
    have hFr := h.free_bad hT hs1 p hp m hm hz
    generalize (placeT T p).2.2 = z at *
    go_enter Tryz.func63, Tryz.ntmps63
    go_wp2_with (go_at_call 66; refine hFr.mono ?_; rintro e w1 ⟨rfl, b1⟩)
    go_ret2
    refine ⟨rfl, ?_⟩
    repeat first | exact b1 | refine Below.alloc ?_ (by first | omega | (have := b1.size; omega) | (simp <;> omega)) _

/-- A new node's cells, behind its count. -/
theorem new_cells {b g : Nat} {k : Int} {dir : Bool} (h : w.heap[b]? = some (.cells #[if dir = true then .map (some g) else .map none, .slice none 0 0, .int .i64 0, .int .i64 0] 128)) :
    (w.setCell ⟨b, 2, none⟩ (.int .i64 1)).heap[b]? = some (.cells (ncells (fun _ => g) (fun _ => .slice none 0 0) (fun _ => 1) k (newNd dir)) 128) ∧ (w.cell? ⟨b, 2, none⟩).isSome = true ∧ w.frozen? ⟨b, 2, none⟩ = false := by
  refine ⟨?_, ?_, by simp [World.frozen?, h]⟩
  · rw [heap_cell_same w b 2 _ _ _ _ h]
    cases dir <;> simp [ncells, newNd]
  · rw [cell_of_row w b 2 _ _ _ h]; rfl

set_option maxRecDepth 100000 in
set_option maxHeartbeats 4000000 in
theorem PTr.add_yes (h : PTr w r gN s T (cntT T) B G V O) (hT : TrLv T) (p : List UInt8) (b g : Nat) (dir : Bool) (hp : p.length < 100000) (m : Int) (hm : w.cell? ⟨2, 0, none⟩ = some (.int .i64 m)) (hC : ∀ k C, T k = some (.dir C) → C.length ≤ 1000)
    (hb : w.heap[b]? = some (.cells #[if dir = true then .map (some g) else .map none, .slice none 0 0, .int .i64 0, .int .i64 0] 128)) (hbO : ¬ O b) (hgd : dir = true → SMap w g 0 (fun _ => none) ∧ ¬ O g) (hE : makeE T s p = 0) :
    Calls Tryz.prog 63 #[wp r, tx p, wp b] w fun e w' => ∃ k, IsFree T k ∧ k < 64 ∧ e = .returned (.tuple #[.int .i64 k, .nilIface]) ∧ PT w' r (makeN T p dir k) (fun i => O i ∨ i = b ∨ (i = g ∧ newNd dir = .dir [])) ∧ Wt (fun i => O i ∨ i = b ∨ (i = g ∧ newNd dir = .dir [])) w w' := by
  have hTok := hT.toTrOk
  have hs1 := h.num.pos hTok
  have hnum := h.num
  obtain ⟨hz, ⟨C, hd, hl⟩, hnm, hs60⟩ := makeE_zero hTok hE
  have hFr := h.free_ok hTok hs1 p hp m hm hz (by rw [hasT_eq hd]; exact hl)
  have hnl := isName_len hnm
  have hCl := hC _ C hd
  have h6 : ¬ (60 : Int) ≤ (s : Int) := by omega
  unfold makeN
  clear hz hE
  generalize (placeT T p).1 = d at *
  generalize (placeT T p).2.1 = nm at *
  obtain ⟨OO, hOO⟩ : ∃ OO : Nat → Prop, (fun i => O i ∨ i = b ∨ (i = g ∧ newNd dir = .dir [])) = OO := ⟨_, rfl⟩
  rw [hOO]
  have hO1 : ∀ i, O i → OO i := fun i hi => by rw [← hOO]; exact .inl hi
  have hOb : OO b := by rw [← hOO]; exact .inr (.inl rfl)
  -- the turns, ahead of the walk
  have hput : ∀ (k : Int) w1, Below w.heap.size w w1 → T k = none → 0 ≤ k → k < 64 → ∃ w2, (Instr.mapUpdate 108 (.map (some gN)) (.int .i64 k) (wp b)).run Tryz.prog (w1.setCell ⟨b, 2, none⟩ (.int .i64 1)) = .ok () w2 ∧
      PTr w2 r gN (s + 1) (setT T k (newNd dir)) (fun i => if i = k then 1 else cntT T i) (fun i => if i = k then b else B i) (fun i => if i = k then g else G i) (fun i => if i = k then .slice none 0 0 else V i) OO ∧ Wt OO w w2 ∧ ∀ i, w.heap.size ≤ i → i < w1.heap.size → w2.heap[i]? = w1.heap[i]? := fun k w1 b1 hk h0 h1 => by
    have hbl : b < w.heap.size := (Array.getElem?_eq_some_iff.1 hb).1
    have hb1 := (b1.block b hbl).trans hb
    obtain ⟨hnc, _, _⟩ := new_cells (k := k) hb1
    have gc : w1.grownBy (w1.setCell ⟨b, 2, none⟩ (.int .i64 1)) (some b) := ⟨rfl, rfl, rfl, by simp [World.setCell], fun i _ hne => Below.heap_setCell _ _ _ _ (fun e => hne (by rw [e]))⟩
    have h2 : PTr (w1.setCell ⟨b, 2, none⟩ (.int .i64 1)) r gN s T (cntT T) B G V O := (h.below b1).keep (fun i hi => gc.block i (Nat.lt_of_lt_of_le (h.lt i hi) b1.size) (fun e => hbO (by rw [← Option.some.inj e]; exact hi))) gc.size
    obtain ⟨w2, hrun, pm, g2⟩ := h2.map.put Tryz.underlying108 (by unfold maxLen; omega) k (wf_few h0 (by omega)) (wp b)
    rw [show ((T k).map (fun _ => wp (B k))).isSome = false by rw [hk]; rfl] at pm
    simp only [Bool.false_eq_true, if_false] at pm
    refine ⟨w2, hrun, ?_, ?_, fun i hi hi1 => ?_⟩
    · have h3 := h2.new (nd := newNd dir) hk g2 pm hnc hbO (by
        cases dir with
        | true =>
          obtain ⟨hS, hgO⟩ := hgd rfl
          refine .inl ⟨rfl, (hS.keep (b1.block g hS.lt)).keep (Below.heap_setCell _ _ _ _ (fun e => ?_)), hgO⟩
          obtain ⟨es, cl, hm⟩ := hS.isMap
          rw [show g = b from e, hb] at hm; cases hm
        | false => exact .inr rfl)
      rw [hOO] at h3
      exact h3
    · refine (Wt.below _ b1).trans ((Wt.grown gc hOb).trans (.grown g2 (hO1 _ h.ownN)))
    · rw [g2.block i (by simpa using hi1) (fun e => by have := h.lt _ h.ownN; rw [← Option.some.inj e] at this; omega)]
      exact Below.heap_setCell _ _ _ _ (by show i ≠ b; omega)
  have hset : ∀ (k : Int) w2, T k = none → 0 ≤ k → k < 64 → PTr w2 r gN (s + 1) (setT T k (newNd dir)) (fun i => if i = k then 1 else cntT T i) (fun i => if i = k then b else B i) (fun i => if i = k then g else G i) (fun i => if i = k then .slice none 0 0 else V i) OO →
      Calls Tryz.prog 67 #[plc (some (G d)) nm, .int .i64 k] w2 fun e w' => (∃ v, e = .returned v) ∧ PT w' r (addT (setT T k (newNd dir)) d nm k) OO ∧ Wt OO w2 w' := fun k w2 hk h0 h1 h2 => by
    obtain ⟨hdk, hd', hc, _⟩ := make_turn hT dir hd hl hnm hk h0 h1
    have hSm := h2.dirs d C hd'
    rw [if_neg hdk] at hSm
    refine (set_ok hSm (by unfold maxLen; omega) nm (by omega) (by simp only [hl, Option.map_none]) k).mono ?_
    rintro e w3 ⟨hv, sm, g3⟩
    have h3 := h2.add (d := d) (nm := nm) (n := k) hd' (w' := w3) (by rw [if_neg hdk]; exact g3) (by rw [if_neg hdk]; exact sm)
    exact ⟨hv, ⟨gN, s + 1, _, _, _, h3.as rfl (fun i _ => hc i)⟩, .grown g3 (hO1 _ (h.ownG d C hd))⟩
  have hbcell : ∀ w1, Below w.heap.size w w1 → ∃ v, w1.cell? ⟨b, 2, none⟩ = some v ∧ w1.frozen? ⟨b, 2, none⟩ = false := fun w1 b1 => by
    have hbl : b < w.heap.size := (Array.getElem?_eq_some_iff.1 hb).1
    obtain ⟨_, hs, hf⟩ := new_cells (k := 0) ((b1.block b hbl).trans hb)
    obtain ⟨v, hv⟩ := Option.isSome_iff_exists.1 hs
    exact ⟨v, hv, hf⟩
  have p1 := ptr_neq
  have p2 := ptr_nnil
  obtain ⟨C0, hroot⟩ := hTok.root
  go_enter Tryz.func63, Tryz.ntmps63
  go_wp2_with (first
    | (go_at_call 66; refine hFr.mono ?_; rintro e w1 ⟨rfl, b1⟩; have b8 := b1.alloc b1.size (.cells #[.map (some (G d)), tx nm] 132); have h1 := h.below b8; have c0 := h1.c0; have hmap := h1.map)
    | (refine wpList_klen rfl _ 108 rfl 106 Tryz.underlying108 gN _ _ rfl hmap ?_))
  have q2 : (w1.alloc (.cells #[.map (some (G d)), tx nm] 132)).heap[w1.heap.size]? = some (.cells #[.map (some (G d)), tx nm] 132) := World.alloc_heap_new _ _
  have q3 : w1.heap.size < (w1.alloc (.cells #[.map (some (G d)), tx nm] 132)).heap.size := by simp
  generalize w1.alloc (.cells #[.map (some (G d)), tx nm] 132) = w2 at *
  clear hmap
  go_loopg [10] 64 (fun mm s10 wr => ∃ (i : Nat), i + mm = 65 ∧ s10 = .int .i64 (i : Int) ∧ 1 ≤ i ∧ i ≤ s ∧ (∀ j : Nat, j < i → (T j).isSome = true) ∧ wr = w2)
  case atStart => exact ⟨1, by omega, rfl, by omega, by omega, fun j hj => by
    have : j = 0 := by omega
    subst this; rw [show ((0 : Nat) : Int) = 0 from rfl, hroot]; rfl, rfl⟩
  case round =>
    obtain ⟨i, hi, rfl, hi1, his, hall, hw⟩ := hrel
    subst hw
    have hwf : (Lit.int .i64 (i : Int)).wf = true := wf_few (by omega) (by omega)
    have hlk := h1.look (i : Int) hwf
    cases hn : T (i : Int) with
    | some nd =>
      rw [hn] at hlk
      simp only [Option.isSome_some, if_true] at hlk
      have hi2 : i + 1 ≤ s := hnum.free (k := i + 1) (fun j hj => by
        by_cases e : j = i
        · rw [e, hn]; rfl
        · exact hall j (by omega))
      go_wp2_with fail
      go_roundg (gk - 1)
      case measure => omega
      case rel => exact ⟨i + 1, by omega, by go_num, by omega, hi2, fun j hj => by
        by_cases e : j = i
        · rw [e, hn]; rfl
        · exact hall j (by omega), rfl⟩
    | none =>
      rw [hn] at hlk
      simp only [Option.isSome_none, Bool.false_eq_true, if_false] at hlk
      have hfree : IsFree T (i : Int) := ⟨by omega, hn, fun j h0 h1 => by
        obtain ⟨j', rfl⟩ : ∃ j' : Nat, j = j' := ⟨j.toNat, by omega⟩
        exact hall j' (by omega)⟩
      obtain ⟨w3, hrun, h3, wt3, hk3⟩ := hput (i : Int) _ b8 hn (by omega) (by omega)
      have hS := hset (i : Int) w3 hn (by omega) (by omega) h3
      obtain ⟨vb, bc, bf⟩ := hbcell _ b8
      obtain ⟨x0, x1, _, _⟩ := plc_cells ((hk3 _ b1.size q3).trans q2)
      have hr0 : (wr.setCell ⟨b, 2, none⟩ (.int .i64 1)).cell? ⟨r, 0, none⟩ = some (.map (some gN)) := by
        rw [World.cell?_of_block (w := wr) (a := ⟨r, 0, none⟩) (Below.heap_setCell wr ⟨b, 2, none⟩ (.int .i64 1) r (fun e => hbO ((show r = b from e) ▸ h.ownR)))]; exact c0
      have hi64 : (i : Int) < 64 := by omega
      clear hput hset hall hn
      go_wp2_with (go_at_call 67; refine hS.mono ?_; rintro e w4 ⟨⟨v, rfl⟩, h4, wt4⟩)
      go_ret2
      exact ⟨(i : Int), hfree, hi64, rfl, h4, wt3.trans wt4⟩
end
end Go.Proofs.YtjkneekfijibiabGreatDoor

namespace Go.Proofs.YtjkneekfijibiabGreatDoor
open Go.RowKit Go.Maps

section
variable {w w' : World} {r gN s : Nat} {T : Wd} {Z : Int → Nat} {B G : Int → Nat} {V : Int → Value} {O : Nat → Prop}

set_option maxHeartbeats 1000000 in
theorem newDir_ok (w : World) : Calls Tryz.prog 48 #[] w fun e w' => e = .returned (wp (w.heap.size + 1)) ∧ w' = (w.alloc (.map #[] 0)).alloc (.cells #[.map (some w.heap.size), .slice none 0 0, .int .i64 0, .int .i64 0] 128) := by
  have hmm := @run_makeMap Tryz.prog
  go_enter Tryz.func48, Tryz.ntmps48
  go_wp2_with fail
  go_ret
  exact ⟨rfl, rfl⟩

/-- What Mkdir and Create answer. -/
def MkR (w : World) (r : Nat) (T : Wd) (O : Nat → Prop) (s : Nat) (p : List UInt8) (dir : Bool) (e : Ending) (w' : World) : Prop :=
  (makeE T s p ≠ 0 ∧ e = .returned (.tuple #[.int .i64 0, uer (makeE T s p)]) ∧ PT w' r T O ∧ Stp w w' O O) ∨
  (makeE T s p = 0 ∧ ∃ k O', IsFree T k ∧ k < 64 ∧ e = .returned (.tuple #[.int .i64 k, .nilIface]) ∧ PT w' r (makeN T p dir k) O' ∧ Stp w w' O O')

set_option maxRecDepth 100000 in
set_option maxHeartbeats 2000000 in
theorem PT.create_ok (h : PT w r T O) (hT : TrLv T) (hs : IsNum T s) (p : List UInt8) (hp : p.length < 100000) (m : Int) (hm : w.cell? ⟨2, 0, none⟩ = some (.int .i64 m)) (hC : ∀ k C, T k = some (.dir C) → C.length ≤ 1000) :
    Calls Tryz.prog 15 #[wp r, tx p] w (MkR w r T O s p false) := by
  obtain ⟨gN, s', B, G, V, h⟩ := h
  obtain rfl := hs.one h.num
  have bA : Below w.heap.size w (w.alloc (.cells #[.map none, .slice none 0 0, .int .i64 0, .int .i64 0] 128)) := (Below.refl _ _).alloc (Nat.le_refl _) _
  have hA := h.below bA
  have hmA := maxLen_kept hm bA
  by_cases hE : makeE T s p = 0
  · have hAdd := hA.add_yes hT p w.heap.size 0 false hp m hmA hC (World.alloc_heap_new _ _) (fun ho => by have := h.lt _ ho; omega) (fun e => by cases e) hE
    go_enter Tryz.func15, Tryz.ntmps15
    go_wp2_with (go_at_call 63; refine hAdd.mono ?_; rintro e w1 ⟨k, hk, hk64, rfl, h1, wt1⟩)
    go_ret2
    refine .inr ⟨hE, k, _, hk, hk64, rfl, h1, ⟨⟨wt1.os, wt1.tape, wt1.output, Nat.le_trans bA.size wt1.size, fun i hi hn => ?_⟩, fun i hi => ?_⟩⟩
    · refine (wt1.block i (Nat.lt_of_lt_of_le hi bA.size) (fun ho => ?_)).trans (bA.block i hi)
      rcases ho with ho | rfl | ⟨_, e⟩
      · exact hn ho
      · omega
      · cases e
    · rcases hi with ho | rfl | ⟨_, e⟩
      · exact .inl ho
      · exact .inr (Nat.le_refl _)
      · cases e
  · have hAdd := hA.add_no hT.toTrOk p w.heap.size hp m hmA hE
    have hfin : ∀ e w', e = .returned (.tuple #[.int .i64 0, uer (makeE T s p)]) → Below w.heap.size w w' → MkR w r T O s p false e w' := fun e w' he b => .inl ⟨hE, he, ⟨gN, s, B, G, V, h.below b⟩, .below b⟩
    generalize makeE T s p = z at *
    go_enter Tryz.func15, Tryz.ntmps15
    go_wp2_with (go_at_call 63; refine hAdd.mono ?_; rintro e w1 ⟨rfl, b1⟩)
    go_ret2
    exact hfin _ _ rfl (bA.trans (b1.mono bA.size))

/-- A tree of a directory without names. -/
def nullT : Wd := fun k => if k = 0 then some (.dir []) else none
theorem nullT_node {k : Int} {nd : Nd} (h : nullT k = some nd) : k = 0 ∧ nd = .dir [] := by
  unfold nullT at h
  by_cases e : k = 0
  · rw [if_pos e] at h; cases h; exact ⟨e, rfl⟩
  · rw [if_neg e] at h; cases h
theorem nullT_cnt (k : Int) : cntT nullT k = 0 := by
  by_cases e : cntT nullT k = 0
  · exact e
  · obtain ⟨i, _, hi⟩ := cntTo_pos 64 e
    exfalso
    apply hi
    cases h : nullT (i : Int) with
    | none => rfl
    | some nd => obtain ⟨_, rfl⟩ := nullT_node h; rfl
theorem nullT_lv : TrLv nullT :=
  { root := ⟨[], rfl⟩
    key := fun k h => by
      cases e : nullT k with
      | none => rw [e] at h; cases h
      | some nd => obtain ⟨rfl, _⟩ := nullT_node e; omega
    nodup := fun k C h => by obtain ⟨_, e⟩ := nullT_node h; cases e; exact List.nodup_nil
    child := fun k C s n h hl => by obtain ⟨_, e⟩ := nullT_node h; cases e; cases hl
    name := fun k C x h hx => by obtain ⟨_, e⟩ := nullT_node h; cases e; cases hx
    small := fun k b x h => by obtain ⟨_, e⟩ := nullT_node h; cases e
    nr := nullT_cnt 0
    lv := fun k nd h => .inl (nullT_node h).1 }

set_option maxRecDepth 100000 in
set_option maxHeartbeats 4000000 in
theorem new_ok (w : World) : Calls Tryz.prog 9 #[] w fun e w' => ∃ r O, e = .returned (wp r) ∧ PT w' r nullT O ∧ Below w.heap.size w w' ∧ ∀ i, O i → w.heap.size ≤ i := by
  have hmm := @run_makeMap Tryz.prog
  have hz1 : (w.alloc (.map #[] 0)).heap.size = w.heap.size + 1 := by simp
  have hND := newDir_ok (w.alloc (.map #[] 0))
  rw [hz1] at hND
  have hp0 := PMap.made w
  have bA : Below w.heap.size w (((w.alloc (.map #[] 0)).alloc (.map #[] 0)).alloc (.cells #[.map (some (w.heap.size + 1)), .slice none 0 0, .int .i64 0, .int .i64 0] 128)) := (((Below.refl _ _).alloc (Nat.le_refl _) _).alloc (by rw [hz1]; omega) _).alloc (by simp; omega) _
  have hszA : (((w.alloc (.map #[] 0)).alloc (.map #[] 0)).alloc (.cells #[.map (some (w.heap.size + 1)), .slice none 0 0, .int .i64 0, .int .i64 0] 128)).heap.size = w.heap.size + 3 := by simp
  have hpA : PMap (((w.alloc (.map #[] 0)).alloc (.map #[] 0)).alloc (.cells #[.map (some (w.heap.size + 1)), .slice none 0 0, .int .i64 0, .int .i64 0] 128)) w.heap.size 0 (fun _ => none) := (hp0.keep (Below.heap_alloc _ _ _ (by rw [hz1]; omega))).keep (Below.heap_alloc _ _ _ (by simp; omega))
  have hsA : SMap (((w.alloc (.map #[] 0)).alloc (.map #[] 0)).alloc (.cells #[.map (some (w.heap.size + 1)), .slice none 0 0, .int .i64 0, .int .i64 0] 128)) (w.heap.size + 1) 0 (fun _ => none) := by
    have := SMap.made (w.alloc (.map #[] 0))
    rw [hz1] at this
    exact this.keep (Below.heap_alloc _ _ _ this.lt)
  have hnA : (((w.alloc (.map #[] 0)).alloc (.map #[] 0)).alloc (.cells #[.map (some (w.heap.size + 1)), .slice none 0 0, .int .i64 0, .int .i64 0] 128)).heap[w.heap.size + 2]? = some (.cells #[.map (some (w.heap.size + 1)), .slice none 0 0, .int .i64 0, .int .i64 0] 128) := by
    have := two_alloc (w.alloc (.map #[] 0)) (.map #[] 0) (.cells #[.map (some (w.heap.size + 1)), .slice none 0 0, .int .i64 0, .int .i64 0] 128)
    rwa [hz1] at this
  generalize ((w.alloc (.map #[] 0)).alloc (.map #[] 0)).alloc (.cells #[.map (some (w.heap.size + 1)), .slice none 0 0, .int .i64 0, .int .i64 0] 128) = wA at *
  obtain ⟨w1, hrun, pm1, g1⟩ := hpA.put Tryz.underlying108 (by unfold maxLen; omega) 0 (by decide) (wp (w.heap.size + 2))
  have hkp : ∀ i, i < w.heap.size + 3 → i ≠ w.heap.size → w1.heap[i]? = wA.heap[i]? := fun i hi hne => g1.block i (by rw [hszA]; exact hi) (fun e => hne (Option.some.inj e))
  have b1 : Below w.heap.size w w1 := bA.grown g1 (by omega) (fun k e => by cases e; omega)
  have hz9 : w.heap.size + 3 ≤ w1.heap.size := by have := g1.size; omega
  have hfin : PT (w1.alloc (.cells #[.map (some w.heap.size)] 110)) w1.heap.size nullT (fun i => w.heap.size ≤ i ∧ i < w1.heap.size + 1) := by
    have hal : ∀ i, i < w1.heap.size → (w1.alloc (.cells #[.map (some w.heap.size)] 110)).heap[i]? = w1.heap[i]? := fun i hi => Below.heap_alloc _ _ _ hi
    refine ⟨w.heap.size, 1, fun _ => w.heap.size + 2, fun _ => w.heap.size + 1, fun _ => .slice none 0 0, World.alloc_heap_new _ _, ?_, fun k nd e => ?_, fun k C e => ?_, fun k b x e => ?_, fun k C e => by omega, fun k k' C C' e e' _ => ?_, fun k k' e e' _ => ?_, ⟨by omega, by omega⟩, ⟨by omega, by omega⟩, fun k _ => ⟨by omega, by omega⟩, fun k C _ => ⟨by omega, by omega⟩, fun k b x i e => ?_, fun i hi => by simp; omega⟩
    · have e : (fun i => if i = (0 : Int) then some (wp (w.heap.size + 2)) else (fun _ => none) i) = fun k => (nullT k).map (fun _ => wp (w.heap.size + 2)) := by
        funext i; unfold nullT; by_cases e : i = 0 <;> simp [e]
      rw [← e]
      exact pm1.keep (hal _ (by omega))
    · obtain ⟨rfl, rfl⟩ := nullT_node e
      rw [hal _ (by omega), hkp _ (by omega) (by omega), hnA]
      simp [ncells, nullT_cnt]
    · obtain ⟨rfl, e9⟩ := nullT_node e
      cases e9
      exact (hsA.keep (hkp _ (by omega) (by omega))).keep (hal _ (by omega))
    · obtain ⟨_, e9⟩ := nullT_node e; cases e9
    · rw [(nullT_node e).1, (nullT_node e').1]
    · cases h1 : nullT k with
      | none => rw [h1] at e; cases e
      | some nd => cases h2 : nullT k' with
        | none => rw [h2] at e'; cases e'
        | some nd' => rw [(nullT_node h1).1, (nullT_node h2).1]
    · obtain ⟨_, e9⟩ := nullT_node e; cases e9
  have b2 : Below w.heap.size w (w1.alloc (.cells #[.map (some w.heap.size)] 110)) := b1.alloc b1.size _
  clear pm1 g1 hkp hpA hsA hnA bA b1
  go_enter Tryz.func9, Tryz.ntmps9
  go_wp2_with (go_at_call 48; refine hND.mono ?_; rintro e w' ⟨rfl, hw'⟩; subst w')
  go_ret
  exact ⟨w1.heap.size, _, rfl, hfin, b2, fun i hi => hi.1⟩
end
end Go.Proofs.YtjkneekfijibiabGreatDoor

/- The document's own tree: a name put. -/
import Derived.Test.YtjkneekfijibiabGreatDoorWRef2
import Derived.Test.YtjkneekfijibiabGreatDoorWRead
namespace Go.Proofs.YtjkneekfijibiabGreatDoor
open Go.RowKit Go.Maps

section
variable {w w' : World} {r gN s : Nat} {T : Wd} {G : Int → Nat}

/-- A name put. -/
theorem RTr.add (h : RTr w r gN s T G) {d n : Int} {nm : Nm} {C : List (Nm × Int)} (hd : T d = some (.dir C)) (hno : C.lookup nm = none) (hg : w.grownBy w' (some (G d)))
    (sm : SMap w' (G d) (if ((C.lookup nm).map (Value.int .i64 ·)).isSome then C.length else C.length + 1) (fun i => if i = nm then some (.int .i64 n) else (C.lookup i).map (.int .i64 ·))) : RTr w' r gN s (addT T d nm n) G := by
  have hk : ∀ i, i < w.heap.size → i ≠ G d → w'.heap[i]? = w.heap[i]? := fun i hi hne => hg.block i hi (fun e => hne (Option.some.inj e))
  have hrG : r ≠ G d := by
    intro e
    obtain ⟨es, cl, hm⟩ := (h.dirs d C hd).isMap
    rw [← e, h.head] at hm; cases hm
  rw [addT_eq hd]
  have hold : ∀ k D, setT T d (.dir ((nm, n) :: C)) k = some (.dir D) → (k = d ∧ D = (nm, n) :: C) ∨ (k ≠ d ∧ T k = some (.dir D)) := fun k D e => by
    by_cases e1 : k = d
    · subst e1; rw [setT_same] at e; cases e; exact .inl ⟨rfl, rfl⟩
    · rw [setT_other _ e1] at e; exact .inr ⟨e1, e⟩
  have hsome : ∀ k D, setT T d (.dir ((nm, n) :: C)) k = some (.dir D) → ∃ D', T k = some (.dir D') := fun k D e => by
    rcases hold k D e with ⟨rfl, _⟩ | ⟨_, e⟩
    · exact ⟨C, hd⟩
    · exact ⟨D, e⟩
  refine ⟨(hk r (h.lt (.inl rfl)) hrG).trans h.head, ?_, ?_, fun k D e => ?_, fun k k' D D' e e' hG => ?_⟩
  · have e : (fun k => (setT T d (.dir ((nm, n) :: C)) k).map (ndv G k)) = fun k => (T k).map (ndv G k) := by
      funext k; unfold setT; by_cases e1 : k = d
      · subst e1; simp [hd, ndv]
      · simp [e1]
    rw [e]
    exact h.map.keep (hk gN h.map.lt (fun e => h.sep d C hd e.symm))
  · intro k D e
    rcases hold k D e with ⟨rfl, rfl⟩ | ⟨e1, e⟩
    · rw [hno] at sm
      have e2 : (fun i => if i = nm then some (.int .i64 n) else (C.lookup i).map (.int .i64 ·)) = fun i => (((nm, n) :: C).lookup i).map (Value.int .i64 ·) := by
        funext i
        by_cases ei : i = nm
        · subst ei; simp [List.lookup]
        · have : (i == nm) = false := by simp [ei]
          simp [List.lookup, this, ei]
      rw [e2] at sm
      exact sm
    · exact (h.dirs k D e).keep (hk _ (h.dirs k D e).lt (fun e2 => e1 (h.inj k d D C e hd e2)))
  · obtain ⟨D', e'⟩ := hsome k D e
    exact h.sep k D' e'
  · obtain ⟨D1, e1⟩ := hsome k D e
    obtain ⟨D2, e2⟩ := hsome k' D' e'
    exact h.inj k k' D1 D2 e1 e2 hG

end
end Go.Proofs.YtjkneekfijibiabGreatDoor

namespace Go.Proofs.YtjkneekfijibiabGreatDoor
open Go.RowKit Go.Maps

section
variable {w w' : World} {r gN s : Nat} {T : Wd} {G : Int → Nat}

theorem RTr.newDir (h : RTr w r gN s T G) {k : Int} {g : Nat} (hk : T k = none) (hsm : SMap w g 0 (fun _ => none)) (hgN : g ≠ gN) (hgd : ∀ i C, T i = some (.dir C) → G i ≠ g) (hg : w.grownBy w' (some gN))
    (pm : PMap w' gN (s + 1) (fun i => if i = k then some (.agg #[.map (some g), .bool true, tx [], .int .i64 0]) else (T i).map (ndv G i))) : RTr w' r gN (s + 1) (setT T k (.dir [])) (fun i => if i = k then g else G i) := by
  have hkp : ∀ i, i < w.heap.size → i ≠ gN → w'.heap[i]? = w.heap[i]? := fun i hi hne => hg.block i hi (fun e => hne (Option.some.inj e))
  have hold : ∀ i D, setT T k (.dir []) i = some (.dir D) → (i = k ∧ D = []) ∨ (i ≠ k ∧ T i = some (.dir D)) := fun i D e => by
    by_cases e1 : i = k
    · subst e1; rw [setT_same] at e; cases e; exact .inl ⟨rfl, rfl⟩
    · rw [setT_other _ e1] at e; exact .inr ⟨e1, e⟩
  refine ⟨(hkp r (h.lt (.inl rfl)) h.rne).trans h.head, ?_, fun i D e => ?_, fun i D e => ?_, fun i j D D' e e' hG => ?_⟩
  · have e : (fun i => if i = k then some (.agg #[.map (some g), .bool true, tx [], .int .i64 0]) else (T i).map (ndv G i)) = fun i => (setT T k (.dir []) i).map (ndv (fun i => if i = k then g else G i) i) := by
      funext i; unfold setT; by_cases e1 : i = k
      · simp [e1, ndv]
      · simp only [e1, if_false]
        cases T i with
        | none => rfl
        | some nd => cases nd <;> simp [ndv, e1]
    rw [e] at pm
    exact pm
  · rcases hold i D e with ⟨rfl, rfl⟩ | ⟨e1, e⟩
    · simp only [if_true]
      exact hsm.keep (hkp g hsm.lt hgN)
    · simp only [e1, if_false]
      exact (h.dirs i D e).keep (hkp _ (h.dirs i D e).lt (h.sep i D e))
  · rcases hold i D e with ⟨rfl, rfl⟩ | ⟨e1, e⟩
    · simp only [if_true]; exact hgN
    · simp only [e1, if_false]; exact h.sep i D e
  · rcases hold i D e with ⟨q1, _⟩ | ⟨q1, u1⟩ <;> rcases hold j D' e' with ⟨q2, _⟩ | ⟨q2, u2⟩
    · rw [q1, q2]
    · simp only [q1, q2, if_true, if_false] at hG; exact absurd hG.symm (hgd j D' u2)
    · simp only [q1, q2, if_true, if_false] at hG; exact absurd hG (hgd i D u1)
    · simp only [q1, q2, if_false] at hG; exact h.inj i j D D' u1 u2 hG
theorem RTr.newFile (h : RTr w r gN s T G) {k : Int} (hk : T k = none) (hg : w.grownBy w' (some gN))
    (pm : PMap w' gN (s + 1) (fun i => if i = k then some (.agg #[.map none, .bool false, tx [], .int .i64 0]) else (T i).map (ndv G i))) : RTr w' r gN (s + 1) (setT T k (.file [] 0)) G := by
  have hkp : ∀ i, i < w.heap.size → i ≠ gN → w'.heap[i]? = w.heap[i]? := fun i hi hne => hg.block i hi (fun e => hne (Option.some.inj e))
  have hd : ∀ i C, setT T k (.file [] 0) i = some (.dir C) → T i = some (.dir C) := fun i C e => by
    by_cases e1 : i = k
    · subst e1; rw [setT_same] at e; cases e
    · rw [setT_other _ e1] at e; exact e
  refine ⟨(hkp r (h.lt (.inl rfl)) h.rne).trans h.head, ?_, fun i C e => (h.dirs i C (hd i C e)).keep (hkp _ (h.dirs i C (hd i C e)).lt (h.sep i C (hd i C e))), fun i C e => h.sep i C (hd i C e), fun i j C C' e e' => h.inj i j C C' (hd i C e) (hd j C' e')⟩
  have e : (fun i => if i = k then some (.agg #[.map none, .bool false, tx [], .int .i64 0]) else (T i).map (ndv G i)) = fun i => (setT T k (.file [] 0) i).map (ndv G i) := by
    funext i; unfold setT; by_cases e1 : i = k <;> simp [e1, ndv]
  rw [e] at pm
  exact pm

set_option maxRecDepth 100000 in
set_option maxHeartbeats 4000000 in
theorem RTr.make_no (h : RTr w r gN s T G) (hT : TrOk T) (p : List UInt8) (dir : Bool) (hp : p.length < 100000) (m : Int) (hm : w.cell? ⟨2, 0, none⟩ = some (.int .i64 m)) (hs : s < 1000) (hE : makeE T s p ≠ 0) :
    Calls Tryz.prog 51 #[wp r, tx p, .bool dir] w fun e w' => e = .returned (.tuple #[.int .i64 0, .int .i64 (makeE T s p)]) ∧ Below w.heap.size w w' := by
  have hP := h.place_ok hT p hp m hm
  have hpl := placeT_dir hT (p := p)
  obtain ⟨E, hEE⟩ : ∃ E, makeE T s p = E := ⟨_, rfl⟩
  rw [hEE] at hE ⊢
  unfold makeE at hEE
  generalize placeT T p = P at *
  obtain ⟨d, nm, z⟩ := P
  simp only at hEE hpl hP
  by_cases hz : z = 0
  · subst hz
    rw [if_neg (fun e => e rfl)] at hEE
    rw [if_pos rfl] at hP
    obtain ⟨⟨C, hd⟩, hnm⟩ := hpl rfl
    have hnl := isName_len hnm
    have hnx : nm.length ≤ maxLen := by unfold maxLen; omega
    rw [hasT_eq hd] at hEE
    cases hlu : C.lookup nm with
    | some n' =>
      rw [hlu] at hEE
      simp only [Option.isSome_some, if_true] at hEE
      subst hEE
      go_enter Tryz.func51, Tryz.ntmps51
      go_wp2_with fail
      refine hP.mono ?_
      rintro e w1 ⟨rfl, b1⟩
      have hSm := (h.below b1).dirs d C hd
      clear hP
      go_wp2_with (at_lookup; refine wpList_sask rfl _ _ 111 rfl 3 Tryz.underlying111 _ (zero_num _) (G d) _ _ rfl hSm nm rfl hnx ?_; simp only [hlu, Option.map_some, Option.getD_some, Option.isSome_some])
      go_ret2
      exact ⟨rfl, b1⟩
    | none =>
      rw [hlu] at hEE
      simp only [Option.isSome_none, Bool.false_eq_true, if_false] at hEE
      have hs60 : 60 ≤ s := by
        by_cases e : 60 ≤ s
        · exact e
        · rw [if_neg e] at hEE; exact absurd hEE.symm hE
      rw [if_pos hs60] at hEE
      subst hEE
      have hs6 : (60 : Int) ≤ (s : Int) := by omega
      go_enter Tryz.func51, Tryz.ntmps51
      go_wp2_with fail
      refine hP.mono ?_
      rintro e w1 ⟨rfl, b1⟩
      have h1 := h.below b1
      have hSm := h1.dirs d C hd
      have hmap := h1.map
      have c0 := h1.c0
      clear hP h1 h
      go_wp2_with (first
        | (at_lookup; refine wpList_sask rfl _ _ 111 rfl 3 Tryz.underlying111 _ (zero_num _) (G d) _ _ rfl hSm nm rfl hnx ?_; simp only [hlu, Option.map_none, Option.getD_none, Option.isSome_none])
        | (at_len; refine wpList_klen rfl _ 33 rfl 113 Tryz.underlying33 gN s _ rfl hmap ?_))
      go_ret2
      exact ⟨rfl, b1⟩
  · rw [if_pos hz] at hEE
    subst hEE
    rw [if_neg hz] at hP
    have hq : (z == 0) = false := by simp [hz]
    go_enter Tryz.func51, Tryz.ntmps51
    go_wp2_with fail
    refine hP.mono ?_
    rintro e w1 ⟨rfl, b1⟩
    clear hP
    go_wp2_with fail
    go_ret2
    exact ⟨rfl, b1⟩
end
end Go.Proofs.YtjkneekfijibiabGreatDoor

namespace Go.Proofs.YtjkneekfijibiabGreatDoor
open Go.RowKit Go.Maps

section
variable {w w' : World} {r gN s : Nat} {T : Wd} {G : Int → Nat}

set_option maxRecDepth 100000 in
set_option maxHeartbeats 4000000 in
theorem RTr.make_ok (h : RTr w r gN s T G) (hT : TrOk T) (p : List UInt8) (dir : Bool) (hp : p.length < 100000) (m : Int) (hm : w.cell? ⟨2, 0, none⟩ = some (.int .i64 m)) (hC : ∀ k C, T k = some (.dir C) → C.length < maxLen) (hE : makeE T s p = 0) :
    Calls Tryz.prog 51 #[wp r, tx p, .bool dir] w fun e w' => ∃ k, IsFree T k ∧ e = .returned (.tuple #[.int .i64 k, .int .i64 0]) ∧ ∃ g, RTr w' r gN (s + 1) (makeN T p dir k) (fun i => if i = k ∧ dir = true then g else G i) ∧ w.heap.size ≤ g ∧ Wt (town r gN T G) w w' := by
  have hP := h.place_ok hT p hp m hm
  obtain ⟨hz, ⟨C, hd, hlu⟩, hnm, hs60⟩ := makeE_zero hT hE
  unfold makeN
  generalize placeT T p = P at *
  obtain ⟨d, nm, z⟩ := P
  simp only at hP hz hd hlu hnm
  subst hz
  rw [if_pos rfl] at hP
  have hnl := isName_len hnm
  have hnx : nm.length ≤ maxLen := by unfold maxLen; omega
  have hs6 : ¬ (60 : Int) ≤ (s : Int) := by omega
  have hsm : s < maxLen := by unfold maxLen; omega
  simp only
  go_enter Tryz.func51, Tryz.ntmps51
  go_wp2_with fail
  refine hP.mono ?_
  rintro e w1 ⟨rfl, b1⟩
  have h1 := h.below b1
  have hSm := h1.dirs d C hd
  have hmap := h1.map
  have c0 := h1.c0
  clear hP
  go_wp2_with (first
    | (at_lookup; refine wpList_sask rfl _ _ 111 rfl 3 Tryz.underlying111 _ (zero_num _) (G d) _ _ rfl hSm nm rfl hnx ?_; simp only [hlu, Option.map_none, Option.getD_none, Option.isSome_none])
    | (at_len; refine wpList_klen rfl _ 33 rfl 113 Tryz.underlying33 gN s _ rfl hmap ?_))
  clear hSm hmap c0
  go_loopg [13] 64 (fun mm s13 wr => ∃ (k : Nat), k + mm = 64 ∧ s13 = .int .i64 (k : Int) ∧ (∀ j : Int, 0 ≤ j → j < (k : Int) → (T j).isSome = true) ∧ Below w.heap.size w wr)
  case atStart => exact ⟨0, by omega, rfl, fun j h0 h1 => absurd h1 (by omega), b1⟩
  case round =>
    obtain ⟨k, hk, rfl, hall, b2⟩ := hrel
    have h2 := h.below b2
    have hmap := h2.map
    have c0 := h2.c0
    have hwf : (Lit.int .i64 (k : Int)).wf = true := wf_few (by omega) (by omega)
    have hB : ∀ o, Below w.heap.size w (World.alloc _ o) := fun o => b2.alloc b2.size o
    cases hn : T (k : Int) with
    | some nd =>
      have hkk := hT.key (k : Int) (by rw [hn]; rfl)
      obtain ⟨vm, vb, vt, vh, hv⟩ : ∃ vm vb vt vh, ndv G (k : Int) nd = .agg #[.map vm, .bool vb, tx vt, .int .i64 vh] := by
        cases nd with
        | dir C => exact ⟨_, _, _, _, rfl⟩
        | file b x => exact ⟨_, _, _, _, rfl⟩
      go_wp2_with (at_lookup; refine wpList_kask rfl _ _ 33 rfl 113 Tryz.underlying33 _ (zero_node _) gN _ _ rfl hmap (k : Int) rfl hwf ?_; simp only [hn, Option.map_some, Option.getD_some, Option.isSome_some, hv])
      go_roundg (gk - 1)
      case measure => omega
      case rel => exact ⟨k + 1, by omega, by go_num, fun j h0 h1 => by
        by_cases e : j = (k : Int)
        · rw [e, hn]; rfl
        · exact hall j h0 (by omega), hB _⟩
    | none =>
      have hfree : IsFree T (k : Int) := ⟨by omega, hn, hall⟩
      have hdk : d ≠ (k : Int) := fun e => by rw [e, hn] at hd; cases hd
      cases dir with
      | true =>
        go_upto_region 15 with (at_lookup; refine wpList_kask rfl _ _ 33 rfl 113 Tryz.underlying33 _ (zero_node _) gN _ _ rfl hmap (k : Int) rfl hwf ?_; simp only [hn, Option.map_none, Option.getD_none, Option.isSome_none])
        have bA := (b2.alloc b2.size (.cells #[.map none, .bool false, tx [], .int .i64 0] 113)).alloc (Nat.le_trans b2.size (by show _ ≤ (wr.heap.push _).size; rw [Array.size_push]; omega)) (.cells #[.map none, .bool true, tx [], .int .i64 0] 113)
        have hnew := two_alloc wr (.cells #[.map none, .bool false, tx [], .int .i64 0] 113) (.cells #[.map none, .bool true, tx [], .int .i64 0] 113)
        obtain ⟨w3, hw3⟩ : ∃ w3, (wr.alloc (.cells #[.map none, .bool false, tx [], .int .i64 0] 113)).alloc (.cells #[.map none, .bool true, tx [], .int .i64 0] 113) = w3 := ⟨_, rfl⟩
        obtain ⟨i0, hi0⟩ : ∃ i0, wr.heap.size + 1 = i0 := ⟨_, rfl⟩
        have hi : w.heap.size ≤ i0 := by have := b2.size; omega
        rw [hw3] at bA hnew ⊢
        rw [hi0] at hnew ⊢
        clear hw3 hi0 hmap c0 hB h2 b2 h1
        have hmm := @run_makeMap Tryz.prog
        have hnew' : (w3.alloc (.map #[] 0)).heap[i0]? = some (.cells #[.map none, .bool true, tx [], .int .i64 0] 113) := by
          rw [Below.heap_alloc _ _ _ (Array.getElem?_eq_some_iff.1 hnew).1]; exact hnew
        obtain ⟨⟨q0, q1, q2, q3⟩, qf⟩ := node_cells hnew'
        have hil : i0 < w3.heap.size := (Array.getElem?_eq_some_iff.1 hnew).1
        have hsz : (w3.setCell ⟨i0, 0, none⟩ (.map (some w3.heap.size))).heap.size = w3.heap.size := by simp [World.setCell]
        have hset : ((w3.setCell ⟨i0, 0, none⟩ (.map (some w3.heap.size))).alloc (.map #[] 0)).heap[i0]? = _ := (Below.heap_alloc _ _ _ (by rw [hsz]; exact hil)).trans (heap_cell_same _ i0 0 (.map (some w3.heap.size)) _ _ _ hnew)
        have bB : Below w.heap.size w ((w3.setCell ⟨i0, 0, none⟩ (.map (some w3.heap.size))).alloc (.map #[] 0)) := (bA.setCell (p := ⟨i0, 0, none⟩) hi _).alloc (by rw [hsz]; exact bA.size) _
        have hsn : SMap ((w3.setCell ⟨i0, 0, none⟩ (.map (some w3.heap.size))).alloc (.map #[] 0)) w3.heap.size 0 (fun _ => none) := by
          have := SMap.made (w3.setCell ⟨i0, 0, none⟩ (.map (some w3.heap.size)))
          rw [hsz] at this
          exact this
        clear hsz
        go_upto_region 16 with fail
        obtain ⟨w4, hw4⟩ : ∃ w4, (w3.setCell ⟨i0, 0, none⟩ (.map (some w3.heap.size))).alloc (.map #[] 0) = w4 := ⟨_, rfl⟩
        rw [hw4] at hset bB hsn ⊢
        replace hset : w4.heap[i0]? = some (.cells #[.map (some w3.heap.size), .bool true, tx [], .int .i64 0] 113) := hset
        have hgs : w.heap.size ≤ w3.heap.size := bA.size
        generalize w3.heap.size = g at *
        clear hnew' hnew bA hw4 q0 q1 q2 q3 qf hil
        obtain ⟨⟨q0, q1, q2, q3⟩, qf⟩ := node_cells hset
        have h3 := h.below bB
        have c0 := h3.c0
        have hm3 : PMap w4.drew gN s (fun k => (T k).map (ndv G k)) := h3.map.keep rfl
        obtain ⟨w5, hrun, pm5, g5⟩ := hm3.put Tryz.underlying33 hsm (k : Int) hwf (.agg #[.map (some g), .bool true, tx [], .int .i64 0])
        rw [hn] at pm5
        have hnd := (h3.keep (w' := w4.drew) (fun _ _ => rfl)).newDir hn (hsn.keep rfl) (fun e => by have := h.map.lt; omega) (fun i D e e2 => by have := (h.dirs i D e).lt; omega) g5 pm5
        have hd5 : setT T (k : Int) (.dir []) d = some (.dir C) := by rw [setT_other _ hdk]; exact hd
        have hSm := hnd.dirs d C hd5
        have hGd : (if d = (k : Int) then g else G d) = G d := if_neg hdk
        rw [hGd] at hSm
        have hCl := hC d C hd
        have wt5 : Wt (town r gN T G) w w5 := (Wt.below _ bB).trans ⟨g5.os, g5.tape, g5.output, g5.size, fun i hi hA => g5.block i hi (fun e => hA (.inr (.inl (Option.some.inj e))))⟩
        clear hset hm3 h3 bB pm5 g5 hsn
        go_region
        go_wp2_with (refine wpList_sput rfl _ _ _ 111 rfl 3 Tryz.underlying111 (G d) _ _ rfl hSm hCl nm rfl hnx _ rfl ?_; intro w6 sm g6)
        have h6 := hnd.add hd5 hlu (by simp only [hGd]; exact g6) (by simp only [hGd]; exact sm)
        clear hSm sm hnd
        go_wp2_with fail
        go_ret2
        refine ⟨(k : Int), hfree, rfl, g, ?_, hgs, wt5.trans (.grown g6 (.inr (.inr ⟨d, C, hd, rfl⟩)))⟩
        first | exact h6 | simpa [newNd] using h6
      | false =>
        go_upto_region 16 with (at_lookup; refine wpList_kask rfl _ _ 33 rfl 113 Tryz.underlying33 _ (zero_node _) gN _ _ rfl hmap (k : Int) rfl hwf ?_; simp only [hn, Option.map_none, Option.getD_none, Option.isSome_none])
        have bA := (b2.alloc b2.size (.cells #[.map none, .bool false, tx [], .int .i64 0] 113)).alloc (Nat.le_trans b2.size (by show _ ≤ (wr.heap.push _).size; rw [Array.size_push]; omega)) (.cells #[.map none, .bool false, tx [], .int .i64 0] 113)
        have hnew := two_alloc wr (.cells #[.map none, .bool false, tx [], .int .i64 0] 113) (.cells #[.map none, .bool false, tx [], .int .i64 0] 113)
        obtain ⟨w3, hw3⟩ : ∃ w3, (wr.alloc (.cells #[.map none, .bool false, tx [], .int .i64 0] 113)).alloc (.cells #[.map none, .bool false, tx [], .int .i64 0] 113) = w3 := ⟨_, rfl⟩
        obtain ⟨i0, hi0⟩ : ∃ i0, wr.heap.size + 1 = i0 := ⟨_, rfl⟩
        have hi : w.heap.size ≤ i0 := by have := b2.size; omega
        rw [hw3] at bA hnew ⊢
        rw [hi0] at hnew ⊢
        clear hw3 hi0 hmap c0 hB h2 b2 h1
        obtain ⟨⟨q0, q1, q2, q3⟩, qf⟩ := node_cells hnew
        have h3 := h.below bA
        have c0 := h3.c0
        have hm3 : PMap w3.drew gN s (fun k => (T k).map (ndv G k)) := h3.map.keep rfl
        obtain ⟨w5, hrun, pm5, g5⟩ := hm3.put Tryz.underlying33 hsm (k : Int) hwf (.agg #[.map none, .bool false, tx [], .int .i64 0])
        rw [hn] at pm5
        have hnd := (h3.keep (w' := w3.drew) (fun _ _ => rfl)).newFile hn g5 pm5
        have hd5 : setT T (k : Int) (.file [] 0) d = some (.dir C) := by rw [setT_other _ hdk]; exact hd
        have hSm := hnd.dirs d C hd5
        have hCl := hC d C hd
        have wt5 : Wt (town r gN T G) w w5 := (Wt.below _ bA).trans ⟨g5.os, g5.tape, g5.output, g5.size, fun i hi hA => g5.block i hi (fun e => hA (.inr (.inl (Option.some.inj e))))⟩
        clear hm3 h3 bA pm5 g5 hnew
        go_region
        go_wp2_with (refine wpList_sput rfl _ _ _ 111 rfl 3 Tryz.underlying111 (G d) _ _ rfl hSm hCl nm rfl hnx _ rfl ?_; intro w6 sm g6)
        have h6 := hnd.add hd5 hlu g6 sm
        clear hSm sm hnd
        go_wp2_with fail
        go_ret2
        refine ⟨(k : Int), hfree, rfl, w.heap.size, ?_, Nat.le_refl _, wt5.trans (.grown g6 (.inr (.inr ⟨d, C, hd, rfl⟩)))⟩
        first | exact h6 | simpa [newNd] using h6
end
end Go.Proofs.YtjkneekfijibiabGreatDoor

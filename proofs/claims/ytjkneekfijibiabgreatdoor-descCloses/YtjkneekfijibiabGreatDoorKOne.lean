/- A list of pointers in memory of its own: append, and the cells that were there stay. -/
import Derived.Test.YtjkneekfijibiabGreatDoorQBase
import Derived.Maps.AppendAt
import Derived.Test.YtjkneekfijibiabGreatDoorXSm
namespace Go.Proofs.YtjkneekfijibiabGreatDoor
open Go.RowKit Go.Maps Go.Lib Go.Sort

theorem orow_keep {w w' : World} {base : Nat} {T : TypeId} {v : Value} {n : Nat} {xs : List Value} (h : w.ownsRow base T 1 v n xs) (hk : ∀ g, v.ownBlock = some g → g < w.heap.size → w'.heap[g]? = w.heap[g]?) : w'.ownsRow base T 1 v n xs := by
  refine ⟨h.1, ?_⟩
  rcases h.2 with h0 | ⟨g, cap, cur, e, hN, hg, rest⟩
  · exact .inl h0
  · exact .inr ⟨g, cap, cur, e, hN, (hk g (by rw [e]; rfl) (lt_of_heap hg)).trans hg, rest⟩
theorem orow_block {w : World} {base : Nat} {T : TypeId} {v : Value} {n : Nat} {xs : List Value} (h : w.ownsRow base T 1 v n xs) {g : Nat} (hv : v.ownBlock = some g) : base ≤ g ∧ ∃ cur, w.heap[g]? = some (.cells cur T) := by
  rcases h.2 with ⟨rfl, _⟩ | ⟨g', cap, cur, e, hN, hg, _⟩
  · cases hv
  · rw [e] at hv; cases hv; exact ⟨hN, cur, hg⟩
theorem orow_read {w : World} {base : Nat} {T : TypeId} {v : Value} {n : Nat} {xs : List Value} (h : w.ownsRow base T 1 v n xs) (hp : 0 < n) : ∃ g cap, v = .slice (some ⟨g, 0, none⟩) n cap ∧ n ≤ cap ∧ g < w.heap.size ∧ ∀ j, j < n → w.cell? ⟨g, j, none⟩ = xs[j]? := by
  rcases h.2 with ⟨_, h0⟩ | ⟨g, cap, cur, e, hN, hg, h1, h2, h3, h4⟩
  · omega
  · refine ⟨g, cap, e, h1, lt_of_heap hg, fun j hj => ?_⟩
    rw [cell_of_row w g j _ _ _ hg, ← Array.getElem?_toList, ← h4, Nat.mul_one, List.getElem?_take, if_pos hj]

/-- append: its own law, and: the cells that were there stay, also where the list has moved. -/
theorem append_stays {P : Program} (w : World) (base : Nat) (t ty e : TypeId) (i : TypeInfo) (z : Value) (bytes : Nat) (ht : P.underlying t = some (.slice e)) (hi : P.info? e = some i) (hz : i.zero = some z)
    (hsize : i.size = 1) (hby : i.bytes = bytes) (hzs : z.cells.size = 1)
    (v : Value) (n : Nat) (xs : List Value) (hown : w.ownsRow base e 1 v n xs)
    (a : Addr) (c : Nat) (u : Value) (hnews : w.cell? a = some u) (h1 : u.oneCell' = true)
    (h63 : n + 1 ≤ maxLen) (hbytes : (n + 1) * bytes ≤ 140737488355328) (hbase : base ≤ w.heap.size) :
    ∃ v' w', (Builtin.append_ #[t, t] ty #[v, .slice (some a) 1 c]).run P w = .ok v' w' ∧ w'.ownsRow base e 1 v' (n + 1) (xs ++ [u]) ∧ w.grownBy w' v.ownBlock ∧ (v'.ownBlock = v.ownBlock ∨ v'.ownBlock = some w.heap.size) ∧ ∀ g j, v.ownBlock = some g → j < n → w'.cell? ⟨g, j, none⟩ = w.cell? ⟨g, j, none⟩ := by
  have hn : ∀ j x, [u][j]? = some x → w.cell? (a.add j) = some x := by
    intro j x hx
    cases j with
    | zero => simp at hx; subst hx; rw [show a.add 0 = a by simp [Addr.add]]; exact hnews
    | succ j => simp at hx
  have h1' : ∀ x ∈ [u], x.oneCell' = true := by intro x hx; rw [List.mem_singleton.1 hx]; exact h1
  obtain ⟨v', w', hr, o, g, _, b⟩ := run_append_own_at (P := P) w base t ty e i z 1 bytes ht hi hz hsize hby hzs (by decide) v n xs hown a 1 c [u] rfl hn h1' h63 hbytes hbase
  refine ⟨v', w', hr, o, g, b, fun g0 j hv hj => ?_⟩
  obtain ⟨g1, cap, hv1, hc1, hg1, hcl⟩ := orow_read hown (by omega)
  have e0 : g1 = g0 := by rw [hv1] at hv; cases hv; rfl
  subst e0
  by_cases hb : v'.ownBlock = v.ownBlock
  · obtain ⟨g2, cap2, hv2, _, _, hcl2⟩ := orow_read o (by omega)
    have e2 : g2 = g1 := by
      rw [hv2, hv] at hb
      exact Option.some.inj hb
    subst e2
    rw [hcl j hj, hcl2 j (by omega), List.getElem?_append_left (by have := hown.1; omega)]
  · subst hby
    have hsize' := hsize
    rcases hown.2 with ⟨hv0, _⟩ | ⟨g', cap', cur, hv3, hbg, hg, hnc, hcm, hcs, htake⟩
    · rw [hv0] at hv; cases hv
    · have e3 : g' = g1 := by rw [hv3] at hv; cases hv; rfl
      subst e3
      by_cases hroom : n + 1 ≤ cap'
      · exfalso
        have hr2 := run_append_room (P := P) w t ty e i ht hi g' n cap' cur hg a 1 c [u] (by rw [hsize']; rfl) hn h1' hroom (by rw [hcs, hsize']; simp; omega)
        rw [hv3] at hr
        rw [hr2] at hr
        cases hr
        exact hb (by rw [hv3]; rfl)
      · have hr2 := run_append_grow (P := P) w t ty e i z ht hi hz ⟨g', 0, none⟩ n cap' xs (by rw [hsize']; exact hown.1) (hown.cells (g := g') (by rw [hv3]; rfl)) a 1 c [u] (by rw [hsize']; rfl) hn (by omega) (by simp only [maxLen] at h63; omega) (growslice_fits (by omega) hbytes)
        rw [hv3] at hr
        rw [hr2] at hr
        cases hr
        exact World.cell?_alloc_lt _ _ ⟨g', j, none⟩ hg1

/-- The same heap. -/
structure Sam (w W : World) : Prop where
  heap : W.heap = w.heap
  os : W.os = w.os
  tape : W.tape = w.tape
  output : W.output = w.output
theorem Sam.below {w W : World} (h : Sam w W) (s : Nat) : Below s w W := ⟨h.os, h.tape, h.output, by rw [h.heap]; exact Nat.le_refl _, fun i _ => by rw [h.heap]⟩
end Go.Proofs.YtjkneekfijibiabGreatDoor

namespace Go.Proofs.YtjkneekfijibiabGreatDoor
open Go.RowKit Go.Maps

theorem null_num : IsNum nullT 1 := ⟨[0], by simp, rfl, fun x => by
  unfold nullT
  by_cases e : x = 0
  · simp [e]
  · simp [e]⟩
theorem null_free : IsFree nullT 1 := ⟨by omega, rfl, fun j h0 h1 => by
  obtain rfl : j = 0 := by omega
  rfl⟩
/-- The root, with these names; and one file. -/
def tC (C : List (Nm × Int)) (b : List UInt8) (x : Nat) : Wd := fun k => if k = 0 then some (.dir C) else if k = 1 then some (.file b x) else none
section
variable {C : List (Nm × Int)} {b : List UInt8} {x : Nat} {T : Wd} {p q : List UInt8} {nm : Nm}
theorem tC_0 : tC C b x 0 = some (.dir C) := rfl
theorem tC_1 : tC C b x 1 = some (.file b x) := rfl
theorem tC_no {k : Int} (h0 : k ≠ 0) (h1 : k ≠ 1) : tC C b x k = none := by unfold tC; rw [if_neg h0, if_neg h1]
theorem tC_num : IsNum (tC C b x) 2 := ⟨[0, 1], by simp, rfl, fun k => by
  by_cases h0 : k = 0
  · subst h0; simp [tC_0]
  · by_cases h1 : k = 1
    · subst h1; simp [tC_1]
    · rw [tC_no h0 h1]; simp [h0, h1]⟩
theorem tC_set0 (D : List (Nm × Int)) : setT (tC C b x) 0 (.dir D) = tC D b x := by
  funext k
  unfold setT tC
  by_cases h0 : k = 0
  · simp [h0]
  · simp [h0]
theorem tC_set1 (b' : List UInt8) (x' : Nat) : setT (tC C b x) 1 (.file b' x') = tC C b' x' := by
  funext k
  unfold setT tC
  by_cases h0 : k = 0
  · simp [h0]
  · by_cases h1 : k = 1
    · simp [h1]
    · simp [h0, h1]

/-- A name of the root. -/
theorem root_place (h0 : T 0 = some (.dir C)) (hp : namesOf p = some [nm]) : placeT T p = (0, nm, 0) := by
  unfold placeT
  rw [hp]
  simp [leadT, h0]
theorem root_find {n : Int} (h0 : T 0 = some (.dir C)) (hp : namesOf p = some [nm]) (hl : C.lookup nm = some n) : findT T p = (n, 0) := by
  unfold findT
  rw [hp]
  simp only
  rw [leadT_step [] h0 hl, leadT_nil]
theorem root_miss (h0 : T 0 = some (.dir C)) (hp : namesOf p = some [nm]) (hl : C.lookup nm = none) : findT T p = (0, 7) := by
  unfold findT
  rw [hp]
  simp only
  rw [leadT_miss [] h0 hl]
theorem place_name (h0 : T 0 = some (.dir C)) (h1 : ∀ s n, C.lookup s = some n → ∀ D, T n ≠ some (.dir D)) (h : (placeT T p).2.2 = 0) : ∃ nm, namesOf p = some [nm] := by
  unfold placeT at h
  cases hn : namesOf p with
  | none => rw [hn] at h; simp at h
  | some l =>
    rw [hn] at h
    cases l with
    | nil => simp at h
    | cons s r => cases r with
      | nil => exact ⟨s, rfl⟩
      | cons t r =>
        exfalso
        have hd : (s :: t :: r).dropLast = s :: (t :: r).dropLast := rfl
        simp only [hd, if_neg (List.cons_ne_nil s (t :: r))] at h
        cases hl : C.lookup s with
        | none => rw [leadT_miss _ h0 hl] at h; simp at h
        | some n =>
          rw [leadT_step _ h0 hl] at h
          cases hr : (t :: r).dropLast with
          | nil =>
            rw [hr, leadT_nil] at h
            have hx := h1 s n hl
            simp only [if_neg (show ¬ (0 : Int) ≠ 0 by simp)] at h
            omega
          | cons u v => rw [hr, leadT_file _ (h1 s n hl)] at h; simp at h

/-- A file made in an empty tree. -/
theorem make_null (h : makeE nullT 1 p = 0) : ∃ nm, namesOf p = some [nm] ∧ isName nm = true ∧ makeN nullT p false 1 = tC [(nm, 1)] [] 0 := by
  obtain ⟨e1, _, hi, _⟩ := makeE_zero nullT_lv.toTrOk h
  obtain ⟨nm, hn⟩ := place_name (T := nullT) (C := []) rfl (fun s n e => by cases e) e1
  have hp := root_place (T := nullT) (C := []) rfl hn
  rw [hp] at hi
  refine ⟨nm, hn, hi, ?_⟩
  unfold makeN
  rw [hp]
  have hs : setT nullT 1 (newNd false) = tC [] [] 0 := by
    funext k
    unfold setT nullT tC newNd
    by_cases h0 : k = 0
    · simp [h0]
    · by_cases h1 : k = 1
      · simp [h1]
      · simp [h0, h1]
  rw [hs]
  exact (addT_eq (T := tC [] [] 0) tC_0 nm 1).trans (tC_set0 _)

/-- All names are the file's. -/
def AllOne (C : List (Nm × Int)) : Prop := ∀ s n, C.lookup s = some n → n = 1
theorem AllOne.nodir (h : AllOne C) : ∀ s n, C.lookup s = some n → ∀ D, tC C b x n ≠ some (.dir D) := fun s n e D => by
  rw [h s n e, tC_1]; simp
theorem AllOne.cons (h : AllOne C) (nm : Nm) : AllOne ((nm, 1) :: C) := fun s n e => by
  rw [List.lookup_cons] at e
  split at e
  · cases e; rfl
  · exact h s n e
theorem AllOne.filter (h : AllOne C) (nm : Nm) : AllOne (C.filter (fun x => x.1 != nm)) := fun s n e => by
  rw [lookup_del] at e
  split at e
  · cases e
  · exact h s n e

/-- One name more. -/
theorem link_one (hA : AllOne C) (hp : namesOf p = some [nm]) (hl : C.lookup nm = some 1) (h : linkE (tC C b x) p q = 0) : ∃ nm2, namesOf q = some [nm2] ∧ C.lookup nm2 = none ∧ linkN (tC C b x) p q = tC ((nm2, 1) :: C) b x := by
  have hf := root_find (T := tC C b x) tC_0 hp hl
  have h' := h
  unfold linkE at h
  rw [hf] at h
  simp only at h
  rw [if_neg (by simp), if_neg (by simp [isDirT, tC_1])] at h
  by_cases e : (placeT (tC C b x) q).2.2 = 0
  · obtain ⟨nm2, hn⟩ := place_name (T := tC C b x) tC_0 hA.nodir e
    have hq := root_place (T := tC C b x) tC_0 hn
    rw [if_neg (fun h9 => h9 e), hq] at h
    simp only at h
    rw [hasT_eq tC_0] at h
    cases hl2 : C.lookup nm2 with
    | some n => rw [hl2] at h; simp at h
    | none =>
      refine ⟨nm2, hn, hl2, ?_⟩
      unfold linkN
      rw [if_neg (fun h9 => h9 h'), hq, hf]
      exact (addT_eq (T := tC C b x) tC_0 nm2 1).trans (tC_set0 _)
  · rw [if_pos e] at h; exact absurd h e
theorem link_can (hp : namesOf p = some [nm]) (hl : C.lookup nm = some 1) {nm2 : Nm} (hq : namesOf q = some [nm2]) (hl2 : C.lookup nm2 = none) : linkE (tC C b x) p q = 0 := by
  unfold linkE
  rw [root_find (T := tC C b x) tC_0 hp hl, root_place (T := tC C b x) tC_0 hq]
  simp only
  rw [if_neg (by simp), if_neg (by simp [isDirT, tC_1]), if_neg (by simp), hasT_eq tC_0, hl2]
  simp

theorem sweep_held (hx : x ≠ 0) : sweepT (tC C b x) = tC C b x := by
  funext k
  unfold sweepT
  by_cases h0 : k = 0
  · subst h0; rw [tC_0]; simp only; rw [if_pos (.inl (.inl rfl))]
  · by_cases h1 : k = 1
    · subst h1; rw [tC_1]; simp only; rw [if_pos (.inr hx)]
    · rw [tC_no h0 h1]
theorem sweep_named {s : Nm} (hl : C.lookup s = some 1) : sweepT (tC C b x) = tC C b x := by
  funext k
  unfold sweepT
  by_cases h0 : k = 0
  · subst h0; rw [tC_0]; simp only; rw [if_pos (.inl (.inl rfl))]
  · by_cases h1 : k = 1
    · subst h1; rw [tC_1]; simp only; rw [if_pos (.inl (.inr ⟨0, C, s, tC_0, hl⟩))]
    · rw [tC_no h0 h1]
theorem sweep_gone (hC : ∀ s, C.lookup s = none) (hx : x = 0) (hn : C = []) : sweepT (tC C b x) = nullT := by
  funext k
  unfold sweepT
  by_cases h0 : k = 0
  · subst h0; rw [tC_0]; simp only; rw [if_pos (.inl (.inl rfl)), hn]; rfl
  · by_cases h1 : k = 1
    · subst h1; rw [tC_1]; simp only
      rw [if_neg]
      · rfl
      · rintro (e | e)
        · rcases e with e | ⟨i, D, s, hi, hs⟩
          · omega
          · by_cases i0 : i = 0
            · subst i0; rw [tC_0] at hi; cases hi; rw [hC s] at hs; cases hs
            · by_cases i1 : i = 1
              · subst i1; rw [tC_1] at hi; cases hi
              · rw [tC_no i0 i1] at hi; cases hi
        · exact e hx
    · rw [tC_no h0 h1]; unfold nullT; rw [if_neg h0]
/-- One name less. -/
theorem unlink_one (hp : namesOf p = some [nm]) (hl : C.lookup nm = some 1) : unlinkE (tC C b x) p = 0 ∧ unlinkN (tC C b x) p = sweepT (tC (C.filter (fun y => y.1 != nm)) b x) := by
  have hq := root_place (T := tC C b x) tC_0 hp
  have hE : unlinkE (tC C b x) p = 0 := by
    unfold unlinkE
    rw [hq]
    simp only
    rw [if_neg (by simp), hasT_eq tC_0, hl]
    simp [manyT, tC_1]
  refine ⟨hE, ?_⟩
  unfold unlinkN
  rw [if_neg (fun h => h hE), hq]
  simp only
  rw [delT_eq (T := tC C b x) tC_0 nm, tC_set0]
theorem unlink_miss (hp : namesOf p = some [nm]) (hl : C.lookup nm = none) : unlinkE (tC C b x) p = 7 := by
  have hq := root_place (T := tC C b x) tC_0 hp
  unfold unlinkE
  rw [hq]
  simp only
  rw [if_neg (by simp), hasT_eq tC_0, hl]
theorem hold_one : holdE (tC C b x) 1 1 = 0 ∧ holdN (tC C b x) 1 1 = tC C b (x + 1) := by
  refine ⟨by unfold holdE; rw [tC_1]; simp only; rw [if_neg (by omega)], ?_⟩
  unfold holdN
  rw [tC_1]
  simp only
  rw [if_neg (by omega), tC_set1, show ((x : Int) + 1).toNat = x + 1 by omega]
  exact sweep_held (by omega)
theorem drop_one (hC : C = []) : holdE (tC C b 1) 1 (-1) = 0 ∧ holdN (tC C b 1) 1 (-1) = nullT := by
  subst hC
  refine ⟨by unfold holdE; rw [tC_1]; simp, ?_⟩
  unfold holdN
  rw [tC_1]
  simp only
  rw [if_neg (by omega), tC_set1]
  exact sweep_gone (fun s => rfl) (by omega) rfl
end
end Go.Proofs.YtjkneekfijibiabGreatDoor

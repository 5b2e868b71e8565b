/- A tree with one file, by names of the root alone: what is found, linked, taken away, held. -/
import Derived.Test.YtjkneekfijibiabGreatDoorXSm
import Derived.Test.YtjkneekfijibiabGreatDoorQFile
import Derived.Test.YtjkneekfijibiabGreatDoorYJoin
namespace Go.Proofs.YtjkneekfijibiabGreatDoor
open Go.RowKit Go.Maps

theorem null_num : IsNum nullT 1 := ⟨[0], by simp, rfl, fun x => by
  unfold nullT
  by_cases e : x = 0
  · simp [e]
  · simp [e]⟩
theorem null_free : IsFree nullT 1 := ⟨by omega, rfl, fun j h0 h1 => by
  obtain rfl : j = 0 := by omega
  rfl⟩
/-- The root, with these names; and one file. -/
def tC (C : List (Nm × Int)) (b : List UInt8) (x : Nat) : Wd := fun k => if k = 0 then some (.dir C) else if k = 1 then some (.file b x) else none
section
variable {C : List (Nm × Int)} {b : List UInt8} {x : Nat} {T : Wd} {p q : List UInt8} {nm : Nm}
theorem tC_0 : tC C b x 0 = some (.dir C) := rfl
theorem tC_1 : tC C b x 1 = some (.file b x) := rfl
theorem tC_no {k : Int} (h0 : k ≠ 0) (h1 : k ≠ 1) : tC C b x k = none := by unfold tC; rw [if_neg h0, if_neg h1]
theorem tC_num : IsNum (tC C b x) 2 := ⟨[0, 1], by simp, rfl, fun k => by
  by_cases h0 : k = 0
  · subst h0; simp [tC_0]
  · by_cases h1 : k = 1
    · subst h1; simp [tC_1]
    · rw [tC_no h0 h1]; simp [h0, h1]⟩
theorem tC_set0 (D : List (Nm × Int)) : setT (tC C b x) 0 (.dir D) = tC D b x := by
  funext k
  unfold setT tC
  by_cases h0 : k = 0
  · simp [h0]
  · simp [h0]
theorem tC_set1 (b' : List UInt8) (x' : Nat) : setT (tC C b x) 1 (.file b' x') = tC C b' x' := by
  funext k
  unfold setT tC
  by_cases h0 : k = 0
  · simp [h0]
  · by_cases h1 : k = 1
    · simp [h1]
    · simp [h0, h1]

/-- A name of the root. -/
theorem root_place (h0 : T 0 = some (.dir C)) (hp : namesOf p = some [nm]) : placeT T p = (0, nm, 0) := by
  unfold placeT
  rw [hp]
  simp [leadT, h0]
theorem root_find {n : Int} (h0 : T 0 = some (.dir C)) (hp : namesOf p = some [nm]) (hl : C.lookup nm = some n) : findT T p = (n, 0) := by
  unfold findT
  rw [hp]
  simp only
  rw [leadT_step [] h0 hl, leadT_nil]
theorem root_miss (h0 : T 0 = some (.dir C)) (hp : namesOf p = some [nm]) (hl : C.lookup nm = none) : findT T p = (0, 7) := by
  unfold findT
  rw [hp]
  simp only
  rw [leadT_miss [] h0 hl]
theorem place_name (h0 : T 0 = some (.dir C)) (h1 : ∀ s n, C.lookup s = some n → ∀ D, T n ≠ some (.dir D)) (h : (placeT T p).2.2 = 0) : ∃ nm, namesOf p = some [nm] := by
  unfold placeT at h
  cases hn : namesOf p with
  | none => rw [hn] at h; simp at h
  | some l =>
    rw [hn] at h
    cases l with
    | nil => simp at h
    | cons s r => cases r with
      | nil => exact ⟨s, rfl⟩
      | cons t r =>
        exfalso
        have hd : (s :: t :: r).dropLast = s :: (t :: r).dropLast := rfl
        simp only [hd, if_neg (List.cons_ne_nil s (t :: r))] at h
        cases hl : C.lookup s with
        | none => rw [leadT_miss _ h0 hl] at h; simp at h
        | some n =>
          rw [leadT_step _ h0 hl] at h
          cases hr : (t :: r).dropLast with
          | nil =>
            rw [hr, leadT_nil] at h
            have hx := h1 s n hl
            simp only [if_neg (show ¬ (0 : Int) ≠ 0 by simp)] at h
            omega
          | cons u v => rw [hr, leadT_file _ (h1 s n hl)] at h; simp at h

/-- A file made in an empty tree. -/
theorem make_null (h : makeE nullT 1 p = 0) : ∃ nm, namesOf p = some [nm] ∧ isName nm = true ∧ makeN nullT p false 1 = tC [(nm, 1)] [] 0 := by
  obtain ⟨e1, _, hi, _⟩ := makeE_zero nullT_lv.toTrOk h
  obtain ⟨nm, hn⟩ := place_name (T := nullT) (C := []) rfl (fun s n e => by cases e) e1
  have hp := root_place (T := nullT) (C := []) rfl hn
  rw [hp] at hi
  refine ⟨nm, hn, hi, ?_⟩
  unfold makeN
  rw [hp]
  have hs : setT nullT 1 (newNd false) = tC [] [] 0 := by
    funext k
    unfold setT nullT tC newNd
    by_cases h0 : k = 0
    · simp [h0]
    · by_cases h1 : k = 1
      · simp [h1]
      · simp [h0, h1]
  rw [hs]
  exact (addT_eq (T := tC [] [] 0) tC_0 nm 1).trans (tC_set0 _)

/-- All names are the file's. -/
def AllOne (C : List (Nm × Int)) : Prop := ∀ s n, C.lookup s = some n → n = 1
theorem AllOne.nodir (h : AllOne C) : ∀ s n, C.lookup s = some n → ∀ D, tC C b x n ≠ some (.dir D) := fun s n e D => by
  rw [h s n e, tC_1]; simp
theorem AllOne.cons (h : AllOne C) (nm : Nm) : AllOne ((nm, 1) :: C) := fun s n e => by
  rw [List.lookup_cons] at e
  split at e
  · cases e; rfl
  · exact h s n e
theorem AllOne.filter (h : AllOne C) (nm : Nm) : AllOne (C.filter (fun x => x.1 != nm)) := fun s n e => by
  rw [lookup_del] at e
  split at e
  · cases e
  · exact h s n e

/-- One name more. -/
theorem link_one (hA : AllOne C) (hp : namesOf p = some [nm]) (hl : C.lookup nm = some 1) (h : linkE (tC C b x) p q = 0) : ∃ nm2, namesOf q = some [nm2] ∧ C.lookup nm2 = none ∧ linkN (tC C b x) p q = tC ((nm2, 1) :: C) b x := by
  have hf := root_find (T := tC C b x) tC_0 hp hl
  have h' := h
  unfold linkE at h
  rw [hf] at h
  simp only at h
  rw [if_neg (by simp), if_neg (by simp [isDirT, tC_1])] at h
  by_cases e : (placeT (tC C b x) q).2.2 = 0
  · obtain ⟨nm2, hn⟩ := place_name (T := tC C b x) tC_0 hA.nodir e
    have hq := root_place (T := tC C b x) tC_0 hn
    rw [if_neg (fun h9 => h9 e), hq] at h
    simp only at h
    rw [hasT_eq tC_0] at h
    cases hl2 : C.lookup nm2 with
    | some n => rw [hl2] at h; simp at h
    | none =>
      refine ⟨nm2, hn, hl2, ?_⟩
      unfold linkN
      rw [if_neg (fun h9 => h9 h'), hq, hf]
      exact (addT_eq (T := tC C b x) tC_0 nm2 1).trans (tC_set0 _)
  · rw [if_pos e] at h; exact absurd h e
theorem link_can (hp : namesOf p = some [nm]) (hl : C.lookup nm = some 1) {nm2 : Nm} (hq : namesOf q = some [nm2]) (hl2 : C.lookup nm2 = none) : linkE (tC C b x) p q = 0 := by
  unfold linkE
  rw [root_find (T := tC C b x) tC_0 hp hl, root_place (T := tC C b x) tC_0 hq]
  simp only
  rw [if_neg (by simp), if_neg (by simp [isDirT, tC_1]), if_neg (by simp), hasT_eq tC_0, hl2]
  simp

theorem sweep_held (hx : x ≠ 0) : sweepT (tC C b x) = tC C b x := by
  funext k
  unfold sweepT
  by_cases h0 : k = 0
  · subst h0; rw [tC_0]; simp only; rw [if_pos (.inl (.inl rfl))]
  · by_cases h1 : k = 1
    · subst h1; rw [tC_1]; simp only; rw [if_pos (.inr hx)]
    · rw [tC_no h0 h1]
theorem sweep_named {s : Nm} (hl : C.lookup s = some 1) : sweepT (tC C b x) = tC C b x := by
  funext k
  unfold sweepT
  by_cases h0 : k = 0
  · subst h0; rw [tC_0]; simp only; rw [if_pos (.inl (.inl rfl))]
  · by_cases h1 : k = 1
    · subst h1; rw [tC_1]; simp only; rw [if_pos (.inl (.inr ⟨0, C, s, tC_0, hl⟩))]
    · rw [tC_no h0 h1]
theorem sweep_gone (hC : ∀ s, C.lookup s = none) (hx : x = 0) (hn : C = []) : sweepT (tC C b x) = nullT := by
  funext k
  unfold sweepT
  by_cases h0 : k = 0
  · subst h0; rw [tC_0]; simp only; rw [if_pos (.inl (.inl rfl)), hn]; rfl
  · by_cases h1 : k = 1
    · subst h1; rw [tC_1]; simp only
      rw [if_neg]
      · rfl
      · rintro (e | e)
        · rcases e with e | ⟨i, D, s, hi, hs⟩
          · omega
          · by_cases i0 : i = 0
            · subst i0; rw [tC_0] at hi; cases hi; rw [hC s] at hs; cases hs
            · by_cases i1 : i = 1
              · subst i1; rw [tC_1] at hi; cases hi
              · rw [tC_no i0 i1] at hi; cases hi
        · exact e hx
    · rw [tC_no h0 h1]; unfold nullT; rw [if_neg h0]
/-- One name less. -/
theorem unlink_one (hp : namesOf p = some [nm]) (hl : C.lookup nm = some 1) : unlinkE (tC C b x) p = 0 ∧ unlinkN (tC C b x) p = sweepT (tC (C.filter (fun y => y.1 != nm)) b x) := by
  have hq := root_place (T := tC C b x) tC_0 hp
  have hE : unlinkE (tC C b x) p = 0 := by
    unfold unlinkE
    rw [hq]
    simp only
    rw [if_neg (by simp), hasT_eq tC_0, hl]
    simp [manyT, tC_1]
  refine ⟨hE, ?_⟩
  unfold unlinkN
  rw [if_neg (fun h => h hE), hq]
  simp only
  rw [delT_eq (T := tC C b x) tC_0 nm, tC_set0]
theorem unlink_miss (hp : namesOf p = some [nm]) (hl : C.lookup nm = none) : unlinkE (tC C b x) p = 7 := by
  have hq := root_place (T := tC C b x) tC_0 hp
  unfold unlinkE
  rw [hq]
  simp only
  rw [if_neg (by simp), hasT_eq tC_0, hl]
theorem hold_one : holdE (tC C b x) 1 1 = 0 ∧ holdN (tC C b x) 1 1 = tC C b (x + 1) := by
  refine ⟨by unfold holdE; rw [tC_1]; simp only; rw [if_neg (by omega)], ?_⟩
  unfold holdN
  rw [tC_1]
  simp only
  rw [if_neg (by omega), tC_set1, show ((x : Int) + 1).toNat = x + 1 by omega]
  exact sweep_held (by omega)
theorem drop_one (hC : C = []) : holdE (tC C b 1) 1 (-1) = 0 ∧ holdN (tC C b 1) 1 (-1) = nullT := by
  subst hC
  refine ⟨by unfold holdE; rw [tC_1]; simp, ?_⟩
  unfold holdN
  rw [tC_1]
  simp only
  rw [if_neg (by omega), tC_set1]
  exact sweep_gone (fun s => rfl) (by omega) rfl
end
end Go.Proofs.YtjkneekfijibiabGreatDoor

namespace Go.Proofs.YtjkneekfijibiabGreatDoor
open Go.RowKit Go.Maps

section
variable {α β : Type} {F : Int → Option α} {G : Int → Option β} {n n' : Nat} {k : Int}
theorem IsN.congr (h : IsN F n) (he : ∀ x, (G x).isSome = (F x).isSome) : IsN G n := by
  obtain ⟨ks, a, b, c⟩ := h
  exact ⟨ks, a, b, fun x => by rw [he]; exact c x⟩
theorem IsN.add (h : IsN F n) (hk : F k = none) (v : α) : IsN (fun i => if i = k then some v else F i) (n + 1) := by
  obtain ⟨ks, a, rfl, c⟩ := h
  refine ⟨k :: ks, List.nodup_cons.2 ⟨fun hm => ?_, a⟩, rfl, fun x => ?_⟩
  · have := (c k).1 hm; rw [hk] at this; cases this
  · by_cases e : x = k
    · simp [e]
    · show x ∈ k :: ks ↔ (if x = k then some v else F x).isSome = true
      rw [List.mem_cons, if_neg e, ← c x]; simp [e]
theorem IsN.del (h : IsN F n) (hk : (F k).isSome = true) : 1 ≤ n ∧ IsN (fun i => if i = k then none else F i) (n - 1) := by
  obtain ⟨ks, a, rfl, c⟩ := h
  have hm := (c k).2 hk
  refine ⟨List.length_pos_of_mem hm, ks.erase k, a.erase k, List.length_erase_of_mem hm, fun x => ?_⟩
  rw [a.mem_erase_iff]
  by_cases e : x = k
  · simp [e]
  · show x ≠ k ∧ x ∈ ks ↔ (if x = k then none else F x).isSome = true
    rw [if_neg e, ← c x]; simp [e]
theorem IsN.pos (h : IsN F n) (hk : (F k).isSome = true) : 1 ≤ n := (h.del hk).1
theorem IsN.nil (h : ∀ x, F x = none) : IsN F 0 := ⟨[], List.nodup_nil, rfl, fun x => by rw [h x]; simp⟩
theorem IsN.le (h : IsN F n) (h' : IsN G n') (hs : ∀ x, (G x).isSome = true → (F x).isSome = true) : n' ≤ n := by
  obtain ⟨a, _, rfl, ma⟩ := h
  obtain ⟨b, hb, rfl, mb⟩ := h'
  exact int_sub hb (fun x hx => (ma x).2 (hs x ((mb x).1 hx)))
theorem IsN.le1 (h : IsN F n) (h' : IsN G n') (hs : ∀ x, (G x).isSome = true → (F x).isSome = true ∨ x = k) : n' ≤ n + 1 := by
  obtain ⟨a, _, rfl, ma⟩ := h
  obtain ⟨b, hb, rfl, mb⟩ := h'
  exact int_sub (b := k :: a) hb (fun x hx => by
    rcases hs x ((mb x).1 hx) with z | z
    · exact List.mem_cons_of_mem _ ((ma x).2 z)
    · rw [z]; exact List.mem_cons_self)
end
/-- An ENTRY's kind, and node. -/
abbrev Kn := Int → Option (Int × Int)
def knE (E : Int → Option En) : Kn := fun d => (E d).map (fun e => (e.kind, e.node))
/-- ENTRIES of a file. -/
def fe (K : Kn) (n : Int) : Int → Option Unit := fun d => if K d = some (1, n) then some () else none
theorem fe_some {K : Kn} {n d : Int} : (fe K n d).isSome = true ↔ K d = some (1, n) := by
  unfold fe
  split
  · rename_i h; simp [h]
  · rename_i h; simp [h]
/-- Files alone, all in the root; each is held as often as ENTRIES are of it. -/
structure Fl (T : Wd) (K : Kn) : Prop where
  dir : ∀ k C, T k = some (.dir C) → k = 0
  nms : ∀ C, T 0 = some (.dir C) → ∀ x ∈ C, namesOf (47 :: x.1) = some [x.1]
  cnt : ∀ n b x, T n = some (.file b x) → IsN (fe K n) x
  has : ∀ d n, K d = some (1, n) → ∃ b x, T n = some (.file b x)
section
variable {T : Wd} {K : Kn} {n d k : Int} {b b' p : List UInt8} {x : Nat} {c : Int × Int} {nm : Nm}
theorem sweep_root {C : List (Nm × Int)} (h : T 0 = some (.dir C)) : sweepT T 0 = some (.dir C) := by
  rw [sweepT_stay (fun _ _ => .inl (.inl rfl))]; exact h
theorem Fl.sweep (h : Fl T K) : Fl (sweepT T) K := by
  refine ⟨fun k C e => h.dir k C (sweepT_sub e), fun C e => h.nms C (sweepT_sub e), fun n b x e => h.cnt n b x (sweepT_sub e), fun d n e => ?_⟩
  obtain ⟨b, x, hn⟩ := h.has d n e
  refine ⟨b, x, ?_⟩
  rw [sweepT_stay (fun nd hnd => ?_)]
  · exact hn
  · rw [hn] at hnd
    cases hnd
    have := (h.cnt n b x hn).pos (k := d) (fe_some.2 e)
    exact .inr (show x ≠ 0 by omega)
/-- One file turned. -/
theorem Fl.turn (h : Fl T K) {K' : Kn} {x' : Nat} (_hn : T n = some (.file b x)) (hc : IsN (fe K' n) x') (ho : ∀ m y, m ≠ n → IsN (fe K m) y → IsN (fe K' m) y) (hk : ∀ d m, K' d = some (1, m) → m = n ∨ K d = some (1, m)) : Fl (setT T n (.file b' x')) K' := by
  refine ⟨fun k C e => ?_, fun C e => ?_, fun m b9 x9 e => ?_, fun d m e => ?_⟩
  · by_cases e1 : k = n
    · rw [e1, setT_same] at e; cases e
    · rw [setT_other _ e1] at e; exact h.dir k C e
  · by_cases e1 : (0 : Int) = n
    · rw [e1, setT_same] at e; cases e
    · rw [setT_other _ e1] at e; exact h.nms C e
  · by_cases e1 : m = n
    · rw [e1, setT_same] at e; cases e; rw [e1]; exact hc
    · rw [setT_other _ e1] at e; exact ho m x9 e1 (h.cnt m b9 x9 e)
  · by_cases e1 : m = n
    · rw [e1, setT_same]; exact ⟨_, _, rfl⟩
    · rw [setT_other _ e1]
      rcases hk d m e with z | z
      · exact absurd z e1
      · exact h.has d m z
theorem Fl.same_file (h : Fl T K) (hn : T n = some (.file b x)) : Fl (setT T n (.file b' x)) K := h.turn hn (h.cnt n b x hn) (fun _ _ _ z => z) (fun _ _ z => .inr z)
/-- One ENTRY more of a file. -/
theorem Fl.hold (h : Fl T K) (hn : T n = some (.file b x)) (hd : K d = none) : Fl (setT T n (.file b' (x + 1))) (fun i => if i = d then some (1, n) else K i) := by
  refine h.turn hn (((h.cnt n b x hn).add (k := d) (by unfold fe; rw [hd]; simp) ()).congr (fun y => ?_)) (fun m y hm z => z.congr (fun i => ?_)) (fun i m e => ?_)
  · unfold fe
    by_cases e1 : y = d
    · simp [e1]
    · simp [e1]
  · unfold fe
    by_cases e1 : i = d
    · have : ¬ ((n : Int) = m) := fun e => hm e.symm
      simp [e1, hd, this]
    · simp [e1]
  · by_cases e1 : i = d
    · simp only [e1, if_true, Option.some.injEq, Prod.mk.injEq, true_and] at e
      exact .inl e.symm
    · rw [if_neg e1] at e; exact .inr e
/-- One ENTRY less of a file. -/
theorem Fl.drop (h : Fl T K) (hn : T n = some (.file b x)) (hd : K d = some (1, n)) : 1 ≤ x ∧ Fl (setT T n (.file b' (x - 1))) (fun i => if i = d then none else K i) := by
  obtain ⟨h1, h2⟩ := (h.cnt n b x hn).del (k := d) (fe_some.2 hd)
  refine ⟨h1, h.turn hn (h2.congr (fun y => ?_)) (fun m y hm z => z.congr (fun i => ?_)) (fun i m e => ?_)⟩
  · unfold fe
    by_cases e1 : y = d
    · simp [e1]
    · simp [e1]
  · unfold fe
    by_cases e1 : i = d
    · have : ¬ ((n : Int) = m) := fun e => hm e.symm
      simp [e1, hd, this]
    · simp [e1]
  · by_cases e1 : i = d
    · rw [if_pos e1] at e; cases e
    · rw [if_neg e1] at e; exact .inr e
/-- ENTRIES that are no file's. -/
theorem Fl.other (h : Fl T K) {K' : Kn} (hk : ∀ i m, K' i = some (1, m) ↔ K i = some (1, m)) : Fl T K' :=
  ⟨h.dir, h.nms, fun n b x e => (h.cnt n b x e).congr (fun i => by
    have a := fe_some (K := K') (n := n) (d := i)
    have b := fe_some (K := K) (n := n) (d := i)
    rw [Bool.eq_iff_iff, a, b, hk]), fun d n e => h.has d n ((hk d n).1 e)⟩
theorem Fl.addO (h : Fl T K) (hd : K d = none) (hc : c.1 ≠ 1) : Fl T (fun i => if i = d then some c else K i) := h.other (fun i m => by
  by_cases e1 : i = d
  · rw [if_pos e1, e1, hd]
    exact ⟨fun e => absurd (by rw [Option.some.inj e]) hc, fun e => (by cases e)⟩
  · rw [if_neg e1])
theorem Fl.delO (h : Fl T K) (hd : K d = some c) (hc : c.1 ≠ 1) : Fl T (fun i => if i = d then none else K i) := h.other (fun i m => by
  by_cases e1 : i = d
  · rw [if_pos e1, e1, hd]
    exact ⟨fun e => (by cases e), fun e => absurd (by rw [Option.some.inj e]) hc⟩
  · rw [if_neg e1])
/-- A file more, in the root. -/
theorem Fl.make (h : Fl T K) {C : List (Nm × Int)} (h0 : T 0 = some (.dir C)) (hk : T k = none) (hnm : namesOf (47 :: nm) = some [nm]) : Fl (addT (setT T k (.file [] 0)) 0 nm k) K := by
  have hk0 : k ≠ 0 := fun e => by rw [e, h0] at hk; cases hk
  have h00 : setT T k (.file [] 0) 0 = some (.dir C) := by rw [setT_other _ (Ne.symm hk0)]; exact h0
  rw [addT_eq h00]
  have hz : ∀ m, m ≠ 0 → setT (setT T k (.file [] 0)) 0 (.dir ((nm, k) :: C)) m = if m = k then some (.file [] 0) else T m := fun m hm => by
    rw [setT_other _ hm]; rfl
  refine ⟨fun m C9 e => ?_, fun C9 e => ?_, fun m b9 x9 e => ?_, fun d m e => ?_⟩
  · by_cases e1 : m = 0
    · exact e1
    · rw [hz m e1] at e
      by_cases e2 : m = k
      · rw [if_pos e2] at e; cases e
      · rw [if_neg e2] at e; exact h.dir m C9 e
  · rw [setT_same] at e
    cases e
    intro y hy
    rcases List.mem_cons.1 hy with rfl | hy
    · exact hnm
    · exact h.nms C h0 y hy
  · by_cases e1 : m = 0
    · rw [e1, setT_same] at e; cases e
    · rw [hz m e1] at e
      by_cases e2 : m = k
      · rw [if_pos e2] at e
        cases e
        refine IsN.nil (fun i => ?_)
        unfold fe
        rw [if_neg (fun z => ?_)]
        obtain ⟨b, x, hb⟩ := h.has i m z
        rw [e2, hk] at hb; cases hb
      · rw [if_neg e2] at e; exact h.cnt m b9 x9 e
  · obtain ⟨b, x, hb⟩ := h.has d m e
    have hm0 : m ≠ 0 := fun e => by rw [e, h0] at hb; cases hb
    have hmk : m ≠ k := fun e => by rw [e, hk] at hb; cases hb
    exact ⟨b, x, by rw [hz m hm0, if_neg hmk]; exact hb⟩
/-- A name less, of the root. -/
theorem Fl.del (h : Fl T K) {C : List (Nm × Int)} (h0 : T 0 = some (.dir C)) : Fl (delT T 0 nm) K := by
  rw [delT_eq h0]
  refine ⟨fun m C9 e => ?_, fun C9 e => ?_, fun m b9 x9 e => ?_, fun d m e => ?_⟩
  · by_cases e1 : m = 0
    · exact e1
    · rw [setT_other _ e1] at e; exact h.dir m C9 e
  · rw [setT_same] at e
    cases e
    intro y hy
    exact h.nms C h0 y (List.mem_filter.1 hy).1
  · by_cases e1 : m = 0
    · rw [e1, setT_same] at e; cases e
    · rw [setT_other _ e1] at e; exact h.cnt m b9 x9 e
  · obtain ⟨b, x, hb⟩ := h.has d m e
    have hm0 : m ≠ 0 := fun e => by rw [e, h0] at hb; cases hb
    exact ⟨b, x, by rw [setT_other _ hm0]; exact hb⟩
/-- The root's children are files. -/
theorem Fl.child (h : Fl T K) (hT : TrLv T) {C : List (Nm × Int)} (h0 : T 0 = some (.dir C)) {s : Nm} (hl : C.lookup s = some n) : n ≠ 0 ∧ ∃ b x, T n = some (.file b x) := by
  have hn0 : n ≠ 0 := fun e => by
    subst e
    have h1 := cntTo_ge (T := T) (k := 0) (i := 0) 64 (by omega)
    have h2 := cnt1_mem (lookup_mem hl)
    have h3 := hT.nr
    rw [show ((0 : Nat) : Int) = 0 from rfl, h0] at h1
    unfold cntT at h3
    omega
  refine ⟨hn0, ?_⟩
  obtain ⟨nd, hnd⟩ := Option.isSome_iff_exists.1 (hT.child 0 C s n h0 hl)
  cases nd with
  | dir C9 => exact absurd (h.dir n C9 hnd) hn0
  | file b x => exact ⟨b, x, hnd⟩
theorem Fl.place (h : Fl T K) (hT : TrLv T) (hp : (placeT T p).2.2 = 0) : ∃ nm, placeT T p = (0, nm, 0) ∧ namesOf (47 :: nm) = some [nm] := by
  obtain ⟨C, h0⟩ := hT.root
  obtain ⟨nm, hn⟩ := place_name h0 (fun s n hl D e => by
    obtain ⟨hn0, b, x, hb⟩ := h.child hT h0 hl
    rw [hb] at e; cases e) hp
  refine ⟨nm, root_place h0 hn, ?_⟩
  obtain ⟨e1, e2⟩ := names_text hn
  have e3 := text_names e2
  rw [ptx_ne (by simp), jn_cons, jn_nil, List.append_nil] at e3
  exact e3
theorem Fl.unlink (h : Fl T K) (hT : TrLv T) (p : List UInt8) : Fl (unlinkN T p) K := by
  unfold unlinkN
  split
  · exact h
  · rename_i hE
    have hp : (placeT T p).2.2 = 0 := Classical.byContradiction (fun hp => hE (by unfold unlinkE; rw [if_pos hp]; exact hp))
    obtain ⟨nm, e, _⟩ := h.place hT hp
    obtain ⟨C, h0⟩ := hT.root
    rw [e]
    exact (h.del h0).sweep
end
end Go.Proofs.YtjkneekfijibiabGreatDoor

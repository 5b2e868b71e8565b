/- A tree with one file, by names of the root alone: what is found, linked, taken away, held. -/
import Derived.Test.YtjkneekfijibiabGreatDoorXSm
import Derived.Test.YtjkneekfijibiabGreatDoorQAll2
namespace Go.Proofs.YtjkneekfijibiabGreatDoor
open Go.RowKit Go.Maps

theorem null_num : IsNum nullT 1 := ⟨[0], by simp, rfl, fun x => by
  unfold nullT
  by_cases e : x = 0
  · simp [e]
  · simp [e]⟩
theorem null_free : IsFree nullT 1 := ⟨by omega, rfl, fun j h0 h1 => by
  obtain rfl : j = 0 := by omega
  rfl⟩
/-- The root, with these names; and one file. -/
def tC (C : List (Nm × Int)) (b : List UInt8) (x : Nat) : Wd := fun k => if k = 0 then some (.dir C) else if k = 1 then some (.file b x) else none
section
variable {C : List (Nm × Int)} {b : List UInt8} {x : Nat} {T : Wd} {p q : List UInt8} {nm : Nm}
theorem tC_0 : tC C b x 0 = some (.dir C) := rfl
theorem tC_1 : tC C b x 1 = some (.file b x) := rfl
theorem tC_no {k : Int} (h0 : k ≠ 0) (h1 : k ≠ 1) : tC C b x k = none := by unfold tC; rw [if_neg h0, if_neg h1]
theorem tC_num : IsNum (tC C b x) 2 := ⟨[0, 1], by simp, rfl, fun k => by
  by_cases h0 : k = 0
  · subst h0; simp [tC_0]
  · by_cases h1 : k = 1
    · subst h1; simp [tC_1]
    · rw [tC_no h0 h1]; simp [h0, h1]⟩
theorem tC_set0 (D : List (Nm × Int)) : setT (tC C b x) 0 (.dir D) = tC D b x := by
  funext k
  unfold setT tC
  by_cases h0 : k = 0
  · simp [h0]
  · simp [h0]
theorem tC_set1 (b' : List UInt8) (x' : Nat) : setT (tC C b x) 1 (.file b' x') = tC C b' x' := by
  funext k
  unfold setT tC
  by_cases h0 : k = 0
  · simp [h0]
  · by_cases h1 : k = 1
    · simp [h1]
    · simp [h0, h1]

/-- A name of the root. -/
theorem root_place (h0 : T 0 = some (.dir C)) (hp : namesOf p = some [nm]) : placeT T p = (0, nm, 0) := by
  unfold placeT
  rw [hp]
  simp [leadT, h0]
theorem root_find {n : Int} (h0 : T 0 = some (.dir C)) (hp : namesOf p = some [nm]) (hl : C.lookup nm = some n) : findT T p = (n, 0) := by
  unfold findT
  rw [hp]
  simp only
  rw [leadT_step [] h0 hl, leadT_nil]
theorem root_miss (h0 : T 0 = some (.dir C)) (hp : namesOf p = some [nm]) (hl : C.lookup nm = none) : findT T p = (0, 7) := by
  unfold findT
  rw [hp]
  simp only
  rw [leadT_miss [] h0 hl]
theorem place_name (h0 : T 0 = some (.dir C)) (h1 : ∀ s n, C.lookup s = some n → ∀ D, T n ≠ some (.dir D)) (h : (placeT T p).2.2 = 0) : ∃ nm, namesOf p = some [nm] := by
  unfold placeT at h
  cases hn : namesOf p with
  | none => rw [hn] at h; simp at h
  | some l =>
    rw [hn] at h
    cases l with
    | nil => simp at h
    | cons s r => cases r with
      | nil => exact ⟨s, rfl⟩
      | cons t r =>
        exfalso
        have hd : (s :: t :: r).dropLast = s :: (t :: r).dropLast := rfl
        simp only [hd, if_neg (List.cons_ne_nil s (t :: r))] at h
        cases hl : C.lookup s with
        | none => rw [leadT_miss _ h0 hl] at h; simp at h
        | some n =>
          rw [leadT_step _ h0 hl] at h
          cases hr : (t :: r).dropLast with
          | nil =>
            rw [hr, leadT_nil] at h
            have hx := h1 s n hl
            simp only [if_neg (show ¬ (0 : Int) ≠ 0 by simp)] at h
            omega
          | cons u v => rw [hr, leadT_file _ (h1 s n hl)] at h; simp at h

/-- A file made in an empty tree. -/
theorem make_null (h : makeE nullT 1 p = 0) : ∃ nm, namesOf p = some [nm] ∧ isName nm = true ∧ makeN nullT p false 1 = tC [(nm, 1)] [] 0 := by
  obtain ⟨e1, _, hi, _⟩ := makeE_zero nullT_lv.toTrOk h
  obtain ⟨nm, hn⟩ := place_name (T := nullT) (C := []) rfl (fun s n e => by cases e) e1
  have hp := root_place (T := nullT) (C := []) rfl hn
  rw [hp] at hi
  refine ⟨nm, hn, hi, ?_⟩
  unfold makeN
  rw [hp]
  have hs : setT nullT 1 (newNd false) = tC [] [] 0 := by
    funext k
    unfold setT nullT tC newNd
    by_cases h0 : k = 0
    · simp [h0]
    · by_cases h1 : k = 1
      · simp [h1]
      · simp [h0, h1]
  rw [hs]
  exact (addT_eq (T := tC [] [] 0) tC_0 nm 1).trans (tC_set0 _)

/-- All names are the file's. -/
def AllOne (C : List (Nm × Int)) : Prop := ∀ s n, C.lookup s = some n → n = 1
theorem AllOne.nodir (h : AllOne C) : ∀ s n, C.lookup s = some n → ∀ D, tC C b x n ≠ some (.dir D) := fun s n e D => by
  rw [h s n e, tC_1]; simp
theorem AllOne.cons (h : AllOne C) (nm : Nm) : AllOne ((nm, 1) :: C) := fun s n e => by
  rw [List.lookup_cons] at e
  split at e
  · cases e; rfl
  · exact h s n e
theorem AllOne.filter (h : AllOne C) (nm : Nm) : AllOne (C.filter (fun x => x.1 != nm)) := fun s n e => by
  rw [lookup_del] at e
  split at e
  · cases e
  · exact h s n e

/-- One name more. -/
theorem link_one (hA : AllOne C) (hp : namesOf p = some [nm]) (hl : C.lookup nm = some 1) (h : linkE (tC C b x) p q = 0) : ∃ nm2, namesOf q = some [nm2] ∧ C.lookup nm2 = none ∧ linkN (tC C b x) p q = tC ((nm2, 1) :: C) b x := by
  have hf := root_find (T := tC C b x) tC_0 hp hl
  have h' := h
  unfold linkE at h
  rw [hf] at h
  simp only at h
  rw [if_neg (by simp), if_neg (by simp [isDirT, tC_1])] at h
  by_cases e : (placeT (tC C b x) q).2.2 = 0
  · obtain ⟨nm2, hn⟩ := place_name (T := tC C b x) tC_0 hA.nodir e
    have hq := root_place (T := tC C b x) tC_0 hn
    rw [if_neg (fun h9 => h9 e), hq] at h
    simp only at h
    rw [hasT_eq tC_0] at h
    cases hl2 : C.lookup nm2 with
    | some n => rw [hl2] at h; simp at h
    | none =>
      refine ⟨nm2, hn, hl2, ?_⟩
      unfold linkN
      rw [if_neg (fun h9 => h9 h'), hq, hf]
      exact (addT_eq (T := tC C b x) tC_0 nm2 1).trans (tC_set0 _)
  · rw [if_pos e] at h; exact absurd h e
theorem link_can (hp : namesOf p = some [nm]) (hl : C.lookup nm = some 1) {nm2 : Nm} (hq : namesOf q = some [nm2]) (hl2 : C.lookup nm2 = none) : linkE (tC C b x) p q = 0 := by
  unfold linkE
  rw [root_find (T := tC C b x) tC_0 hp hl, root_place (T := tC C b x) tC_0 hq]
  simp only
  rw [if_neg (by simp), if_neg (by simp [isDirT, tC_1]), if_neg (by simp), hasT_eq tC_0, hl2]
  simp

theorem sweep_held (hx : x ≠ 0) : sweepT (tC C b x) = tC C b x := by
  funext k
  unfold sweepT
  by_cases h0 : k = 0
  · subst h0; rw [tC_0]; simp only; rw [if_pos (.inl (.inl rfl))]
  · by_cases h1 : k = 1
    · subst h1; rw [tC_1]; simp only; rw [if_pos (.inr hx)]
    · rw [tC_no h0 h1]
theorem sweep_named {s : Nm} (hl : C.lookup s = some 1) : sweepT (tC C b x) = tC C b x := by
  funext k
  unfold sweepT
  by_cases h0 : k = 0
  · subst h0; rw [tC_0]; simp only; rw [if_pos (.inl (.inl rfl))]
  · by_cases h1 : k = 1
    · subst h1; rw [tC_1]; simp only; rw [if_pos (.inl (.inr ⟨0, C, s, tC_0, hl⟩))]
    · rw [tC_no h0 h1]
theorem sweep_gone (hC : ∀ s, C.lookup s = none) (hx : x = 0) (hn : C = []) : sweepT (tC C b x) = nullT := by
  funext k
  unfold sweepT
  by_cases h0 : k = 0
  · subst h0; rw [tC_0]; simp only; rw [if_pos (.inl (.inl rfl)), hn]; rfl
  · by_cases h1 : k = 1
    · subst h1; rw [tC_1]; simp only
      rw [if_neg]
      · rfl
      · rintro (e | e)
        · rcases e with e | ⟨i, D, s, hi, hs⟩
          · omega
          · by_cases i0 : i = 0
            · subst i0; rw [tC_0] at hi; cases hi; rw [hC s] at hs; cases hs
            · by_cases i1 : i = 1
              · subst i1; rw [tC_1] at hi; cases hi
              · rw [tC_no i0 i1] at hi; cases hi
        · exact e hx
    · rw [tC_no h0 h1]; unfold nullT; rw [if_neg h0]
/-- One name less. -/
theorem unlink_one (hp : namesOf p = some [nm]) (hl : C.lookup nm = some 1) : unlinkE (tC C b x) p = 0 ∧ unlinkN (tC C b x) p = sweepT (tC (C.filter (fun y => y.1 != nm)) b x) := by
  have hq := root_place (T := tC C b x) tC_0 hp
  have hE : unlinkE (tC C b x) p = 0 := by
    unfold unlinkE
    rw [hq]
    simp only
    rw [if_neg (by simp), hasT_eq tC_0, hl]
    simp [manyT, tC_1]
  refine ⟨hE, ?_⟩
  unfold unlinkN
  rw [if_neg (fun h => h hE), hq]
  simp only
  rw [delT_eq (T := tC C b x) tC_0 nm, tC_set0]
theorem unlink_miss (hp : namesOf p = some [nm]) (hl : C.lookup nm = none) : unlinkE (tC C b x) p = 7 := by
  have hq := root_place (T := tC C b x) tC_0 hp
  unfold unlinkE
  rw [hq]
  simp only
  rw [if_neg (by simp), hasT_eq tC_0, hl]
theorem hold_one : holdE (tC C b x) 1 1 = 0 ∧ holdN (tC C b x) 1 1 = tC C b (x + 1) := by
  refine ⟨by unfold holdE; rw [tC_1]; simp only; rw [if_neg (by omega)], ?_⟩
  unfold holdN
  rw [tC_1]
  simp only
  rw [if_neg (by omega), tC_set1, show ((x : Int) + 1).toNat = x + 1 by omega]
  exact sweep_held (by omega)
theorem drop_one (hC : C = []) : holdE (tC C b 1) 1 (-1) = 0 ∧ holdN (tC C b 1) 1 (-1) = nullT := by
  subst hC
  refine ⟨by unfold holdE; rw [tC_1]; simp, ?_⟩
  unfold holdN
  rw [tC_1]
  simp only
  rw [if_neg (by omega), tC_set1]
  exact sweep_gone (fun s => rfl) (by omega) rfl
end
end Go.Proofs.YtjkneekfijibiabGreatDoor

namespace Go.Proofs.YtjkneekfijibiabGreatDoor
open Go.RowKit Go.Maps

abbrev nmX : List (Nm × Int) := [([120], 1)]
abbrev pX : List UInt8 := [47, 120]
/-- One ENTRY: the file's bytes, how often it is held, numbers, the place. -/
def dA (b : List UInt8) (x : Nat) (c p : Int) : DS := ⟨tC nmX b x, fun i => if i = 1 then some ⟨1, 3, 1, 0, p⟩ else none, fun i => if i = 1 then some c else none, fun _ => none, 1⟩
/-- Two. -/
def dB (b : List UInt8) (x : Nat) (c p q : Int) : DS := ⟨tC nmX b x, fun i => if i = 2 then some ⟨1, 1, 1, 0, q⟩ else if i = 1 then some ⟨1, 3, 1, 0, p⟩ else none, fun i => if i = 2 then some 1 else if i = 1 then some c else none, fun _ => none, 2⟩
abbrev n1 : Ns := [(1, false), (0, false), (0, false), (0, false), (0, false), (0, false), (0, false), (0, false)]
abbrev n2 : Ns := [(1, false), (1, false), (0, false), (0, false), (0, false), (0, false), (0, false), (0, false)]
abbrev n3 : Ns := [(1, false), (1, false), (2, false), (0, false), (0, false), (0, false), (0, false), (0, false)]
abbrev n4 : Ns := [(0, false), (1, false), (0, false), (0, false), (0, false), (0, false), (0, false), (0, false)]
theorem pX_names : namesOf pX = some [[120]] := by decide
theorem over_end (b x : List UInt8) : overT b b.length x = b ++ x := by
  unfold overT padT
  simp
section
variable {b s u : List UInt8} {x : Nat} {c p q : Int}
theorem null_miss : findT nullT pX = (0, 7) := root_miss (T := nullT) (C := []) rfl pX_names rfl
theorem null_make : makeE nullT 1 pX = 0 := by
  unfold makeE
  rw [root_place (T := nullT) (C := []) rfl pX_names]
  rfl
theorem null_made : makeN nullT pX false 1 = tC nmX [] 0 := by
  obtain ⟨nm, h1, _, h3⟩ := make_null null_make
  rw [pX_names] at h1
  cases h1
  exact h3
theorem tX_find : findT (tC nmX b x) pX = (1, 0) := root_find (T := tC nmX b x) tC_0 pX_names rfl
theorem none_num : IsNum (noneD nullT).T 1 := null_num
theorem dA_T : (dA b x c p).T = tC nmX b x := rfl
/-- File, made. -/
theorem sc_file {k c' : Int} {D' : DS} {N' : Ns} (h : FileO (noneD nullT) (List.replicate 8 (0, false)) 0 1 pX 3 true k c' D' N') : k = 0 ∧ c' = 0 ∧ D' = dA [] 1 1 0 ∧ N' = n1 := by
  have h' : FileO (noneD nullT) (List.replicate 8 (0, false)) 0 1 pX 3 true (leastN (List.replicate 8 (0, false))) 0 (addD { noneD nullT with T := holdN (makeN (noneD nullT).T pX false 1) 1 1 } ⟨1, 3, 1, 0, 0⟩) (addN (noneD nullT) (List.replicate 8 (0, false))) :=
    .made ⟨by omega, by omega⟩ ⟨by decide, by omega⟩ (by show (findT nullT pX).2 = 7; rw [null_miss]) rfl null_make 1 null_free
  obtain ⟨rfl, rfl, rfl, rfl⟩ := h.one h'
  refine ⟨rfl, rfl, ?_, rfl⟩
  show addD { noneD nullT with T := holdN (makeN nullT pX false 1) 1 1 } ⟨1, 3, 1, 0, 0⟩ = _
  rw [null_made, hold_one.2]
  unfold addD dA noneD
  simp only [DS.mk.injEq]
  exact ⟨trivial, by funext i; simp, by funext i; simp, trivial, by omega⟩
/-- File, opened once more. -/
theorem sc_again {n s9 : Nat} {k c' : Int} {D' : DS} {N' : Ns} (hn : n < 40) (h : FileO (dA b x c p) n2 n s9 pX 1 false k c' D' N') : k = 2 ∧ c' = 0 ∧ D' = dB b (x + 1) c p 0 ∧ N' = n3 := by
  have h' : FileO (dA b x c p) n2 n s9 pX 1 false (leastN n2) 0 (addD { dA b x c p with T := holdN (dA b x c p).T (findT (dA b x c p).T pX).1 1 } ⟨1, 1, (findT (dA b x c p).T pX).1, 0, 0⟩) (addN (dA b x c p) n2) :=
    .opened ⟨by omega, by omega⟩ ⟨by decide, hn⟩ (by rw [dA_T, tX_find]) (by rw [dA_T, tX_find]; exact hold_one.1)
  obtain ⟨rfl, rfl, rfl, rfl⟩ := h.one h'
  refine ⟨rfl, rfl, ?_, rfl⟩
  rw [dA_T, tX_find, hold_one.2]
  unfold addD dA dB
  simp only [DS.mk.injEq]
  exact ⟨trivial, by funext i; simp, by funext i; simp, trivial, by omega⟩
theorem sc_dup : dupK n1 0 = 1 ∧ dupE n1 0 = 0 ∧ dupD (dA b x 1 p) n1 0 = dA b x 2 p ∧ dupN n1 0 = n2 := by
  refine ⟨by decide, by decide, ?_, by decide⟩
  unfold dupD
  rw [if_pos (by decide)]
  unfold dA
  simp only [DS.mk.injEq, true_and, and_true]
  funext i
  show (if i = 1 then some (((if i = 1 then some (1 : Int) else none).getD 0) + 1) else if i = 1 then some 1 else none) = if i = 1 then some 2 else none
  by_cases e : i = 1
  · simp [e]
  · simp [e]
theorem sc_inc (c : Int) : incR (dA b x c p) 1 = dA b x (c + 1) p := by
  have hc : (dA b x c p).R 1 = some c := rfl
  rw [incR_eq hc]
  unfold dA
  simp only [DS.mk.injEq, true_and, and_true]
  funext i
  by_cases e : i = 1
  · simp [e]
  · simp [e]
theorem sc_fork : forkD (dA b x 2 p) n2 = dA b x 4 p := by
  show incR (incR (dA b x 2 p) 1) 1 = _
  rw [sc_inc, sc_inc]
  rfl
theorem writeE_ok (h0 : 0 ≤ p) (h1 : p + s.length ≤ 200) : writeE (tC nmX b x) 1 p s = 0 := by
  unfold writeE
  have hf : fileT (tC nmX b x) 1 = 0 := rfl
  rw [if_neg (fun h => h hf), if_neg (by omega), if_neg (by omega)]
theorem writeN_end (h1 : b.length + s.length ≤ 200) : writeN (tC nmX b x) 1 (b.length : Int) s = tC nmX (b ++ s) x := by
  unfold writeN
  rw [writeE_ok (by omega) (by omega)]
  by_cases e : s = []
  · subst e; simp
  · rw [if_neg (by simp [e]), tC_1]
    simp only
    rw [tC_set1, show ((b.length : Int)).toNat = b.length by omega, over_end]
theorem few_much (h0 : 0 ≤ p) (h1 : p + s.length ≤ 100) : ¬ tooMuch s 100 p := fun h => by have := h.2; omega
/-- Write, at the end. -/
theorem sc_write {N : Ns} {i : Nat} (hi : i < 8) (hiL : i < N.length) (hN : N[i].1 = 1) (h1 : b.length + s.length ≤ 100) : writeO (dA b x c b.length) N i s 100 = ((s.length : Int), 0, dA (b ++ s) x c ((b ++ s).length : Nat)) := by
  have he : (dA b x c b.length).E N[i].1 = some ⟨1, 3, 1, 0, b.length⟩ := by rw [hN]; rfl
  rw [writeO_file hi hiL (by omega) he rfl (by simp) (few_much (by simp only; omega) (by simp only; omega)) (writeE_ok (by simp only; omega) (by simp only; omega))]
  simp only [Prod.mk.injEq, true_and]
  rw [hN]
  unfold dA
  simp only [DS.mk.injEq, and_true]
  refine ⟨writeN_end (by omega), ?_⟩
  funext j
  by_cases e : j = 1
  · simp [e]
  · simp [e]
theorem sc_write_no {N : Ns} {i : Nat} (hi : i < 8) (hiL : i < N.length) (hN : N[i].1 = 2) : writeO (dB b x c p q) N i s 100 = (0, 13, dB b x c p q) := by
  have he : (dB b x c p q).E N[i].1 = some ⟨1, 1, 1, 0, q⟩ := by rw [hN]; rfl
  exact writeO_false hi hiL (by omega) he rfl
theorem read_tC (h0 : 0 ≤ p) : readS (tC nmX b x) 1 p 100 = (b.drop p.toNat).take 100 ∧ readE (tC nmX b x) 1 p 100 = 0 := by
  have hf : fileT (tC nmX b x) 1 = 0 := rfl
  refine ⟨?_, ?_⟩
  · unfold readS; rw [tC_1]; simp only; rw [if_neg (by omega)]; rfl
  · unfold readE; rw [if_neg (fun h => h hf), if_neg (by omega)]
/-- Read, by the elder ENTRY. -/
theorem sc_read1 {N : Ns} {i : Nat} (hi : i < 8) (hiL : i < N.length) (hN : N[i].1 = 1) (h0 : 0 ≤ p) : readO (dB b x c p q) N i 100 = ((b.drop p.toNat).take 100, 0, dB b x c (p + ((b.drop p.toNat).take 100).length) q) := by
  have he : (dB b x c p q).E N[i].1 = some ⟨1, 3, 1, 0, p⟩ := by rw [hN]; rfl
  rw [readO_file hi hiL (by omega) he rfl (by simp)]
  simp only
  rw [show (dB b x c p q).T = tC nmX b x from rfl, (read_tC h0).1, (read_tC h0).2, hN]
  simp only [Prod.mk.injEq, true_and]
  unfold dB
  simp only [DS.mk.injEq, true_and, and_true]
  funext j
  by_cases e : j = 1
  · simp [e]
  · simp [e]
theorem sc_read2 {N : Ns} {i : Nat} (hi : i < 8) (hiL : i < N.length) (hN : N[i].1 = 2) (h0 : 0 ≤ q) : readO (dB b x c p q) N i 100 = ((b.drop q.toNat).take 100, 0, dB b x c p (q + ((b.drop q.toNat).take 100).length)) := by
  have he : (dB b x c p q).E N[i].1 = some ⟨1, 1, 1, 0, q⟩ := by rw [hN]; rfl
  rw [readO_file hi hiL (by omega) he rfl (by simp)]
  simp only
  rw [show (dB b x c p q).T = tC nmX b x from rfl, (read_tC h0).1, (read_tC h0).2, hN]
  simp only [Prod.mk.injEq, true_and]
  unfold dB
  simp only [DS.mk.injEq, true_and, and_true]
  funext j
  by_cases e : j = 2
  · simp [e]
  · simp [e]
theorem sc_seekA (a : Int) (h : 0 ≤ a ∧ a ≤ 200) : seekE (dA b x c p) n2 1 a = 0 ∧ seekD (dA b x c p) n2 1 a = dA b x c a := by
  have h1 : seekE (dA b x c p) n2 1 a = 0 := by
    unfold seekE
    rw [if_pos (by decide)]
    show (if (1 : Int) ≠ 1 then (6 : Int) else if 0 ≤ a ∧ a ≤ 200 then 0 else 2) = 0
    rw [if_neg (by simp), if_pos h]
  refine ⟨h1, ?_⟩
  unfold seekD
  rw [if_pos h1]
  show ({ dA b x c p with E := fun i => if i = 1 then some ⟨1, 3, 1, 0, a⟩ else (dA b x c p).E i } : DS) = _
  unfold dA
  simp only [DS.mk.injEq, true_and, and_true]
  funext j
  by_cases e : j = 1
  · simp [e]
  · simp [e]
theorem sc_seekB (a : Int) (h : 0 ≤ a ∧ a ≤ 200) : seekE (dB b x c p q) n2 0 a = 0 ∧ seekD (dB b x c p q) n2 0 a = dB b x c a q := by
  have h1 : seekE (dB b x c p q) n2 0 a = 0 := by
    unfold seekE
    rw [if_pos (by decide)]
    show (if (1 : Int) ≠ 1 then (6 : Int) else if 0 ≤ a ∧ a ≤ 200 then 0 else 2) = 0
    rw [if_neg (by simp), if_pos h]
  refine ⟨h1, ?_⟩
  unfold seekD
  rw [if_pos h1]
  show ({ dB b x c p q with E := fun i => if i = 1 then some ⟨1, 3, 1, 0, a⟩ else (dB b x c p q).E i } : DS) = _
  unfold dB
  simp only [DS.mk.injEq, true_and, and_true]
  funext j
  by_cases e : j = 1
  · simp [e]
  · simp [e]
theorem sc_close : closeD (dB b x 4 p q) n2 0 = dB b x 3 p q ∧ closeN n2 0 = n4 := by
  refine ⟨?_, by decide⟩
  unfold closeD
  rw [if_pos (by decide)]
  show closeK (dB b x 4 p q) 1 = _
  unfold closeK
  rw [show (dB b x 4 p q).E 1 = some ⟨1, 3, 1, 0, p⟩ from rfl, show (dB b x 4 p q).R 1 = some 4 from rfl]
  simp only
  rw [if_pos (by omega)]
  unfold dB
  simp only [DS.mk.injEq, true_and, and_true]
  funext j
  by_cases e : j = 1
  · simp [e]
  · simp [e]
end
end Go.Proofs.YtjkneekfijibiabGreatDoor

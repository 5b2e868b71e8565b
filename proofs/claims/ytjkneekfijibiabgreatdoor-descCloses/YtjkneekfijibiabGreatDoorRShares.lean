/- One file that is open, by one or two ENTRIES: what each call comes to, plainly. -/
import Derived.Test.YtjkneekfijibiabGreatDoorQFile
import Derived.Test.YtjkneekfijibiabGreatDoorDFlat
import Derived.Test.YtjkneekfijibiabGreatDoorSRow
namespace Go.Proofs.YtjkneekfijibiabGreatDoor
open Go.RowKit Go.Maps

abbrev nmX : List (Nm × Int) := [([120], 1)]
abbrev pX : List UInt8 := [47, 120]
/-- One ENTRY: the file's bytes, how often it is held, numbers, the place. -/
def dA (b : List UInt8) (x : Nat) (c p : Int) : DS := ⟨tC nmX b x, fun i => if i = 1 then some ⟨1, 3, 1, 0, p⟩ else none, fun i => if i = 1 then some c else none, fun _ => none, 1⟩
/-- Two. -/
def dB (b : List UInt8) (x : Nat) (c p q : Int) : DS := ⟨tC nmX b x, fun i => if i = 2 then some ⟨1, 1, 1, 0, q⟩ else if i = 1 then some ⟨1, 3, 1, 0, p⟩ else none, fun i => if i = 2 then some 1 else if i = 1 then some c else none, fun _ => none, 2⟩
abbrev n1 : Ns := [(1, false), (0, false), (0, false), (0, false), (0, false), (0, false), (0, false), (0, false)]
abbrev n2 : Ns := [(1, false), (1, false), (0, false), (0, false), (0, false), (0, false), (0, false), (0, false)]
abbrev n3 : Ns := [(1, false), (1, false), (2, false), (0, false), (0, false), (0, false), (0, false), (0, false)]
abbrev n4 : Ns := [(0, false), (1, false), (0, false), (0, false), (0, false), (0, false), (0, false), (0, false)]
theorem pX_names : namesOf pX = some [[120]] := by decide
theorem over_end (b x : List UInt8) : overT b b.length x = b ++ x := by
  unfold overT padT
  simp
section
variable {b s u : List UInt8} {x : Nat} {c p q : Int}
theorem null_miss : findT nullT pX = (0, 7) := root_miss (T := nullT) (C := []) rfl pX_names rfl
theorem null_make : makeE nullT 1 pX = 0 := by
  unfold makeE
  rw [root_place (T := nullT) (C := []) rfl pX_names]
  rfl
theorem null_made : makeN nullT pX false 1 = tC nmX [] 0 := by
  obtain ⟨nm, h1, _, h3⟩ := make_null null_make
  rw [pX_names] at h1
  cases h1
  exact h3
theorem tX_find : findT (tC nmX b x) pX = (1, 0) := root_find (T := tC nmX b x) tC_0 pX_names rfl
theorem none_num : IsNum (noneD nullT).T 1 := null_num
theorem dA_T : (dA b x c p).T = tC nmX b x := rfl
/-- File, made. -/
theorem sc_file {k c' : Int} {D' : DS} {N' : Ns} (h : FileO (noneD nullT) (List.replicate 8 (0, false)) 0 1 pX 3 true k c' D' N') : k = 0 ∧ c' = 0 ∧ D' = dA [] 1 1 0 ∧ N' = n1 := by
  have h' : FileO (noneD nullT) (List.replicate 8 (0, false)) 0 1 pX 3 true (leastN (List.replicate 8 (0, false))) 0 (addD { noneD nullT with T := holdN (makeN (noneD nullT).T pX false 1) 1 1 } ⟨1, 3, 1, 0, 0⟩) (addN (noneD nullT) (List.replicate 8 (0, false))) :=
    .made ⟨by omega, by omega⟩ ⟨by decide, by omega⟩ (by show (findT nullT pX).2 = 7; rw [null_miss]) rfl null_make 1 null_free
  obtain ⟨rfl, rfl, rfl, rfl⟩ := h.one h'
  refine ⟨rfl, rfl, ?_, rfl⟩
  show addD { noneD nullT with T := holdN (makeN nullT pX false 1) 1 1 } ⟨1, 3, 1, 0, 0⟩ = _
  rw [null_made, hold_one.2]
  unfold addD dA noneD
  simp only [DS.mk.injEq]
  exact ⟨trivial, by funext i; simp, by funext i; simp, trivial, by omega⟩
/-- File, opened once more. -/
theorem sc_again {n s9 : Nat} {k c' : Int} {D' : DS} {N' : Ns} (hn : n < 40) (h : FileO (dA b x c p) n2 n s9 pX 1 false k c' D' N') : k = 2 ∧ c' = 0 ∧ D' = dB b (x + 1) c p 0 ∧ N' = n3 := by
  have h' : FileO (dA b x c p) n2 n s9 pX 1 false (leastN n2) 0 (addD { dA b x c p with T := holdN (dA b x c p).T (findT (dA b x c p).T pX).1 1 } ⟨1, 1, (findT (dA b x c p).T pX).1, 0, 0⟩) (addN (dA b x c p) n2) :=
    .opened ⟨by omega, by omega⟩ ⟨by decide, hn⟩ (by rw [dA_T, tX_find]) (by rw [dA_T, tX_find]; exact hold_one.1)
  obtain ⟨rfl, rfl, rfl, rfl⟩ := h.one h'
  refine ⟨rfl, rfl, ?_, rfl⟩
  rw [dA_T, tX_find, hold_one.2]
  unfold addD dA dB
  simp only [DS.mk.injEq]
  exact ⟨trivial, by funext i; simp, by funext i; simp, trivial, by omega⟩
theorem sc_dup : dupK n1 0 = 1 ∧ dupE n1 0 = 0 ∧ dupD (dA b x 1 p) n1 0 = dA b x 2 p ∧ dupN n1 0 = n2 := by
  refine ⟨by decide, by decide, ?_, by decide⟩
  unfold dupD
  rw [if_pos (by decide)]
  unfold dA
  simp only [DS.mk.injEq, true_and, and_true]
  funext i
  show (if i = 1 then some (((if i = 1 then some (1 : Int) else none).getD 0) + 1) else if i = 1 then some 1 else none) = if i = 1 then some 2 else none
  by_cases e : i = 1
  · simp [e]
  · simp [e]
theorem sc_inc (c : Int) : incR (dA b x c p) 1 = dA b x (c + 1) p := by
  have hc : (dA b x c p).R 1 = some c := rfl
  rw [incR_eq hc]
  unfold dA
  simp only [DS.mk.injEq, true_and, and_true]
  funext i
  by_cases e : i = 1
  · simp [e]
  · simp [e]
theorem sc_fork : forkD (dA b x 2 p) n2 = dA b x 4 p := by
  show incR (incR (dA b x 2 p) 1) 1 = _
  rw [sc_inc, sc_inc]
  rfl
theorem writeE_ok (h0 : 0 ≤ p) (h1 : p + s.length ≤ 200) : writeE (tC nmX b x) 1 p s = 0 := by
  unfold writeE
  have hf : fileT (tC nmX b x) 1 = 0 := rfl
  rw [if_neg (fun h => h hf), if_neg (by omega), if_neg (by omega)]
theorem writeN_end (h1 : b.length + s.length ≤ 200) : writeN (tC nmX b x) 1 (b.length : Int) s = tC nmX (b ++ s) x := by
  unfold writeN
  rw [writeE_ok (by omega) (by omega)]
  by_cases e : s = []
  · subst e; simp
  · rw [if_neg (by simp [e]), tC_1]
    simp only
    rw [tC_set1, show ((b.length : Int)).toNat = b.length by omega, over_end]
theorem few_much (h0 : 0 ≤ p) (h1 : p + s.length ≤ 100) : ¬ tooMuch s 100 p := fun h => by have := h.2; omega
/-- Write, at the end. -/
theorem sc_write {N : Ns} {i : Nat} (hi : i < 8) (hiL : i < N.length) (hN : N[i].1 = 1) (h1 : b.length + s.length ≤ 100) : writeO (dA b x c b.length) N i s 100 = ((s.length : Int), 0, dA (b ++ s) x c ((b ++ s).length : Nat)) := by
  have he : (dA b x c b.length).E N[i].1 = some ⟨1, 3, 1, 0, b.length⟩ := by rw [hN]; rfl
  rw [writeO_file hi hiL (by omega) he rfl (by simp) (few_much (by simp only; omega) (by simp only; omega)) (writeE_ok (by simp only; omega) (by simp only; omega))]
  simp only [Prod.mk.injEq, true_and]
  rw [hN]
  unfold dA
  simp only [DS.mk.injEq, and_true]
  refine ⟨writeN_end (by omega), ?_⟩
  funext j
  by_cases e : j = 1
  · simp [e]
  · simp [e]
theorem sc_write_no {N : Ns} {i : Nat} (hi : i < 8) (hiL : i < N.length) (hN : N[i].1 = 2) : writeO (dB b x c p q) N i s 100 = (0, 13, dB b x c p q) := by
  have he : (dB b x c p q).E N[i].1 = some ⟨1, 1, 1, 0, q⟩ := by rw [hN]; rfl
  exact writeO_false hi hiL (by omega) he rfl
theorem read_tC (h0 : 0 ≤ p) : readS (tC nmX b x) 1 p 100 = (b.drop p.toNat).take 100 ∧ readE (tC nmX b x) 1 p 100 = 0 := by
  have hf : fileT (tC nmX b x) 1 = 0 := rfl
  refine ⟨?_, ?_⟩
  · unfold readS; rw [tC_1]; simp only; rw [if_neg (by omega)]; rfl
  · unfold readE; rw [if_neg (fun h => h hf), if_neg (by omega)]
/-- Read, by the elder ENTRY. -/
theorem sc_read1 {N : Ns} {i : Nat} (hi : i < 8) (hiL : i < N.length) (hN : N[i].1 = 1) (h0 : 0 ≤ p) : readO (dB b x c p q) N i 100 = ((b.drop p.toNat).take 100, 0, dB b x c (p + ((b.drop p.toNat).take 100).length) q) := by
  have he : (dB b x c p q).E N[i].1 = some ⟨1, 3, 1, 0, p⟩ := by rw [hN]; rfl
  rw [readO_file hi hiL (by omega) he rfl (by simp)]
  simp only
  rw [show (dB b x c p q).T = tC nmX b x from rfl, (read_tC h0).1, (read_tC h0).2, hN]
  simp only [Prod.mk.injEq, true_and]
  unfold dB
  simp only [DS.mk.injEq, true_and, and_true]
  funext j
  by_cases e : j = 1
  · simp [e]
  · simp [e]
theorem sc_read2 {N : Ns} {i : Nat} (hi : i < 8) (hiL : i < N.length) (hN : N[i].1 = 2) (h0 : 0 ≤ q) : readO (dB b x c p q) N i 100 = ((b.drop q.toNat).take 100, 0, dB b x c p (q + ((b.drop q.toNat).take 100).length)) := by
  have he : (dB b x c p q).E N[i].1 = some ⟨1, 1, 1, 0, q⟩ := by rw [hN]; rfl
  rw [readO_file hi hiL (by omega) he rfl (by simp)]
  simp only
  rw [show (dB b x c p q).T = tC nmX b x from rfl, (read_tC h0).1, (read_tC h0).2, hN]
  simp only [Prod.mk.injEq, true_and]
  unfold dB
  simp only [DS.mk.injEq, true_and, and_true]
  funext j
  by_cases e : j = 2
  · simp [e]
  · simp [e]
theorem sc_seekA (a : Int) (h : 0 ≤ a ∧ a ≤ 200) : seekE (dA b x c p) n2 1 a = 0 ∧ seekD (dA b x c p) n2 1 a = dA b x c a := by
  have h1 : seekE (dA b x c p) n2 1 a = 0 := by
    unfold seekE
    rw [if_pos (by decide)]
    show (if (1 : Int) ≠ 1 then (6 : Int) else if 0 ≤ a ∧ a ≤ 200 then 0 else 2) = 0
    rw [if_neg (by simp), if_pos h]
  refine ⟨h1, ?_⟩
  unfold seekD
  rw [if_pos h1]
  show ({ dA b x c p with E := fun i => if i = 1 then some ⟨1, 3, 1, 0, a⟩ else (dA b x c p).E i } : DS) = _
  unfold dA
  simp only [DS.mk.injEq, true_and, and_true]
  funext j
  by_cases e : j = 1
  · simp [e]
  · simp [e]
theorem sc_seekB (a : Int) (h : 0 ≤ a ∧ a ≤ 200) : seekE (dB b x c p q) n2 0 a = 0 ∧ seekD (dB b x c p q) n2 0 a = dB b x c a q := by
  have h1 : seekE (dB b x c p q) n2 0 a = 0 := by
    unfold seekE
    rw [if_pos (by decide)]
    show (if (1 : Int) ≠ 1 then (6 : Int) else if 0 ≤ a ∧ a ≤ 200 then 0 else 2) = 0
    rw [if_neg (by simp), if_pos h]
  refine ⟨h1, ?_⟩
  unfold seekD
  rw [if_pos h1]
  show ({ dB b x c p q with E := fun i => if i = 1 then some ⟨1, 3, 1, 0, a⟩ else (dB b x c p q).E i } : DS) = _
  unfold dB
  simp only [DS.mk.injEq, true_and, and_true]
  funext j
  by_cases e : j = 1
  · simp [e]
  · simp [e]
theorem sc_close : closeD (dB b x 4 p q) n2 0 = dB b x 3 p q ∧ closeN n2 0 = n4 := by
  refine ⟨?_, by decide⟩
  unfold closeD
  rw [if_pos (by decide)]
  show closeK (dB b x 4 p q) 1 = _
  unfold closeK
  rw [show (dB b x 4 p q).E 1 = some ⟨1, 3, 1, 0, p⟩ from rfl, show (dB b x 4 p q).R 1 = some 4 from rfl]
  simp only
  rw [if_pos (by omega)]
  unfold dB
  simp only [DS.mk.injEq, true_and, and_true]
  funext j
  by_cases e : j = 1
  · simp [e]
  · simp [e]
end
end Go.Proofs.YtjkneekfijibiabGreatDoor

namespace Go.Proofs.YtjkneekfijibiabGreatDoor
open Go.RowKit Go.Maps

section
variable {w w' w2 w0 w1 : World} {f r n k : Nat} {D D' : DS} {bs : List Nat} {Ts : List Ns} {m c p q : Int} {b s u : List UInt8} {x t t2 : Nat}
theorem KW.sh1 (h : KW w0 w m f r (noneD nullT) [t] [zeroN] 0) :
    Calls Tryz.prog 42 #[wp f, wp t, .string ⟨#[47, 120]⟩, .int .i64 3, .bool true] w fun y w' => y = .returned (.tuple #[.int .i64 0, .nilIface]) ∧ KW w0 w' m f r (dA [] 1 1 0) [t] [n1] 2 := by
  obtain ⟨A, h1, hA, hb⟩ := h
  refine (h1.file (j := 0) (by omega) (by show (0 : Int) < 899; omega) (by simp) (n := 0) (s := 1) ⟨[], by simp, rfl, fun x => by simp [noneD]⟩ null_num pX (by simp) 3 true).mono ?_
  rintro y w' ⟨D', N', A', ⟨k, c', rfl, hF⟩, h2, st⟩
  obtain ⟨rfl, rfl, rfl, rfl⟩ := sc_file hF
  exact ⟨rfl, KW.step hA hb h2 st⟩
theorem KW.sh2 (h : KW w0 w m f r (dA b x 1 p) [t] [n1] k) :
    Calls Tryz.prog 43 #[wp f, wp t, .int .i64 0] w fun y w' => y = .returned (.tuple #[.int .i64 1, .nilIface]) ∧ KW w0 w' m f r (dA b x 2 p) [t] [n2] k := by
  obtain ⟨A, h1, hA, hb⟩ := h
  refine (h1.dup (j := 0) (by simp) 0).mono ?_
  rintro y w' ⟨D', N', A', ⟨rfl, rfl, rfl⟩, h2, st⟩
  obtain ⟨e1, e2, e3, e4⟩ := sc_dup (b := b) (x := x) (p := p)
  refine ⟨?_, ?_⟩
  · show Ending.returned (.tuple #[.int .i64 (dupK n1 0), uev (dupE n1 0)]) = _
    rw [e1, e2]; rfl
  · have h3 := KW.step hA hb h2 st
    rw [show dupD (dA b x 1 p) ([n1][0]) 0 = dA b x 2 p from e3] at h3
    exact h3
theorem KW.sh3 (h : KW w0 w m f r (dA b x 2 p) [t] [n2] k) :
    Calls Tryz.prog 29 #[wp f, wp t] w fun y w' => ∃ t2, y = .returned (wp t2) ∧ KW w0 w' m f r (dA b x 4 p) [t, t2] [n2, n2] k := by
  obtain ⟨A, h1, hA, hb⟩ := h
  refine (h1.fork (j := 0) (by simp) (by simp)).mono ?_
  rintro y w' ⟨A', rfl, h2, st⟩
  have h3 := KW.step hA hb h2 st
  rw [show forkD (dA b x 2 p) ([n2][0]) = dA b x 4 p from sc_fork] at h3
  exact ⟨_, rfl, h3⟩
/-- Write at the end, of whichever table. -/
theorem KW.shW (h : KW w0 w m f r (dA b x c b.length) bs Ts k) {j i : Nat} (hj : j < bs.length) (hjT : j < Ts.length) (hi : i < 8) (hiL : i < Ts[j].length) (hN : Ts[j][i].1 = 1) (s : List UInt8) (hs : b.length + s.length ≤ 100) :
    Calls Tryz.prog 44 #[wp f, wp bs[j], .int .i64 (i : Int), tx s, .int .i64 100] w fun y w' => y = .returned (.tuple #[.int .i64 (s.length : Int), .nilIface]) ∧ KW w0 w' m f r (dA (b ++ s) x c ((b ++ s).length : Nat)) bs Ts (k + 1) := by
  obtain ⟨A, h1, hA, hb⟩ := h
  refine (h1.write (j := j) hj i s (by omega) 100).mono ?_
  rintro y w' ⟨D', N', A', ⟨rfl, rfl, rfl⟩, h2, st⟩
  rw [sc_write hi hiL hN hs] at h2 ⊢
  refine ⟨rfl, ?_⟩
  have h3 := KW.step hA hb h2 st
  rw [List.set_getElem_self] at h3
  exact h3
theorem KW.sh6 (h : KW w0 w m f r (dA b x c p) [t, t2] [n2, n2] k) (hk : k ≤ 890) :
    Calls Tryz.prog 42 #[wp f, wp t2, .string ⟨#[47, 120]⟩, .int .i64 1, .bool false] w fun y w' => y = .returned (.tuple #[.int .i64 2, .nilIface]) ∧ KW w0 w' m f r (dB b (x + 1) c p 0) [t, t2] [n2, n3] (k + 2) := by
  obtain ⟨A, h1, hA, hb⟩ := h
  refine (h1.file (j := 1) hk (by show (1 : Int) < 899; omega) (by simp) (n := 1) (s := 2) ⟨[1], by simp, rfl, fun x => by
    by_cases e : x = 1
    · simp [dA, e]
    · simp [dA, e]⟩ tC_num pX (by simp) 1 false).mono ?_
  rintro y w' ⟨D', N', A', ⟨k, c', rfl, hF⟩, h2, st⟩
  obtain ⟨rfl, rfl, rfl, rfl⟩ := sc_again (by omega) hF
  exact ⟨rfl, KW.step hA hb h2 st⟩
theorem KW.shR1 (h : KW w0 w m f r (dB b x c p q) bs Ts k) {j i : Nat} (hj : j < bs.length) (hjT : j < Ts.length) (hi : i < 8) (hiL : i < Ts[j].length) (hN : Ts[j][i].1 = 1) (h0 : 0 ≤ p) {o : List UInt8} (ho : (b.drop p.toNat).take 100 = o) :
    Calls Tryz.prog 45 #[wp f, wp bs[j], .int .i64 (i : Int), .int .i64 100] w fun y w' => y = .returned (.tuple #[tx o, .nilIface]) ∧ KW w0 w' m f r (dB b x c (p + o.length) q) bs Ts k := by
  obtain ⟨A, h1, hA, hb⟩ := h
  refine (h1.read (j := j) hj i 100).mono ?_
  rintro y w' ⟨D', N', A', ⟨rfl, rfl, rfl⟩, h2, st⟩
  rw [sc_read1 hi hiL hN h0, ho] at h2 ⊢
  refine ⟨rfl, ?_⟩
  have h3 := KW.step hA hb h2 st
  rw [List.set_getElem_self] at h3
  exact h3
theorem KW.shR2 (h : KW w0 w m f r (dB b x c p q) bs Ts k) {j i : Nat} (hj : j < bs.length) (hjT : j < Ts.length) (hi : i < 8) (hiL : i < Ts[j].length) (hN : Ts[j][i].1 = 2) (h0 : 0 ≤ q) {o : List UInt8} (ho : (b.drop q.toNat).take 100 = o) :
    Calls Tryz.prog 45 #[wp f, wp bs[j], .int .i64 (i : Int), .int .i64 100] w fun y w' => y = .returned (.tuple #[tx o, .nilIface]) ∧ KW w0 w' m f r (dB b x c p (q + o.length)) bs Ts k := by
  obtain ⟨A, h1, hA, hb⟩ := h
  refine (h1.read (j := j) hj i 100).mono ?_
  rintro y w' ⟨D', N', A', ⟨rfl, rfl, rfl⟩, h2, st⟩
  rw [sc_read2 hi hiL hN h0, ho] at h2 ⊢
  refine ⟨rfl, ?_⟩
  have h3 := KW.step hA hb h2 st
  rw [List.set_getElem_self] at h3
  exact h3
theorem KW.shWn (h : KW w0 w m f r (dB b x c p q) bs Ts k) {j i : Nat} (hj : j < bs.length) (hjT : j < Ts.length) (hi : i < 8) (hiL : i < Ts[j].length) (hN : Ts[j][i].1 = 2) (s : List UInt8) (hs : s.length ≤ 100) :
    Calls Tryz.prog 44 #[wp f, wp bs[j], .int .i64 (i : Int), tx s, .int .i64 100] w fun y w' => y = .returned (.tuple #[.int .i64 0, uer 13]) ∧ KW w0 w' m f r (dB b x c p q) bs Ts (k + 1) := by
  obtain ⟨A, h1, hA, hb⟩ := h
  refine (h1.write (j := j) hj i s (by omega) 100).mono ?_
  rintro y w' ⟨D', N', A', ⟨rfl, rfl, rfl⟩, h2, st⟩
  rw [sc_write_no hi hiL hN] at h2 ⊢
  refine ⟨rfl, ?_⟩
  have h3 := KW.step hA hb h2 st
  rw [List.set_getElem_self] at h3
  exact h3
theorem KW.shSA (h : KW w0 w m f r (dA b x c p) [t] [n2] k) (a : Int) (ha : 0 ≤ a ∧ a ≤ 200) :
    Calls Tryz.prog 46 #[wp f, wp t, .int .i64 1, .int .i64 a] w fun y w' => y = .returned .nilIface ∧ KW w0 w' m f r (dA b x c a) [t] [n2] k := by
  obtain ⟨A, h1, hA, hb⟩ := h
  refine (h1.seek (j := 0) (by simp) 1 a).mono ?_
  rintro y w' ⟨D', N', A', ⟨rfl, rfl, rfl⟩, h2, st⟩
  obtain ⟨e1, e2⟩ := sc_seekA (b := b) (x := x) (c := c) (p := p) a ha
  refine ⟨?_, ?_⟩
  · show Ending.returned (uev (seekE (dA b x c p) n2 1 a)) = _
    rw [e1]; rfl
  · have h3 := KW.step hA hb h2 st
    rw [show seekD (dA b x c p) ([n2][0]) 1 a = dA b x c a from e2] at h3
    exact h3
theorem KW.shSB (h : KW w0 w m f r (dB b x c p q) [t, t2] [n2, n3] k) (a : Int) (ha : 0 ≤ a ∧ a ≤ 200) :
    Calls Tryz.prog 46 #[wp f, wp t, .int .i64 0, .int .i64 a] w fun y w' => y = .returned .nilIface ∧ KW w0 w' m f r (dB b x c a q) [t, t2] [n2, n3] k := by
  obtain ⟨A, h1, hA, hb⟩ := h
  refine (h1.seek (j := 0) (by simp) 0 a).mono ?_
  rintro y w' ⟨D', N', A', ⟨rfl, rfl, rfl⟩, h2, st⟩
  obtain ⟨e1, e2⟩ := sc_seekB (b := b) (x := x) (c := c) (p := p) (q := q) a ha
  refine ⟨?_, ?_⟩
  · show Ending.returned (uev (seekE (dB b x c p q) n2 0 a)) = _
    rw [e1]; rfl
  · have h3 := KW.step hA hb h2 st
    rw [show seekD (dB b x c p q) ([n2, n3][0]) 0 a = dB b x c a q from e2] at h3
    exact h3
theorem KW.shC (h : KW w0 w m f r (dB b x 4 p q) [t, t2] [n2, n3] k) (hk : k ≤ 900) :
    Calls Tryz.prog 47 #[wp f, wp t, .int .i64 0] w fun y w' => y = .returned .nilIface ∧ KW w0 w' m f r (dB b x 3 p q) [t, t2] [n4, n3] k := by
  obtain ⟨A, h1, hA, hb⟩ := h
  refine (h1.close (j := 0) hk (by simp) 0).mono ?_
  rintro y w' ⟨D', N', A', ⟨rfl, rfl, rfl⟩, h2, st⟩
  obtain ⟨e1, e2⟩ := sc_close (b := b) (x := x) (p := p) (q := q)
  refine ⟨rfl, ?_⟩
  have h3 := KW.step hA hb h2 st
  rw [show closeD (dB b x 4 p q) ([n2, n3][0]) 0 = dB b x 3 p q from e1, show closeN ([n2, n3][0]) 0 = n4 from e2] at h3
  exact h3
theorem KW.shH (h : KW w0 w m f r D [t, t2] [n4, n3] k) (z : Int) (v : Bool) (hv : hasN n4 z = v) :
    Calls Tryz.prog 34 #[wp f, wp t, .int .i64 z] w fun y w' => y = .returned (.bool v) ∧ KW w0 w' m f r D [t, t2] [n4, n3] k := by
  obtain ⟨A, h1, hA, hb⟩ := h
  refine (h1.has (j := 0) (by simp) z).mono ?_
  rintro y w' ⟨rfl, b1⟩
  exact ⟨by rw [← hv]; rfl, A, h1.below b1, hA, hb.trans (b1.mono hb.size)⟩
theorem KW.shO1 (h : KW w0 w m f r (dA b x c p) bs Ts k) : Calls Tryz.prog 36 #[wp f] w fun y w' => y = .returned (.int .i64 1) ∧ w' = w := by
  obtain ⟨A, h1, hA, hb⟩ := h
  exact h1.openIs (n := 1) ⟨[1], by simp, rfl, fun x => by
    by_cases e : x = 1
    · simp [dA, e]
    · simp [dA, e]⟩
theorem KW.shO2 (h : KW w0 w m f r (dB b x c p q) bs Ts k) : Calls Tryz.prog 36 #[wp f] w fun y w' => y = .returned (.int .i64 2) ∧ w' = w := by
  obtain ⟨A, h1, hA, hb⟩ := h
  exact h1.openIs (n := 2) ⟨[1, 2], by simp, rfl, fun x => by
    by_cases e : x = 1
    · simp [dB, e]
    · by_cases e2 : x = 2
      · simp [dB, e2]
      · simp [dB, e, e2]⟩
theorem KW.base (h : KW w1 w m f r D bs Ts k) (hb : Below w0.heap.size w0 w1) : KW w0 w m f r D bs Ts k := by
  obtain ⟨A, h1, hA, hb1⟩ := h
  exact ⟨A, h1, fun i hi => Nat.le_trans hb.size (hA i hi), hb.trans (hb1.mono hb.size)⟩
set_option maxRecDepth 100000 in
set_option maxHeartbeats 8000000 in
theorem opened_ok (w : World) (hm : w.cell? ⟨2, 0, none⟩ = some (.int .i64 m)) (he : w.cell? ⟨0, 0, none⟩ = some errT) : Calls Tryz.prog 38 #[] w fun y w' => y = .returned (.bool true) ∧ Below w.heap.size w w' := by
  have hN := KW.first w hm he
  have hfn := fil_ne
  have H1 : ∀ V f r, KW w V m f r (noneD nullT) [] [] 0 → KW w (V.alloc (.cells (nv zeroN).toArray 69)) m f r (noneD nullT) [V.heap.size] [zeroN] 0 := fun V f r h => h.table (by simp)
  clear hm he
  go_enter Tryz.func38, Tryz.ntmps38
  go_upto_region 6 with (first
    | (go_at_call 9; refine hN.mono ?_; rintro y w1 ⟨r, rfl, b1, hD⟩)
    | (go_at_call 27; refine hD.mono ?_; rintro y w2 ⟨f, rfl, k2⟩))
  have k3 := H1 _ _ _ k2
  have hF := KW.sh1 k3
  clear k2 k3 H1 hN hD
  go_upto_region 7 with (go_at_call 42; refine hF.mono ?_; rintro y w3 ⟨rfl, k4⟩)
  have hDp := KW.sh2 k4
  clear k4 hF
  go_upto_region 8 with (go_at_call 43; refine hDp.mono ?_; rintro y w4 ⟨rfl, k5⟩)
  have hW := KW.shW (b := []) (c := 2) (bs := [w2.heap.size]) (Ts := [n2]) k5 (j := 0) (i := 0) (by simp) (by simp) (by omega) (by simp) rfl [104, 101, 108, 108, 111] (by simp)
  clear k5 hDp
  go_upto_region 9 with (go_at_call 44; refine hW.mono ?_; rintro y w5 ⟨rfl, k6⟩)
  have hS := KW.shSA k6 1 ⟨by omega, by omega⟩
  clear k6 hW
  go_wp2_with (first
    | (go_at_call 46; refine hS.mono ?_; rintro y w6 ⟨rfl, k7⟩; have hO := KW.shO1 k7)
    | (go_at_call 36; refine hO.mono ?_; rintro y w7 ⟨rfl, hw7⟩; subst w7))
  go_ret
  obtain ⟨A, _, _, hb⟩ := k7
  exact ⟨rfl, hb⟩
end
end Go.Proofs.YtjkneekfijibiabGreatDoor

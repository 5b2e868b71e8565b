/- Files alone, all in the root; each is held as often as ENTRIES are of it: plainly. -/
import Derived.Test.YtjkneekfijibiabGreatDoorQFile
import Derived.Test.YtjkneekfijibiabGreatDoorKOne
import Derived.Test.YtjkneekfijibiabGreatDoorYJoin
namespace Go.Proofs.YtjkneekfijibiabGreatDoor
open Go.RowKit Go.Maps

section
variable {α β : Type} {F : Int → Option α} {G : Int → Option β} {n n' : Nat} {k : Int}
theorem IsN.congr (h : IsN F n) (he : ∀ x, (G x).isSome = (F x).isSome) : IsN G n := by
  obtain ⟨ks, a, b, c⟩ := h
  exact ⟨ks, a, b, fun x => by rw [he]; exact c x⟩
theorem IsN.add (h : IsN F n) (hk : F k = none) (v : α) : IsN (fun i => if i = k then some v else F i) (n + 1) := by
  obtain ⟨ks, a, rfl, c⟩ := h
  refine ⟨k :: ks, List.nodup_cons.2 ⟨fun hm => ?_, a⟩, rfl, fun x => ?_⟩
  · have := (c k).1 hm; rw [hk] at this; cases this
  · by_cases e : x = k
    · simp [e]
    · show x ∈ k :: ks ↔ (if x = k then some v else F x).isSome = true
      rw [List.mem_cons, if_neg e, ← c x]; simp [e]
theorem IsN.del (h : IsN F n) (hk : (F k).isSome = true) : 1 ≤ n ∧ IsN (fun i => if i = k then none else F i) (n - 1) := by
  obtain ⟨ks, a, rfl, c⟩ := h
  have hm := (c k).2 hk
  refine ⟨List.length_pos_of_mem hm, ks.erase k, a.erase k, List.length_erase_of_mem hm, fun x => ?_⟩
  rw [a.mem_erase_iff]
  by_cases e : x = k
  · simp [e]
  · show x ≠ k ∧ x ∈ ks ↔ (if x = k then none else F x).isSome = true
    rw [if_neg e, ← c x]; simp [e]
theorem IsN.pos (h : IsN F n) (hk : (F k).isSome = true) : 1 ≤ n := (h.del hk).1
theorem IsN.nil (h : ∀ x, F x = none) : IsN F 0 := ⟨[], List.nodup_nil, rfl, fun x => by rw [h x]; simp⟩
theorem IsN.le (h : IsN F n) (h' : IsN G n') (hs : ∀ x, (G x).isSome = true → (F x).isSome = true) : n' ≤ n := by
  obtain ⟨a, _, rfl, ma⟩ := h
  obtain ⟨b, hb, rfl, mb⟩ := h'
  exact int_sub hb (fun x hx => (ma x).2 (hs x ((mb x).1 hx)))
theorem IsN.le1 (h : IsN F n) (h' : IsN G n') (hs : ∀ x, (G x).isSome = true → (F x).isSome = true ∨ x = k) : n' ≤ n + 1 := by
  obtain ⟨a, _, rfl, ma⟩ := h
  obtain ⟨b, hb, rfl, mb⟩ := h'
  exact int_sub (b := k :: a) hb (fun x hx => by
    rcases hs x ((mb x).1 hx) with z | z
    · exact List.mem_cons_of_mem _ ((ma x).2 z)
    · rw [z]; exact List.mem_cons_self)
end
/-- An ENTRY's kind, and node. -/
abbrev Kn := Int → Option (Int × Int)
def knE (E : Int → Option En) : Kn := fun d => (E d).map (fun e => (e.kind, e.node))
/-- ENTRIES of a file. -/
def fe (K : Kn) (n : Int) : Int → Option Unit := fun d => if K d = some (1, n) then some () else none
theorem fe_some {K : Kn} {n d : Int} : (fe K n d).isSome = true ↔ K d = some (1, n) := by
  unfold fe
  split
  · rename_i h; simp [h]
  · rename_i h; simp [h]
/-- Files alone, all in the root; each is held as often as ENTRIES are of it. -/
structure Fl (T : Wd) (K : Kn) : Prop where
  dir : ∀ k C, T k = some (.dir C) → k = 0
  nms : ∀ C, T 0 = some (.dir C) → ∀ x ∈ C, namesOf (47 :: x.1) = some [x.1]
  cnt : ∀ n b x, T n = some (.file b x) → IsN (fe K n) x
  has : ∀ d n, K d = some (1, n) → ∃ b x, T n = some (.file b x)
section
variable {T : Wd} {K : Kn} {n d k : Int} {b b' p : List UInt8} {x : Nat} {c : Int × Int} {nm : Nm}
theorem sweep_root {C : List (Nm × Int)} (h : T 0 = some (.dir C)) : sweepT T 0 = some (.dir C) := by
  rw [sweepT_stay (fun _ _ => .inl (.inl rfl))]; exact h
theorem Fl.sweep (h : Fl T K) : Fl (sweepT T) K := by
  refine ⟨fun k C e => h.dir k C (sweepT_sub e), fun C e => h.nms C (sweepT_sub e), fun n b x e => h.cnt n b x (sweepT_sub e), fun d n e => ?_⟩
  obtain ⟨b, x, hn⟩ := h.has d n e
  refine ⟨b, x, ?_⟩
  rw [sweepT_stay (fun nd hnd => ?_)]
  · exact hn
  · rw [hn] at hnd
    cases hnd
    have := (h.cnt n b x hn).pos (k := d) (fe_some.2 e)
    exact .inr (show x ≠ 0 by omega)
/-- One file turned. -/
theorem Fl.turn (h : Fl T K) {K' : Kn} {x' : Nat} (_hn : T n = some (.file b x)) (hc : IsN (fe K' n) x') (ho : ∀ m y, m ≠ n → IsN (fe K m) y → IsN (fe K' m) y) (hk : ∀ d m, K' d = some (1, m) → m = n ∨ K d = some (1, m)) : Fl (setT T n (.file b' x')) K' := by
  refine ⟨fun k C e => ?_, fun C e => ?_, fun m b9 x9 e => ?_, fun d m e => ?_⟩
  · by_cases e1 : k = n
    · rw [e1, setT_same] at e; cases e
    · rw [setT_other _ e1] at e; exact h.dir k C e
  · by_cases e1 : (0 : Int) = n
    · rw [e1, setT_same] at e; cases e
    · rw [setT_other _ e1] at e; exact h.nms C e
  · by_cases e1 : m = n
    · rw [e1, setT_same] at e; cases e; rw [e1]; exact hc
    · rw [setT_other _ e1] at e; exact ho m x9 e1 (h.cnt m b9 x9 e)
  · by_cases e1 : m = n
    · rw [e1, setT_same]; exact ⟨_, _, rfl⟩
    · rw [setT_other _ e1]
      rcases hk d m e with z | z
      · exact absurd z e1
      · exact h.has d m z
theorem Fl.same_file (h : Fl T K) (hn : T n = some (.file b x)) : Fl (setT T n (.file b' x)) K := h.turn hn (h.cnt n b x hn) (fun _ _ _ z => z) (fun _ _ z => .inr z)
/-- One ENTRY more of a file. -/
theorem Fl.hold (h : Fl T K) (hn : T n = some (.file b x)) (hd : K d = none) : Fl (setT T n (.file b' (x + 1))) (fun i => if i = d then some (1, n) else K i) := by
  refine h.turn hn (((h.cnt n b x hn).add (k := d) (by unfold fe; rw [hd]; simp) ()).congr (fun y => ?_)) (fun m y hm z => z.congr (fun i => ?_)) (fun i m e => ?_)
  · unfold fe
    by_cases e1 : y = d
    · simp [e1]
    · simp [e1]
  · unfold fe
    by_cases e1 : i = d
    · have : ¬ ((n : Int) = m) := fun e => hm e.symm
      simp [e1, hd, this]
    · simp [e1]
  · by_cases e1 : i = d
    · simp only [e1, if_true, Option.some.injEq, Prod.mk.injEq, true_and] at e
      exact .inl e.symm
    · rw [if_neg e1] at e; exact .inr e
/-- One ENTRY less of a file. -/
theorem Fl.drop (h : Fl T K) (hn : T n = some (.file b x)) (hd : K d = some (1, n)) : 1 ≤ x ∧ Fl (setT T n (.file b' (x - 1))) (fun i => if i = d then none else K i) := by
  obtain ⟨h1, h2⟩ := (h.cnt n b x hn).del (k := d) (fe_some.2 hd)
  refine ⟨h1, h.turn hn (h2.congr (fun y => ?_)) (fun m y hm z => z.congr (fun i => ?_)) (fun i m e => ?_)⟩
  · unfold fe
    by_cases e1 : y = d
    · simp [e1]
    · simp [e1]
  · unfold fe
    by_cases e1 : i = d
    · have : ¬ ((n : Int) = m) := fun e => hm e.symm
      simp [e1, hd, this]
    · simp [e1]
  · by_cases e1 : i = d
    · rw [if_pos e1] at e; cases e
    · rw [if_neg e1] at e; exact .inr e
/-- ENTRIES that are no file's. -/
theorem Fl.other (h : Fl T K) {K' : Kn} (hk : ∀ i m, K' i = some (1, m) ↔ K i = some (1, m)) : Fl T K' :=
  ⟨h.dir, h.nms, fun n b x e => (h.cnt n b x e).congr (fun i => by
    have a := fe_some (K := K') (n := n) (d := i)
    have b := fe_some (K := K) (n := n) (d := i)
    rw [Bool.eq_iff_iff, a, b, hk]), fun d n e => h.has d n ((hk d n).1 e)⟩
theorem Fl.addO (h : Fl T K) (hd : K d = none) (hc : c.1 ≠ 1) : Fl T (fun i => if i = d then some c else K i) := h.other (fun i m => by
  by_cases e1 : i = d
  · rw [if_pos e1, e1, hd]
    exact ⟨fun e => absurd (by rw [Option.some.inj e]) hc, fun e => (by cases e)⟩
  · rw [if_neg e1])
theorem Fl.delO (h : Fl T K) (hd : K d = some c) (hc : c.1 ≠ 1) : Fl T (fun i => if i = d then none else K i) := h.other (fun i m => by
  by_cases e1 : i = d
  · rw [if_pos e1, e1, hd]
    exact ⟨fun e => (by cases e), fun e => absurd (by rw [Option.some.inj e]) hc⟩
  · rw [if_neg e1])
/-- A file more, in the root. -/
theorem Fl.make (h : Fl T K) {C : List (Nm × Int)} (h0 : T 0 = some (.dir C)) (hk : T k = none) (hnm : namesOf (47 :: nm) = some [nm]) : Fl (addT (setT T k (.file [] 0)) 0 nm k) K := by
  have hk0 : k ≠ 0 := fun e => by rw [e, h0] at hk; cases hk
  have h00 : setT T k (.file [] 0) 0 = some (.dir C) := by rw [setT_other _ (Ne.symm hk0)]; exact h0
  rw [addT_eq h00]
  have hz : ∀ m, m ≠ 0 → setT (setT T k (.file [] 0)) 0 (.dir ((nm, k) :: C)) m = if m = k then some (.file [] 0) else T m := fun m hm => by
    rw [setT_other _ hm]; rfl
  refine ⟨fun m C9 e => ?_, fun C9 e => ?_, fun m b9 x9 e => ?_, fun d m e => ?_⟩
  · by_cases e1 : m = 0
    · exact e1
    · rw [hz m e1] at e
      by_cases e2 : m = k
      · rw [if_pos e2] at e; cases e
      · rw [if_neg e2] at e; exact h.dir m C9 e
  · rw [setT_same] at e
    cases e
    intro y hy
    rcases List.mem_cons.1 hy with rfl | hy
    · exact hnm
    · exact h.nms C h0 y hy
  · by_cases e1 : m = 0
    · rw [e1, setT_same] at e; cases e
    · rw [hz m e1] at e
      by_cases e2 : m = k
      · rw [if_pos e2] at e
        cases e
        refine IsN.nil (fun i => ?_)
        unfold fe
        rw [if_neg (fun z => ?_)]
        obtain ⟨b, x, hb⟩ := h.has i m z
        rw [e2, hk] at hb; cases hb
      · rw [if_neg e2] at e; exact h.cnt m b9 x9 e
  · obtain ⟨b, x, hb⟩ := h.has d m e
    have hm0 : m ≠ 0 := fun e => by rw [e, h0] at hb; cases hb
    have hmk : m ≠ k := fun e => by rw [e, hk] at hb; cases hb
    exact ⟨b, x, by rw [hz m hm0, if_neg hmk]; exact hb⟩
/-- A name less, of the root. -/
theorem Fl.del (h : Fl T K) {C : List (Nm × Int)} (h0 : T 0 = some (.dir C)) : Fl (delT T 0 nm) K := by
  rw [delT_eq h0]
  refine ⟨fun m C9 e => ?_, fun C9 e => ?_, fun m b9 x9 e => ?_, fun d m e => ?_⟩
  · by_cases e1 : m = 0
    · exact e1
    · rw [setT_other _ e1] at e; exact h.dir m C9 e
  · rw [setT_same] at e
    cases e
    intro y hy
    exact h.nms C h0 y (List.mem_filter.1 hy).1
  · by_cases e1 : m = 0
    · rw [e1, setT_same] at e; cases e
    · rw [setT_other _ e1] at e; exact h.cnt m b9 x9 e
  · obtain ⟨b, x, hb⟩ := h.has d m e
    have hm0 : m ≠ 0 := fun e => by rw [e, h0] at hb; cases hb
    exact ⟨b, x, by rw [setT_other _ hm0]; exact hb⟩
/-- The root's children are files. -/
theorem Fl.child (h : Fl T K) (hT : TrLv T) {C : List (Nm × Int)} (h0 : T 0 = some (.dir C)) {s : Nm} (hl : C.lookup s = some n) : n ≠ 0 ∧ ∃ b x, T n = some (.file b x) := by
  have hn0 : n ≠ 0 := fun e => by
    subst e
    have h1 := cntTo_ge (T := T) (k := 0) (i := 0) 64 (by omega)
    have h2 := cnt1_mem (lookup_mem hl)
    have h3 := hT.nr
    rw [show ((0 : Nat) : Int) = 0 from rfl, h0] at h1
    unfold cntT at h3
    omega
  refine ⟨hn0, ?_⟩
  obtain ⟨nd, hnd⟩ := Option.isSome_iff_exists.1 (hT.child 0 C s n h0 hl)
  cases nd with
  | dir C9 => exact absurd (h.dir n C9 hnd) hn0
  | file b x => exact ⟨b, x, hnd⟩
theorem Fl.place (h : Fl T K) (hT : TrLv T) (hp : (placeT T p).2.2 = 0) : ∃ nm, placeT T p = (0, nm, 0) ∧ namesOf (47 :: nm) = some [nm] := by
  obtain ⟨C, h0⟩ := hT.root
  obtain ⟨nm, hn⟩ := place_name h0 (fun s n hl D e => by
    obtain ⟨hn0, b, x, hb⟩ := h.child hT h0 hl
    rw [hb] at e; cases e) hp
  refine ⟨nm, root_place h0 hn, ?_⟩
  obtain ⟨e1, e2⟩ := names_text hn
  have e3 := text_names e2
  rw [ptx_ne (by simp), jn_cons, jn_nil, List.append_nil] at e3
  exact e3
theorem Fl.unlink (h : Fl T K) (hT : TrLv T) (p : List UInt8) : Fl (unlinkN T p) K := by
  unfold unlinkN
  split
  · exact h
  · rename_i hE
    have hp : (placeT T p).2.2 = 0 := Classical.byContradiction (fun hp => hE (by unfold unlinkE; rw [if_pos hp]; exact hp))
    obtain ⟨nm, e, _⟩ := h.place hT hp
    obtain ⟨C, h0⟩ := hT.root
    rw [e]
    exact (h.del h0).sweep
end
end Go.Proofs.YtjkneekfijibiabGreatDoor

namespace Go.Proofs.YtjkneekfijibiabGreatDoor
open Go.RowKit Go.Maps

section
variable {D : DS}
theorem nx_close (D : DS) (d : Int) : (closeK D d).nx = D.nx := by
  unfold closeK
  split
  · split
    · rfl
    · split <;> rfl
  · rfl
theorem nx_free (all : Bool) (D : DS) (N : Ns) : ∀ i, (freeS all D N i).1.nx = D.nx
  | 0 => rfl
  | i + 1 => by
    rw [freeS]
    split
    · simp only; rw [nx_close]; exact nx_free all D N i
    · exact nx_free all D N i
theorem nx_file {N : Ns} {n s : Nat} {p : List UInt8} {pr : Int} {mk : Bool} {x c : Int} {D' : DS} {N' : Ns} (h : FileO D N n s p pr mk x c D' N') : D'.nx ≤ D.nx + 3 := by
  cases h <;> (try simp only [addD]) <;> omega
theorem nx_pipe {N : Ns} {n : Nat} {x y c : Int} {D' : DS} {N' : Ns} (h : PipeO D N n x y c D' N') : D'.nx ≤ D.nx + 3 := by
  rcases h with ⟨_, _, _, _, rfl, _⟩ | ⟨_, _, _, _, rfl, _⟩
  · omega
  · simp only [pipeD, pipeD1, pipeD0, addD]; omega
theorem nx_dup (D : DS) (N : Ns) (x : Int) : (dupD D N x).nx = D.nx := by unfold dupD; split <;> rfl
theorem nx_dup2 (D : DS) (N : Ns) (x y : Int) : (dup2D D N x y).nx = D.nx := by
  unfold dup2D
  split
  · split
    · rfl
    · rw [nx_close]; rfl
  · rfl
theorem nx_closeD (D : DS) (N : Ns) (x : Int) : (closeD D N x).nx = D.nx := by
  unfold closeD
  split
  · rw [nx_close]
  · rfl
theorem nx_seek (D : DS) (N : Ns) (x a : Int) : (seekD D N x a).nx = D.nx := by
  unfold seekD
  split
  · split <;> rfl
  · rfl
theorem nx_read (D : DS) (N : Ns) (x a : Int) : (readO D N x a).2.2.nx = D.nx := by
  unfold readO
  split
  · split
    · rfl
    · split
      · rfl
      · split
        · rfl
        · split <;> rfl
  · rfl
theorem nx_write (D : DS) (N : Ns) (x : Int) (s : List UInt8) (a : Int) : (writeO D N x s a).2.2.nx = D.nx := by
  unfold writeO
  split
  · split
    · rfl
    · split
      · rfl
      · split
        · split
          · rfl
          · split <;> rfl
        · split <;> rfl
  · rfl
end
end Go.Proofs.YtjkneekfijibiabGreatDoor

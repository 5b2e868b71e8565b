/- TreePlays: each call of either side, where both trees and an item stand. -/
import Derived.Test.YtpibokijbidgdabGreatDoorXBoth
namespace Go.Proofs.YtpibokijbidgdabGreatDoor
open Go.RowKit Go.Maps

/-- Both trees, and an item at block j. -/
structure NB (w : World) (j : Nat) (xs : Array Value) (r r2 : Nat) (T T2 : Wd) (A : Nat → Prop) (m : Int) : Prop where
  bt : BT w r r2 T T2 A m
  box : w.heap[j]? = some (.cells xs 31)
  nA : ¬ A j

section
variable {w w' : World} {j r r2 : Nat} {xs : Array Value} {T T2 T' : Wd} {A A' : Nat → Prop} {m : Int}

theorem NB.cell (h : NB w j xs r r2 T T2 A m) (i : Nat) : w.cell? ⟨j, i, none⟩ = xs[i]? := by simp [World.cell?, h.box]
theorem NB.step {T1 T3 : Wd} (h : NB w j xs r r2 T T2 A m) (bt : BT w' r r2 T1 T3 A' m) (st : Stp w w' A A') : NB w' j xs r r2 T1 T3 A' m := by
  have hlt : j < w.heap.size := (Array.getElem?_eq_some_iff.1 h.box).1
  have hP : ∀ i, i = j → ¬ A i ∧ i < w.heap.size := fun i e => by subst e; exact ⟨h.nA, hlt⟩
  exact ⟨bt, (st.keep (P := fun i => i = j) hP j rfl).trans h.box, (st.apart (P := fun i => i = j) hP j rfl).1⟩
theorem NB.below (h : NB w j xs r r2 T T2 A m) (hb : Below w.heap.size w w') : NB w' j xs r r2 T T2 A m := h.step (h.bt.below hb) (.below hb)

/-- What a call leaves. -/
def Lft (w : World) (j : Nat) (xs : Array Value) (r r2 : Nat) (A : Nat → Prop) (m : Int) (T T2 : Wd) (w' : World) : Prop := ∃ A', NB w' j xs r r2 T T2 A' m ∧ Stp w w' A A'

theorem NB.prog (h : NB w j xs r r2 T T2 A m) {f : FuncId} {args : Array Value} {v : Value} (hc : ∀ O, PT w r T O → Calls Tryz.prog f args w fun e w' => e = .returned v ∧ ∃ O', PT w' r T' O' ∧ Stp w w' O O') :
    Calls Tryz.prog f args w fun e w' => e = .returned v ∧ Lft w j xs r r2 A m T' T2 w' := by
  refine (h.bt.callP (Q := fun e T1 => e = .returned v ∧ T1 = T') (fun O p => (hc O p).mono ?_)).mono ?_
  · rintro e w' ⟨rfl, O', p', st⟩
    exact ⟨T', O', ⟨rfl, rfl⟩, p', st⟩
  · rintro e w' ⟨T1, A', ⟨rfl, rfl⟩, bt, st⟩
    exact ⟨rfl, A', h.step bt st, st⟩
theorem NB.doc (h : NB w j xs r r2 T T2 A m) {f : FuncId} {args : Array Value} {v : Value} (hc : ∀ gN s G, RTr w r2 gN s T2 G → Calls Tryz.prog f args w fun e w' => e = .returned v ∧ ∃ gN' s' G', RTr w' r2 gN' s' T' G' ∧ Wt (town r2 gN T2 G) w w' ∧ ∀ i, town r2 gN' T' G' i → town r2 gN T2 G i ∨ w.heap.size ≤ i) :
    Calls Tryz.prog f args w fun e w' => e = .returned v ∧ Lft w j xs r r2 A m T T' w' := by
  refine (h.bt.callR (Q := fun e T1 => e = .returned v ∧ T1 = T') (fun gN s G p => (hc gN s G p).mono ?_)).mono ?_
  · rintro e w' ⟨rfl, gN', s', G', p', wt, ow⟩
    exact ⟨T', gN', s', G', ⟨rfl, rfl⟩, p', wt, ow⟩
  · rintro e w' ⟨T1, A', ⟨rfl, rfl⟩, bt, st⟩
    exact ⟨rfl, A', h.step bt st, st⟩

theorem NB.ml (h : NB w j xs r r2 T T2 A m) : w.cell? ⟨2, 0, none⟩ = some (.int .i64 m) := h.bt.ml
theorem dir_sub {gN : Nat} {G : Int → Nat} (hs : ∀ k C, T' k = some (.dir C) → ∃ C', T2 k = some (.dir C')) : ∀ i, town r2 gN T' G i → town r2 gN T2 G i ∨ w.heap.size ≤ i := fun i hi => by
  rcases hi with e | e | ⟨k, C, hk, e⟩
  · exact .inl (.inl e)
  · exact .inl (.inr (.inl e))
  · obtain ⟨C', hk'⟩ := hs k C hk
    exact .inl (.inr (.inr ⟨k, C', hk', e⟩))

theorem addT_dir {d n : Int} {nm : Nm} {k : Int} {C : List (Nm × Int)} (h : addT T d nm n k = some (.dir C)) : ∃ C', T k = some (.dir C') := by
  cases hd : T d with
  | none => rw [show addT T d nm n = T by unfold addT; rw [hd]] at h; exact ⟨C, h⟩
  | some nd => cases nd with
    | file b x => rw [show addT T d nm n = T by unfold addT; rw [hd]] at h; exact ⟨C, h⟩
    | dir D =>
      rw [addT_eq hd] at h
      by_cases e : k = d
      · subst e; exact ⟨D, hd⟩
      · rw [setT_other _ e] at h; exact ⟨C, h⟩
theorem setF_dir {n : Int} {b : List UInt8} {x : Nat} {k : Int} {C : List (Nm × Int)} (h : setT T n (.file b x) k = some (.dir C)) : ∃ C', T k = some (.dir C') := by
  by_cases e : k = n
  · subst e; rw [setT_same] at h; cases h
  · rw [setT_other _ e] at h; exact ⟨C, h⟩

/-! The calls that ask. -/
theorem NB.pFind (h : NB w j xs r r2 T T2 A m) (hT : TrLv T) (p : List UInt8) (hp : p.length < 100000) :
    Calls Tryz.prog 17 #[wp r, tx p] w fun e w' => e = .returned (.tuple #[.int .i64 (findT T p).1, uev (findT T p).2]) ∧ Lft w j xs r r2 A m T T2 w' := by
  refine h.prog (fun O hp' => ?_)
  obtain ⟨gN, s, B, G, V, p'⟩ := hp'
  refine (p'.find_ok hT.toTrOk (p'.num.pos hT.toTrOk) p hp m h.ml).mono ?_
  rintro e w' ⟨rfl, b⟩
  exact ⟨rfl, O, PT.below ⟨gN, s, B, G, V, p'⟩ b, .below b⟩
theorem NB.dFind (h : NB w j xs r r2 T T2 A m) (hT : TrLv T2) (p : List UInt8) (hp : p.length < 100000) :
    Calls Tryz.prog 24 #[wp r2, tx p] w fun e w' => e = .returned (.tuple #[.int .i64 (findT T2 p).1, .int .i64 (findT T2 p).2]) ∧ Lft w j xs r r2 A m T T2 w' := by
  refine h.doc (fun gN s G p' => (p'.find_ok hT.toTrOk p hp m h.ml).mono ?_)
  rintro e w' ⟨rfl, b⟩
  exact ⟨rfl, gN, s, G, p'.below b, .below _ b, fun i hi => .inl hi⟩
theorem NB.pSize (h : NB w j xs r r2 T T2 A m) (n : Int) (hw : (Lit.int .i64 n).wf = true) :
    Calls Tryz.prog 22 #[wp r, .int .i64 n] w fun e w' => e = .returned (.tuple #[.int .i64 (sizeS T n), uev (fileT T n)]) ∧ Lft w j xs r r2 A m T T2 w' := by
  refine h.prog (fun O p' => (p'.size_ok n hw).mono ?_)
  rintro e w' ⟨rfl, rfl⟩
  exact ⟨rfl, O, p', .refl _ _⟩
theorem NB.pRead (h : NB w j xs r r2 T T2 A m) (n a mm : Int) (hw : (Lit.int .i64 n).wf = true) :
    Calls Tryz.prog 18 #[wp r, .int .i64 n, .int .i64 a, .int .i64 mm] w fun e w' => e = .returned (.tuple #[tx (readS T n a mm), uev (readE T n a mm)]) ∧ Lft w j xs r r2 A m T T2 w' := by
  refine h.prog (fun O p' => (p'.read_ok n a mm hw).mono ?_)
  rintro e w' ⟨rfl, q, rfl⟩
  exact ⟨rfl, O, p'.keep (fun _ _ => rfl) (Nat.le_refl _), .below (below_drew (Below.refl _ _) q)⟩
end
end Go.Proofs.YtpibokijbidgdabGreatDoor

namespace Go.Proofs.YtpibokijbidgdabGreatDoor
open Go.RowKit Go.Maps

section
variable {w w' : World} {j r r2 : Nat} {xs : Array Value} {T T2 T' : Wd} {A A' : Nat → Prop} {m : Int} {k : Nat}

theorem Sm.dirs (h : Sm k T) (hk : k ≤ 900) : ∀ i C, T i = some (.dir C) → C.length ≤ 1000 := fun i C e => by have := h.1 i C e; omega
theorem Sm.dirs' (h : Sm k T) (hk : k ≤ 900) : ∀ i C, T i = some (.dir C) → C.length < maxLen := fun i C e => by have := h.1 i C e; unfold maxLen; omega
theorem Sm.held (h : Sm k T) (hk : k ≤ 900) {n : Int} : ∀ b x, T n = some (.file b x) → x + 1 ≤ 1000 := fun b x e => by have := (h.2 n b x e).1; omega

theorem not_file {n : Int} {b : List UInt8} {x : Nat} {P : Prop} (hz : fileT T n ≠ 0) (hn : T n = some (.file b x)) : P := absurd (by unfold fileT; rw [hn]) hz
theorem holdN_dir {n by' i : Int} {C : List (Nm × Int)} (e : holdN T n by' i = some (.dir C)) : ∃ C', T i = some (.dir C') := by
  by_cases hz : fileT T n = 0
  · obtain ⟨b, x, hn⟩ := fileT_zero hz
    unfold holdN at e; rw [hn] at e; simp only at e
    by_cases h0 : (x : Int) + by' < 0
    · rw [if_pos h0] at e; exact ⟨C, e⟩
    · rw [if_neg h0] at e; exact setF_dir (sweepT_sub e)
  · have hN : holdN T n by' = T := by
      unfold holdN
      cases hn : T n with
      | none => rfl
      | some nd => cases nd with
        | dir D => rfl
        | file b x => exact not_file hz hn
    rw [hN] at e; exact ⟨C, e⟩
theorem writeN_dir {n a i : Int} {x : List UInt8} {C : List (Nm × Int)} (e : writeN T n a x i = some (.dir C)) : ∃ C', T i = some (.dir C') := by
  unfold writeN at e
  by_cases h0 : writeE T n a x ≠ 0 ∨ x = []
  · rw [if_pos h0] at e; exact ⟨C, e⟩
  · rw [if_neg h0] at e
    cases hn : T n with
    | none => rw [hn] at e; exact ⟨C, e⟩
    | some nd => cases nd with
      | dir D => rw [hn] at e; exact ⟨C, e⟩
      | file b y => rw [hn] at e; exact setF_dir e
theorem cutN_dir {n a i : Int} {C : List (Nm × Int)} (e : cutN T n a i = some (.dir C)) : ∃ C', T i = some (.dir C') := by
  unfold cutN at e
  cases hn : T n with
  | none => rw [hn] at e; exact ⟨C, e⟩
  | some nd => cases nd with
    | dir D => rw [hn] at e; exact ⟨C, e⟩
    | file b y =>
      rw [hn] at e; simp only at e
      by_cases h0 : a < 0
      · rw [if_pos h0] at e; exact ⟨C, e⟩
      · rw [if_neg h0] at e; exact setF_dir e

theorem NB.pLink (h : NB w j xs r r2 T T2 A m) (hT : TrLv T) (hS : Sm k T) (hk : k ≤ 900) (p q : List UInt8) (hp : p.length < 100000) (hq : q.length < 100000) :
    Calls Tryz.prog 16 #[wp r, tx p, tx q] w fun e w' => e = .returned (uev (linkE T p q)) ∧ Lft w j xs r r2 A m (linkN T p q) T2 w' := by
  refine h.prog (fun O p' => (p'.link_ok hT p q hp hq m h.ml (hS.dirs hk)).mono ?_)
  rintro e w' ⟨rfl, p1, st⟩
  exact ⟨rfl, O, p1, st⟩
theorem NB.dLink (h : NB w j xs r r2 T T2 A m) (hT : TrLv T2) (hS : Sm k T2) (hk : k ≤ 900) (p q : List UInt8) (hp : p.length < 100000) (hq : q.length < 100000) :
    Calls Tryz.prog 27 #[wp r2, tx p, tx q] w fun e w' => e = .returned (.int .i64 (linkE T2 p q)) ∧ Lft w j xs r r2 A m T (linkN T2 p q) w' := by
  refine h.doc (fun gN s G p' => (p'.link_ok hT.toTrOk p q hp hq m h.ml (hS.dirs' hk)).mono ?_)
  rintro e w' ⟨rfl, p1, wt⟩
  refine ⟨rfl, gN, s, G, p1, wt, dir_sub (fun i C e => ?_)⟩
  unfold linkN at e; split at e
  · exact ⟨C, e⟩
  · exact addT_dir e

theorem NB.pUnlink (h : NB w j xs r r2 T T2 A m) (hT : TrLv T) (hS : Sm k T) (hk : k ≤ 900) (p : List UInt8) (hp : p.length < 100000) :
    Calls Tryz.prog 19 #[wp r, tx p] w fun e w' => e = .returned (uev (unlinkE T p)) ∧ Lft w j xs r r2 A m (unlinkN T p) T2 w' := by
  refine h.prog (fun O p' => (p'.unlink_ok hT p hp m h.ml (hS.dirs hk)).mono ?_)
  rintro e w' ⟨rfl, p1, st⟩
  exact ⟨rfl, O, p1, st⟩
theorem NB.dUnlink (h : NB w j xs r r2 T T2 A m) (hT : TrLv T2) (hS : Sm k T2) (hk : k ≤ 900) (p : List UInt8) (hp : p.length < 100000) :
    Calls Tryz.prog 28 #[wp r2, tx p] w fun e w' => e = .returned (.int .i64 (unlinkE T2 p)) ∧ Lft w j xs r r2 A m T (unlinkN T2 p) w' := by
  refine h.doc (fun gN s G p' => (p'.unlink_ok hT.toTrOk p hp m h.ml (by have := p'.num.few hT.toTrOk; omega) (hS.dirs hk)).mono ?_)
  rintro e w' ⟨rfl, s', p1, wt⟩
  refine ⟨rfl, gN, s', G, p1, wt, dir_sub (fun i C e => ?_)⟩
  unfold unlinkN at e; split at e
  · exact ⟨C, e⟩
  · exact delT_dir (sweepT_sub e)

theorem NB.pRename (h : NB w j xs r r2 T T2 A m) (hT : TrLv T) (hS : Sm k T) (hk : k ≤ 900) (p q : List UInt8) (hp : p.length < 100000) (hq : q.length < 100000) :
    Calls Tryz.prog 29 #[wp r, tx p, tx q] w fun e w' => e = .returned (uev (renameE T p q)) ∧ Lft w j xs r r2 A m (renameN T p q) T2 w' := by
  refine h.prog (fun O p' => (p'.rename_ok hT p q hp hq m h.ml (hS.dirs hk)).mono ?_)
  rintro e w' ⟨rfl, p1, st⟩
  exact ⟨rfl, O, p1, st⟩
theorem NB.dRename (h : NB w j xs r r2 T T2 A m) (hT : TrLv T2) (hS : Sm k T2) (hk : k ≤ 900) (p q : List UInt8) (hp : p.length < 100000) (hq : q.length < 100000) :
    Calls Tryz.prog 30 #[wp r2, tx p, tx q] w fun e w' => e = .returned (.int .i64 (renameE T2 p q)) ∧ Lft w j xs r r2 A m T (renameN T2 p q) w' := by
  refine h.doc (fun gN s G p' => (p'.rename_ok hT.toTrOk p q hp hq m h.ml (hS.dirs hk)).mono ?_)
  rintro e w' ⟨rfl, p1, wt⟩
  refine ⟨rfl, gN, s, G, p1, wt, dir_sub (fun i C e => ?_)⟩
  unfold renameN at e; split at e
  · exact ⟨C, e⟩
  · obtain ⟨C', e'⟩ := addT_dir e
    exact delT_dir e'

theorem NB.pHold (h : NB w j xs r r2 T T2 A m) (hT : TrLv T) (hS : Sm k T) (hk : k ≤ 900) (n : Int) (hw : (Lit.int .i64 n).wf = true) :
    Calls Tryz.prog 35 #[wp r, .int .i64 n] w fun e w' => e = .returned (uev (holdE T n 1)) ∧ Lft w j xs r r2 A m (holdN T n 1) T2 w' := by
  refine h.prog (fun O p' => (p'.hold_ok hT n hw (hS.held hk)).mono ?_)
  rintro e w' ⟨rfl, p1, st⟩
  exact ⟨rfl, O, p1, st⟩
theorem NB.pDrop (h : NB w j xs r r2 T T2 A m) (hT : TrLv T) (n : Int) (hw : (Lit.int .i64 n).wf = true) :
    Calls Tryz.prog 37 #[wp r, .int .i64 n] w fun e w' => e = .returned (uev (holdE T n (-1))) ∧ Lft w j xs r r2 A m (holdN T n (-1)) T2 w' := by
  refine h.prog (fun O p' => (p'.drop_ok hT n hw).mono ?_)
  rintro e w' ⟨rfl, p1, st⟩
  exact ⟨rfl, O, p1, st⟩
theorem NB.dHold (h : NB w j xs r r2 T T2 A m) (hT : TrLv T2) (hS : Sm k T2) (hk : k ≤ 900) (n by' : Int) (hw : (Lit.int .i64 n).wf = true) (hb : -1 ≤ by' ∧ by' ≤ 1) :
    Calls Tryz.prog 36 #[wp r2, .int .i64 n, .int .i64 by'] w fun e w' => e = .returned (.int .i64 (holdE T2 n by')) ∧ Lft w j xs r r2 A m T (holdN T2 n by') w' := by
  refine h.doc (fun gN s G p' => (p'.hold_ok hT.toTrOk n by' hw (by have := p'.num.few hT.toTrOk; omega) (hS.dirs hk) hb (hS.held hk)).mono ?_)
  rintro e w' ⟨rfl, s', p1, wt⟩
  refine ⟨rfl, gN, s', G, p1, wt, dir_sub (fun i C e => ?_)⟩
  exact holdN_dir e

theorem NB.pWrite (h : NB w j xs r r2 T T2 A m) (hT : TrLv T) (n a : Int) (x : List UInt8) (hw : (Lit.int .i64 n).wf = true) (hx : x.length < 100000) :
    Calls Tryz.prog 13 #[wp r, .int .i64 n, .int .i64 a, tx x] w fun e w' => e = .returned (uev (writeE T n a x)) ∧ Lft w j xs r r2 A m (writeN T n a x) T2 w' := by
  refine h.prog (fun O p' => (p'.write_ok hT n a x hw hx).mono ?_)
  rintro e w' ⟨rfl, O', p1, st⟩
  exact ⟨rfl, O', p1, st⟩
theorem NB.dWrite (h : NB w j xs r r2 T T2 A m) (hT : TrLv T2) (n a : Int) (x : List UInt8) (hw : (Lit.int .i64 n).wf = true) (hx : x.length < 100000) :
    Calls Tryz.prog 38 #[wp r2, .int .i64 n, .int .i64 a, tx x] w fun e w' => e = .returned (.int .i64 (writeE T2 n a x)) ∧ Lft w j xs r r2 A m T (writeN T2 n a x) w' := by
  refine h.doc (fun gN s G p' => (p'.write_ok hT.toTrOk n a x hw (by have := p'.num.few hT.toTrOk; unfold maxLen; omega) hx).mono ?_)
  rintro e w' ⟨rfl, p1, g1⟩
  refine ⟨rfl, gN, s, G, p1, .grown g1 (.inr (.inl rfl)), dir_sub (fun i C e => ?_)⟩
  exact writeN_dir e
theorem NB.pCut (h : NB w j xs r r2 T T2 A m) (hT : TrLv T) (n a : Int) (hw : (Lit.int .i64 n).wf = true) :
    Calls Tryz.prog 21 #[wp r, .int .i64 n, .int .i64 a] w fun e w' => e = .returned (uev (cutE T n a)) ∧ Lft w j xs r r2 A m (cutN T n a) T2 w' := by
  refine h.prog (fun O p' => (p'.cut_ok hT n a hw).mono ?_)
  rintro e w' ⟨rfl, O', p1, st⟩
  exact ⟨rfl, O', p1, st⟩
theorem NB.dCut (h : NB w j xs r r2 T T2 A m) (hT : TrLv T2) (n a : Int) (hw : (Lit.int .i64 n).wf = true) :
    Calls Tryz.prog 40 #[wp r2, .int .i64 n, .int .i64 a] w fun e w' => e = .returned (.int .i64 (cutE T2 n a)) ∧ Lft w j xs r r2 A m T (cutN T2 n a) w' := by
  refine h.doc (fun gN s G p' => (p'.cut_ok hT.toTrOk n a hw (by have := p'.num.few hT.toTrOk; unfold maxLen; omega)).mono ?_)
  rintro e w' ⟨rfl, p1, g1⟩
  refine ⟨rfl, gN, s, G, p1, .grown g1 (.inr (.inl rfl)), dir_sub (fun i C e => ?_)⟩
  exact cutN_dir e
theorem NB.dRead (h : NB w j xs r r2 T T2 A m) (hT : TrLv T2) (n a mm : Int) (hw : (Lit.int .i64 n).wf = true) :
    Calls Tryz.prog 39 #[wp r2, .int .i64 n, .int .i64 a, .int .i64 mm] w fun e w' => e = .returned (.tuple #[tx (readS T2 n a mm), .int .i64 (readE T2 n a mm)]) ∧ Lft w j xs r r2 A m T T2 w' := by
  refine h.doc (fun gN s G p' => (p'.read_ok hT.toTrOk n a mm hw).mono ?_)
  rintro e w' ⟨rfl, b⟩
  exact ⟨rfl, gN, s, G, p'.below b, .below _ b, fun i hi => .inl hi⟩

/-- What both answer of a new node. -/
def MkE (s : Nat) (T : Wd) (p : List UInt8) (dir : Bool) (c n : Int) (T' : Wd) : Prop := (makeE T s p ≠ 0 ∧ c = makeE T s p ∧ n = 0 ∧ T' = T) ∨ (makeE T s p = 0 ∧ c = 0 ∧ IsFree T n ∧ n < 64 ∧ T' = makeN T p dir n)
theorem MkE.one {s : Nat} {p : List UInt8} {dir : Bool} {c n c' n' : Int} {T1 T3 : Wd} (h : MkE s T p dir c n T1) (h' : MkE s T p dir c' n' T3) : c = c' ∧ n = n' ∧ T1 = T3 := by
  rcases h with ⟨h0, rfl, rfl, rfl⟩ | ⟨h0, rfl, hf, _, rfl⟩
  · rcases h' with ⟨_, rfl, rfl, rfl⟩ | ⟨h1, _⟩
    · exact ⟨rfl, rfl, rfl⟩
    · exact absurd h1 h0
  · rcases h' with ⟨h1, _⟩ | ⟨_, rfl, hf', _, rfl⟩
    · exact absurd h0 h1
    · obtain rfl := hf.same hf'
      exact ⟨rfl, rfl, rfl⟩
theorem MkE.lv {s : Nat} {p : List UInt8} {dir : Bool} {c n : Int} (h : MkE s T p dir c n T') (hT : TrLv T) (hS : Sm k T) : TrLv T' ∧ Sm (k + 1) T' := by
  rcases h with ⟨_, _, _, rfl⟩ | ⟨h0, _, hf, h1, rfl⟩
  · exact ⟨hT, hS.more (by omega)⟩
  · exact ⟨hT.make h0 hf h1 dir, hS.make p dir n⟩

theorem NB.num (h : NB w j xs r r2 T T2 A m) : ∃ s, IsNum T s := by
  obtain ⟨O, gN, s, G, h1, _⟩ := h.bt.both
  exact h1.num
theorem NB.pMake (h : NB w j xs r r2 T T2 A m) {s : Nat} (_ : IsNum T s) (_ : TrLv T) (_ : Sm k T) (_ : k ≤ 900) (p : List UInt8) (_ : p.length < 100000) {f : FuncId} {dir : Bool} (hf : ∀ O, PT w r T O → Calls Tryz.prog f #[wp r, tx p] w (MkR w r T O s p dir)) :
    Calls Tryz.prog f #[wp r, tx p] w fun e w' => ∃ c n T', e = .returned (.tuple #[.int .i64 n, uev c]) ∧ MkE s T p dir c n T' ∧ Lft w j xs r r2 A m T' T2 w' := by
  refine (h.bt.callP (Q := fun e T1 => ∃ c n, e = .returned (.tuple #[.int .i64 n, uev c]) ∧ MkE s T p dir c n T1) (fun O p' => (hf O p').mono ?_)).mono ?_
  · rintro e w' (⟨h0, rfl, p1, st⟩ | ⟨h0, n, O', hn, h1, rfl, p1, st⟩)
    · exact ⟨T, O, ⟨_, 0, by rw [uev_ne h0], .inl ⟨h0, rfl, rfl, rfl⟩⟩, p1, st⟩
    · exact ⟨_, O', ⟨0, n, rfl, .inr ⟨h0, rfl, hn, h1, rfl⟩⟩, p1, st⟩
  · rintro e w' ⟨T1, A', ⟨c, n, rfl, hM⟩, bt, st⟩
    exact ⟨c, n, T1, rfl, hM, A', h.step bt st, st⟩
theorem NB.dMake (h : NB w j xs r r2 T T2 A m) {s : Nat} (hs : IsNum T2 s) (hT : TrLv T2) (hS : Sm k T2) (hk : k ≤ 900) (p : List UInt8) (dir : Bool) (hp : p.length < 100000) :
    Calls Tryz.prog 26 #[wp r2, tx p, .bool dir] w fun e w' => ∃ c n T', e = .returned (.tuple #[.int .i64 n, .int .i64 c]) ∧ MkE s T2 p dir c n T' ∧ Lft w j xs r r2 A m T T' w' := by
  refine (h.bt.callR (Q := fun e T1 => ∃ c n, e = .returned (.tuple #[.int .i64 n, .int .i64 c]) ∧ MkE s T2 p dir c n T1) (fun gN s' G p' => ?_)).mono ?_
  · obtain rfl := hs.one p'.num
    by_cases h0 : makeE T2 s p = 0
    · refine (p'.make_ok hT.toTrOk p dir hp m h.ml (hS.dirs' hk) h0).mono ?_
      rintro e w' ⟨n, hn, rfl, g, p1, hg, wt⟩
      have hn64 : n < 64 := by
        have := p'.num.free (k := n.toNat) (fun i hi => hn.least i (by omega) (by have := hn.pos; omega))
        have := p'.num.few hT.toTrOk
        obtain ⟨_, _, _, hs60⟩ := makeE_zero hT.toTrOk h0
        omega
      refine ⟨_, gN, s + 1, _, ⟨0, n, rfl, .inr ⟨h0, rfl, hn, hn64, rfl⟩⟩, p1, wt, fun i hi => ?_⟩
      rcases hi with e | e | ⟨q, C, hq, e⟩
      · exact .inl (.inl e)
      · exact .inl (.inr (.inl e))
      · simp only at e
        by_cases e1 : q = n ∧ dir = true
        · rw [if_pos e1] at e; right; omega
        · rw [if_neg e1] at e
          left; right; right
          unfold makeN at hq
          obtain ⟨C', hq'⟩ := addT_dir hq
          by_cases e2 : q = n
          · subst e2
            rw [setT_same] at hq'
            cases dir with
            | true => exact absurd ⟨rfl, rfl⟩ e1
            | false => simp [newNd] at hq'
          · rw [setT_other _ e2] at hq'
            exact ⟨q, C', hq', e⟩
    · refine (p'.make_no hT.toTrOk p dir hp m h.ml (by have := p'.num.few hT.toTrOk; omega) h0).mono ?_
      rintro e w' ⟨rfl, b⟩
      exact ⟨T2, gN, s, G, ⟨_, 0, rfl, .inl ⟨h0, rfl, rfl, rfl⟩⟩, p'.below b, .below _ b, fun i hi => .inl hi⟩
  · rintro e w' ⟨T1, A', ⟨c, n, rfl, hM⟩, bt, st⟩
    exact ⟨c, n, T1, rfl, hM, A', h.step bt st, st⟩
end
end Go.Proofs.YtpibokijbidgdabGreatDoor

/- Parts of a text, by the model's own slices. -/
import Derived.Test.YtjkneekfijibiabGreatDoorUName
import Derived.Test.YtjkneekfijibiabGreatDoorRows
import Derived.WalkLawsBesides
import Derived.Outline
import Derived.Deep.LoopGhost
import Derived.Test.YtjkneekfijibiabGreatDoorSKeys
import Derived.RegionTactic
import Derived.ChangeAlike
namespace Go.Proofs.YtjkneekfijibiabGreatDoor
open Go.RowKit Go.Maps

theorem wtext_h (s : List UInt8) (n : Nat) (hn : n ≤ s.length) (w : World) : (Instr.slice 9 (tx s) none (some (.int .i64 (n : Int))) none).run Tryz.prog w = .ok (tx (s.take n)) w := by
  have hs : (⟨s.toArray⟩ : ByteArray).size = s.length := by simp [ByteArray.size]
  have e : (⟨s.toArray⟩ : ByteArray).extract 0 n = ⟨(s.take n).toArray⟩ := by apply ByteArray.ext; simp
  simp [Instr.slice, run_underlying Tryz.underlying9, Instr.sliceBounds, run_sliceBound, hs, hn, e]
theorem wtext_one (s : List UInt8) (n : Nat) (hn : n < s.length) (w : World) : (Instr.slice 9 (tx s) (some (.int .i64 (n : Int))) (some (.int .i64 ((n : Int) + 1))) none).run Tryz.prog w = .ok (tx [s[n]]) w := by
  have hs : (⟨s.toArray⟩ : ByteArray).size = s.length := by simp [ByteArray.size]
  have e : (⟨s.toArray⟩ : ByteArray).extract n (n + 1) = ⟨#[s[n]]⟩ := by
    apply ByteArray.ext
    simp only [ByteArray.data_extract, List.extract_toArray, List.extract]
    rw [show n + 1 - n = 1 by omega, List.drop_eq_getElem_cons hn]
    rfl
  have h2 : (n : Int) + 1 ≤ (s.length : Int) := by omega
  have h3 : (0 : Int) ≤ (n : Int) + 1 := by omega
  have h4 : ((n : Int) + 1).toNat = n + 1 := by omega
  have h5 : (n : Int) ≤ (n : Int) + 1 := by omega
  have h6 : n ≤ n + 1 := by omega
  have h7 : n + 1 ≤ s.length := hn
  have h8 : n < s.length := hn
  simp [Instr.slice, run_underlying Tryz.underlying9, Instr.sliceBounds, run_sliceBound, hs, h2, h3, h4, h5, e]
theorem wtext_cat (a b : List UInt8) : ((⟨a.toArray⟩ : ByteArray) ++ ⟨b.toArray⟩) = ⟨(a ++ b).toArray⟩ := by apply ByteArray.ext; simp

theorem wtext_l (s : List UInt8) (n : Nat) (hn : n ≤ s.length) (w : World) : (Instr.slice 9 (tx s) (some (.int .i64 (n : Int))) none none).run Tryz.prog w = .ok (tx (s.drop n)) w := by
  have hs : (⟨s.toArray⟩ : ByteArray).size = s.length := by simp [ByteArray.size]
  have e : (⟨s.toArray⟩ : ByteArray).extract n s.length = ⟨(s.drop n).toArray⟩ := by
    apply ByteArray.ext
    simp only [ByteArray.data_extract, List.extract_toArray, List.extract]
    rw [List.take_of_length_le (by simp)]
  simp [Instr.slice, run_underlying Tryz.underlying9, Instr.sliceBounds, run_sliceBound, hs, hn, e]
theorem ext_l (s : List UInt8) (n : Nat) : (⟨s.toArray⟩ : ByteArray).extract n s.length = ⟨(s.drop n).toArray⟩ := by
  apply ByteArray.ext
  simp only [ByteArray.data_extract, List.extract_toArray, List.extract]
  rw [List.take_of_length_le (by simp)]
theorem ext_h (s : List UInt8) (n : Nat) : (⟨s.toArray⟩ : ByteArray).extract 0 n = ⟨(s.take n).toArray⟩ := by apply ByteArray.ext; simp
end Go.Proofs.YtjkneekfijibiabGreatDoor

namespace Go.Proofs.YtjkneekfijibiabGreatDoor
open Go.RowKit Go.Maps
section
variable {w w' : World} {T : Wd}
abbrev wp (b : Nat) : Value := .pointer (some ⟨b, 0, none⟩)
theorem zero_num (w : World) : (zeroValue 3).run Tryz.prog w = .ok (.int .i64 0) w := by kernel_rfl
theorem isName_len {x : Nm} (h : isName x = true) : 1 ≤ x.length ∧ x.length ≤ 12 := by
  unfold isName at h
  simp only [Bool.and_eq_true, decide_eq_true_eq] at h
  exact ⟨h.1.1.1, h.1.1.2⟩
theorem namesOf_names {p : List UInt8} {l : List Nm} (h : namesOf p = some l) : ∀ x ∈ l, isName x = true := by
  unfold namesOf at h
  split at h
  · cases h; intro x hx; cases hx
  · split at h
    · split at h
      · rename_i ha; cases h; exact fun x hx => List.all_eq_true.1 ha x hx
      · cases h
    · cases h
theorem namesOf_len {p : List UInt8} {l : List Nm} (h : namesOf p = some l) : l.length ≤ p.length + 1 := by
  unfold namesOf at h
  split at h
  · cases h; simp
  · have hp := parts_len p
    split at h
    · rename_i e
      split at h
      · cases h; rw [e] at hp; simp at hp ⊢; omega
      · cases h
    · cases h
/-- Where a PATH leads. -/
def findT (T : Wd) (p : List UInt8) : Int × Int := match namesOf p with
  | none => (0, 1)
  | some l => leadT T 0 l
/-- Its PLACE: the directory, the last name; what is wrong. -/
def placeT (T : Wd) (p : List UInt8) : Int × Nm × Int := match namesOf p with
  | none => (0, [], 1)
  | some l => if l = [] then (0, [], 1) else if (leadT T 0 l.dropLast).2 ≠ 0 then (0, [], (leadT T 0 l.dropLast).2) else match T (leadT T 0 l.dropLast).1 with
    | some (.dir _) => ((leadT T 0 l.dropLast).1, l.getLastD [], 0)
    | _ => (0, [], 6)
/-- One node turned. -/
def setT (T : Wd) (n : Int) (x : Nd) : Wd := fun k => if k = n then some x else T k
theorem setT_same (T : Wd) (n : Int) (x : Nd) : setT T n x n = some x := if_pos rfl
theorem setT_other {T : Wd} {n k : Int} (x : Nd) (h : k ≠ n) : setT T n x k = T k := if_neg h
/-- Whether it is a file. -/
def fileT (T : Wd) (n : Int) : Int := match T n with
  | none => 7
  | some (.dir _) => 6
  | some (.file _ _) => 0
def cutE (T : Wd) (n size : Int) : Int := if fileT T n ≠ 0 then fileT T n else if size < 0 then 2 else 0
def cutN (T : Wd) (n size : Int) : Wd := match T n with
  | some (.file b x) => if size < 0 then T else setT T n (.file (b.take size.toNat) x)
  | _ => T
def readE (T : Wd) (n a m : Int) : Int := if fileT T n ≠ 0 then fileT T n else if a < 0 ∨ m < 0 then 2 else 0
def readS (T : Wd) (n a m : Int) : List UInt8 := match T n with
  | some (.file b _) => if a < 0 ∨ m < 0 then [] else (b.drop a.toNat).take m.toNat
  | _ => []
theorem fileT_zero {T : Wd} {n : Int} (h : fileT T n = 0) : ∃ b x, T n = some (.file b x) := by
  unfold fileT at h
  cases e : T n with
  | none => rw [e] at h; simp at h
  | some nd => cases nd with
    | dir C => rw [e] at h; simp at h
    | file b x => exact ⟨b, x, rfl⟩
theorem cutN_no {T : Wd} {n size : Int} (h : cutE T n size ≠ 0) : cutN T n size = T := by
  unfold cutE at h; unfold cutN
  cases e : T n with
  | none => rfl
  | some nd => cases nd with
    | dir C => rfl
    | file b x =>
      have hf : fileT T n = 0 := by unfold fileT; rw [e]
      rw [if_neg (fun h' => h' hf)] at h
      simp only
      by_cases hs : size < 0
      · rw [if_pos hs]
      · rw [if_neg hs] at h; exact absurd rfl h
theorem heap_cell_same (w : World) (s o : Nat) (v : Value) (c : Array Value) (t : TypeId) (fr : Nat × Nat) (h : w.heap[s]? = some (.cells c t fr)) : (w.setCell ⟨s, o, none⟩ v).heap[s]? = some (.cells (c.setIfInBounds o v) t fr) := by
  rw [setCell_eq_setRow w s o c t fr v h]; exact setRow_heap w s c _ t fr h
theorem gby_below {g : Nat} (hb : Below w.heap.size w w') : w.grownBy w' (some g) := ⟨hb.os, hb.tape, hb.output, hb.size, fun i hi _ => hb.block i hi⟩
/-- Which number a name has in a directory. -/
def hasT (T : Wd) (d : Int) (nm : Nm) : Option Int := match T d with
  | some (.dir C) => C.lookup nm
  | _ => none
def isDirT (T : Wd) (n : Int) : Bool := match T n with
  | some (.dir _) => true
  | _ => false
/-- One name more in a directory; one less. -/
def addT (T : Wd) (d : Int) (nm : Nm) (n : Int) : Wd := match T d with
  | some (.dir C) => setT T d (.dir ((nm, n) :: C))
  | _ => T
def delT (T : Wd) (d : Int) (nm : Nm) : Wd := match T d with
  | some (.dir C) => setT T d (.dir (C.filter (fun x => x.1 != nm)))
  | _ => T
theorem addT_eq {T : Wd} {d : Int} {C : List (Nm × Int)} (h : T d = some (.dir C)) (nm : Nm) (n : Int) : addT T d nm n = setT T d (.dir ((nm, n) :: C)) := by unfold addT; rw [h]
theorem delT_eq {T : Wd} {d : Int} {C : List (Nm × Int)} (h : T d = some (.dir C)) (nm : Nm) : delT T d nm = setT T d (.dir (C.filter (fun x => x.1 != nm))) := by unfold delT; rw [h]
theorem hasT_eq {T : Wd} {d : Int} {C : List (Nm × Int)} (h : T d = some (.dir C)) (nm : Nm) : hasT T d nm = C.lookup nm := by unfold hasT; rw [h]
/-- A PLACE that is one. -/
theorem placeT_dir {T : Wd} (_ : TrOk T) {p : List UInt8} (h : (placeT T p).2.2 = 0) : (∃ C, T (placeT T p).1 = some (.dir C)) ∧ isName (placeT T p).2.1 = true := by
  unfold placeT at h ⊢
  cases hn : namesOf p with
  | none => rw [hn] at h; simp at h
  | some l =>
    rw [hn] at h
    simp only at h ⊢
    by_cases h0 : l = []
    · rw [if_pos h0] at h; simp at h
    · rw [if_neg h0] at h ⊢
      by_cases h1 : (leadT T 0 l.dropLast).2 ≠ 0
      · rw [if_pos h1] at h; exact absurd h h1
      · rw [if_neg h1] at h ⊢
        cases hd : T (leadT T 0 l.dropLast).1 with
        | none => rw [hd] at h; simp at h
        | some nd => cases nd with
          | file b x => rw [hd] at h; simp at h
          | dir C =>
            refine ⟨⟨C, hd⟩, ?_⟩
            show isName (l.getLastD []) = true
            have hm : l.getLastD [] ∈ l := by
              rw [List.getLastD_eq_getLast?, List.getLast?_eq_some_getLast h0]
              exact List.getLast_mem h0
            exact namesOf_names hn _ hm
theorem findT_some {T : Wd} (hT : TrOk T) {p : List UInt8} (h : (findT T p).2 = 0) : (T (findT T p).1).isSome = true := by
  unfold findT at h ⊢
  cases hn : namesOf p with
  | none => rw [hn] at h; simp at h
  | some l =>
    rw [hn] at h
    exact hT.lead l 0 (by obtain ⟨C, e⟩ := hT.root; rw [e]; rfl) h
def linkE (T : Wd) (p q : List UInt8) : Int := if (findT T p).2 ≠ 0 then (findT T p).2 else if isDirT T (findT T p).1 = true then 6 else if (placeT T q).2.2 ≠ 0 then (placeT T q).2.2 else if (hasT T (placeT T q).1 (placeT T q).2.1).isSome = true then 9 else 0
def linkN (T : Wd) (p q : List UInt8) : Wd := if linkE T p q ≠ 0 then T else addT T (placeT T q).1 (placeT T q).2.1 (findT T p).1
/-- All but a few blocks stayed. -/
structure Wt (A : Nat → Prop) (w w' : World) : Prop where
  os : w'.os = w.os
  tape : w'.tape = w.tape
  output : w'.output = w.output
  size : w.heap.size ≤ w'.heap.size
  block : ∀ i, i < w.heap.size → ¬ A i → w'.heap[i]? = w.heap[i]?
theorem Wt.below (A : Nat → Prop) (h : Below w.heap.size w w') : Wt A w w' := ⟨h.os, h.tape, h.output, h.size, fun i hi _ => h.block i hi⟩
theorem Wt.grown {A : Nat → Prop} {g : Nat} (h : w.grownBy w' (some g)) (hg : A g) : Wt A w w' := ⟨h.os, h.tape, h.output, h.size, fun i hi hA => h.block i hi (fun e => hA (by rw [Option.some.inj e]; exact hg))⟩
theorem Wt.trans {A : Nat → Prop} {w1 w2 : World} (h : Wt A w w1) (k : Wt A w1 w2) : Wt A w w2 :=
  ⟨k.os.trans h.os, k.tape.trans h.tape, k.output.trans h.output, Nat.le_trans h.size k.size, fun i hi hA => (k.block i (Nat.lt_of_lt_of_le hi h.size) hA).trans (h.block i hi hA)⟩
theorem maxLen_kept {m : Int} {g : Nat} (hm : w.cell? ⟨g, 0, none⟩ = some (.int .i64 m)) (hb : Below w.heap.size w w') : w'.cell? ⟨g, 0, none⟩ = some (.int .i64 m) := by
  rw [← hm]; exact hb.cell (World.block_lt_of_cell? w _ hm)
/-- The least number that is free. -/
structure IsFree (T : Wd) (k : Int) : Prop where
  pos : 0 ≤ k
  none : T k = none
  least : ∀ j, 0 ≤ j → j < k → (T j).isSome = true
theorem IsFree.same {T : Wd} {k k' : Int} (h : IsFree T k) (h' : IsFree T k') : k = k' := by
  rcases Int.lt_trichotomy k k' with e | e | e
  · have := h'.least k h.pos e; rw [h.none] at this; cases this
  · exact e
  · have := h.least k' h'.pos e; rw [h'.none] at this; cases this
/-- A node anew. -/
def newNd (dir : Bool) : Nd := if dir = true then .dir [] else .file [] 0
def makeE (T : Wd) (s : Nat) (p : List UInt8) : Int := if (placeT T p).2.2 ≠ 0 then (placeT T p).2.2 else if (hasT T (placeT T p).1 (placeT T p).2.1).isSome = true then 9 else if 60 ≤ s then 12 else 0
def makeN (T : Wd) (p : List UInt8) (dir : Bool) (k : Int) : Wd := addT (setT T k (newNd dir)) (placeT T p).1 (placeT T p).2.1 k
theorem makeE_zero {T : Wd} {s : Nat} {p : List UInt8} (hT : TrOk T) (h : makeE T s p = 0) : (placeT T p).2.2 = 0 ∧ (∃ C, T (placeT T p).1 = some (.dir C) ∧ C.lookup (placeT T p).2.1 = none) ∧ isName (placeT T p).2.1 = true ∧ s < 60 := by
  unfold makeE at h
  by_cases h1 : (placeT T p).2.2 = 0
  · rw [if_neg (fun e => e h1)] at h
    obtain ⟨⟨C, hd⟩, hn⟩ := placeT_dir hT h1
    rw [hasT_eq hd] at h
    cases hl : C.lookup (placeT T p).2.1 with
    | some n => rw [hl] at h; simp at h
    | none =>
      rw [hl] at h
      simp only [Option.isSome_none, Bool.false_eq_true, if_false] at h
      refine ⟨h1, ⟨C, hd, hl⟩, hn, ?_⟩
      by_cases e : 60 ≤ s
      · rw [if_pos e] at h; omega
      · omega
  · rw [if_pos h1] at h; exact absurd h h1
theorem two_alloc (wr : World) (A B : Obj) : ((wr.alloc A).alloc B).heap[wr.heap.size + 1]? = some B := by
  show ((wr.heap.push A).push B)[wr.heap.size + 1]? = _
  rw [Array.getElem?_push, if_pos (by simp)]
/-- A name leads to a node. -/
def Led (T : Wd) (n : Int) : Prop := n = 0 ∨ ∃ k C s, T k = some (.dir C) ∧ C.lookup s = some n
def heldT : Nd → Nat
  | .dir _ => 0
  | .file _ h => h
open Classical in
noncomputable def sweepT (T : Wd) : Wd := fun n => match T n with
  | none => none
  | some nd => if Led T n ∨ heldT nd ≠ 0 then some nd else none
theorem sweepT_sub {T : Wd} {n : Int} {nd : Nd} (h : sweepT T n = some nd) : T n = some nd := by
  unfold sweepT at h
  split at h
  · cases h
  · split at h
    · rename_i e _; rw [e]; exact h
    · cases h
theorem sweepT_stay {T : Wd} {n : Int} (h : ∀ nd, T n = some nd → Led T n ∨ heldT nd ≠ 0) : sweepT T n = T n := by
  unfold sweepT
  split
  · rename_i e; exact e.symm
  · rename_i nd e; rw [if_pos (h nd e), e]
theorem sweepT_go {T : Wd} {n : Int} {nd : Nd} (hn : T n = some nd) (h : ¬ (Led T n ∨ heldT nd ≠ 0)) : sweepT T n = none := by
  unfold sweepT; rw [hn]; simp only; rw [if_neg h]
theorem lookup_del (nm : Nm) : ∀ (C : List (Nm × Int)) (i : Nm), (C.filter (fun x => x.1 != nm)).lookup i = if i = nm then none else C.lookup i
  | [], i => by simp
  | (a, n) :: C, i => by
    have ih := lookup_del nm C i
    by_cases e : a = nm
    · subst e
      rw [List.filter_cons_of_neg (by simp), ih]
      by_cases ei : i = a
      · simp [ei]
      · have : (i == a) = false := by simp [ei]
        simp [ei, List.lookup, this]
    · rw [List.filter_cons_of_pos (by simp [e])]
      by_cases ei : i = a
      · subst ei; simp [List.lookup, e]
      · have : (i == a) = false := by simp [ei]
        simp only [List.lookup, this]
        exact ih
theorem lookup_mem : ∀ {C : List (Nm × Int)} {i : Nm} {n : Int}, C.lookup i = some n → (i, n) ∈ C
  | [], i, n, h => by simp at h
  | (a, m) :: C, i, n, h => by
    by_cases e : i = a
    · subst e; simp [List.lookup] at h; simp [h]
    · have : (i == a) = false := by simp [e]
      simp only [List.lookup, this] at h
      exact List.mem_cons_of_mem _ (lookup_mem h)
theorem lookup_none : ∀ {C : List (Nm × Int)} {i : Nm}, C.lookup i = none → i ∉ C.map (·.1)
  | [], i, h => by simp
  | (a, m) :: C, i, h => by
    by_cases e : i = a
    · subst e; simp [List.lookup] at h
    · have : (i == a) = false := by simp [e]
      simp only [List.lookup, this] at h
      simp only [List.map_cons, List.mem_cons, not_or]
      exact ⟨e, lookup_none h⟩
theorem filter_same {nm : Nm} : ∀ {C : List (Nm × Int)}, nm ∉ C.map (·.1) → C.filter (fun x => x.1 != nm) = C
  | [], _ => rfl
  | (a, m) :: C, h => by
    simp only [List.map_cons, List.mem_cons, not_or] at h
    rw [List.filter_cons_of_pos (by simp; exact fun e => h.1 e.symm), filter_same h.2]
theorem filter_len {nm : Nm} : ∀ {C : List (Nm × Int)}, (C.map (·.1)).Nodup → (C.lookup nm).isSome = true → (C.filter (fun x => x.1 != nm)).length = C.length - 1
  | [], _, h => by simp at h
  | (a, m) :: C, hn, h => by
    simp only [List.map_cons, List.nodup_cons] at hn
    by_cases e : a = nm
    · subst e
      rw [List.filter_cons_of_neg (by simp), filter_same hn.1]; simp
    · have e2 : (nm == a) = false := by simp; exact fun e' => e e'.symm
      simp only [List.lookup, e2] at h
      rw [List.filter_cons_of_pos (by simp [e]), List.length_cons, filter_len hn.2 h]
      cases C with
      | nil => simp at h
      | cons _ _ => simp
theorem TrOk.del {T : Wd} (h : TrOk T) (d : Int) (nm : Nm) : TrOk (delT T d nm) := by
  cases hd : T d with
  | none => rw [show delT T d nm = T by unfold delT; rw [hd]]; exact h
  | some nd => cases nd with
    | file b x => rw [show delT T d nm = T by unfold delT; rw [hd]]; exact h
    | dir C =>
      rw [delT_eq hd]
      have hold : ∀ k D, setT T d (.dir (C.filter (fun x => x.1 != nm))) k = some (.dir D) → (k = d ∧ D = C.filter (fun x => x.1 != nm)) ∨ (k ≠ d ∧ T k = some (.dir D)) := fun k D e => by
        by_cases e1 : k = d
        · subst e1; rw [setT_same] at e; cases e; exact .inl ⟨rfl, rfl⟩
        · rw [setT_other _ e1] at e; exact .inr ⟨e1, e⟩
      have hsome : ∀ k, (setT T d (.dir (C.filter (fun x => x.1 != nm))) k).isSome = (T k).isSome := fun k => by
        by_cases e1 : k = d
        · subst e1; rw [setT_same, hd]; rfl
        · rw [setT_other _ e1]
      refine ⟨?_, fun k e => h.key k (by rw [← hsome]; exact e), fun k D e => ?_, fun k D s n e e2 => ?_, fun k D x e e2 => ?_, fun k b x e => ?_⟩
      · obtain ⟨C0, e0⟩ := h.root
        by_cases e1 : (0 : Int) = d
        · rw [← e1, setT_same]; exact ⟨_, rfl⟩
        · rw [setT_other _ e1]; exact ⟨C0, e0⟩
      · rcases hold k D e with ⟨_, rfl⟩ | ⟨_, e⟩
        · exact (List.filter_sublist.map _).nodup (h.nodup d C hd)
        · exact h.nodup k D e
      · rw [hsome]
        rcases hold k D e with ⟨_, rfl⟩ | ⟨_, e⟩
        · rw [lookup_del] at e2
          by_cases es : s = nm
          · rw [if_pos es] at e2; cases e2
          · rw [if_neg es] at e2; exact h.child d C s n hd e2
        · exact h.child k D s n e e2
      · rcases hold k D e with ⟨_, rfl⟩ | ⟨_, e⟩
        · exact h.name d C x hd (List.mem_filter.1 e2).1
        · exact h.name k D x e e2
      · by_cases e1 : k = d
        · subst e1; rw [setT_same] at e; cases e
        · rw [setT_other _ e1] at e; exact h.small k b x e
/-- How many names a node has. -/
def manyT (T : Wd) (n : Int) : Nat := match T n with
  | some (.dir C) => C.length
  | _ => 0
def unlinkE (T : Wd) (p : List UInt8) : Int := if (placeT T p).2.2 ≠ 0 then (placeT T p).2.2 else match hasT T (placeT T p).1 (placeT T p).2.1 with
  | none => 7
  | some n => if manyT T n ≠ 0 then 6 else 0
noncomputable def unlinkN (T : Wd) (p : List UInt8) : Wd := if unlinkE T p ≠ 0 then T else sweepT (delT T (placeT T p).1 (placeT T p).2.1)
theorem delT_len {T : Wd} (hC : ∀ k C, T k = some (.dir C) → C.length ≤ 1000) (d : Int) (nm : Nm) : ∀ k C, delT T d nm k = some (.dir C) → C.length ≤ 1000 := fun k C e => by
  cases hd : T d with
  | none => rw [show delT T d nm = T by unfold delT; rw [hd]] at e; exact hC k C e
  | some nd => cases nd with
    | file b x => rw [show delT T d nm = T by unfold delT; rw [hd]] at e; exact hC k C e
    | dir D =>
      rw [delT_eq hd] at e
      by_cases e1 : k = d
      · subst e1; rw [setT_same] at e; cases e
        exact Nat.le_trans (List.length_filter_le _ _) (hC k D hd)
      · rw [setT_other _ e1] at e; exact hC k C e
theorem delT_dir {T : Wd} {d k : Int} {nm : Nm} {C : List (Nm × Int)} (h : delT T d nm k = some (.dir C)) : ∃ C', T k = some (.dir C') := by
  cases hd : T d with
  | none => rw [show delT T d nm = T by unfold delT; rw [hd]] at h; exact ⟨C, h⟩
  | some nd => cases nd with
    | file b x => rw [show delT T d nm = T by unfold delT; rw [hd]] at h; exact ⟨C, h⟩
    | dir D =>
      rw [delT_eq hd] at h
      by_cases e1 : k = d
      · exact ⟨D, by rw [e1]; exact hd⟩
      · rw [setT_other _ e1] at h; exact ⟨C, h⟩
theorem Wt.mono {A B : Nat → Prop} (h : Wt A w w') (hB : ∀ i, A i → B i) : Wt B w w' := ⟨h.os, h.tape, h.output, h.size, fun i hi hn => h.block i hi (fun a => hn (hB i a))⟩
def holdE (T : Wd) (n by' : Int) : Int := match T n with
  | some (.file _ x) => if (x : Int) + by' < 0 then 10 else 0
  | _ => fileT T n
noncomputable def holdN (T : Wd) (n by' : Int) : Wd := match T n with
  | some (.file b x) => if (x : Int) + by' < 0 then T else sweepT (setT T n (.file b ((x : Int) + by').toNat))
  | _ => T
theorem TrOk.setF {T : Wd} (h : TrOk T) {n : Int} {b b' : List UInt8} {x x' : Nat} (hn : T n = some (.file b x)) (hb : b'.length ≤ 256) (hx : x' ≤ 1000) : TrOk (setT T n (.file b' x')) := by
  have hd : ∀ k C, setT T n (.file b' x') k = some (.dir C) → T k = some (.dir C) := fun k C e => by
    by_cases e1 : k = n
    · subst e1; rw [setT_same] at e; cases e
    · rw [setT_other _ e1] at e; exact e
  have hsome : ∀ k, (setT T n (.file b' x') k).isSome = (T k).isSome := fun k => by
    by_cases e1 : k = n
    · subst e1; rw [setT_same, hn]; rfl
    · rw [setT_other _ e1]
  refine ⟨?_, fun k e => h.key k (by rw [← hsome]; exact e), fun k C e => h.nodup k C (hd k C e), fun k C s m e e2 => by rw [hsome]; exact h.child k C s m (hd k C e) e2, fun k C y e => h.name k C y (hd k C e), fun k c y e => ?_⟩
  · obtain ⟨C, e⟩ := h.root
    refine ⟨C, ?_⟩
    rw [setT_other]; exact e
    intro e1; rw [← e1, e] at hn; cases hn
  · by_cases e1 : k = n
    · subst e1; rw [setT_same] at e; cases e; exact ⟨hb, hx⟩
    · rw [setT_other _ e1] at e; exact h.small k c y e
def renameE (T : Wd) (p q : List UInt8) : Int := if (placeT T p).2.2 ≠ 0 then (placeT T p).2.2 else if hasT T (placeT T p).1 (placeT T p).2.1 = none then 7 else
  if (placeT T q).2.2 ≠ 0 then (placeT T q).2.2 else if (hasT T (placeT T q).1 (placeT T q).2.1).isSome = true then 9 else if (p ++ [47]).isPrefixOf q = true then 6 else 0
def renameN (T : Wd) (p q : List UInt8) : Wd := if renameE T p q ≠ 0 then T else
  addT (delT T (placeT T p).1 (placeT T p).2.1) (placeT T q).1 (placeT T q).2.1 ((hasT T (placeT T p).1 (placeT T p).2.1).getD 0)
theorem delT_at {T : Wd} {d d2 : Int} {nm nm2 : Nm} {C2 : List (Nm × Int)} (h : T d2 = some (.dir C2)) (hl : C2.lookup nm2 = none) : ∃ C3, delT T d nm d2 = some (.dir C3) ∧ C3.lookup nm2 = none ∧ C3.length ≤ C2.length := by
  cases hd : T d with
  | none => exact ⟨C2, by rw [show delT T d nm = T by unfold delT; rw [hd]]; exact h, hl, Nat.le_refl _⟩
  | some nd => cases nd with
    | file b x => exact ⟨C2, by rw [show delT T d nm = T by unfold delT; rw [hd]]; exact h, hl, Nat.le_refl _⟩
    | dir C =>
      rw [delT_eq hd]
      by_cases e : d2 = d
      · subst e; rw [hd] at h; cases h
        refine ⟨_, setT_same _ _ _, ?_, List.length_filter_le _ _⟩
        rw [lookup_del, hl]; split <;> rfl
      · exact ⟨C2, by rw [setT_other _ e]; exact h, hl, Nat.le_refl _⟩
/-- Bytes, so many at least. -/
def padT (b : List UInt8) (n : Nat) : List UInt8 := b ++ List.replicate (n - b.length) 0
/-- A text written into bytes. -/
def overT (b : List UInt8) (a : Nat) (x : List UInt8) : List UInt8 := (padT b (a + x.length)).take a ++ x ++ (padT b (a + x.length)).drop (a + x.length)
theorem padT_len (b : List UInt8) (n : Nat) : (padT b n).length = max b.length n := by unfold padT; rw [List.length_append, List.length_replicate]; omega
theorem padT_same {b : List UInt8} {n : Nat} (h : n ≤ b.length) : padT b n = b := by unfold padT; rw [show n - b.length = 0 by omega]; simp
theorem padT_step {b : List UInt8} {n : Nat} (h : b.length < n) : padT (b ++ [0]) n = padT b n := by
  unfold padT
  rw [List.length_append, List.length_singleton, List.append_assoc, show n - b.length = (n - (b.length + 1)) + 1 by omega, List.replicate_succ]; rfl
theorem overT_len (b : List UInt8) (a : Nat) (x : List UInt8) : (overT b a x).length = max b.length (a + x.length) := by
  unfold overT
  rw [List.length_append, List.length_append, List.length_take, List.length_drop, padT_len]; omega
def writeE (T : Wd) (n a : Int) (x : List UInt8) : Int := if fileT T n ≠ 0 then fileT T n else if a < 0 then 2 else if (200 : Int) < x.length ∨ 200 - (x.length : Int) < a then 4 else 0
def writeN (T : Wd) (n a : Int) (x : List UInt8) : Wd := if writeE T n a x ≠ 0 ∨ x = [] then T else match T n with
  | some (.file b h) => setT T n (.file (overT b a.toNat x) h)
  | _ => T
theorem TrOk.add {T : Wd} (h : TrOk T) {d n : Int} {nm : Nm} {C : List (Nm × Int)} (hd : T d = some (.dir C)) (hl : C.lookup nm = none) (hnm : isName nm = true) (hn : (T n).isSome = true) : TrOk (addT T d nm n) := by
  rw [addT_eq hd]
  have hold : ∀ k D, setT T d (.dir ((nm, n) :: C)) k = some (.dir D) → (k = d ∧ D = (nm, n) :: C) ∨ (k ≠ d ∧ T k = some (.dir D)) := fun k D e => by
    by_cases e1 : k = d
    · subst e1; rw [setT_same] at e; cases e; exact .inl ⟨rfl, rfl⟩
    · rw [setT_other _ e1] at e; exact .inr ⟨e1, e⟩
  have hsome : ∀ k, (setT T d (.dir ((nm, n) :: C)) k).isSome = (T k).isSome := fun k => by
    by_cases e1 : k = d
    · subst e1; rw [setT_same, hd]; rfl
    · rw [setT_other _ e1]
  refine ⟨?_, fun k e => h.key k (by rw [← hsome]; exact e), fun k D e => ?_, fun k D s m e e2 => ?_, fun k D x e e2 => ?_, fun k b x e => ?_⟩
  · obtain ⟨C0, e0⟩ := h.root
    by_cases e1 : (0 : Int) = d
    · rw [← e1, setT_same]; exact ⟨_, rfl⟩
    · rw [setT_other _ e1]; exact ⟨C0, e0⟩
  · rcases hold k D e with ⟨_, rfl⟩ | ⟨_, e⟩
    · rw [List.map_cons, List.nodup_cons]; exact ⟨lookup_none hl, h.nodup d C hd⟩
    · exact h.nodup k D e
  · rw [hsome]
    rcases hold k D e with ⟨_, rfl⟩ | ⟨_, e⟩
    · by_cases es : s = nm
      · subst es; simp [List.lookup] at e2; rw [← e2]; exact hn
      · have : (s == nm) = false := by simp [es]
        simp only [List.lookup, this] at e2
        exact h.child d C s m hd e2
    · exact h.child k D s m e e2
  · rcases hold k D e with ⟨_, rfl⟩ | ⟨_, e⟩
    · rcases List.mem_cons.1 e2 with rfl | e2
      · exact hnm
      · exact h.name d C x hd e2
    · exact h.name k D x e e2
  · by_cases e1 : k = d
    · subst e1; rw [setT_same] at e; cases e
    · rw [setT_other _ e1] at e; exact h.small k b x e
theorem TrOk.new {T : Wd} (h : TrOk T) {k : Int} (hk : T k = none) (h0 : 0 ≤ k) (h1 : k < 64) (dir : Bool) : TrOk (setT T k (newNd dir)) := by
  have hne : ∀ i nd, T i = some nd → i ≠ k := fun i nd e e1 => by rw [e1, hk] at e; cases e
  have hold : ∀ i D, setT T k (newNd dir) i = some (.dir D) → (i = k ∧ D = []) ∨ (i ≠ k ∧ T i = some (.dir D)) := fun i D e => by
    by_cases e1 : i = k
    · subst e1; rw [setT_same] at e
      cases dir with
      | true => simp [newNd] at e; exact .inl ⟨rfl, e⟩
      | false => simp [newNd] at e
    · rw [setT_other _ e1] at e; exact .inr ⟨e1, e⟩
  refine ⟨?_, fun i e => ?_, fun i D e => ?_, fun i D s m e e2 => ?_, fun i D x e e2 => ?_, fun i b x e => ?_⟩
  · obtain ⟨C0, e0⟩ := h.root
    exact ⟨C0, by rw [setT_other _ (hne 0 _ e0)]; exact e0⟩
  · by_cases e1 : i = k
    · omega
    · rw [setT_other _ e1] at e; exact h.key i e
  · rcases hold i D e with ⟨_, rfl⟩ | ⟨_, e⟩
    · simp
    · exact h.nodup i D e
  · rcases hold i D e with ⟨_, rfl⟩ | ⟨_, e⟩
    · simp at e2
    · have := h.child i D s m e e2
      by_cases e1 : m = k
      · subst e1; rw [setT_same]; rfl
      · rw [setT_other _ e1]; exact this
  · rcases hold i D e with ⟨_, rfl⟩ | ⟨_, e⟩
    · cases e2
    · exact h.name i D x e e2
  · by_cases e1 : i = k
    · subst e1; rw [setT_same] at e
      cases dir with
      | true => simp [newNd] at e
      | false => simp [newNd] at e; obtain ⟨rfl, rfl⟩ := e; simp
    · rw [setT_other _ e1] at e; exact h.small i b x e
theorem TrOk.sweep {T : Wd} (h : TrOk T) : TrOk (sweepT T) := by
  refine ⟨?_, fun k e => ?_, fun k D e => h.nodup k D (sweepT_sub e), fun k D s m e e2 => ?_, fun k D x e e2 => h.name k D x (sweepT_sub e) e2, fun k b x e => h.small k b x (sweepT_sub e)⟩
  · obtain ⟨C0, e0⟩ := h.root
    exact ⟨C0, by rw [sweepT_stay (fun _ _ => .inl (.inl rfl))]; exact e0⟩
  · cases hs : sweepT T k with
    | none => rw [hs] at e; cases e
    | some nd => exact h.key k (by rw [sweepT_sub hs]; rfl)
  · have hc := h.child k D s m (sweepT_sub e) e2
    rw [sweepT_stay (fun _ _ => .inl (.inr ⟨k, D, s, sweepT_sub e, e2⟩))]
    exact hc
theorem TrOk.link {T : Wd} (h : TrOk T) (p q : List UInt8) : TrOk (linkN T p q) := by
  unfold linkN
  by_cases hE : linkE T p q ≠ 0
  · rw [if_pos hE]; exact h
  · rw [if_neg hE]
    have hE' : linkE T p q = 0 := Classical.not_not.1 hE
    unfold linkE at hE'
    by_cases h1 : (findT T p).2 = 0
    · rw [if_neg (fun e => e h1)] at hE'
      by_cases h2 : isDirT T (findT T p).1 = true
      · rw [if_pos h2] at hE'; omega
      · rw [if_neg h2] at hE'
        by_cases h3 : (placeT T q).2.2 = 0
        · rw [if_neg (fun e => e h3)] at hE'
          obtain ⟨⟨C, hd⟩, hnm⟩ := placeT_dir h h3
          rw [hasT_eq hd] at hE'
          cases hl : C.lookup (placeT T q).2.1 with
          | none => exact h.add hd hl hnm (findT_some h h1)
          | some m => rw [hl] at hE'; simp at hE'
        · rw [if_pos h3] at hE'; exact absurd hE' h3
    · rw [if_pos h1] at hE'; exact absurd hE' h1
theorem TrOk.make {T : Wd} {s : Nat} {p : List UInt8} (h : TrOk T) (hE : makeE T s p = 0) {k : Int} (hk : IsFree T k) (h1 : k < 64) (dir : Bool) : TrOk (makeN T p dir k) := by
  obtain ⟨_, ⟨C, hd, hl⟩, hnm, _⟩ := makeE_zero h hE
  have hne : (placeT T p).1 ≠ k := fun e => by rw [e, hk.none] at hd; cases hd
  exact (h.new hk.none hk.pos h1 dir).add (by rw [setT_other _ hne]; exact hd) hl hnm (by rw [setT_same]; rfl)
theorem TrOk.unlink {T : Wd} (h : TrOk T) (p : List UInt8) : TrOk (unlinkN T p) := by
  unfold unlinkN
  by_cases hE : unlinkE T p ≠ 0
  · rw [if_pos hE]; exact h
  · rw [if_neg hE]; exact (h.del _ _).sweep
theorem TrOk.cut {T : Wd} (h : TrOk T) (n size : Int) : TrOk (cutN T n size) := by
  unfold cutN
  cases hn : T n with
  | none => exact h
  | some nd => cases nd with
    | dir C => exact h
    | file b x =>
      simp only
      by_cases hs : size < 0
      · rw [if_pos hs]; exact h
      · rw [if_neg hs]
        have := h.small n b x hn
        exact h.setF hn (by rw [List.length_take]; omega) this.2
theorem TrOk.write {T : Wd} (h : TrOk T) (n a : Int) (x : List UInt8) : TrOk (writeN T n a x) := by
  unfold writeN
  by_cases hE : writeE T n a x ≠ 0 ∨ x = []
  · rw [if_pos hE]; exact h
  · rw [if_neg hE]
    have hE' : writeE T n a x = 0 := Classical.not_not.1 (fun e => hE (.inl e))
    unfold writeE at hE'
    by_cases hf : fileT T n = 0
    · obtain ⟨b, y, hn⟩ := fileT_zero hf
      rw [if_neg (fun e => e hf)] at hE'
      by_cases ha : a < 0
      · rw [if_pos ha] at hE'; omega
      · rw [if_neg ha] at hE'
        by_cases hl : (200 : Int) < x.length ∨ 200 - (x.length : Int) < a
        · rw [if_pos hl] at hE'; omega
        · rw [hn]
          have := h.small n b y hn
          exact h.setF hn (by rw [overT_len]; omega) this.2
    · rw [if_pos hf] at hE'; exact absurd hE' hf
theorem TrOk.hold {T : Wd} (h : TrOk T) (n by' : Int) (hby : by' ≤ 1) (hx : ∀ b x, T n = some (.file b x) → x + 1 ≤ 1000) : TrOk (holdN T n by') := by
  unfold holdN
  cases hn : T n with
  | none => exact h
  | some nd => cases nd with
    | dir C => exact h
    | file b x =>
      simp only
      by_cases hs : (x : Int) + by' < 0
      · rw [if_pos hs]; exact h
      · rw [if_neg hs]
        have h1 := h.small n b x hn
        have h2 := hx b x hn
        exact (h.setF hn h1.1 (by omega)).sweep
theorem delT_some (T : Wd) (d : Int) (nm : Nm) (k : Int) : (delT T d nm k).isSome = (T k).isSome := by
  cases hd : T d with
  | none => rw [show delT T d nm = T by unfold delT; rw [hd]]
  | some nd => cases nd with
    | file b x => rw [show delT T d nm = T by unfold delT; rw [hd]]
    | dir C =>
      rw [delT_eq hd]
      by_cases e1 : k = d
      · subst e1; rw [setT_same, hd]; rfl
      · rw [setT_other _ e1]
theorem TrOk.rename {T : Wd} (h : TrOk T) (p q : List UInt8) : TrOk (renameN T p q) := by
  unfold renameN
  by_cases hE : renameE T p q ≠ 0
  · rw [if_pos hE]; exact h
  · rw [if_neg hE]
    have hE' : renameE T p q = 0 := Classical.not_not.1 hE
    unfold renameE at hE'
    by_cases h1 : (placeT T p).2.2 = 0
    · rw [if_neg (fun e => e h1)] at hE'
      obtain ⟨⟨C, hd⟩, _⟩ := placeT_dir h h1
      cases hl : hasT T (placeT T p).1 (placeT T p).2.1 with
      | none => rw [hl, if_pos rfl] at hE'; omega
      | some n =>
        rw [hl, if_neg (by simp)] at hE'
        by_cases h3 : (placeT T q).2.2 = 0
        · rw [if_neg (fun e => e h3)] at hE'
          obtain ⟨⟨C2, hd2⟩, hnm2⟩ := placeT_dir h h3
          rw [hasT_eq hd2] at hE'
          cases hl2 : C2.lookup (placeT T q).2.1 with
          | some m => rw [hl2] at hE'; simp at hE'
          | none =>
            obtain ⟨C3, hd3, hl3, _⟩ := delT_at (d := (placeT T p).1) (nm := (placeT T p).2.1) hd2 hl2
            rw [hasT_eq hd] at hl
            exact (h.del _ _).add hd3 hl3 hnm2 (by rw [Option.getD_some, delT_some]; exact h.child _ C _ n hd hl)
        · rw [if_pos h3] at hE'; exact absurd hE' h3
    · rw [if_pos h1] at hE'; exact absurd hE' h1
abbrev inOrder (L : List Nm) : List Nm := L.mergeSort fun x y => decide (x ≤ y)
def listE (T : Wd) (p : List UInt8) : Int := if (findT T p).2 ≠ 0 then (findT T p).2 else if isDirT T (findT T p).1 = true then 0 else 6
theorem listE_zero {T : Wd} {p : List UInt8} (h : listE T p = 0) : (findT T p).2 = 0 ∧ ∃ C, T (findT T p).1 = some (.dir C) := by
  unfold listE at h
  by_cases h1 : (findT T p).2 = 0
  · rw [if_neg (fun e => e h1)] at h
    refine ⟨h1, ?_⟩
    unfold isDirT at h
    cases hn : T (findT T p).1 with
    | none => rw [hn] at h; simp at h
    | some nd => cases nd with
      | dir C => exact ⟨C, rfl⟩
      | file b x => rw [hn] at h; simp at h
  · rw [if_pos h1] at h; exact absurd h h1
end
end Go.Proofs.YtjkneekfijibiabGreatDoor

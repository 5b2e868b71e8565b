/- Paths plainly: a text's parts between slashes; the names of a PATH. -/
import Derived.WalkKit
import Derived.Lib.SplitLaws
import Derived.Test.YtcfhanoekniaaaaGreatDoorRows
import Derived.WalkLawsBesides
import Derived.Outline
import Derived.Deep.LoopGhost
import Derived.Test.YtcfhanoekniaaaaGreatDoorSKeys
import Derived.RegionTactic
import Derived.ChangeAlike
import Derived.Test.YtcfhanoekniaaaaGreatDoorJAbs
namespace Go.Proofs.YtcfhanoekniaaaaGreatDoor
open Go.RowKit

abbrev Nm := List UInt8
/-- A text by its bytes. -/
abbrev tx (l : List UInt8) : Value := .string ⟨l.toArray⟩

/-- A text's parts between its slashes. -/
def parts : List UInt8 → List Nm
  | [] => [[]]
  | b :: l => if b = 47 then [] :: parts l else match parts l with
    | [] => [[b]]
    | h :: t => (b :: h) :: t
/-- May a part be a name? -/
def isName (s : Nm) : Bool := decide (1 ≤ s.length) && decide (s.length ≤ 12) && !(s == [46]) && !(s == [46, 46])
/-- The names of a PATH (none: it is no PATH). -/
def namesOf (p : List UInt8) : Option (List Nm) :=
  if p = [47] then some [] else match parts p with
  | [] :: x :: t => if (x :: t).all isName then some (x :: t) else none
  | _ => none
end Go.Proofs.YtcfhanoekniaaaaGreatDoor

namespace Go.Proofs.YtcfhanoekniaaaaGreatDoor

/-- Texts that came in. -/
def Strs (w : World) (ad : Option Addr) (len : Nat) (q : Nat → List UInt8) : Prop :=
  len = 0 ∨ ∃ blk off, ad = some ⟨blk, off, none⟩ ∧ blk < w.heap.size ∧ ∀ i, i < len → w.cell? ⟨blk, off + i, none⟩ = some (tx (q i))
end Go.Proofs.YtcfhanoekniaaaaGreatDoor

namespace Go.Proofs.YtcfhanoekniaaaaGreatDoor
open Go.RowKit

inductive Nd where
  | dir (C : List (Nm × Int))
  | file (b : List UInt8) (h : Nat)
abbrev Wd := Int → Option Nd

theorem wf_few {n : Int} (h0 : 0 ≤ n) (h1 : n < 1000000) : (Lit.int .i64 n).wf = true := by
  have a : IntKind.max .i64 = 9223372036854775807 := rfl
  have b : IntKind.min .i64 = -9223372036854775808 := rfl
  simp only [Lit.wf, a, b, Bool.and_eq_true, decide_eq_true_eq]; omega

/-- Where names lead from a node; and what is wrong. -/
def leadT (T : Wd) : Int → List Nm → Int × Int
  | a, [] => (a, 0)
  | a, s :: r => match T a with
    | some (.dir C) => match C.lookup s with
      | some n => leadT T n r
      | none => (0, 7)
    | _ => (0, 6)
/-- What holds of every tree. -/
structure TrOk (T : Wd) : Prop where
  root : ∃ C, T 0 = some (.dir C)
  key : ∀ k, (T k).isSome = true → 0 ≤ k ∧ k < 64
  nodup : ∀ k C, T k = some (.dir C) → (C.map (·.1)).Nodup
  child : ∀ k C s n, T k = some (.dir C) → C.lookup s = some n → (T n).isSome = true
  name : ∀ k C x, T k = some (.dir C) → x ∈ C → isName x.1 = true
  small : ∀ k b h, T k = some (.file b h) → b.length ≤ 256 ∧ h ≤ 1000

end Go.Proofs.YtcfhanoekniaaaaGreatDoor

namespace Go.Proofs.YtcfhanoekniaaaaGreatDoor
open Go.RowKit Go.Maps

theorem wtext_h (s : List UInt8) (n : Nat) (hn : n ≤ s.length) (w : World) : (Instr.slice 9 (tx s) none (some (.int .i64 (n : Int))) none).run Tryz.prog w = .ok (tx (s.take n)) w := by
  have hs : (⟨s.toArray⟩ : ByteArray).size = s.length := by simp [ByteArray.size]
  have e : (⟨s.toArray⟩ : ByteArray).extract 0 n = ⟨(s.take n).toArray⟩ := by apply ByteArray.ext; simp
  simp [Instr.slice, run_underlying Tryz.underlying9, Instr.sliceBounds, run_sliceBound, hs, hn, e]
theorem wtext_cat (a b : List UInt8) : ((⟨a.toArray⟩ : ByteArray) ++ ⟨b.toArray⟩) = ⟨(a ++ b).toArray⟩ := by apply ByteArray.ext; simp

theorem wtext_l (s : List UInt8) (n : Nat) (hn : n ≤ s.length) (w : World) : (Instr.slice 9 (tx s) (some (.int .i64 (n : Int))) none none).run Tryz.prog w = .ok (tx (s.drop n)) w := by
  have hs : (⟨s.toArray⟩ : ByteArray).size = s.length := by simp [ByteArray.size]
  have e : (⟨s.toArray⟩ : ByteArray).extract n s.length = ⟨(s.drop n).toArray⟩ := by
    apply ByteArray.ext
    simp only [ByteArray.data_extract, List.extract_toArray, List.extract]
    rw [List.take_of_length_le (by simp)]
  simp [Instr.slice, run_underlying Tryz.underlying9, Instr.sliceBounds, run_sliceBound, hs, hn, e]
end Go.Proofs.YtcfhanoekniaaaaGreatDoor

namespace Go.Proofs.YtcfhanoekniaaaaGreatDoor
open Go.RowKit Go.Maps
section
variable {w w' : World} {T : Wd}
/-- Where a PATH leads. -/
def findT (T : Wd) (p : List UInt8) : Int × Int := match namesOf p with
  | none => (0, 1)
  | some l => leadT T 0 l
/-- Its PLACE: the directory, the last name; what is wrong. -/
def placeT (T : Wd) (p : List UInt8) : Int × Nm × Int := match namesOf p with
  | none => (0, [], 1)
  | some l => if l = [] then (0, [], 1) else if (leadT T 0 l.dropLast).2 ≠ 0 then (0, [], (leadT T 0 l.dropLast).2) else match T (leadT T 0 l.dropLast).1 with
    | some (.dir _) => ((leadT T 0 l.dropLast).1, l.getLastD [], 0)
    | _ => (0, [], 6)
/-- One node turned. -/
def setT (T : Wd) (n : Int) (x : Nd) : Wd := fun k => if k = n then some x else T k
theorem setT_same (T : Wd) (n : Int) (x : Nd) : setT T n x n = some x := if_pos rfl
theorem setT_other {T : Wd} {n k : Int} (x : Nd) (h : k ≠ n) : setT T n x k = T k := if_neg h
/-- Whether it is a file. -/
def fileT (T : Wd) (n : Int) : Int := match T n with
  | none => 7
  | some (.dir _) => 6
  | some (.file _ _) => 0
def cutN (T : Wd) (n size : Int) : Wd := match T n with
  | some (.file b x) => if size < 0 then T else setT T n (.file (b.take size.toNat) x)
  | _ => T
def readE (T : Wd) (n a m : Int) : Int := if fileT T n ≠ 0 then fileT T n else if a < 0 ∨ m < 0 then 2 else 0
def readS (T : Wd) (n a m : Int) : List UInt8 := match T n with
  | some (.file b _) => if a < 0 ∨ m < 0 then [] else (b.drop a.toNat).take m.toNat
  | _ => []
theorem fileT_zero {T : Wd} {n : Int} (h : fileT T n = 0) : ∃ b x, T n = some (.file b x) := by
  unfold fileT at h
  cases e : T n with
  | none => rw [e] at h; simp at h
  | some nd => cases nd with
    | dir C => rw [e] at h; simp at h
    | file b x => exact ⟨b, x, rfl⟩
theorem heap_cell_same (w : World) (s o : Nat) (v : Value) (c : Array Value) (t : TypeId) (fr : Nat × Nat) (h : w.heap[s]? = some (.cells c t fr)) : (w.setCell ⟨s, o, none⟩ v).heap[s]? = some (.cells (c.setIfInBounds o v) t fr) := by
  rw [setCell_eq_setRow w s o c t fr v h]; exact setRow_heap w s c _ t fr h
/-- One name more in a directory; one less. -/
def addT (T : Wd) (d : Int) (nm : Nm) (n : Int) : Wd := match T d with
  | some (.dir C) => setT T d (.dir ((nm, n) :: C))
  | _ => T
theorem addT_eq {T : Wd} {d : Int} {C : List (Nm × Int)} (h : T d = some (.dir C)) (nm : Nm) (n : Int) : addT T d nm n = setT T d (.dir ((nm, n) :: C)) := by unfold addT; rw [h]
theorem two_alloc (wr : World) (A B : Obj) : ((wr.alloc A).alloc B).heap[wr.heap.size + 1]? = some B := by
  show ((wr.heap.push A).push B)[wr.heap.size + 1]? = _
  rw [Array.getElem?_push, if_pos (by simp)]
/-- A name leads to a node. -/
def Led (T : Wd) (n : Int) : Prop := n = 0 ∨ ∃ k C s, T k = some (.dir C) ∧ C.lookup s = some n
def heldT : Nd → Nat
  | .dir _ => 0
  | .file _ h => h
open Classical in
noncomputable def sweepT (T : Wd) : Wd := fun n => match T n with
  | none => none
  | some nd => if Led T n ∨ heldT nd ≠ 0 then some nd else none
theorem sweepT_sub {T : Wd} {n : Int} {nd : Nd} (h : sweepT T n = some nd) : T n = some nd := by
  unfold sweepT at h
  split at h
  · cases h
  · split at h
    · rename_i e _; rw [e]; exact h
    · cases h
theorem sweepT_stay {T : Wd} {n : Int} (h : ∀ nd, T n = some nd → Led T n ∨ heldT nd ≠ 0) : sweepT T n = T n := by
  unfold sweepT
  split
  · rename_i e; exact e.symm
  · rename_i nd e; rw [if_pos (h nd e), e]
theorem sweepT_go {T : Wd} {n : Int} {nd : Nd} (hn : T n = some nd) (h : ¬ (Led T n ∨ heldT nd ≠ 0)) : sweepT T n = none := by
  unfold sweepT; rw [hn]; simp only; rw [if_neg h]
theorem lookup_mem : ∀ {C : List (Nm × Int)} {i : Nm} {n : Int}, C.lookup i = some n → (i, n) ∈ C
  | [], i, n, h => by simp at h
  | (a, m) :: C, i, n, h => by
    by_cases e : i = a
    · subst e; simp [List.lookup] at h; simp [h]
    · have : (i == a) = false := by simp [e]
      simp only [List.lookup, this] at h
      exact List.mem_cons_of_mem _ (lookup_mem h)
theorem Wt.mono {A B : Nat → Prop} (h : Wt A w w') (hB : ∀ i, A i → B i) : Wt B w w' := ⟨h.os, h.tape, h.output, h.size, fun i hi hn => h.block i hi (fun a => hn (hB i a))⟩
def holdE (T : Wd) (n by' : Int) : Int := match T n with
  | some (.file _ x) => if (x : Int) + by' < 0 then 10 else 0
  | _ => fileT T n
noncomputable def holdN (T : Wd) (n by' : Int) : Wd := match T n with
  | some (.file b x) => if (x : Int) + by' < 0 then T else sweepT (setT T n (.file b ((x : Int) + by').toNat))
  | _ => T
theorem TrOk.setF {T : Wd} (h : TrOk T) {n : Int} {b b' : List UInt8} {x x' : Nat} (hn : T n = some (.file b x)) (hb : b'.length ≤ 256) (hx : x' ≤ 1000) : TrOk (setT T n (.file b' x')) := by
  have hd : ∀ k C, setT T n (.file b' x') k = some (.dir C) → T k = some (.dir C) := fun k C e => by
    by_cases e1 : k = n
    · subst e1; rw [setT_same] at e; cases e
    · rw [setT_other _ e1] at e; exact e
  have hsome : ∀ k, (setT T n (.file b' x') k).isSome = (T k).isSome := fun k => by
    by_cases e1 : k = n
    · subst e1; rw [setT_same, hn]; rfl
    · rw [setT_other _ e1]
  refine ⟨?_, fun k e => h.key k (by rw [← hsome]; exact e), fun k C e => h.nodup k C (hd k C e), fun k C s m e e2 => by rw [hsome]; exact h.child k C s m (hd k C e) e2, fun k C y e => h.name k C y (hd k C e), fun k c y e => ?_⟩
  · obtain ⟨C, e⟩ := h.root
    refine ⟨C, ?_⟩
    rw [setT_other]; exact e
    intro e1; rw [← e1, e] at hn; cases hn
  · by_cases e1 : k = n
    · subst e1; rw [setT_same] at e; cases e; exact ⟨hb, hx⟩
    · rw [setT_other _ e1] at e; exact h.small k c y e
/-- Bytes, so many at least. -/
def padT (b : List UInt8) (n : Nat) : List UInt8 := b ++ List.replicate (n - b.length) 0
/-- A text written into bytes. -/
def overT (b : List UInt8) (a : Nat) (x : List UInt8) : List UInt8 := (padT b (a + x.length)).take a ++ x ++ (padT b (a + x.length)).drop (a + x.length)
theorem padT_len (b : List UInt8) (n : Nat) : (padT b n).length = max b.length n := by unfold padT; rw [List.length_append, List.length_replicate]; omega
theorem overT_len (b : List UInt8) (a : Nat) (x : List UInt8) : (overT b a x).length = max b.length (a + x.length) := by
  unfold overT
  rw [List.length_append, List.length_append, List.length_take, List.length_drop, padT_len]; omega
def writeE (T : Wd) (n a : Int) (x : List UInt8) : Int := if fileT T n ≠ 0 then fileT T n else if a < 0 then 2 else if (200 : Int) < x.length ∨ 200 - (x.length : Int) < a then 4 else 0
def writeN (T : Wd) (n a : Int) (x : List UInt8) : Wd := if writeE T n a x ≠ 0 ∨ x = [] then T else match T n with
  | some (.file b h) => setT T n (.file (overT b a.toNat x) h)
  | _ => T
end
end Go.Proofs.YtcfhanoekniaaaaGreatDoor

namespace Go.Proofs.YtcfhanoekniaaaaGreatDoor
open Go.RowKit Go.Maps

/-- How many names of one node lead to k. -/
def cnt1 : Option Nd → Int → Nat
  | some (.dir C), k => (C.filter (fun x => decide (x.2 = k))).length
  | _, _ => 0
def cntTo (T : Wd) (k : Int) : Nat → Nat
  | 0 => 0
  | m + 1 => cntTo T k m + cnt1 (T m) k
/-- How many names lead to k. -/
def cntT (T : Wd) (k : Int) : Nat := cntTo T k 64

theorem cntTo_same {T T' : Wd} {k : Int} : ∀ m : Nat, (∀ i : Nat, i < m → cnt1 (T' i) k = cnt1 (T i) k) → cntTo T' k m = cntTo T k m
  | 0, _ => rfl
  | m + 1, h => by rw [cntTo, cntTo, cntTo_same m (fun i hi => h i (by omega)), h m (by omega)]
theorem cntTo_one {T T' : Wd} {k : Int} {d : Nat} (hd : ∀ i : Nat, i ≠ d → cnt1 (T' i) k = cnt1 (T i) k) : ∀ m : Nat, d < m → cntTo T' k m + cnt1 (T d) k = cntTo T k m + cnt1 (T' d) k
  | 0, h => by omega
  | m + 1, h => by
    rw [cntTo, cntTo]
    by_cases e : m = d
    · subst e
      rw [cntTo_same m (fun i hi => hd i (by omega))]; omega
    · have := cntTo_one hd m (by omega)
      rw [hd m e]; omega
theorem cntT_same {T T' : Wd} {k : Int} (h : ∀ i, cnt1 (T' i) k = cnt1 (T i) k) : cntT T' k = cntT T k := cntTo_same 64 (fun i _ => h i)

theorem cntTo_pos {T : Wd} {k : Int} : ∀ m : Nat, cntTo T k m ≠ 0 → ∃ i : Nat, i < m ∧ cnt1 (T i) k ≠ 0
  | 0, h => absurd rfl h
  | m + 1, h => by
    rw [cntTo] at h
    by_cases e : cnt1 (T m) k = 0
    · obtain ⟨i, hi, h2⟩ := cntTo_pos (T := T) (k := k) m (fun e0 => h (by rw [e0, e]))
      exact ⟨i, by omega, h2⟩
    · exact ⟨m, by omega, e⟩
theorem cntTo_ge {T : Wd} {k : Int} {i : Nat} : ∀ m : Nat, i < m → cnt1 (T i) k ≤ cntTo T k m
  | 0, h => by omega
  | m + 1, h => by
    rw [cntTo]
    by_cases e : i = m
    · subst e; omega
    · have := cntTo_ge (T := T) (k := k) m (show i < m by omega); omega

theorem cnt1_pos {C : List (Nm × Int)} {k : Int} (h : cnt1 (some (.dir C)) k ≠ 0) : ∃ s, (s, k) ∈ C := by
  unfold cnt1 at h
  obtain ⟨⟨s, n⟩, hx⟩ := List.exists_mem_of_length_pos (Nat.pos_of_ne_zero h)
  rw [List.mem_filter] at hx
  have e : n = k := by simpa using hx.2
  exact ⟨s, by rw [← e]; exact hx.1⟩
theorem cnt1_mem {C : List (Nm × Int)} {s : Nm} {k : Int} (h : (s, k) ∈ C) : cnt1 (some (.dir C)) k ≠ 0 := by
  unfold cnt1
  exact Nat.ne_of_gt (List.length_pos_of_mem (List.mem_filter.2 ⟨h, by simp⟩))
theorem mem_lookup : ∀ {C : List (Nm × Int)} {s : Nm} {n : Int}, (C.map (·.1)).Nodup → (s, n) ∈ C → C.lookup s = some n
  | (a, b) :: C, s, n, hn, h => by
    rw [List.map_cons, List.nodup_cons] at hn
    rcases List.mem_cons.1 h with e | h
    · cases e; simp [List.lookup]
    · have hne : s ≠ a := fun e => hn.1 (by rw [← e]; exact List.mem_map.2 ⟨(s, n), h, rfl⟩)
      have : (s == a) = false := by simp [hne]
      rw [List.lookup, this]
      exact mem_lookup hn.2 h
/-- Led, by its count. -/
theorem led_cnt {T : Wd} (hT : TrOk T) (n : Int) : Led T n ↔ n = 0 ∨ cntT T n ≠ 0 := by
  unfold Led
  constructor
  · rintro (h | ⟨k, C, s, hk, hl⟩)
    · exact .inl h
    · right
      have hkey := hT.key k (by rw [hk]; rfl)
      obtain ⟨e, rfl⟩ : ∃ e : Nat, k = e := ⟨k.toNat, by omega⟩
      have h1 := cnt1_mem (lookup_mem hl)
      have h2 := cntTo_ge (T := T) (k := n) (i := e) 64 (by omega)
      rw [hk] at h2
      unfold cntT; omega
  · rintro (h | h)
    · exact .inl h
    · right
      obtain ⟨i, _, hi⟩ := cntTo_pos 64 h
      cases hd : T (i : Int) with
      | none => rw [hd] at hi; exact absurd rfl hi
      | some nd => cases nd with
        | file b x => rw [hd] at hi; exact absurd rfl hi
        | dir C =>
          rw [hd] at hi
          obtain ⟨s, hs⟩ := cnt1_pos hi
          exact ⟨i, C, s, hd, mem_lookup (hT.nodup _ _ hd) hs⟩

/-- What holds of every tree besides: nothing leads to the first node, and all are led to, or held. -/
structure TrLv (T : Wd) : Prop extends TrOk T where
  nr : cntT T 0 = 0
  lv : ∀ k nd, T k = some nd → k = 0 ∨ cntT T k ≠ 0 ∨ heldT nd ≠ 0

/-- One node gone. -/
def eraT (T : Wd) (n : Int) : Wd := fun k => if k = n then none else T k
theorem eraT_other {T : Wd} {n k : Int} (h : k ≠ n) : eraT T n k = T k := if_neg h
theorem eraT_same (T : Wd) (n : Int) : eraT T n n = none := if_pos rfl

theorem cnt_setF {T : Wd} {n : Int} {b b' : List UInt8} {x x' : Nat} (h : T n = some (.file b x)) (k : Int) : cntT (setT T n (.file b' x')) k = cntT T k := cntT_same (fun i => by
  by_cases e : i = n
  · subst e; rw [setT_same, h]; rfl
  · rw [setT_other _ e])
theorem cnt_era {T : Wd} {n : Int} (h : ∀ k, cnt1 (T n) k = 0) (k : Int) : cntT (eraT T n) k = cntT T k := cntT_same (fun i => by
  by_cases e : i = n
  · subst e; rw [eraT_same, h]; rfl
  · rw [eraT_other e])
/-- What goes when all but n are led to, or held. -/
theorem sweep_one {T : Wd} (hT : TrOk T) (n : Int) (hl : ∀ k nd, k ≠ n → T k = some nd → k = 0 ∨ cntT T k ≠ 0 ∨ heldT nd ≠ 0) (nd : Nd) (hn : T n = some nd) (h0 : n ≠ 0) :
    sweepT T = if cntT T n = 0 ∧ heldT nd = 0 then eraT T n else T := by
  have hk : ∀ k, k ≠ n → sweepT T k = T k := fun k hk => sweepT_stay (fun nd h => by
    rcases hl k nd hk h with e | e | e
    · exact .inl ((led_cnt hT k).2 (.inl e))
    · exact .inl ((led_cnt hT k).2 (.inr e))
    · exact .inr e)
  funext k
  by_cases e : k = n
  · subst e
    by_cases hz : cntT T k = 0 ∧ heldT nd = 0
    · rw [if_pos hz, eraT_same]
      exact sweepT_go hn (fun h => by
        rcases h with h | h
        · rcases (led_cnt hT k).1 h with e | e
          · exact h0 e
          · exact e hz.1
        · exact h hz.2)
    · rw [if_neg hz]
      refine sweepT_stay (fun nd' h' => ?_)
      rw [hn] at h'; cases h'
      by_cases e1 : cntT T k = 0
      · exact .inr (fun e2 => hz ⟨e1, e2⟩)
      · exact .inl ((led_cnt hT k).2 (.inr e1))
  · rw [hk k e]
    split
    · rw [eraT_other e]
    · rfl
/-- And where all are led to, or held, nothing goes. -/
theorem sweep_none {T : Wd} (hT : TrOk T) (hl : ∀ k nd, T k = some nd → k = 0 ∨ cntT T k ≠ 0 ∨ heldT nd ≠ 0) : sweepT T = T := by
  funext k
  exact sweepT_stay (fun nd h => by
    rcases hl k nd h with e | e | e
    · exact .inl ((led_cnt hT k).2 (.inl e))
    · exact .inl ((led_cnt hT k).2 (.inr e))
    · exact .inr e)
end Go.Proofs.YtcfhanoekniaaaaGreatDoor

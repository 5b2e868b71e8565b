/- Paths plainly: a text's parts between slashes; the names of a PATH. -/
import Derived.WalkKit
import Derived.Lib.SplitLaws
import Derived.Test.YtjkneekfijibiabGreatDoorRows
import Derived.WalkLawsBesides
import Derived.Outline
import Derived.Deep.LoopGhost
import Derived.Deep.DeepCutAuto
import Derived.Deep.Light
import Derived.WalkSmall
import Derived.RangeFuncNested
import Derived.RangeFuncBound
import Derived.RangeFuncCalls
import Derived.RangeFuncLeaves
import Derived.Shelf.Abstract
import Derived.OwnWalkIn
import Derived.TacticsInMore
import Derived.LoopNIn
import Derived.LoopIn
namespace Go.Proofs.YtjkneekfijibiabGreatDoor
open Go.RowKit

abbrev Nm := List UInt8
/-- A text by its bytes. -/
abbrev tx (l : List UInt8) : Value := .string ⟨l.toArray⟩

/-- A text's parts between its slashes. -/
def parts : List UInt8 → List Nm
  | [] => [[]]
  | b :: l => if b = 47 then [] :: parts l else match parts l with
    | [] => [[b]]
    | h :: t => (b :: h) :: t
theorem parts_ne (l : List UInt8) : parts l ≠ [] := by
  cases l with
  | nil => simp [parts]
  | cons b l =>
    unfold parts; split
    · simp
    · split <;> simp
theorem parts_slash (l : List UInt8) : parts (47 :: l) = [] :: parts l := by simp [parts]
theorem parts_other {b : UInt8} (l : List UInt8) (h : b ≠ 47) {x : Nm} {t : List Nm} (e : parts l = x :: t) : parts (b :: l) = (b :: x) :: t := by
  rw [parts, if_neg h, e]

theorem parts_len : ∀ l : List UInt8, (parts l).length ≤ l.length + 1
  | [] => by simp [parts]
  | b :: l => by
    have ih := parts_len l
    by_cases h : b = 47
    · subst h; rw [parts_slash]; simp; exact ih
    · cases e : parts l with
      | nil => exact absurd e (parts_ne l)
      | cons x t => rw [parts_other l h e]; rw [e] at ih; simp at ih ⊢; omega

theorem split_parts : ∀ (l : List UInt8), Lib.splitK [47] 0 (Lib.count l [47]) l = parts l
  | [] => by rw [Lib.count_one]; rfl
  | b :: l => by
    have ih := split_parts l
    by_cases h : b = 47
    · subst h
      have hix : Lib.index (47 :: l) [47] = 0 := by rw [Lib.index]; simp [List.isPrefixOf]
      rw [Lib.count_cons_eq, Nat.add_comm, Lib.splitK, hix, parts_slash]
      simp only [show ((0 : Int) == -1) = false from rfl, if_false, Int.toNat_zero, Nat.add_zero, List.take_zero, List.length_cons, List.length_nil, Nat.zero_add, List.drop_succ_cons, List.drop_zero, ih, Bool.false_eq_true]
    · rw [Lib.count_cons_ne b 47 l h]
      have hp : ([47] : List UInt8).isPrefixOf (b :: l) = false := by simp [List.isPrefixOf, Ne.symm h]
      have hix : Lib.index (b :: l) [47] = if Lib.index l [47] == -1 then -1 else Lib.index l [47] + 1 := by rw [Lib.index, hp]; simp
      cases hc : Lib.count l [47] with
      | zero =>
        rw [hc] at ih
        rw [Lib.splitK] at ih ⊢
        exact (parts_other l h ih.symm).symm
      | succ k =>
        rw [hc] at ih
        obtain ⟨i, hi⟩ : ∃ i : Nat, Lib.index l [47] = i := by
          have hge := Lib.index_ge l [47]
          by_cases hm : Lib.index l [47] = -1
          · rw [Lib.count_miss hm] at hc; omega
          · exact ⟨(Lib.index l [47]).toNat, by omega⟩
        have hne : (Lib.index l [47] == -1) = false := by rw [hi]; simp <;> omega
        rw [hne] at hix
        rw [Lib.splitK, hne] at ih
        rw [Lib.splitK]
        have hne2 : (Lib.index (b :: l) [47] == -1) = false := by rw [hix, hi]; simp <;> omega
        rw [hne2]
        simp only [Bool.false_eq_true, if_false, Nat.add_zero] at ih hix ⊢
        rw [hix, hi]
        rw [hi] at ih
        simp only [Int.toNat_natCast] at ih
        rw [show ((i : Int) + 1).toNat = i + 1 by omega]
        exact (parts_other l h ih.symm).symm

/-- May a part be a name? -/
def isName (s : Nm) : Bool := decide (1 ≤ s.length) && decide (s.length ≤ 12) && !(s == [46]) && !(s == [46, 46])
/-- The names of a PATH (none: it is no PATH). -/
def namesOf (p : List UInt8) : Option (List Nm) :=
  if p = [47] then some [] else match parts p with
  | [] :: x :: t => if (x :: t).all isName then some (x :: t) else none
  | _ => none
end Go.Proofs.YtjkneekfijibiabGreatDoor

namespace Go.Proofs.YtjkneekfijibiabGreatDoor
open Go.RowKit

inductive Nd where
  | dir (C : List (Nm × Int))
  | file (b : List UInt8) (h : Nat)
abbrev Wd := Int → Option Nd

theorem wf_few {n : Int} (h0 : 0 ≤ n) (h1 : n < 1000000) : (Lit.int .i64 n).wf = true := by
  have a : IntKind.max .i64 = 9223372036854775807 := rfl
  have b : IntKind.min .i64 = -9223372036854775808 := rfl
  simp only [Lit.wf, a, b, Bool.and_eq_true, decide_eq_true_eq]; omega

/-- Where names lead from a node; and what is wrong. -/
def leadT (T : Wd) : Int → List Nm → Int × Int
  | a, [] => (a, 0)
  | a, s :: r => match T a with
    | some (.dir C) => match C.lookup s with
      | some n => leadT T n r
      | none => (0, 7)
    | _ => (0, 6)
theorem leadT_nil (T : Wd) (a : Int) : leadT T a [] = (a, 0) := rfl
theorem leadT_step {T : Wd} {a n : Int} {s : Nm} {C : List (Nm × Int)} (r : List Nm) (h : T a = some (.dir C)) (hl : C.lookup s = some n) : leadT T a (s :: r) = leadT T n r := by rw [leadT, h]; simp only [hl]
theorem leadT_miss {T : Wd} {a : Int} {s : Nm} {C : List (Nm × Int)} (r : List Nm) (h : T a = some (.dir C)) (hl : C.lookup s = none) : leadT T a (s :: r) = (0, 7) := by rw [leadT, h]; simp only [hl]
theorem leadT_file {T : Wd} {a : Int} {s : Nm} (r : List Nm) (h : ∀ C, T a ≠ some (.dir C)) : leadT T a (s :: r) = (0, 6) := by
  rw [leadT]
  split
  · rename_i C e; exact absurd e (h C)
  · rfl

/-- What holds of every tree. -/
structure TrOk (T : Wd) : Prop where
  root : ∃ C, T 0 = some (.dir C)
  key : ∀ k, (T k).isSome = true → 0 ≤ k ∧ k < 64
  nodup : ∀ k C, T k = some (.dir C) → (C.map (·.1)).Nodup
  child : ∀ k C s n, T k = some (.dir C) → C.lookup s = some n → (T n).isSome = true
  name : ∀ k C x, T k = some (.dir C) → x ∈ C → isName x.1 = true
  small : ∀ k b h, T k = some (.file b h) → b.length ≤ 256 ∧ h ≤ 1000

theorem TrOk.lead {T : Wd} (h : TrOk T) : ∀ (l : List Nm) (a : Int), (T a).isSome = true → (leadT T a l).2 = 0 → (T (leadT T a l).1).isSome = true
  | [], a, ha, _ => ha
  | s :: r, a, ha, he => by
    by_cases hd : ∃ C, T a = some (.dir C)
    · obtain ⟨C, hC⟩ := hd
      cases hl : C.lookup s with
      | none => rw [leadT_miss r hC hl] at he; simp at he
      | some n =>
        rw [leadT_step r hC hl] at he ⊢
        exact TrOk.lead h r n (h.child a C s n hC hl) he
    · rw [leadT_file r (fun C e => hd ⟨C, e⟩)] at he; simp at he
end Go.Proofs.YtjkneekfijibiabGreatDoor

namespace Go.Proofs.YtjkneekfijibiabGreatDoor
open Go.RowKit

set_option maxHeartbeats 1000000 in
theorem isName_ok (z : List UInt8) (hz : z.length < 100000) (w : World) : Calls Tryz.prog 121 #[tx z] w fun e w' => e = .returned (.bool (isName z)) ∧ w' = w := by
  have hisn : isName z = (decide ((1 : Int) ≤ (z.length : Int)) && decide ((z.length : Int) ≤ 12) && !(z == [46]) && !(z == [46, 46])) := by
    unfold isName
    congr 3
    · exact decide_eq_decide.2 (by omega)
    · exact decide_eq_decide.2 (by omega)
  rw [hisn]
  clear hisn
  by_cases h1 : (1 : Int) ≤ (z.length : Int)
  · by_cases h2 : (z.length : Int) ≤ 12
    · cases h3 : (z == [46]) with
      | true =>
        simp only [h1, h2, decide_true]
        go_enter Tryz.func121, Tryz.ntmps121
        go_wp2_with fail
        go_ret
        exact ⟨rfl, rfl⟩
      | false =>
        cases h4 : (z == [46, 46]) with
        | true =>
          simp only [h1, h2, decide_true]
          go_enter Tryz.func121, Tryz.ntmps121
          go_wp2_with fail
          go_ret
          exact ⟨rfl, rfl⟩
        | false =>
          simp only [h1, h2, decide_true]
          go_enter Tryz.func121, Tryz.ntmps121
          go_wp2_with fail
          go_ret
          exact ⟨rfl, rfl⟩
    · simp only [h1, h2, decide_true, decide_false, Bool.and_false, Bool.false_and]
      go_enter Tryz.func121, Tryz.ntmps121
      go_wp2_with fail
      go_ret
      exact ⟨rfl, rfl⟩
  · simp only [h1, decide_false, Bool.false_and]
    go_enter Tryz.func121, Tryz.ntmps121
    go_wp2_with fail
    go_ret
    exact ⟨rfl, rfl⟩

/-- A SplitSeq at a slash: three boxes, and the function over them. -/
theorem splitSeq_ok (z : List UInt8) (w : World) : Calls Tryz.prog 120 #[tx z, .string ⟨#[47]⟩] w fun e w' =>
    e = .returned (.func (.func 171) #[] #[.pointer (some ⟨w.heap.size + 1, 0, none⟩), .pointer (some ⟨w.heap.size, 0, none⟩), .pointer (some ⟨w.heap.size + 2, 0, none⟩)]) ∧
    w' = ((w.alloc (.cells #[tx z] 9)).alloc (.cells #[.string ⟨#[47]⟩] 9)).alloc (.cells #[.int .i64 0] 3) := by
  go_enter Tryz.func120, Tryz.ntmps120
  go_wp2_with go_in
  go_ret
  exact ⟨rfl, rfl⟩
end Go.Proofs.YtjkneekfijibiabGreatDoor

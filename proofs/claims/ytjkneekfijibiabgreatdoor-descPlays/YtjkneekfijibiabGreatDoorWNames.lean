/- Paths plainly: a text's parts between slashes; the names of a PATH. -/
import Derived.WalkKit
import Derived.Lib.SplitLaws
import Derived.Test.YtjkneekfijibiabGreatDoorShelfT
import Derived.Test.YtjkneekfijibiabGreatDoorRows
import Derived.WalkLawsBesides
import Derived.Outline
import Derived.Deep.LoopGhost
import Derived.Deep.DeepCutAuto
import Derived.Deep.Light
import Derived.WalkSmall
namespace Go.Proofs.YtjkneekfijibiabGreatDoor
open Go.RowKit

abbrev Nm := List UInt8
/-- A text by its bytes. -/
abbrev tx (l : List UInt8) : Value := .string ⟨l.toArray⟩

/-- A text's parts between its slashes. -/
def parts : List UInt8 → List Nm
  | [] => [[]]
  | b :: l => if b = 47 then [] :: parts l else match parts l with
    | [] => [[b]]
    | h :: t => (b :: h) :: t
theorem parts_ne (l : List UInt8) : parts l ≠ [] := by
  cases l with
  | nil => simp [parts]
  | cons b l =>
    unfold parts; split
    · simp
    · split <;> simp
theorem parts_slash (l : List UInt8) : parts (47 :: l) = [] :: parts l := by simp [parts]
theorem parts_other {b : UInt8} (l : List UInt8) (h : b ≠ 47) {x : Nm} {t : List Nm} (e : parts l = x :: t) : parts (b :: l) = (b :: x) :: t := by
  rw [parts, if_neg h, e]

theorem parts_len : ∀ l : List UInt8, (parts l).length ≤ l.length + 1
  | [] => by simp [parts]
  | b :: l => by
    have ih := parts_len l
    by_cases h : b = 47
    · subst h; rw [parts_slash]; simp; exact ih
    · cases e : parts l with
      | nil => exact absurd e (parts_ne l)
      | cons x t => rw [parts_other l h e]; rw [e] at ih; simp at ih ⊢; omega

theorem split_parts : ∀ (l : List UInt8), Lib.splitK [47] 0 (Lib.count l [47]) l = parts l
  | [] => by rw [Lib.count_one]; rfl
  | b :: l => by
    have ih := split_parts l
    by_cases h : b = 47
    · subst h
      have hix : Lib.index (47 :: l) [47] = 0 := by rw [Lib.index]; simp [List.isPrefixOf]
      rw [Lib.count_cons_eq, Nat.add_comm, Lib.splitK, hix, parts_slash]
      simp only [show ((0 : Int) == -1) = false from rfl, if_false, Int.toNat_zero, Nat.add_zero, List.take_zero, List.length_cons, List.length_nil, Nat.zero_add, List.drop_succ_cons, List.drop_zero, ih, Bool.false_eq_true]
    · rw [Lib.count_cons_ne b 47 l h]
      have hp : ([47] : List UInt8).isPrefixOf (b :: l) = false := by simp [List.isPrefixOf, Ne.symm h]
      have hix : Lib.index (b :: l) [47] = if Lib.index l [47] == -1 then -1 else Lib.index l [47] + 1 := by rw [Lib.index, hp]; simp
      cases hc : Lib.count l [47] with
      | zero =>
        rw [hc] at ih
        rw [Lib.splitK] at ih ⊢
        exact (parts_other l h ih.symm).symm
      | succ k =>
        rw [hc] at ih
        obtain ⟨i, hi⟩ : ∃ i : Nat, Lib.index l [47] = i := by
          have hge := Lib.index_ge l [47]
          by_cases hm : Lib.index l [47] = -1
          · rw [Lib.count_miss hm] at hc; omega
          · exact ⟨(Lib.index l [47]).toNat, by omega⟩
        have hne : (Lib.index l [47] == -1) = false := by rw [hi]; simp <;> omega
        rw [hne] at hix
        rw [Lib.splitK, hne] at ih
        rw [Lib.splitK]
        have hne2 : (Lib.index (b :: l) [47] == -1) = false := by rw [hix, hi]; simp <;> omega
        rw [hne2]
        simp only [Bool.false_eq_true, if_false, Nat.add_zero] at ih hix ⊢
        rw [hix, hi]
        rw [hi] at ih
        simp only [Int.toNat_natCast] at ih
        rw [show ((i : Int) + 1).toNat = i + 1 by omega]
        exact (parts_other l h ih.symm).symm

/-- May a part be a name? -/
def isName (s : Nm) : Bool := decide (1 ≤ s.length) && decide (s.length ≤ 12) && !(s == [46]) && !(s == [46, 46])
/-- The names of a PATH (none: it is no PATH). -/
def namesOf (p : List UInt8) : Option (List Nm) :=
  if p = [47] then some [] else match parts p with
  | [] :: x :: t => if (x :: t).all isName then some (x :: t) else none
  | _ => none
end Go.Proofs.YtjkneekfijibiabGreatDoor

namespace Go.Proofs.YtjkneekfijibiabGreatDoor
open Go.RowKit

inductive Nd where
  | dir (C : List (Nm × Int))
  | file (b : List UInt8) (h : Nat)
abbrev Wd := Int → Option Nd

theorem wf_few {n : Int} (h0 : 0 ≤ n) (h1 : n < 1000000) : (Lit.int .i64 n).wf = true := by
  have a : IntKind.max .i64 = 9223372036854775807 := rfl
  have b : IntKind.min .i64 = -9223372036854775808 := rfl
  simp only [Lit.wf, a, b, Bool.and_eq_true, decide_eq_true_eq]; omega

/-- Where names lead from a node; and what is wrong. -/
def leadT (T : Wd) : Int → List Nm → Int × Int
  | a, [] => (a, 0)
  | a, s :: r => match T a with
    | some (.dir C) => match C.lookup s with
      | some n => leadT T n r
      | none => (0, 7)
    | _ => (0, 6)
theorem leadT_nil (T : Wd) (a : Int) : leadT T a [] = (a, 0) := rfl
theorem leadT_step {T : Wd} {a n : Int} {s : Nm} {C : List (Nm × Int)} (r : List Nm) (h : T a = some (.dir C)) (hl : C.lookup s = some n) : leadT T a (s :: r) = leadT T n r := by rw [leadT, h]; simp only [hl]
theorem leadT_miss {T : Wd} {a : Int} {s : Nm} {C : List (Nm × Int)} (r : List Nm) (h : T a = some (.dir C)) (hl : C.lookup s = none) : leadT T a (s :: r) = (0, 7) := by rw [leadT, h]; simp only [hl]
theorem leadT_file {T : Wd} {a : Int} {s : Nm} (r : List Nm) (h : ∀ C, T a ≠ some (.dir C)) : leadT T a (s :: r) = (0, 6) := by
  rw [leadT]
  split
  · rename_i C e; exact absurd e (h C)
  · rfl

/-- What holds of every tree. -/
structure TrOk (T : Wd) : Prop where
  root : ∃ C, T 0 = some (.dir C)
  key : ∀ k, (T k).isSome = true → 0 ≤ k ∧ k < 64
  nodup : ∀ k C, T k = some (.dir C) → (C.map (·.1)).Nodup
  child : ∀ k C s n, T k = some (.dir C) → C.lookup s = some n → (T n).isSome = true
  name : ∀ k C x, T k = some (.dir C) → x ∈ C → isName x.1 = true
  small : ∀ k b h, T k = some (.file b h) → b.length ≤ 256 ∧ h ≤ 1000

theorem TrOk.lead {T : Wd} (h : TrOk T) : ∀ (l : List Nm) (a : Int), (T a).isSome = true → (leadT T a l).2 = 0 → (T (leadT T a l).1).isSome = true
  | [], a, ha, _ => ha
  | s :: r, a, ha, he => by
    by_cases hd : ∃ C, T a = some (.dir C)
    · obtain ⟨C, hC⟩ := hd
      cases hl : C.lookup s with
      | none => rw [leadT_miss r hC hl] at he; simp at he
      | some n =>
        rw [leadT_step r hC hl] at he ⊢
        exact TrOk.lead h r n (h.child a C s n hC hl) he
    · rw [leadT_file r (fun C e => hd ⟨C, e⟩)] at he; simp at he
end Go.Proofs.YtjkneekfijibiabGreatDoor

namespace Go.Proofs.YtjkneekfijibiabGreatDoor
open Go.RowKit

set_option maxHeartbeats 400000 in
theorem rin_ok (w : World) (x lo hi : Int) : Calls Tryz.prog 95 #[.int .i64 x, .int .i64 lo, .int .i64 hi] w fun e w' => e = .returned (.bool (decide (lo ≤ x) && decide (x ≤ hi))) ∧ w' = w := by
  by_cases h1 : lo ≤ x <;> by_cases h2 : x ≤ hi
  all_goals
    simp only [h1, h2, decide_true, decide_false, Bool.and_true, Bool.and_false]
    go_enter Tryz.func95, Tryz.ntmps95
    go_wp2_with fail
    go_ret
    exact ⟨rfl, rfl⟩

/-- Texts in an array. -/
def Txts (w : World) (v : Value) (l : List Nm) : Prop :=
  (l = [] ∧ ∃ a c, v = .slice a 0 c) ∨ ∃ b o c, v = .slice (some ⟨b, o, none⟩) l.length c ∧ l.length ≤ c ∧ b < w.heap.size ∧ ∀ i (h : i < l.length), w.cell? ⟨b, o + i, none⟩ = some (tx l[i])
theorem Txts.below {w w' : World} {v : Value} {l : List Nm} (h : Txts w v l) (hb : Below w.heap.size w w') : Txts w' v l := by
  rcases h with h | ⟨b, o, c, e, hc, hl, hi⟩
  · exact .inl h
  · exact .inr ⟨b, o, c, e, hc, Nat.lt_of_lt_of_le hl hb.size, fun i h => by rw [hb.cell (p := ⟨b, o + i, none⟩) hl]; exact hi i h⟩

/-- What Split makes of a text, at a slash. -/
theorem split_ok (p : List UInt8) (hp : p.length < 4294967281) (w : World) (m : Int) (hm : w.cell? ⟨2, 0, none⟩ = some (.int .i64 m)) :
    Calls Tryz.prog 143 #[tx p, .string ⟨#[47]⟩] w fun e w' => e = .returned (.slice (some ⟨w.heap.size, 0, none⟩) (parts p).length (parts p).length) ∧ (∀ i (h : i < (parts p).length), w'.cell? ⟨w.heap.size, i, none⟩ = some (tx (parts p)[i])) ∧ Below w.heap.size w w' ∧ w.heap.size < w'.heap.size := by
  have hs : (⟨p.toArray⟩ : ByteArray).size = p.length := by simp [ByteArray.size]
  have hd : (Lib.splitB ⟨#[47]⟩ 0 (Lib.countB ⟨p.toArray⟩ ⟨#[47]⟩) ⟨p.toArray⟩).map (·.data.toList) = parts p := by
    rw [Lib.splitB_data]; exact split_parts p
  have hl : (parts p).length = Lib.countB ⟨p.toArray⟩ ⟨#[47]⟩ + 1 := by
    rw [← hd, List.length_map]; exact Lib.splitB_all ⟨#[47]⟩ (by decide) 0 _ _ rfl
  refine (Any.strings_Split Tryz.splitL (by kernel_rfl) ⟨p.toArray⟩ ⟨#[47]⟩ m w (by rw [hs]; exact hp) hm (by decide)).mono ?_
  rintro e w' ⟨he, rfl⟩
  refine ⟨by rw [hl]; exact he, fun i h => ?_, (Below.refl _ _).alloc (Nat.le_refl _) _, by simp⟩
  have hh : (w.alloc (.cells ((Lib.splitB ⟨#[47]⟩ 0 (Lib.countB ⟨p.toArray⟩ ⟨#[47]⟩) ⟨p.toArray⟩).map Value.string).toArray 9)).heap[w.heap.size]? = some (.cells ((Lib.splitB ⟨#[47]⟩ 0 (Lib.countB ⟨p.toArray⟩ ⟨#[47]⟩) ⟨p.toArray⟩).map Value.string).toArray 9) := by
    show (w.heap.push _)[w.heap.size]? = _
    rw [Array.getElem?_push, if_pos rfl]
  rw [show (Shelf.Ren.t _ 9) = 9 from rfl, cell_of_row _ _ _ _ _ _ hh]
  have e1 := (congrArg (fun l : List Nm => l[i]?) hd).trans (List.getElem?_eq_getElem h)
  simp only [List.getElem?_map] at e1
  rw [List.getElem?_toArray, List.getElem?_map]
  cases e2 : (Lib.splitB ⟨#[47]⟩ 0 (Lib.countB ⟨p.toArray⟩ ⟨#[47]⟩) ⟨p.toArray⟩)[i]? with
  | none => rw [e2] at e1; cases e1
  | some y =>
    rw [e2] at e1
    simp only [Option.map_some, Option.some.injEq] at e1 ⊢
    rw [← e1]

/-- What Names answers. -/
def NmR (p : List UInt8) (w' : World) (e : Ending) : Prop := match namesOf p with
  | none => e = .returned (.tuple #[.slice none 0 0, .bool false])
  | some l => ∃ v, e = .returned (.tuple #[v, .bool true]) ∧ Txts w' v l
theorem NmR.no {p : List UInt8} {w' : World} (h : namesOf p = none) : NmR p w' (.returned (.tuple #[.slice none 0 0, .bool false])) := by unfold NmR; rw [h]
theorem NmR.yes {p : List UInt8} {w' : World} {l : List Nm} {v : Value} (h : namesOf p = some l) (ht : Txts w' v l) : NmR p w' (.returned (.tuple #[v, .bool true])) := by unfold NmR; rw [h]; exact ⟨v, rfl, ht⟩

theorem all_not {l : List Nm} {i : Nat} (h : i < l.length) (hn : isName l[i] = false) : l.all isName = false := by
  rw [List.all_eq_false]
  exact ⟨l[i], List.getElem_mem h, by simp [hn]⟩
theorem all_next {l : List Nm} {i : Nat} (h : i < l.length) (ha : (l.take i).all isName = true) (hn : isName l[i] = true) : (l.take (i + 1)).all isName = true := by
  rw [List.take_succ_eq_append_getElem h, List.all_append, ha, List.all_cons, hn]; rfl

theorem namesOf_short {p : List UInt8} {x : Nm} (h0 : p ≠ [47]) (e : parts p = [x]) : namesOf p = none := by
  unfold namesOf; rw [if_neg h0, e]; cases x <;> rfl
theorem namesOf_head {p : List UInt8} {x y : Nm} {t : List Nm} (h0 : p ≠ [47]) (e : parts p = x :: y :: t) (hx : x ≠ []) : namesOf p = none := by
  unfold namesOf; rw [if_neg h0, e]
  cases x with
  | nil => exact absurd rfl hx
  | cons _ _ => rfl
theorem namesOf_slash {p : List UInt8} {y : Nm} {t : List Nm} (h0 : p ≠ [47]) (e : parts p = [] :: y :: t) : namesOf p = if (y :: t).all isName then some (y :: t) else none := by
  unfold namesOf; rw [if_neg h0, e]

set_option maxRecDepth 100000 in
set_option maxHeartbeats 2000000 in
theorem names_ok (p : List UInt8) (hp : p.length < 100000) (w : World) (m : Int) (hm : w.cell? ⟨2, 0, none⟩ = some (.int .i64 m)) :
    Calls Tryz.prog 111 #[tx p] w fun e w' => NmR p w' e ∧ Below w.heap.size w w' := by
  have hS := split_ok p (by omega) w m hm
  by_cases h0 : p = [47]
  · subst h0
    go_enter Tryz.func111, Tryz.ntmps111
    go_wp2_with fail
    go_ret2
    exact ⟨NmR.yes (l := []) rfl (.inl ⟨rfl, none, 0, rfl⟩), Below.refl _ _⟩
  · have hq : (p == [47]) = false := by simp [h0]
    obtain ⟨q, hqp⟩ : ∃ q, parts p = q := ⟨_, rfl⟩
    have hne := parts_ne p
    rw [hqp] at hS hne
    go_enter Tryz.func111, Tryz.ntmps111
    go_wp2_with fail
    refine hS.mono ?_
    rintro e w1 ⟨rfl, hc, b1, l1⟩
    clear hS
    match q, hqp, hc, hne with
    | [], _, _, hne => exact absurd rfl hne
    | [x], hqp, hc, _ =>
      have h9 := NmR.no (w' := w1) (namesOf_short h0 hqp)
      clear hqp hc
      go_wp2_with fail
      go_ret2
      exact ⟨h9, b1⟩
    | x :: y :: t, hqp, hc, _ =>
      have c0 : w1.cell? ⟨w.heap.size, 0, none⟩ = some (tx x) := hc 0 (by simp)
      have hc1 : ∀ i (h : i < (y :: t).length), w1.cell? ⟨w.heap.size, 1 + i, none⟩ = some (tx (y :: t)[i]) := fun i h => by
        have := hc (i + 1) (by simp at h ⊢; omega)
        rw [Nat.add_comm]; exact this
      obtain ⟨N, hNl⟩ : ∃ N, (y :: t).length = N := ⟨_, rfl⟩
      have hlen : (x :: y :: t).length = N + 1 := by rw [← hNl]; rfl
      have hpos : 1 ≤ N := by rw [← hNl]; simp
      have hNb : N ≤ 100001 := by have := parts_len p; rw [hqp, hlen] at this; omega
      have hN0 : ¬ N = 0 := by omega
      rw [hlen]
      have hlt2 : ¬ ((N : Int) + 1) < 2 := by omega
      by_cases hx : x = []
      · subst hx
        have hN' := namesOf_slash h0 hqp
        generalize y :: t = l at *
        have hno : ∀ w', l.all isName = false → NmR p w' (.returned (.tuple #[.slice none 0 0, .bool false])) := fun w' ha => NmR.no (by rw [hN', ha]; rfl)
        have hyes : ∀ c, l.all isName = true → N ≤ c → NmR p w1 (.returned (.tuple #[.slice (some ⟨w.heap.size, 1, none⟩) N c, .bool true])) := fun c ha hlc => NmR.yes (l := l) (by rw [hN', ha]; rfl) (.inr ⟨w.heap.size, 1, c, by rw [hNl], by omega, l1, hc1⟩)
        clear hN' hc hlen hqp
        go_wp2_with fail
        go_loopg [23] N (fun mm s23 wr => ∃ i : Nat, i + mm = N ∧ s23 = .int .i64 (i : Int) ∧ (l.take i).all isName = true ∧ wr = w1)
        case atStart => exact ⟨0, by omega, rfl, rfl, rfl⟩
        case round =>
          obtain ⟨i, hi, rfl, ha, hwr⟩ := hrel
          subst hwr
          by_cases hlt : (i : Int) < (N : Int)
          · have hil : i < l.length := by omega
            have ci := hc1 i hil
            have hn1 := all_not hil
            have hn2 := all_next hil ha
            obtain ⟨z, hz⟩ : ∃ z, l[i] = z := ⟨_, rfl⟩
            rw [hz] at ci hn1 hn2
            have hin := rin_ok wr (z.length : Int) 1 12
            have hisn : isName z = (decide ((1 : Int) ≤ (z.length : Int)) && decide ((z.length : Int) ≤ 12) && !(z == [46]) && !(z == [46, 46])) := by
              unfold isName
              congr 3
              · exact decide_eq_decide.2 (by omega)
              · exact decide_eq_decide.2 (by omega)
            clear hz hc1 hyes
            cases hb1 : (decide ((1 : Int) ≤ (z.length : Int)) && decide ((z.length : Int) ≤ 12)) with
            | false =>
              have h9 := hno wr (hn1 (by rw [hisn, hb1]; rfl))
              rw [hb1] at hin
              clear hisn hn1 hn2 hno hb1
              go_wp2_with fail
              refine hin.mono ?_
              rintro e w2 ⟨rfl, h2⟩
              subst w2
              go_wp2_with fail
              go_ret2
              exact ⟨h9, b1⟩
            | true =>
              rw [hb1] at hin
              cases hb2 : (z == [46]) with
              | true =>
                have h9 := hno wr (hn1 (by rw [hisn, hb1, hb2]; rfl))
                clear hisn hn1 hn2 hno hb1
                go_wp2_with fail
                refine hin.mono ?_
                rintro e w2 ⟨rfl, h2⟩
                subst w2
                go_wp2_with fail
                go_ret2
                exact ⟨h9, b1⟩
              | false =>
                cases hb3 : (z == [46, 46]) with
                | true =>
                  have h9 := hno wr (hn1 (by rw [hisn, hb1, hb2, hb3]; rfl))
                  clear hisn hn1 hn2 hno hb1
                  go_wp2_with fail
                  refine hin.mono ?_
                  rintro e w2 ⟨rfl, h2⟩
                  subst w2
                  go_wp2_with fail
                  go_ret2
                  exact ⟨h9, b1⟩
                | false =>
                  have h9 := hn2 (by rw [hisn, hb1, hb2, hb3]; rfl)
                  clear hisn hn1 hn2 hno hb1
                  go_wp2_with fail
                  refine hin.mono ?_
                  rintro e w2 ⟨rfl, h2⟩
                  subst w2
                  go_wp2_with fail
                  go_roundg (gk - 1)
                  case measure => omega
                  case rel => exact ⟨i + 1, by omega, by go_num, h9, rfl⟩
          · have hiN : i = N := by omega
            subst hiN
            rw [List.take_of_length_le (by omega)] at ha
            go_wp2_with fail
            go_ret2
            exact ⟨hyes _ ha (by omega), b1⟩
      · have hxe : x.isEmpty = false := by cases x with
          | nil => exact absurd rfl hx
          | cons _ _ => rfl
        have h9 := NmR.no (w' := w1) (namesOf_head h0 hqp hx)
        clear hqp hc hc1
        go_wp2_with fail
        go_ret2
        exact ⟨h9, b1⟩
end Go.Proofs.YtjkneekfijibiabGreatDoor

/- The document's own Names, by its Go text. -/
import Derived.Test.YtjkneekfijibiabGreatDoorWood
import Derived.Test.YtjkneekfijibiabGreatDoorShelfT
import Derived.Test.YtjkneekfijibiabGreatDoorRows
import Derived.WalkLawsBesides
import Derived.Outline
import Derived.Deep.LoopGhost
import Derived.Deep.DeepCutAuto
import Derived.Deep.Light
import Derived.WalkSmall
import Derived.WalkKit
import Derived.Maps.OwnSet
import Derived.Maps.OwnOps
import Derived.Maps.Views
namespace Go.Proofs.YtjkneekfijibiabGreatDoor
open Go.RowKit

set_option maxHeartbeats 400000 in
theorem rin_ok (w : World) (x lo hi : Int) : Calls Tryz.prog 95 #[.int .i64 x, .int .i64 lo, .int .i64 hi] w fun e w' => e = .returned (.bool (decide (lo ≤ x) && decide (x ≤ hi))) ∧ w' = w := by
  by_cases h1 : lo ≤ x <;> by_cases h2 : x ≤ hi
  all_goals
    simp only [h1, h2, decide_true, decide_false, Bool.and_true, Bool.and_false]
    go_enter Tryz.func95, Tryz.ntmps95
    go_wp2_with fail
    go_ret
    exact ⟨rfl, rfl⟩

/-- Texts in an array. -/
def Txts (w : World) (v : Value) (l : List Nm) : Prop :=
  (l = [] ∧ ∃ a c, v = .slice a 0 c) ∨ ∃ b o c, v = .slice (some ⟨b, o, none⟩) l.length c ∧ l.length ≤ c ∧ b < w.heap.size ∧ ∀ i (h : i < l.length), w.cell? ⟨b, o + i, none⟩ = some (tx l[i])
theorem Txts.below {w w' : World} {v : Value} {l : List Nm} (h : Txts w v l) (hb : Below w.heap.size w w') : Txts w' v l := by
  rcases h with h | ⟨b, o, c, e, hc, hl, hi⟩
  · exact .inl h
  · exact .inr ⟨b, o, c, e, hc, Nat.lt_of_lt_of_le hl hb.size, fun i h => by rw [hb.cell (p := ⟨b, o + i, none⟩) hl]; exact hi i h⟩

/-- What Split makes of a text, at a slash. -/
theorem split_ok (p : List UInt8) (hp : p.length < 4294967281) (w : World) (m : Int) (hm : w.cell? ⟨2, 0, none⟩ = some (.int .i64 m)) :
    Calls Tryz.prog 143 #[tx p, .string ⟨#[47]⟩] w fun e w' => e = .returned (.slice (some ⟨w.heap.size, 0, none⟩) (parts p).length (parts p).length) ∧ (∀ i (h : i < (parts p).length), w'.cell? ⟨w.heap.size, i, none⟩ = some (tx (parts p)[i])) ∧ Below w.heap.size w w' ∧ w.heap.size < w'.heap.size := by
  have hs : (⟨p.toArray⟩ : ByteArray).size = p.length := by simp [ByteArray.size]
  have hd : (Lib.splitB ⟨#[47]⟩ 0 (Lib.countB ⟨p.toArray⟩ ⟨#[47]⟩) ⟨p.toArray⟩).map (·.data.toList) = parts p := by
    rw [Lib.splitB_data]; exact split_parts p
  have hl : (parts p).length = Lib.countB ⟨p.toArray⟩ ⟨#[47]⟩ + 1 := by
    rw [← hd, List.length_map]; exact Lib.splitB_all ⟨#[47]⟩ (by decide) 0 _ _ rfl
  refine (Any.strings_Split Tryz.splitL (by kernel_rfl) ⟨p.toArray⟩ ⟨#[47]⟩ m w (by rw [hs]; exact hp) hm (by decide)).mono ?_
  rintro e w' ⟨he, rfl⟩
  refine ⟨by rw [hl]; exact he, fun i h => ?_, (Below.refl _ _).alloc (Nat.le_refl _) _, by simp⟩
  have hh : (w.alloc (.cells ((Lib.splitB ⟨#[47]⟩ 0 (Lib.countB ⟨p.toArray⟩ ⟨#[47]⟩) ⟨p.toArray⟩).map Value.string).toArray 9)).heap[w.heap.size]? = some (.cells ((Lib.splitB ⟨#[47]⟩ 0 (Lib.countB ⟨p.toArray⟩ ⟨#[47]⟩) ⟨p.toArray⟩).map Value.string).toArray 9) := by
    show (w.heap.push _)[w.heap.size]? = _
    rw [Array.getElem?_push, if_pos rfl]
  rw [show (Shelf.Ren.t _ 9) = 9 from rfl, cell_of_row _ _ _ _ _ _ hh]
  have e1 := (congrArg (fun l : List Nm => l[i]?) hd).trans (List.getElem?_eq_getElem h)
  simp only [List.getElem?_map] at e1
  rw [List.getElem?_toArray, List.getElem?_map]
  cases e2 : (Lib.splitB ⟨#[47]⟩ 0 (Lib.countB ⟨p.toArray⟩ ⟨#[47]⟩) ⟨p.toArray⟩)[i]? with
  | none => rw [e2] at e1; cases e1
  | some y =>
    rw [e2] at e1
    simp only [Option.map_some, Option.some.injEq] at e1 ⊢
    rw [← e1]

/-- What Names answers. -/
def NmR (p : List UInt8) (w' : World) (e : Ending) : Prop := match namesOf p with
  | none => e = .returned (.tuple #[.slice none 0 0, .bool false])
  | some l => ∃ v, e = .returned (.tuple #[v, .bool true]) ∧ Txts w' v l
theorem NmR.no {p : List UInt8} {w' : World} (h : namesOf p = none) : NmR p w' (.returned (.tuple #[.slice none 0 0, .bool false])) := by unfold NmR; rw [h]
theorem NmR.yes {p : List UInt8} {w' : World} {l : List Nm} {v : Value} (h : namesOf p = some l) (ht : Txts w' v l) : NmR p w' (.returned (.tuple #[v, .bool true])) := by unfold NmR; rw [h]; exact ⟨v, rfl, ht⟩

theorem all_not {l : List Nm} {i : Nat} (h : i < l.length) (hn : isName l[i] = false) : l.all isName = false := by
  rw [List.all_eq_false]
  exact ⟨l[i], List.getElem_mem h, by simp [hn]⟩
theorem all_next {l : List Nm} {i : Nat} (h : i < l.length) (ha : (l.take i).all isName = true) (hn : isName l[i] = true) : (l.take (i + 1)).all isName = true := by
  rw [List.take_succ_eq_append_getElem h, List.all_append, ha, List.all_cons, hn]; rfl

theorem namesOf_short {p : List UInt8} {x : Nm} (h0 : p ≠ [47]) (e : parts p = [x]) : namesOf p = none := by
  unfold namesOf; rw [if_neg h0, e]; cases x <;> rfl
theorem namesOf_head {p : List UInt8} {x y : Nm} {t : List Nm} (h0 : p ≠ [47]) (e : parts p = x :: y :: t) (hx : x ≠ []) : namesOf p = none := by
  unfold namesOf; rw [if_neg h0, e]
  cases x with
  | nil => exact absurd rfl hx
  | cons _ _ => rfl
theorem namesOf_slash {p : List UInt8} {y : Nm} {t : List Nm} (h0 : p ≠ [47]) (e : parts p = [] :: y :: t) : namesOf p = if (y :: t).all isName then some (y :: t) else none := by
  unfold namesOf; rw [if_neg h0, e]

set_option maxRecDepth 100000 in
set_option maxHeartbeats 2000000 in
theorem names_ok (p : List UInt8) (hp : p.length < 100000) (w : World) (m : Int) (hm : w.cell? ⟨2, 0, none⟩ = some (.int .i64 m)) :
    Calls Tryz.prog 111 #[tx p] w fun e w' => NmR p w' e ∧ Below w.heap.size w w' := by
  have hS := split_ok p (by omega) w m hm
  by_cases h0 : p = [47]
  · subst h0
    go_enter Tryz.func111, Tryz.ntmps111
    go_wp2_with fail
    go_ret2
    exact ⟨NmR.yes (l := []) rfl (.inl ⟨rfl, none, 0, rfl⟩), Below.refl _ _⟩
  · have hq : (p == [47]) = false := by simp [h0]
    obtain ⟨q, hqp⟩ : ∃ q, parts p = q := ⟨_, rfl⟩
    have hne := parts_ne p
    rw [hqp] at hS hne
    go_enter Tryz.func111, Tryz.ntmps111
    go_wp2_with fail
    refine hS.mono ?_
    rintro e w1 ⟨rfl, hc, b1, l1⟩
    clear hS
    match q, hqp, hc, hne with
    | [], _, _, hne => exact absurd rfl hne
    | [x], hqp, hc, _ =>
      have h9 := NmR.no (w' := w1) (namesOf_short h0 hqp)
      clear hqp hc
      go_wp2_with fail
      go_ret2
      exact ⟨h9, b1⟩
    | x :: y :: t, hqp, hc, _ =>
      have c0 : w1.cell? ⟨w.heap.size, 0, none⟩ = some (tx x) := hc 0 (by simp)
      have hc1 : ∀ i (h : i < (y :: t).length), w1.cell? ⟨w.heap.size, 1 + i, none⟩ = some (tx (y :: t)[i]) := fun i h => by
        have := hc (i + 1) (by simp at h ⊢; omega)
        rw [Nat.add_comm]; exact this
      obtain ⟨N, hNl⟩ : ∃ N, (y :: t).length = N := ⟨_, rfl⟩
      have hlen : (x :: y :: t).length = N + 1 := by rw [← hNl]; rfl
      have hpos : 1 ≤ N := by rw [← hNl]; simp
      have hNb : N ≤ 100001 := by have := parts_len p; rw [hqp, hlen] at this; omega
      have hN0 : ¬ N = 0 := by omega
      rw [hlen]
      have hlt2 : ¬ ((N : Int) + 1) < 2 := by omega
      by_cases hx : x = []
      · subst hx
        have hN' := namesOf_slash h0 hqp
        generalize y :: t = l at *
        have hno : ∀ w', l.all isName = false → NmR p w' (.returned (.tuple #[.slice none 0 0, .bool false])) := fun w' ha => NmR.no (by rw [hN', ha]; rfl)
        have hyes : ∀ c, l.all isName = true → N ≤ c → NmR p w1 (.returned (.tuple #[.slice (some ⟨w.heap.size, 1, none⟩) N c, .bool true])) := fun c ha hlc => NmR.yes (l := l) (by rw [hN', ha]; rfl) (.inr ⟨w.heap.size, 1, c, by rw [hNl], by omega, l1, hc1⟩)
        clear hN' hc hlen hqp
        go_wp2_with fail
        go_loopg [23] N (fun mm s23 wr => ∃ i : Nat, i + mm = N ∧ s23 = .int .i64 (i : Int) ∧ (l.take i).all isName = true ∧ wr = w1)
        case atStart => exact ⟨0, by omega, rfl, rfl, rfl⟩
        case round =>
          obtain ⟨i, hi, rfl, ha, hwr⟩ := hrel
          subst hwr
          by_cases hlt : (i : Int) < (N : Int)
          · have hil : i < l.length := by omega
            have ci := hc1 i hil
            have hn1 := all_not hil
            have hn2 := all_next hil ha
            obtain ⟨z, hz⟩ : ∃ z, l[i] = z := ⟨_, rfl⟩
            rw [hz] at ci hn1 hn2
            have hin := rin_ok wr (z.length : Int) 1 12
            have hisn : isName z = (decide ((1 : Int) ≤ (z.length : Int)) && decide ((z.length : Int) ≤ 12) && !(z == [46]) && !(z == [46, 46])) := by
              unfold isName
              congr 3
              · exact decide_eq_decide.2 (by omega)
              · exact decide_eq_decide.2 (by omega)
            clear hz hc1 hyes
            cases hb1 : (decide ((1 : Int) ≤ (z.length : Int)) && decide ((z.length : Int) ≤ 12)) with
            | false =>
              have h9 := hno wr (hn1 (by rw [hisn, hb1]; rfl))
              rw [hb1] at hin
              clear hisn hn1 hn2 hno hb1
              go_wp2_with fail
              refine hin.mono ?_
              rintro e w2 ⟨rfl, h2⟩
              subst w2
              go_wp2_with fail
              go_ret2
              exact ⟨h9, b1⟩
            | true =>
              rw [hb1] at hin
              cases hb2 : (z == [46]) with
              | true =>
                have h9 := hno wr (hn1 (by rw [hisn, hb1, hb2]; rfl))
                clear hisn hn1 hn2 hno hb1
                go_wp2_with fail
                refine hin.mono ?_
                rintro e w2 ⟨rfl, h2⟩
                subst w2
                go_wp2_with fail
                go_ret2
                exact ⟨h9, b1⟩
              | false =>
                cases hb3 : (z == [46, 46]) with
                | true =>
                  have h9 := hno wr (hn1 (by rw [hisn, hb1, hb2, hb3]; rfl))
                  clear hisn hn1 hn2 hno hb1
                  go_wp2_with fail
                  refine hin.mono ?_
                  rintro e w2 ⟨rfl, h2⟩
                  subst w2
                  go_wp2_with fail
                  go_ret2
                  exact ⟨h9, b1⟩
                | false =>
                  have h9 := hn2 (by rw [hisn, hb1, hb2, hb3]; rfl)
                  clear hisn hn1 hn2 hno hb1
                  go_wp2_with fail
                  refine hin.mono ?_
                  rintro e w2 ⟨rfl, h2⟩
                  subst w2
                  go_wp2_with fail
                  go_roundg (gk - 1)
                  case measure => omega
                  case rel => exact ⟨i + 1, by omega, by go_num, h9, rfl⟩
          · have hiN : i = N := by omega
            subst hiN
            rw [List.take_of_length_le (by omega)] at ha
            go_wp2_with fail
            go_ret2
            exact ⟨hyes _ ha (by omega), b1⟩
      · have hxe : x.isEmpty = false := by cases x with
          | nil => exact absurd rfl hx
          | cons _ _ => rfl
        have h9 := NmR.no (w' := w1) (namesOf_head h0 hqp hx)
        clear hqp hc hc1
        go_wp2_with fail
        go_ret2
        exact ⟨h9, b1⟩
end Go.Proofs.YtjkneekfijibiabGreatDoor

namespace Go.Proofs.YtjkneekfijibiabGreatDoor
open Go.RowKit Go.Maps

theorem wtext_h (s : List UInt8) (n : Nat) (hn : n ≤ s.length) (w : World) : (Instr.slice 9 (tx s) none (some (.int .i64 (n : Int))) none).run Tryz.prog w = .ok (tx (s.take n)) w := by
  have hs : (⟨s.toArray⟩ : ByteArray).size = s.length := by simp [ByteArray.size]
  have e : (⟨s.toArray⟩ : ByteArray).extract 0 n = ⟨(s.take n).toArray⟩ := by apply ByteArray.ext; simp
  simp [Instr.slice, run_underlying Tryz.underlying9, Instr.sliceBounds, run_sliceBound, hs, hn, e]
theorem wtext_one (s : List UInt8) (n : Nat) (hn : n < s.length) (w : World) : (Instr.slice 9 (tx s) (some (.int .i64 (n : Int))) (some (.int .i64 ((n : Int) + 1))) none).run Tryz.prog w = .ok (tx [s[n]]) w := by
  have hs : (⟨s.toArray⟩ : ByteArray).size = s.length := by simp [ByteArray.size]
  have e : (⟨s.toArray⟩ : ByteArray).extract n (n + 1) = ⟨#[s[n]]⟩ := by
    apply ByteArray.ext
    simp only [ByteArray.data_extract, List.extract_toArray, List.extract]
    rw [show n + 1 - n = 1 by omega, List.drop_eq_getElem_cons hn]
    rfl
  have h2 : (n : Int) + 1 ≤ (s.length : Int) := by omega
  have h3 : (0 : Int) ≤ (n : Int) + 1 := by omega
  have h4 : ((n : Int) + 1).toNat = n + 1 := by omega
  have h5 : (n : Int) ≤ (n : Int) + 1 := by omega
  have h6 : n ≤ n + 1 := by omega
  have h7 : n + 1 ≤ s.length := hn
  have h8 : n < s.length := hn
  simp [Instr.slice, run_underlying Tryz.underlying9, Instr.sliceBounds, run_sliceBound, hs, h2, h3, h4, h5, e]
theorem wtext_cat (a b : List UInt8) : ((⟨a.toArray⟩ : ByteArray) ++ ⟨b.toArray⟩) = ⟨(a ++ b).toArray⟩ := by apply ByteArray.ext; simp

theorem wtext_l (s : List UInt8) (n : Nat) (hn : n ≤ s.length) (w : World) : (Instr.slice 9 (tx s) (some (.int .i64 (n : Int))) none none).run Tryz.prog w = .ok (tx (s.drop n)) w := by
  have hs : (⟨s.toArray⟩ : ByteArray).size = s.length := by simp [ByteArray.size]
  have e : (⟨s.toArray⟩ : ByteArray).extract n s.length = ⟨(s.drop n).toArray⟩ := by
    apply ByteArray.ext
    simp only [ByteArray.data_extract, List.extract_toArray, List.extract]
    rw [List.take_of_length_le (by simp)]
  simp [Instr.slice, run_underlying Tryz.underlying9, Instr.sliceBounds, run_sliceBound, hs, hn, e]
theorem ext_l (s : List UInt8) (n : Nat) : (⟨s.toArray⟩ : ByteArray).extract n s.length = ⟨(s.drop n).toArray⟩ := by
  apply ByteArray.ext
  simp only [ByteArray.data_extract, List.extract_toArray, List.extract]
  rw [List.take_of_length_le (by simp)]
theorem ext_h (s : List UInt8) (n : Nat) : (⟨s.toArray⟩ : ByteArray).extract 0 n = ⟨(s.take n).toArray⟩ := by apply ByteArray.ext; simp
end Go.Proofs.YtjkneekfijibiabGreatDoor

namespace Go.Proofs.YtjkneekfijibiabGreatDoor
open Go.RowKit Go.Maps

/-- Each element stands for itself. -/
def self (v : Value) : Option (DataW Value × List MemPlace) := some (.held v, [])

/-- Block g is a map of s entries, keyed by int: at a there is M a. -/
def PMap (w : World) (g s : Nat) (M : Int → Option Value) : Prop :=
  ∃ D : DataW Value, w.ownsMap Tryz.prog 3 self g s D ∧ Maps.size D = s ∧ (∀ a, Maps.has D (.int .i64 a) = (M a).isSome) ∧ ∀ a z, D.atKey (.int .i64 a) (.held z) = .held ((M a).getD z)

theorem keyedInt : Keyed Tryz.prog 3 := int_keyed Tryz.underlying3

theorem own_exact {w : World} {g n : Nat} {D : DataW Value} (h : w.ownsMap Tryz.prog 3 self g n D) : w.ownsMap Tryz.prog 3 self g (Maps.size D) D := by
  obtain ⟨es, clock, hb, F, hs, hD⟩ := h
  refine ⟨es, clock, hb, F, ?_, hD⟩
  rw [hD]; simp [Maps.size, length_sorted]

theorem PMap.made (w : World) : PMap (w.alloc (.map #[] 0)) w.heap.size 0 (fun _ => none) :=
  ⟨.map [], World.ownsMap_made w Tryz.prog 3 self, rfl, fun a => by simp [Maps.has], fun a z => by simp [DataW.atKey]⟩

theorem PMap.keep {w w' : World} {g n : Nat} {M : Int → Option Value} (m : PMap w g n M) (h : w'.heap[g]? = w.heap[g]?) : PMap w' g n M := by
  obtain ⟨D, ⟨es, clock, hb, F, hs, hD⟩, hM⟩ := m
  exact ⟨D, ⟨es, clock, h.trans hb, F, hs, hD⟩, hM⟩

theorem PMap.lt {w : World} {g n : Nat} {M : Int → Option Value} (m : PMap w g n M) : g < w.heap.size := by
  obtain ⟨D, h, _⟩ := m
  exact h.lt

theorem PMap.isMap {w : World} {g n : Nat} {M : Int → Option Value} (m : PMap w g n M) : ∃ es clock, w.heap[g]? = some (.map es clock) := by
  obtain ⟨D, ⟨es, clock, hb, _⟩, _⟩ := m
  exact ⟨es, clock, hb⟩

theorem PMap.look {w : World} {g n : Nat} {M : Int → Option Value} {t e : TypeId} {z : Value} (m : PMap w g n M) (ht : Tryz.prog.underlying t = some (.map 3 e)) (hz : (zeroValue e).run Tryz.prog w = .ok z w) (a : Int) (ha : (Lit.int .i64 a).wf = true) :
    (Instr.lookup t (.map (some g)) (.int .i64 a) false).run Tryz.prog w = .ok ((M a).getD z) w := by
  obtain ⟨D, h, _, _, hM⟩ := m
  obtain ⟨v, ps, hrun, hv⟩ := h.lookup keyedInt ht hz (zd := .held z) (zp := []) rfl (keyOf_int_mk Tryz.underlying3 ha)
  rw [hM a z] at hv
  have e : v = (M a).getD z := by
    simp only [self, Option.some.injEq, Prod.mk.injEq, DataW.held.injEq] at hv
    exact hv.1
  rw [← e]; exact hrun

theorem PMap.look_ok {w : World} {g n : Nat} {M : Int → Option Value} {t e : TypeId} {z : Value} (m : PMap w g n M) (ht : Tryz.prog.underlying t = some (.map 3 e)) (hz : (zeroValue e).run Tryz.prog w = .ok z w) (a : Int) (ha : (Lit.int .i64 a).wf = true) :
    (Instr.lookup t (.map (some g)) (.int .i64 a) true).run Tryz.prog w = .ok (.tuple #[(M a).getD z, .bool (M a).isSome]) w := by
  obtain ⟨D, h, _, hS, hM⟩ := m
  obtain ⟨v, ps, hrun, hv⟩ := h.look_ok keyedInt ht hz (zd := .held z) (zp := []) rfl (keyOf_int_mk Tryz.underlying3 ha)
  rw [hM a z] at hv
  have e : v = (M a).getD z := by
    simp only [self, Option.some.injEq, Prod.mk.injEq, DataW.held.injEq] at hv
    exact hv.1
  rw [← e, ← hS a]; exact hrun

theorem PMap.put {w : World} {g n : Nat} {M : Int → Option Value} {t e : TypeId} (m : PMap w g n M) (ht : Tryz.prog.underlying t = some (.map 3 e)) (hn : n < maxLen) (a : Int) (ha : (Lit.int .i64 a).wf = true) (v : Value) :
    ∃ w', (Instr.mapUpdate t (.map (some g)) (.int .i64 a) v).run Tryz.prog w = .ok () w' ∧ PMap w' g (if (M a).isSome then n else n + 1) (fun i => if i = a then some v else M i) ∧ w.grownBy w' (some g) := by
  obtain ⟨D, h, hs, hS, hM⟩ := m
  have hk := keyOf_int_mk Tryz.underlying3 ha
  obtain ⟨w', hrun, r1, r2⟩ := h.update keyedInt ht hn hk (d := .held v) (ps := []) rfl
  have hsz := size_put (k := .int .i64 a) (h.tidy keyedInt) (DataW.held v)
  rw [hS a, hs] at hsz
  refine ⟨w', hrun, ⟨_, hsz ▸ own_exact r1, hsz, fun i => ?_, fun i z => ?_⟩, r2⟩
  · by_cases e : i = a
    · subst e; rw [has_put_same h.isMap (keyedInt.key hk)]; simp
    · rw [has_put_other (by simpa using e), hS i]; simp [e]
  · by_cases e : i = a
    · subst e
      rw [atKey_put_same h.isMap (keyedInt.key hk)]; simp
    · rw [atKey_put_other (by simpa using e), hM i]; simp [e]

theorem PMap.del {w : World} {g n : Nat} {M : Int → Option Value} {t e : TypeId} (m : PMap w g n M) (ht : Tryz.prog.underlying t = some (.map 3 e)) (a : Int) (ha : (Lit.int .i64 a).wf = true) (ty : TypeId) :
    ∃ w', (Builtin.delete_ #[t, 3] ty #[.map (some g), .int .i64 a]).run Tryz.prog w = .ok (.tuple #[]) w' ∧ PMap w' g (if (M a).isSome then n - 1 else n) (fun i => if i = a then none else M i) ∧ w.grownBy w' (some g) := by
  obtain ⟨D, h, hs, hS, hM⟩ := m
  have hk := keyOf_int_mk Tryz.underlying3 ha
  obtain ⟨w', hrun, r1, r2⟩ := h.drop keyedInt ht hk ty
  have hsz := size_del (k := .int .i64 a) (h.tidy keyedInt)
  rw [hS a, hs] at hsz
  have hsz' : Maps.size (D.del (.int .i64 a)) = if (M a).isSome then n - 1 else n := by split at hsz <;> simp_all <;> omega
  refine ⟨w', hrun, ⟨_, hsz' ▸ own_exact r1, hsz', fun i => ?_, fun i z => ?_⟩, r2.grown⟩
  · by_cases e : i = a
    · subst e; rw [has_del_same]; simp
    · rw [has_del_other (by simpa using e), hS i]; simp [e]
  · by_cases e : i = a
    · subst e; rw [atKey_del_same]; simp
    · rw [atKey_del_other (by simpa using e), hM i]; simp [e]

theorem PMap.len {w : World} {g n : Nat} {M : Int → Option Value} {t e : TypeId} (m : PMap w g n M) (ht : Tryz.prog.underlying t = some (.map 3 e)) (ty : TypeId) :
    (Builtin.len_ #[t] ty #[.map (some g)]).run Tryz.prog w = .ok (.int .i64 n) w := by
  obtain ⟨D, h, hs, _⟩ := m
  rw [h.len ht ty, hs]

section
variable {ops : Array Oper} {rest : List Oper} {o : Oper} {a : Act} {w : World} {Q : Exit → Act → World → Prop}

/-- A store into such a map, as the walk meets it. -/
theorem wpList_kput (hgd : o.guard = none) (m x v : Operand) (t : TypeId) (hop : o.op = Op.mapUpdate t m x v)
    (e : TypeId) (ht : Tryz.prog.underlying t = some (.map 3 e)) (g n : Nat) (M : Int → Option Value) (hm : a.eval m = .map (some g)) (hown : PMap w g n M) (hn : n < maxLen)
    (k : Int) (hx : a.eval x = .int .i64 k) (hk : (Lit.int .i64 k).wf = true) (u : Value) (hv : a.eval v = u)
    (h : ∀ w', PMap w' g (if (M k).isSome then n else n + 1) (fun i => if i = k then some u else M i) → w.grownBy w' (some g) → wpList Tryz.prog ops Q rest (a.put o.dst undef) w') : wpList Tryz.prog ops Q (o :: rest) a w := by
  refine wpList_plain hgd fun K' hK' => ?_
  obtain ⟨w', hrun, r1, r2⟩ := hown.put ht hn k hk u
  unfold Oper.wp
  simp [execOp, hop, hm, hx, hv, hrun, Result.andThen]
  exact hK' _ _ (h w' r1 r2)

/-- A look-up. -/
theorem wpList_klook (hgd : o.guard = none) (m x : Operand) (t : TypeId) (hop : o.op = Op.lookup t m x false)
    (e : TypeId) (ht : Tryz.prog.underlying t = some (.map 3 e)) (z : Value) (hz : (zeroValue e).run Tryz.prog w = .ok z w) (g n : Nat) (M : Int → Option Value) (hm : a.eval m = .map (some g)) (hown : PMap w g n M)
    (k : Int) (hx : a.eval x = .int .i64 k) (hk : (Lit.int .i64 k).wf = true)
    (h : wpList Tryz.prog ops Q rest (a.put o.dst ((M k).getD z)) w) : wpList Tryz.prog ops Q (o :: rest) a w := by
  refine wpList_plain hgd fun K' hK' => ?_
  have hrun := hown.look ht hz k hk
  unfold Oper.wp
  simp [execOp, hop, hm, hx, hrun, Result.andThen]
  exact hK' _ _ h

/-- A look-up that asks whether it is there. -/
theorem wpList_kask (hgd : o.guard = none) (m x : Operand) (t : TypeId) (hop : o.op = Op.lookup t m x true)
    (e : TypeId) (ht : Tryz.prog.underlying t = some (.map 3 e)) (z : Value) (hz : (zeroValue e).run Tryz.prog w = .ok z w) (g n : Nat) (M : Int → Option Value) (hm : a.eval m = .map (some g)) (hown : PMap w g n M)
    (k : Int) (hx : a.eval x = .int .i64 k) (hk : (Lit.int .i64 k).wf = true)
    (h : wpList Tryz.prog ops Q rest (a.put o.dst (.tuple #[(M k).getD z, .bool (M k).isSome])) w) : wpList Tryz.prog ops Q (o :: rest) a w := by
  refine wpList_plain hgd fun K' hK' => ?_
  have hrun := hown.look_ok ht hz k hk
  unfold Oper.wp
  simp [execOp, hop, hm, hx, hrun, Result.andThen]
  exact hK' _ _ h

/-- A deletion. -/
theorem wpList_kdel (hgd : o.guard = none) (m x : Operand) (t : TypeId) (hop : o.op = Op.call { callee := Callee.builtin Builtin.delete, args := #[m, x], argTypes := #[t, 3] })
    (e : TypeId) (ht : Tryz.prog.underlying t = some (.map 3 e)) (g n : Nat) (M : Int → Option Value) (hm : a.eval m = .map (some g)) (hown : PMap w g n M)
    (k : Int) (hx : a.eval x = .int .i64 k) (hk : (Lit.int .i64 k).wf = true)
    (h : ∀ w', PMap w' g (if (M k).isSome then n - 1 else n) (fun i => if i = k then none else M i) → w.grownBy w' (some g) → wpList Tryz.prog ops Q rest (a.put o.dst (.tuple #[])) w') : wpList Tryz.prog ops Q (o :: rest) a w := by
  refine wpList_plain hgd fun K' hK' => ?_
  obtain ⟨w', hrun, r1, r2⟩ := hown.del ht k hk o.type
  unfold Oper.wp
  simp [execOp, hop, resolve, invoke, builtin, hm, hx, hrun, Result.andThen]
  exact hK' _ _ (h w' r1 r2)

/-- How many. -/
theorem wpList_klen (hgd : o.guard = none) (m : Operand) (t : TypeId) (hop : o.op = Op.call { callee := Callee.builtin Builtin.len, args := #[m], argTypes := #[t] })
    (e : TypeId) (ht : Tryz.prog.underlying t = some (.map 3 e)) (g n : Nat) (M : Int → Option Value) (hm : a.eval m = .map (some g)) (hown : PMap w g n M)
    (h : wpList Tryz.prog ops Q rest (a.put o.dst (.int .i64 n)) w) : wpList Tryz.prog ops Q (o :: rest) a w := by
  refine wpList_plain hgd fun K' hK' => ?_
  unfold Oper.wp
  simp [execOp, hop, resolve, invoke, builtin, hm, hown.len ht o.type, Result.andThen]
  exact hK' _ _ h
end
end Go.Proofs.YtjkneekfijibiabGreatDoor

namespace Go.Proofs.YtjkneekfijibiabGreatDoor
open Go.RowKit Go.Maps

/-- Block g is a map of s entries, keyed by texts: at a there is M a. -/
def SMap (w : World) (g s : Nat) (M : List UInt8 → Option Value) : Prop :=
  ∃ D : DataW Value, w.ownsMap Tryz.prog 9 self g s D ∧ Maps.size D = s ∧ (∀ a, Maps.has D (.string a) = (M a).isSome) ∧ ∀ a z, D.atKey (.string a) (.held z) = .held ((M a).getD z)

theorem keyOf_text {a : List UInt8} (h : a.length ≤ maxLen) : keyOf Tryz.prog 9 (.string ⟨a.toArray⟩) = some (.string a) := by
  have hs : (⟨a.toArray⟩ : ByteArray).size = a.length := by simp [ByteArray.size]
  simp [keyOf, Tryz.underlying9, mapKey, hs, h]
theorem keyedText : Keyed Tryz.prog 9 := string_keyed Tryz.underlying9

theorem sown_exact {w : World} {g n : Nat} {D : DataW Value} (h : w.ownsMap Tryz.prog 9 self g n D) : w.ownsMap Tryz.prog 9 self g (Maps.size D) D := by
  obtain ⟨es, clock, hb, F, hs, hD⟩ := h
  refine ⟨es, clock, hb, F, ?_, hD⟩
  rw [hD]; simp [Maps.size, length_sorted]

theorem SMap.made (w : World) : SMap (w.alloc (.map #[] 0)) w.heap.size 0 (fun _ => none) :=
  ⟨.map [], World.ownsMap_made w Tryz.prog 9 self, rfl, fun a => by simp [Maps.has], fun a z => by simp [DataW.atKey]⟩

theorem SMap.keep {w w' : World} {g n : Nat} {M : List UInt8 → Option Value} (m : SMap w g n M) (h : w'.heap[g]? = w.heap[g]?) : SMap w' g n M := by
  obtain ⟨D, ⟨es, clock, hb, F, hs, hD⟩, hM⟩ := m
  exact ⟨D, ⟨es, clock, h.trans hb, F, hs, hD⟩, hM⟩

theorem SMap.lt {w : World} {g n : Nat} {M : List UInt8 → Option Value} (m : SMap w g n M) : g < w.heap.size := by
  obtain ⟨D, h, _⟩ := m
  exact h.lt

theorem SMap.isMap {w : World} {g n : Nat} {M : List UInt8 → Option Value} (m : SMap w g n M) : ∃ es clock, w.heap[g]? = some (.map es clock) := by
  obtain ⟨D, ⟨es, clock, hb, _⟩, _⟩ := m
  exact ⟨es, clock, hb⟩

theorem SMap.look {w : World} {g n : Nat} {M : List UInt8 → Option Value} {t e : TypeId} {z : Value} (m : SMap w g n M) (ht : Tryz.prog.underlying t = some (.map 9 e)) (hz : (zeroValue e).run Tryz.prog w = .ok z w) (a : List UInt8) (ha : a.length ≤ maxLen) :
    (Instr.lookup t (.map (some g)) (.string ⟨a.toArray⟩) false).run Tryz.prog w = .ok ((M a).getD z) w := by
  obtain ⟨D, h, _, _, hM⟩ := m
  obtain ⟨v, ps, hrun, hv⟩ := h.lookup keyedText ht hz (zd := .held z) (zp := []) rfl (keyOf_text ha)
  rw [hM a z] at hv
  have e : v = (M a).getD z := by
    simp only [self, Option.some.injEq, Prod.mk.injEq, DataW.held.injEq] at hv
    exact hv.1
  rw [← e]; exact hrun

theorem SMap.look_ok {w : World} {g n : Nat} {M : List UInt8 → Option Value} {t e : TypeId} {z : Value} (m : SMap w g n M) (ht : Tryz.prog.underlying t = some (.map 9 e)) (hz : (zeroValue e).run Tryz.prog w = .ok z w) (a : List UInt8) (ha : a.length ≤ maxLen) :
    (Instr.lookup t (.map (some g)) (.string ⟨a.toArray⟩) true).run Tryz.prog w = .ok (.tuple #[(M a).getD z, .bool (M a).isSome]) w := by
  obtain ⟨D, h, _, hS, hM⟩ := m
  obtain ⟨v, ps, hrun, hv⟩ := h.look_ok keyedText ht hz (zd := .held z) (zp := []) rfl (keyOf_text ha)
  rw [hM a z] at hv
  have e : v = (M a).getD z := by
    simp only [self, Option.some.injEq, Prod.mk.injEq, DataW.held.injEq] at hv
    exact hv.1
  rw [← e, ← hS a]; exact hrun

theorem SMap.put {w : World} {g n : Nat} {M : List UInt8 → Option Value} {t e : TypeId} (m : SMap w g n M) (ht : Tryz.prog.underlying t = some (.map 9 e)) (hn : n < maxLen) (a : List UInt8) (ha : a.length ≤ maxLen) (v : Value) :
    ∃ w', (Instr.mapUpdate t (.map (some g)) (.string ⟨a.toArray⟩) v).run Tryz.prog w = .ok () w' ∧ SMap w' g (if (M a).isSome then n else n + 1) (fun i => if i = a then some v else M i) ∧ w.grownBy w' (some g) := by
  obtain ⟨D, h, hs, hS, hM⟩ := m
  have hk := keyOf_text ha
  obtain ⟨w', hrun, r1, r2⟩ := h.update keyedText ht hn hk (d := .held v) (ps := []) rfl
  have hsz := size_put (k := .string a) (h.tidy keyedText) (DataW.held v)
  rw [hS a, hs] at hsz
  refine ⟨w', hrun, ⟨_, hsz ▸ sown_exact r1, hsz, fun i => ?_, fun i z => ?_⟩, r2⟩
  · by_cases e : i = a
    · subst e; rw [has_put_same h.isMap (keyedText.key hk)]; simp
    · rw [has_put_other (by simpa using e), hS i]; simp [e]
  · by_cases e : i = a
    · subst e
      rw [atKey_put_same h.isMap (keyedText.key hk)]; simp
    · rw [atKey_put_other (by simpa using e), hM i]; simp [e]

theorem SMap.del {w : World} {g n : Nat} {M : List UInt8 → Option Value} {t e : TypeId} (m : SMap w g n M) (ht : Tryz.prog.underlying t = some (.map 9 e)) (a : List UInt8) (ha : a.length ≤ maxLen) (ty : TypeId) :
    ∃ w', (Builtin.delete_ #[t, 9] ty #[.map (some g), .string ⟨a.toArray⟩]).run Tryz.prog w = .ok (.tuple #[]) w' ∧ SMap w' g (if (M a).isSome then n - 1 else n) (fun i => if i = a then none else M i) ∧ w.grownBy w' (some g) := by
  obtain ⟨D, h, hs, hS, hM⟩ := m
  have hk := keyOf_text ha
  obtain ⟨w', hrun, r1, r2⟩ := h.drop keyedText ht hk ty
  have hsz := size_del (k := .string a) (h.tidy keyedText)
  rw [hS a, hs] at hsz
  have hsz' : Maps.size (D.del (.string a)) = if (M a).isSome then n - 1 else n := by split at hsz <;> simp_all <;> omega
  refine ⟨w', hrun, ⟨_, hsz' ▸ sown_exact r1, hsz', fun i => ?_, fun i z => ?_⟩, r2.grown⟩
  · by_cases e : i = a
    · subst e; rw [has_del_same]; simp
    · rw [has_del_other (by simpa using e), hS i]; simp [e]
  · by_cases e : i = a
    · subst e; rw [atKey_del_same]; simp
    · rw [atKey_del_other (by simpa using e), hM i]; simp [e]

theorem SMap.len {w : World} {g n : Nat} {M : List UInt8 → Option Value} {t e : TypeId} (m : SMap w g n M) (ht : Tryz.prog.underlying t = some (.map 9 e)) (ty : TypeId) :
    (Builtin.len_ #[t] ty #[.map (some g)]).run Tryz.prog w = .ok (.int .i64 n) w := by
  obtain ⟨D, h, hs, _⟩ := m
  rw [h.len ht ty, hs]

section
variable {ops : Array Oper} {rest : List Oper} {o : Oper} {a : Act} {w : World} {Q : Exit → Act → World → Prop}

/-- A store into such a map, as the walk meets it. -/
theorem wpList_sput (hgd : o.guard = none) (m x v : Operand) (t : TypeId) (hop : o.op = Op.mapUpdate t m x v)
    (e : TypeId) (ht : Tryz.prog.underlying t = some (.map 9 e)) (g n : Nat) (M : List UInt8 → Option Value) (hm : a.eval m = .map (some g)) (hown : SMap w g n M) (hn : n < maxLen)
    (k : List UInt8) (hx : a.eval x = .string ⟨k.toArray⟩) (hk : k.length ≤ maxLen) (u : Value) (hv : a.eval v = u)
    (h : ∀ w', SMap w' g (if (M k).isSome then n else n + 1) (fun i => if i = k then some u else M i) → w.grownBy w' (some g) → wpList Tryz.prog ops Q rest (a.put o.dst undef) w') : wpList Tryz.prog ops Q (o :: rest) a w := by
  refine wpList_plain hgd fun K' hK' => ?_
  obtain ⟨w', hrun, r1, r2⟩ := hown.put ht hn k hk u
  unfold Oper.wp
  simp [execOp, hop, hm, hx, hv, hrun, Result.andThen]
  exact hK' _ _ (h w' r1 r2)

/-- A look-up. -/
theorem wpList_slook (hgd : o.guard = none) (m x : Operand) (t : TypeId) (hop : o.op = Op.lookup t m x false)
    (e : TypeId) (ht : Tryz.prog.underlying t = some (.map 9 e)) (z : Value) (hz : (zeroValue e).run Tryz.prog w = .ok z w) (g n : Nat) (M : List UInt8 → Option Value) (hm : a.eval m = .map (some g)) (hown : SMap w g n M)
    (k : List UInt8) (hx : a.eval x = .string ⟨k.toArray⟩) (hk : k.length ≤ maxLen)
    (h : wpList Tryz.prog ops Q rest (a.put o.dst ((M k).getD z)) w) : wpList Tryz.prog ops Q (o :: rest) a w := by
  refine wpList_plain hgd fun K' hK' => ?_
  have hrun := hown.look ht hz k hk
  unfold Oper.wp
  simp [execOp, hop, hm, hx, hrun, Result.andThen]
  exact hK' _ _ h

/-- A look-up that asks whether it is there. -/
theorem wpList_sask (hgd : o.guard = none) (m x : Operand) (t : TypeId) (hop : o.op = Op.lookup t m x true)
    (e : TypeId) (ht : Tryz.prog.underlying t = some (.map 9 e)) (z : Value) (hz : (zeroValue e).run Tryz.prog w = .ok z w) (g n : Nat) (M : List UInt8 → Option Value) (hm : a.eval m = .map (some g)) (hown : SMap w g n M)
    (k : List UInt8) (hx : a.eval x = .string ⟨k.toArray⟩) (hk : k.length ≤ maxLen)
    (h : wpList Tryz.prog ops Q rest (a.put o.dst (.tuple #[(M k).getD z, .bool (M k).isSome])) w) : wpList Tryz.prog ops Q (o :: rest) a w := by
  refine wpList_plain hgd fun K' hK' => ?_
  have hrun := hown.look_ok ht hz k hk
  unfold Oper.wp
  simp [execOp, hop, hm, hx, hrun, Result.andThen]
  exact hK' _ _ h

/-- A deletion. -/
theorem wpList_sdel (hgd : o.guard = none) (m x : Operand) (t : TypeId) (hop : o.op = Op.call { callee := Callee.builtin Builtin.delete, args := #[m, x], argTypes := #[t, 9] })
    (e : TypeId) (ht : Tryz.prog.underlying t = some (.map 9 e)) (g n : Nat) (M : List UInt8 → Option Value) (hm : a.eval m = .map (some g)) (hown : SMap w g n M)
    (k : List UInt8) (hx : a.eval x = .string ⟨k.toArray⟩) (hk : k.length ≤ maxLen)
    (h : ∀ w', SMap w' g (if (M k).isSome then n - 1 else n) (fun i => if i = k then none else M i) → w.grownBy w' (some g) → wpList Tryz.prog ops Q rest (a.put o.dst (.tuple #[])) w') : wpList Tryz.prog ops Q (o :: rest) a w := by
  refine wpList_plain hgd fun K' hK' => ?_
  obtain ⟨w', hrun, r1, r2⟩ := hown.del ht k hk o.type
  unfold Oper.wp
  simp [execOp, hop, resolve, invoke, builtin, hm, hx, hrun, Result.andThen]
  exact hK' _ _ (h w' r1 r2)

/-- How many. -/
theorem wpList_slen (hgd : o.guard = none) (m : Operand) (t : TypeId) (hop : o.op = Op.call { callee := Callee.builtin Builtin.len, args := #[m], argTypes := #[t] })
    (e : TypeId) (ht : Tryz.prog.underlying t = some (.map 9 e)) (g n : Nat) (M : List UInt8 → Option Value) (hm : a.eval m = .map (some g)) (hown : SMap w g n M)
    (h : wpList Tryz.prog ops Q rest (a.put o.dst (.int .i64 n)) w) : wpList Tryz.prog ops Q (o :: rest) a w := by
  refine wpList_plain hgd fun K' hK' => ?_
  unfold Oper.wp
  simp [execOp, hop, resolve, invoke, builtin, hm, hown.len ht o.type, Result.andThen]
  exact hK' _ _ h
end
end Go.Proofs.YtjkneekfijibiabGreatDoor

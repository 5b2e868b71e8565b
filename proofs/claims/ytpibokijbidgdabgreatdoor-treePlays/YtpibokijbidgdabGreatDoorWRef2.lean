/- The document's own Names, by its Go text. -/
import Derived.Test.YtpibokijbidgdabGreatDoorWood
import Derived.Test.YtpibokijbidgdabGreatDoorShelfT
import Derived.Test.YtpibokijbidgdabGreatDoorRows
import Derived.WalkLawsBesides
import Derived.Outline
import Derived.Deep.LoopGhost
import Derived.Deep.DeepCutAuto
import Derived.Deep.Light
import Derived.WalkSmall
import Derived.Test.YtpibokijbidgdabGreatDoorWAbs
import Derived.Test.YtpibokijbidgdabGreatDoorSKeys
import Derived.BigQuiet
import Derived.Deep.QuietTactic
namespace Go.Proofs.YtpibokijbidgdabGreatDoor
open Go.RowKit

set_option maxHeartbeats 400000 in
theorem rin_ok (w : World) (x lo hi : Int) : Calls Tryz.prog 77 #[.int .i64 x, .int .i64 lo, .int .i64 hi] w fun e w' => e = .returned (.bool (decide (lo ≤ x) && decide (x ≤ hi))) ∧ w' = w := by
  by_cases h1 : lo ≤ x <;> by_cases h2 : x ≤ hi
  all_goals
    simp only [h1, h2, decide_true, decide_false, Bool.and_true, Bool.and_false]
    go_enter Tryz.func77, Tryz.ntmps77
    go_wp2_with fail
    go_ret
    exact ⟨rfl, rfl⟩

/-- Texts in an array. -/
def Txts (w : World) (v : Value) (l : List Nm) : Prop :=
  (l = [] ∧ ∃ a c, v = .slice a 0 c) ∨ ∃ b o c, v = .slice (some ⟨b, o, none⟩) l.length c ∧ l.length ≤ c ∧ b < w.heap.size ∧ ∀ i (h : i < l.length), w.cell? ⟨b, o + i, none⟩ = some (tx l[i])
theorem Txts.below {w w' : World} {v : Value} {l : List Nm} (h : Txts w v l) (hb : Below w.heap.size w w') : Txts w' v l := by
  rcases h with h | ⟨b, o, c, e, hc, hl, hi⟩
  · exact .inl h
  · exact .inr ⟨b, o, c, e, hc, Nat.lt_of_lt_of_le hl hb.size, fun i h => by rw [hb.cell (p := ⟨b, o + i, none⟩) hl]; exact hi i h⟩

/-- What Split makes of a text, at a slash. -/
theorem split_ok (p : List UInt8) (hp : p.length < 4294967281) (w : World) (m : Int) (hm : w.cell? ⟨2, 0, none⟩ = some (.int .i64 m)) :
    Calls Tryz.prog 76 #[tx p, .string ⟨#[47]⟩] w fun e w' => e = .returned (.slice (some ⟨w.heap.size, 0, none⟩) (parts p).length (parts p).length) ∧ (∀ i (h : i < (parts p).length), w'.cell? ⟨w.heap.size, i, none⟩ = some (tx (parts p)[i])) ∧ Below w.heap.size w w' ∧ w.heap.size < w'.heap.size := by
  have hs : (⟨p.toArray⟩ : ByteArray).size = p.length := by simp [ByteArray.size]
  have hd : (Lib.splitB ⟨#[47]⟩ 0 (Lib.countB ⟨p.toArray⟩ ⟨#[47]⟩) ⟨p.toArray⟩).map (·.data.toList) = parts p := by
    rw [Lib.splitB_data]; exact split_parts p
  have hl : (parts p).length = Lib.countB ⟨p.toArray⟩ ⟨#[47]⟩ + 1 := by
    rw [← hd, List.length_map]; exact Lib.splitB_all ⟨#[47]⟩ (by decide) 0 _ _ rfl
  refine (Any.strings_Split Tryz.splitL (by kernel_rfl) ⟨p.toArray⟩ ⟨#[47]⟩ m w (by rw [hs]; exact hp) hm (by decide)).mono ?_
  rintro e w' ⟨he, rfl⟩
  refine ⟨by rw [hl]; exact he, fun i h => ?_, (Below.refl _ _).alloc (Nat.le_refl _) _, by simp⟩
  have hh : (w.alloc (.cells ((Lib.splitB ⟨#[47]⟩ 0 (Lib.countB ⟨p.toArray⟩ ⟨#[47]⟩) ⟨p.toArray⟩).map Value.string).toArray 9)).heap[w.heap.size]? = some (.cells ((Lib.splitB ⟨#[47]⟩ 0 (Lib.countB ⟨p.toArray⟩ ⟨#[47]⟩) ⟨p.toArray⟩).map Value.string).toArray 9) := by
    show (w.heap.push _)[w.heap.size]? = _
    rw [Array.getElem?_push, if_pos rfl]
  rw [show (Shelf.Ren.t _ 9) = 9 from rfl, cell_of_row _ _ _ _ _ _ hh]
  have e1 := (congrArg (fun l : List Nm => l[i]?) hd).trans (List.getElem?_eq_getElem h)
  simp only [List.getElem?_map] at e1
  rw [List.getElem?_toArray, List.getElem?_map]
  cases e2 : (Lib.splitB ⟨#[47]⟩ 0 (Lib.countB ⟨p.toArray⟩ ⟨#[47]⟩) ⟨p.toArray⟩)[i]? with
  | none => rw [e2] at e1; cases e1
  | some y =>
    rw [e2] at e1
    simp only [Option.map_some, Option.some.injEq] at e1 ⊢
    rw [← e1]

/-- What Names answers. -/
def NmR (p : List UInt8) (w' : World) (e : Ending) : Prop := match namesOf p with
  | none => e = .returned (.tuple #[.slice none 0 0, .bool false])
  | some l => ∃ v, e = .returned (.tuple #[v, .bool true]) ∧ Txts w' v l
theorem NmR.no {p : List UInt8} {w' : World} (h : namesOf p = none) : NmR p w' (.returned (.tuple #[.slice none 0 0, .bool false])) := by unfold NmR; rw [h]
theorem NmR.yes {p : List UInt8} {w' : World} {l : List Nm} {v : Value} (h : namesOf p = some l) (ht : Txts w' v l) : NmR p w' (.returned (.tuple #[v, .bool true])) := by unfold NmR; rw [h]; exact ⟨v, rfl, ht⟩

theorem all_not {l : List Nm} {i : Nat} (h : i < l.length) (hn : isName l[i] = false) : l.all isName = false := by
  rw [List.all_eq_false]
  exact ⟨l[i], List.getElem_mem h, by simp [hn]⟩
theorem all_next {l : List Nm} {i : Nat} (h : i < l.length) (ha : (l.take i).all isName = true) (hn : isName l[i] = true) : (l.take (i + 1)).all isName = true := by
  rw [List.take_succ_eq_append_getElem h, List.all_append, ha, List.all_cons, hn]; rfl

theorem namesOf_short {p : List UInt8} {x : Nm} (h0 : p ≠ [47]) (e : parts p = [x]) : namesOf p = none := by
  unfold namesOf; rw [if_neg h0, e]; cases x <;> rfl
theorem namesOf_head {p : List UInt8} {x y : Nm} {t : List Nm} (h0 : p ≠ [47]) (e : parts p = x :: y :: t) (hx : x ≠ []) : namesOf p = none := by
  unfold namesOf; rw [if_neg h0, e]
  cases x with
  | nil => exact absurd rfl hx
  | cons _ _ => rfl
theorem namesOf_slash {p : List UInt8} {y : Nm} {t : List Nm} (h0 : p ≠ [47]) (e : parts p = [] :: y :: t) : namesOf p = if (y :: t).all isName then some (y :: t) else none := by
  unfold namesOf; rw [if_neg h0, e]

set_option maxRecDepth 100000 in
set_option maxHeartbeats 2000000 in
theorem names_ok (p : List UInt8) (hp : p.length < 100000) (w : World) (m : Int) (hm : w.cell? ⟨2, 0, none⟩ = some (.int .i64 m)) :
    Calls Tryz.prog 53 #[tx p] w fun e w' => NmR p w' e ∧ Below w.heap.size w w' := by
  have hS := split_ok p (by omega) w m hm
  by_cases h0 : p = [47]
  · subst h0
    go_enter Tryz.func53, Tryz.ntmps53
    go_wp2_with fail
    go_ret2
    exact ⟨NmR.yes (l := []) rfl (.inl ⟨rfl, none, 0, rfl⟩), Below.refl _ _⟩
  · have hq : (p == [47]) = false := by simp [h0]
    obtain ⟨q, hqp⟩ : ∃ q, parts p = q := ⟨_, rfl⟩
    have hne := parts_ne p
    rw [hqp] at hS hne
    go_enter Tryz.func53, Tryz.ntmps53
    go_wp2_with fail
    refine hS.mono ?_
    rintro e w1 ⟨rfl, hc, b1, l1⟩
    clear hS
    match q, hqp, hc, hne with
    | [], _, _, hne => exact absurd rfl hne
    | [x], hqp, hc, _ =>
      have h9 := NmR.no (w' := w1) (namesOf_short h0 hqp)
      clear hqp hc
      go_wp2_with fail
      go_ret2
      exact ⟨h9, b1⟩
    | x :: y :: t, hqp, hc, _ =>
      have c0 : w1.cell? ⟨w.heap.size, 0, none⟩ = some (tx x) := hc 0 (by simp)
      have hc1 : ∀ i (h : i < (y :: t).length), w1.cell? ⟨w.heap.size, 1 + i, none⟩ = some (tx (y :: t)[i]) := fun i h => by
        have := hc (i + 1) (by simp at h ⊢; omega)
        rw [Nat.add_comm]; exact this
      obtain ⟨N, hNl⟩ : ∃ N, (y :: t).length = N := ⟨_, rfl⟩
      have hlen : (x :: y :: t).length = N + 1 := by rw [← hNl]; rfl
      have hpos : 1 ≤ N := by rw [← hNl]; simp
      have hNb : N ≤ 100001 := by have := parts_len p; rw [hqp, hlen] at this; omega
      have hN0 : ¬ N = 0 := by omega
      rw [hlen]
      have hlt2 : ¬ ((N : Int) + 1) < 2 := by omega
      by_cases hx : x = []
      · subst hx
        have hN' := namesOf_slash h0 hqp
        generalize y :: t = l at *
        have hno : ∀ w', l.all isName = false → NmR p w' (.returned (.tuple #[.slice none 0 0, .bool false])) := fun w' ha => NmR.no (by rw [hN', ha]; rfl)
        have hyes : ∀ c, l.all isName = true → N ≤ c → NmR p w1 (.returned (.tuple #[.slice (some ⟨w.heap.size, 1, none⟩) N c, .bool true])) := fun c ha hlc => NmR.yes (l := l) (by rw [hN', ha]; rfl) (.inr ⟨w.heap.size, 1, c, by rw [hNl], by omega, l1, hc1⟩)
        clear hN' hc hlen hqp
        go_wp2_with fail
        go_loopg [23] N (fun mm s23 wr => ∃ i : Nat, i + mm = N ∧ s23 = .int .i64 (i : Int) ∧ (l.take i).all isName = true ∧ wr = w1)
        case atStart => exact ⟨0, by omega, rfl, rfl, rfl⟩
        case round =>
          obtain ⟨i, hi, rfl, ha, hwr⟩ := hrel
          subst hwr
          by_cases hlt : (i : Int) < (N : Int)
          · have hil : i < l.length := by omega
            have ci := hc1 i hil
            have hn1 := all_not hil
            have hn2 := all_next hil ha
            obtain ⟨z, hz⟩ : ∃ z, l[i] = z := ⟨_, rfl⟩
            rw [hz] at ci hn1 hn2
            have hin := rin_ok wr (z.length : Int) 1 12
            have hisn : isName z = (decide ((1 : Int) ≤ (z.length : Int)) && decide ((z.length : Int) ≤ 12) && !(z == [46]) && !(z == [46, 46])) := by
              unfold isName
              congr 3
              · exact decide_eq_decide.2 (by omega)
              · exact decide_eq_decide.2 (by omega)
            clear hz hc1 hyes
            cases hb1 : (decide ((1 : Int) ≤ (z.length : Int)) && decide ((z.length : Int) ≤ 12)) with
            | false =>
              have h9 := hno wr (hn1 (by rw [hisn, hb1]; rfl))
              rw [hb1] at hin
              clear hisn hn1 hn2 hno hb1
              go_wp2_with fail
              refine hin.mono ?_
              rintro e w2 ⟨rfl, h2⟩
              subst w2
              go_wp2_with fail
              go_ret2
              exact ⟨h9, b1⟩
            | true =>
              rw [hb1] at hin
              cases hb2 : (z == [46]) with
              | true =>
                have h9 := hno wr (hn1 (by rw [hisn, hb1, hb2]; rfl))
                clear hisn hn1 hn2 hno hb1
                go_wp2_with fail
                refine hin.mono ?_
                rintro e w2 ⟨rfl, h2⟩
                subst w2
                go_wp2_with fail
                go_ret2
                exact ⟨h9, b1⟩
              | false =>
                cases hb3 : (z == [46, 46]) with
                | true =>
                  have h9 := hno wr (hn1 (by rw [hisn, hb1, hb2, hb3]; rfl))
                  clear hisn hn1 hn2 hno hb1
                  go_wp2_with fail
                  refine hin.mono ?_
                  rintro e w2 ⟨rfl, h2⟩
                  subst w2
                  go_wp2_with fail
                  go_ret2
                  exact ⟨h9, b1⟩
                | false =>
                  have h9 := hn2 (by rw [hisn, hb1, hb2, hb3]; rfl)
                  clear hisn hn1 hn2 hno hb1
                  go_wp2_with fail
                  refine hin.mono ?_
                  rintro e w2 ⟨rfl, h2⟩
                  subst w2
                  go_wp2_with fail
                  go_roundg (gk - 1)
                  case measure => omega
                  case rel => exact ⟨i + 1, by omega, by go_num, h9, rfl⟩
          · have hiN : i = N := by omega
            subst hiN
            rw [List.take_of_length_le (by omega)] at ha
            go_wp2_with fail
            go_ret2
            exact ⟨hyes _ ha (by omega), b1⟩
      · have hxe : x.isEmpty = false := by cases x with
          | nil => exact absurd rfl hx
          | cons _ _ => rfl
        have h9 := NmR.no (w' := w1) (namesOf_head h0 hqp hx)
        clear hqp hc hc1
        go_wp2_with fail
        go_ret2
        exact ⟨h9, b1⟩
end Go.Proofs.YtpibokijbidgdabGreatDoor

namespace Go.Proofs.YtpibokijbidgdabGreatDoor
open Go.RowKit Go.Maps

/-- A node of the document's, as a value. -/
def ndv (G : Int → Nat) (k : Int) : Nd → Value
  | .dir _ => .agg #[.map (some (G k)), .bool true, tx [], .int .i64 0]
  | .file b h => .agg #[.map none, .bool false, tx b, .int .i64 (h : Int)]
/-- No node. -/
abbrev nd0 : Value := .agg #[.map none, .bool false, tx [], .int .i64 0]
theorem zero_node (w : World) : (zeroValue 64).run Tryz.prog w = .ok nd0 w := by kernel_rfl
theorem node_f0 (m : Option Nat) (b : Bool) (l : List UInt8) (h : Int) (W : World) : (Instr.field 64 (.agg #[.map m, .bool b, tx l, .int .i64 h]) 0).run Tryz.prog W = .ok (.map m) W := by kernel_rfl
theorem node_f1 (m : Option Nat) (b : Bool) (l : List UInt8) (h : Int) (W : World) : (Instr.field 64 (.agg #[.map m, .bool b, tx l, .int .i64 h]) 1).run Tryz.prog W = .ok (.bool b) W := by kernel_rfl
theorem node_f2 (m : Option Nat) (b : Bool) (l : List UInt8) (h : Int) (W : World) : (Instr.field 64 (.agg #[.map m, .bool b, tx l, .int .i64 h]) 2).run Tryz.prog W = .ok (tx l) W := by kernel_rfl
theorem node_f3 (m : Option Nat) (b : Bool) (l : List UInt8) (h : Int) (W : World) : (Instr.field 64 (.agg #[.map m, .bool b, tx l, .int .i64 h]) 3).run Tryz.prog W = .ok (.int .i64 h) W := by kernel_rfl

structure RTr (w : World) (r gN s : Nat) (T : Wd) (G : Int → Nat) : Prop where
  head : w.heap[r]? = some (.cells #[.map (some gN)] 35)
  map : PMap w gN s (fun k => (T k).map (ndv G k))
  dirs : ∀ k C, T k = some (.dir C) → SMap w (G k) C.length (fun nm => (C.lookup nm).map (.int .i64 ·))
  sep : ∀ k C, T k = some (.dir C) → G k ≠ gN
  inj : ∀ k k' C C', T k = some (.dir C) → T k' = some (.dir C') → G k = G k' → k = k'

/-- Its blocks. -/
def town (r gN : Nat) (T : Wd) (G : Int → Nat) (i : Nat) : Prop := i = r ∨ i = gN ∨ ∃ k C, T k = some (.dir C) ∧ i = G k

section
variable {w w' : World} {r gN s : Nat} {T : Wd} {G : Int → Nat}
theorem RTr.c0 (h : RTr w r gN s T G) : w.cell? ⟨r, 0, none⟩ = some (.map (some gN)) := by rw [cell_of_row w r 0 _ _ _ h.head]; rfl
theorem RTr.keep (h : RTr w r gN s T G) (hk : ∀ i, town r gN T G i → w'.heap[i]? = w.heap[i]?) : RTr w' r gN s T G :=
  ⟨(hk r (.inl rfl)).trans h.head, h.map.keep (hk gN (.inr (.inl rfl))), fun k C e => (h.dirs k C e).keep (hk _ (.inr (.inr ⟨k, C, e, rfl⟩))), h.sep, h.inj⟩
theorem RTr.lt (h : RTr w r gN s T G) {i : Nat} (ht : town r gN T G i) : i < w.heap.size := by
  rcases ht with rfl | rfl | ⟨k, C, e, rfl⟩
  · exact World.block_lt_of_cell? w _ h.c0
  · exact h.map.lt
  · exact (h.dirs k C e).lt
theorem RTr.below (h : RTr w r gN s T G) (hb : Below w.heap.size w w') : RTr w' r gN s T G := h.keep (fun i ht => hb.block i (h.lt ht))

theorem node_dir {k : Int} {C : List (Nm × Int)} (e : T k = some (.dir C)) : ((T k).map (ndv G k)).getD nd0 = .agg #[.map (some (G k)), .bool true, tx [], .int .i64 0] := by rw [e]; rfl
theorem node_file {k : Int} {b : List UInt8} {h : Nat} (e : T k = some (.file b h)) : ((T k).map (ndv G k)).getD nd0 = .agg #[.map none, .bool false, tx b, .int .i64 (h : Int)] := by rw [e]; rfl

set_option maxRecDepth 100000 in
set_option maxHeartbeats 2000000 in
theorem RTr.lead_ok (h : RTr w r gN s T G) (hT : TrOk T) (v : Value) (l : List Nm) (hv : Txts w v l) (hlb : l.length ≤ 100001) (hnm : ∀ x ∈ l, x.length ≤ maxLen) :
    Calls Tryz.prog 54 #[wp r, v] w fun e w' => e = .returned (.tuple #[.int .i64 (leadT T 0 l).1, .int .i64 (leadT T 0 l).2]) ∧ w' = w := by
  have c0 := h.c0
  have hmap := h.map
  have f0 := node_f0
  have f1 := node_f1
  have hv' : ∃ a c, v = .slice a l.length c ∧ ∀ i (hi : i < l.length), ∃ b o, a = some ⟨b, o, none⟩ ∧ w.cell? ⟨b, o + i, none⟩ = some (tx l[i]) := by
    rcases hv with ⟨rfl, a, c, rfl⟩ | ⟨b, o, c, rfl, hc, _, hi⟩
    · exact ⟨a, c, rfl, fun i hi => by simp at hi⟩
    · exact ⟨_, c, rfl, fun i h' => ⟨b, o, rfl, hi i h'⟩⟩
  obtain ⟨a, c, rfl, hcell⟩ := hv'
  obtain ⟨N, hN⟩ : ∃ N, l.length = N := ⟨_, rfl⟩
  obtain ⟨R, hR⟩ : ∃ R, leadT T 0 l = R := ⟨_, rfl⟩
  rw [hR, hN]
  go_enter Tryz.func54, Tryz.ntmps54
  go_wp2_with fail
  go_loopg [6, 13] N (fun mm s6 s13 wr => ∃ (i : Nat) (n : Int), i + mm = N ∧ s13 = .int .i64 (i : Int) ∧ s6 = .int .i64 n ∧ (T n).isSome = true ∧ leadT T n (l.drop i) = R ∧ wr = w)
  case atStart => exact ⟨0, 0, by omega, rfl, rfl, by obtain ⟨C, e⟩ := hT.root; rw [e]; rfl, by rw [List.drop_zero]; exact hR, rfl⟩
  case round =>
    obtain ⟨i, n, hi, rfl, rfl, hn, hl, hw⟩ := hrel
    subst hw
    by_cases hlt : (i : Int) < (N : Int)
    · have hil : i < l.length := by omega
      obtain ⟨b, o, rfl, ci⟩ := hcell i hil
      rw [List.drop_eq_getElem_cons hil] at hl
      have hxm := hnm l[i] (List.getElem_mem hil)
      obtain ⟨x, hx⟩ : ∃ x, l[i] = x := ⟨_, rfl⟩
      rw [hx] at hl ci hxm
      have hnk := hT.key n hn
      have hwf : (Lit.int .i64 n).wf = true := wf_few hnk.1 (by omega)
      clear hx hcell hnm
      by_cases hd : ∃ C, T n = some (.dir C)
      · obtain ⟨C, hC⟩ := hd
        have hg := node_dir (G := G) hC
        have hSm := h.dirs n C hC
        have hch := hT.child n C x
        cases hlk : C.lookup x with
        | none =>
          rw [leadT_miss _ hC hlk] at hl
          subst hl
          clear h hT hch
          go_wp2_with (first
            | (at_lookup; refine wpList_klook rfl _ _ 33 rfl 64 Tryz.underlying33 _ (zero_node _) gN _ _ rfl hmap n rfl hwf ?_; rw [hg])
            | (at_lookup; refine wpList_sask rfl _ _ 62 rfl 3 Tryz.underlying62 _ (zero_num _) (G n) _ _ rfl hSm x rfl hxm ?_; simp only [hlk, Option.map_none, Option.getD_none, Option.isSome_none]))
          go_ret2
          exact ⟨rfl, rfl⟩
        | some n' =>
          rw [leadT_step _ hC hlk] at hl
          have hn' := hch n' hC hlk
          clear h hT hch
          go_wp2_with (first
            | (at_lookup; refine wpList_klook rfl _ _ 33 rfl 64 Tryz.underlying33 _ (zero_node _) gN _ _ rfl hmap n rfl hwf ?_; rw [hg])
            | (at_lookup; refine wpList_sask rfl _ _ 62 rfl 3 Tryz.underlying62 _ (zero_num _) (G n) _ _ rfl hSm x rfl hxm ?_; simp only [hlk, Option.map_some, Option.getD_some, Option.isSome_some]))
          go_roundg (gk - 1)
          case measure => omega
          case rel => exact ⟨i + 1, n', by omega, by go_num, rfl, hn', hl, rfl⟩
      · rw [leadT_file _ (fun C e => hd ⟨C, e⟩)] at hl
        subst hl
        obtain ⟨fb, fh, hF⟩ : ∃ fb fh, T n = some (.file fb fh) := by
          cases e : T n with
          | none => rw [e] at hn; cases hn
          | some nd => cases nd with
            | dir C => exact absurd ⟨C, e⟩ hd
            | file fb fh => exact ⟨fb, fh, rfl⟩
        have hg := node_file (G := G) hF
        clear h hT hd
        go_wp2_with (at_lookup; refine wpList_klook rfl _ _ 33 rfl 64 Tryz.underlying33 _ (zero_node _) gN _ _ rfl hmap n rfl hwf ?_; rw [hg])
        go_ret2
        exact ⟨rfl, rfl⟩
    · have hiN : i = N := by omega
      subst hiN
      rw [List.drop_eq_nil_of_le (by omega), leadT_nil] at hl
      subst hl
      go_wp2_with fail
      go_ret2
      exact ⟨rfl, rfl⟩
end
end Go.Proofs.YtpibokijbidgdabGreatDoor

namespace Go.Proofs.YtpibokijbidgdabGreatDoor
open Go.RowKit Go.Maps

section
variable {w w' : World} {r gN s : Nat} {T : Wd} {G : Int → Nat}

set_option maxRecDepth 100000 in
set_option maxHeartbeats 2000000 in
theorem RTr.find_ok (h : RTr w r gN s T G) (hT : TrOk T) (p : List UInt8) (hp : p.length < 100000) (m : Int) (hm : w.cell? ⟨2, 0, none⟩ = some (.int .i64 m)) :
    Calls Tryz.prog 24 #[wp r, tx p] w fun e w' => e = .returned (.tuple #[.int .i64 (findT T p).1, .int .i64 (findT T p).2]) ∧ Below w.heap.size w w' := by
  have hN := names_ok p hp w m hm
  cases hn : namesOf p with
  | none =>
    have e : findT T p = (0, 1) := by unfold findT; rw [hn]
    rw [e]
    go_enter Tryz.func24, Tryz.ntmps24
    go_wp2_with fail
    refine hN.mono ?_
    rintro e w1 ⟨he, b1⟩
    unfold NmR at he
    rw [hn] at he
    subst he
    clear hN hn
    go_wp2_with fail
    go_ret2
    exact ⟨rfl, b1⟩
  | some l =>
    have e : findT T p = leadT T 0 l := by unfold findT; rw [hn]
    have hnm := namesOf_names hn
    have hln := namesOf_len hn
    rw [e]
    clear e
    go_enter Tryz.func24, Tryz.ntmps24
    go_wp2_with fail
    refine hN.mono ?_
    rintro e w1 ⟨he, b1⟩
    unfold NmR at he
    rw [hn] at he
    obtain ⟨v, rfl, hv⟩ := he
    have hL := (h.below b1).lead_ok hT v l hv (by omega) (fun x hx => by have := isName_len (hnm x hx); unfold maxLen; omega)
    clear hN hn h
    go_wp2_with fail
    refine hL.mono ?_
    rintro e w2 ⟨rfl, h2⟩
    subst w2
    go_wp2_with fail
    go_ret2
    exact ⟨rfl, b1⟩

theorem Txts.slice {v : Value} {l : List Nm} (h : Txts w v l) (hne : l ≠ []) : ∃ b o c, v = .slice (some ⟨b, o, none⟩) l.length c ∧ l.length ≤ c ∧ b < w.heap.size ∧ ∀ i (hi : i < l.length), w.cell? ⟨b, o + i, none⟩ = some (tx l[i]) := by
  rcases h with ⟨h, _⟩ | h
  · exact absurd h hne
  · exact h

set_option maxRecDepth 100000 in
set_option maxHeartbeats 4000000 in
theorem RTr.place_ok (h : RTr w r gN s T G) (hT : TrOk T) (p : List UInt8) (hp : p.length < 100000) (m : Int) (hm : w.cell? ⟨2, 0, none⟩ = some (.int .i64 m)) :
    Calls Tryz.prog 55 #[wp r, tx p] w fun e w' => e = .returned (.tuple #[if (placeT T p).2.2 = 0 then .map (some (G (placeT T p).1)) else .map none, tx (placeT T p).2.1, .int .i64 (placeT T p).2.2]) ∧ Below w.heap.size w w' := by
  have hN := names_ok p hp w m hm
  obtain ⟨R, hR⟩ : ∃ R, placeT T p = R := ⟨_, rfl⟩
  rw [hR]
  cases hn : namesOf p with
  | none =>
    have e : R = (0, [], 1) := by rw [← hR]; unfold placeT; rw [hn]
    subst e
    clear hR
    go_enter Tryz.func55, Tryz.ntmps55
    go_wp2_with fail
    refine hN.mono ?_
    rintro e w1 ⟨he, b1⟩
    unfold NmR at he
    rw [hn] at he
    subst he
    clear hN hn
    go_wp2_with fail
    go_ret3
    exact ⟨rfl, b1⟩
  | some l =>
    have hnm := namesOf_names hn
    have hln := namesOf_len hn
    by_cases hl0 : l = []
    · have e : R = (0, [], 1) := by rw [← hR]; unfold placeT; rw [hn]; simp [hl0]
      subst e
      clear hR
      go_enter Tryz.func55, Tryz.ntmps55
      go_wp2_with fail
      refine hN.mono ?_
      rintro e w1 ⟨he, b1⟩
      unfold NmR at he
      rw [hn] at he
      obtain ⟨v, rfl, hv⟩ := he
      have hv0 : ∃ a c, v = .slice a 0 c := by
        rcases hv with ⟨_, a, c, e⟩ | ⟨b, o, c, e, _⟩
        · exact ⟨a, c, e⟩
        · rw [hl0] at e; exact ⟨_, c, e⟩
      obtain ⟨a, c, rfl⟩ := hv0
      clear hN hn
      go_wp2_with fail
      go_ret3
      exact ⟨rfl, b1⟩
    · obtain ⟨N, hNl⟩ : ∃ N, l.length = N := ⟨_, rfl⟩
      have hNp : 1 ≤ N := by rw [← hNl]; cases l with
        | nil => exact absurd rfl hl0
        | cons _ _ => simp
      have hdl : l.dropLast.length = N - 1 := by rw [List.length_dropLast, hNl]
      obtain ⟨B, hB⟩ : ∃ B, leadT T 0 l.dropLast = B := ⟨_, rfl⟩
      have hBs := hT.lead l.dropLast 0 (by obtain ⟨C, e⟩ := hT.root; rw [e]; rfl)
      rw [hB] at hBs
      have hR' : R = if B.2 ≠ 0 then (0, [], B.2) else match T B.1 with
          | some (.dir _) => (B.1, l.getLastD [], 0)
          | _ => (0, [], 6) := by
        rw [← hR]; unfold placeT; rw [hn]; simp only [hl0, if_false, hB]; rfl
      obtain ⟨z, hz⟩ : ∃ z, l.getLastD [] = z := ⟨_, rfl⟩
      have hzl : ∀ (hi : N - 1 < l.length), l[N - 1] = z := fun hi => by
        rw [← hz, List.getLastD_eq_getLast?, List.getLast?_eq_getElem?, hNl, List.getElem?_eq_getElem hi]; rfl
      rw [hz] at hR'
      go_enter Tryz.func55, Tryz.ntmps55
      go_wp2_with fail
      refine hN.mono ?_
      rintro e w1 ⟨he, b1⟩
      unfold NmR at he
      rw [hn] at he
      obtain ⟨v, rfl, hv⟩ := he
      obtain ⟨b, o, c, rfl, hc, hbl, hcell⟩ := hv.slice hl0
      have hlast : w1.cell? ⟨b, o + (N - 1), none⟩ = some (tx z) := by rw [hcell (N - 1) (by omega), hzl (by omega)]
      have h1 := h.below b1
      have hL : ∀ cc, N - 1 ≤ cc → Calls Tryz.prog 54 #[wp r, .slice (some ⟨b, o, none⟩) (N - 1) cc] w1 fun e w' => e = .returned (.tuple #[.int .i64 B.1, .int .i64 B.2]) ∧ w' = w1 := fun cc hcc => by
        have := h1.lead_ok hT (.slice (some ⟨b, o, none⟩) (N - 1) cc) l.dropLast (.inr ⟨b, o, cc, by rw [hdl], by rw [hdl]; exact hcc, hbl, fun i hi => by
          rw [hcell i (by rw [hdl] at hi; omega), List.getElem_dropLast]⟩) (by rw [hdl]; omega) (fun x hx => by
          have := isName_len (hnm x (List.dropLast_subset l hx)); unfold maxLen; omega)
        rw [hB] at this
        exact this
      rw [hNl] at hc ⊢
      have hN1 : (N : Int) - 1 = ((N - 1 : Nat) : Int) := by omega
      have hN0 : ¬ (N : Int) = 0 := by omega
      have hNc : ((N - 1 : Nat) : Int) ≤ (c : Int) := by omega
      clear hN hn hv hcell hnm hB hR hz hzl hdl
      go_wp2_with fail
      refine (hL c (by omega)).mono ?_
      rintro e w2 ⟨rfl, h2⟩
      subst w2
      clear hL
      by_cases hB0 : B.2 = 0
      · rw [if_neg (fun e => e hB0)] at hR'
        have hs := hBs hB0
        have hkey := hT.key B.1 hs
        have hwf : (Lit.int .i64 B.1).wf = true := wf_few hkey.1 (by omega)
        have c0 := h1.c0
        have hmq : ∀ q, PMap (w1.drewN q) gN s (fun k => (T k).map (ndv G k)) := fun q => h1.map.keep rfl
        obtain ⟨B1, B2⟩ := B
        simp only at hB0 hR' hs hwf hkey
        subst hB0
        by_cases hd : ∃ C, T B1 = some (.dir C)
        · obtain ⟨C, hC⟩ := hd
          have hg := node_dir (G := G) hC
          have hlk : (Instr.lookup 33 (.map (some gN)) (.int .i64 B1) false).run Tryz.prog w1 = .ok (.agg #[.map (some (G B1)), .bool true, tx [], .int .i64 0]) w1 := by
            rw [h1.map.look Tryz.underlying33 (zero_node _) B1 hwf, hg]
          have hlq : ∀ q, (Instr.lookup 33 (.map (some gN)) (.int .i64 B1) false).run Tryz.prog (w1.drewN q) = .ok (.agg #[.map (some (G B1)), .bool true, tx [], .int .i64 0]) (w1.drewN q) := fun q => by
            rw [(hmq q).look Tryz.underlying33 (zero_node _) B1 hwf, hg]
          have f0 := node_f0 (some (G B1)) true [] 0
          have f1 := node_f1 (some (G B1)) true [] 0
          have e9 : R = (B1, z, 0) := by rw [hR', hC]
          subst e9
          have hb9 : ∀ q, Below w.heap.size w (w1.drewN q) := fun q => ⟨b1.os, b1.tape, b1.output, b1.size, b1.block⟩
          clear hR' hmq h1 h hT hg hBs hs
          go_wp2_with fail
          go_quiet (fail)
          go_wp2_with fail
          go_ret3
          exact ⟨rfl, hb9 _⟩
        · obtain ⟨fb, fh, hF⟩ : ∃ fb fh, T B1 = some (.file fb fh) := by
            cases e : T B1 with
            | none => rw [e] at hs; cases hs
            | some nd => cases nd with
              | dir C => exact absurd ⟨C, e⟩ hd
              | file fb fh => exact ⟨fb, fh, rfl⟩
          have hg := node_file (G := G) hF
          have hlk : (Instr.lookup 33 (.map (some gN)) (.int .i64 B1) false).run Tryz.prog w1 = .ok (.agg #[.map none, .bool false, tx fb, .int .i64 (fh : Int)]) w1 := by
            rw [h1.map.look Tryz.underlying33 (zero_node _) B1 hwf, hg]
          have f1 := node_f1 none false fb (fh : Int)
          have e9 : R = (0, [], 6) := by rw [hR', hF]
          subst e9
          clear hR' hmq h1 h hT hg hBs hs hd
          go_wp2_with fail
          go_ret3
          exact ⟨rfl, b1⟩
      · rw [if_pos hB0] at hR'
        have hq : (B.2 == 0) = false := by simp [hB0]
        obtain ⟨B1, B2⟩ := B
        simp only at hB0 hR' hq
        subst hR'
        have hres : (if B2 = 0 then Value.map (some (G 0)) else Value.map none) = Value.map none := if_neg hB0
        clear h1 h hT hBs
        simp only
        go_wp2_with fail
        go_ret3
        exact ⟨rfl, b1⟩
end
end Go.Proofs.YtpibokijbidgdabGreatDoor

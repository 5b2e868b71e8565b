/- Package tree: what a name is, by its Go text; the library's SplitSeq, and the rounds of a range over it. -/
import Derived.Test.YtjkneekfijibiabGreatDoorWood
import Derived.Test.YtjkneekfijibiabGreatDoorRows
import Derived.WalkLawsBesides
import Derived.Outline
import Derived.Deep.LoopGhost
import Derived.Deep.DeepCutAuto
import Derived.Deep.Light
import Derived.WalkSmall
import Derived.RangeFuncNested
import Derived.RangeFuncBound
import Derived.RangeFuncCalls
import Derived.RangeFuncLeaves
import Derived.Shelf.Abstract
import Derived.OwnWalkIn
import Derived.TacticsInMore
import Derived.LoopNIn
import Derived.LoopIn
import Derived.Lib.IndexLaws
import Derived.Lib.IndexMore
import Derived.Lib.LastIndexByte
import Derived.Test.YtjkneekfijibiabGreatDoorSKeys
import Derived.Sort.LoopGhostIn
import Derived.OneCell
namespace Go.Proofs.YtjkneekfijibiabGreatDoor
open Go.RowKit

set_option maxHeartbeats 1000000 in
theorem isName_ok (z : List UInt8) (hz : z.length < 100000) (w : World) : Calls Tryz.prog 121 #[tx z] w fun e w' => e = .returned (.bool (isName z)) ∧ w' = w := by
  have hisn : isName z = (decide ((1 : Int) ≤ (z.length : Int)) && decide ((z.length : Int) ≤ 12) && !(z == [46]) && !(z == [46, 46])) := by
    unfold isName
    congr 3
    · exact decide_eq_decide.2 (by omega)
    · exact decide_eq_decide.2 (by omega)
  rw [hisn]
  clear hisn
  by_cases h1 : (1 : Int) ≤ (z.length : Int)
  · by_cases h2 : (z.length : Int) ≤ 12
    · cases h3 : (z == [46]) with
      | true =>
        simp only [h1, h2, decide_true]
        go_enter Tryz.func121, Tryz.ntmps121
        go_wp2_with fail
        go_ret
        exact ⟨rfl, rfl⟩
      | false =>
        cases h4 : (z == [46, 46]) with
        | true =>
          simp only [h1, h2, decide_true]
          go_enter Tryz.func121, Tryz.ntmps121
          go_wp2_with fail
          go_ret
          exact ⟨rfl, rfl⟩
        | false =>
          simp only [h1, h2, decide_true]
          go_enter Tryz.func121, Tryz.ntmps121
          go_wp2_with fail
          go_ret
          exact ⟨rfl, rfl⟩
    · simp only [h1, h2, decide_true, decide_false, Bool.and_false, Bool.false_and]
      go_enter Tryz.func121, Tryz.ntmps121
      go_wp2_with fail
      go_ret
      exact ⟨rfl, rfl⟩
  · simp only [h1, decide_false, Bool.false_and]
    go_enter Tryz.func121, Tryz.ntmps121
    go_wp2_with fail
    go_ret
    exact ⟨rfl, rfl⟩

/-- A SplitSeq at a slash: three boxes, and the function over them. -/
theorem splitSeq_ok (z : List UInt8) (w : World) : Calls Tryz.prog 120 #[tx z, .string ⟨#[47]⟩] w fun e w' =>
    e = .returned (.func (.func 171) #[] #[.pointer (some ⟨w.heap.size + 1, 0, none⟩), .pointer (some ⟨w.heap.size, 0, none⟩), .pointer (some ⟨w.heap.size + 2, 0, none⟩)]) ∧
    w' = ((w.alloc (.cells #[tx z] 9)).alloc (.cells #[.string ⟨#[47]⟩] 9)).alloc (.cells #[.int .i64 0] 3) := by
  go_enter Tryz.func120, Tryz.ntmps120
  go_wp2_with go_in
  go_ret
  exact ⟨rfl, rfl⟩
end Go.Proofs.YtjkneekfijibiabGreatDoor

namespace Go.Proofs.YtjkneekfijibiabGreatDoor
open Go.RowKit

theorem parts_app : ∀ (a b : List UInt8), parts (a ++ 47 :: b) = parts a ++ parts b
  | [], b => by rw [List.nil_append, parts_slash]; rfl
  | c :: a, b => by
    have ih := parts_app a b
    by_cases h : c = 47
    · subst h; rw [List.cons_append, parts_slash, parts_slash, ih]; rfl
    · cases e : parts a with
      | nil => exact absurd e (parts_ne a)
      | cons x t =>
        rw [e] at ih
        rw [List.cons_append, parts_other _ h (x := x) (t := t ++ parts b) (by rw [ih]; rfl), parts_other a h e]; rfl
theorem parts_one : ∀ {b : List UInt8}, (47 : UInt8) ∉ b → parts b = [b]
  | [], _ => rfl
  | c :: b, h => by
    have hc : c ≠ 47 := fun e => h (by rw [e]; exact List.mem_cons_self)
    exact parts_other b hc (parts_one (fun hm => h (List.mem_cons_of_mem _ hm)))

theorem not_in {l : List UInt8} {c : UInt8} (h : ∀ k : Nat, l[k]? ≠ some c) : c ∉ l := fun hm => by
  obtain ⟨k, hk, e⟩ := List.getElem_of_mem hm
  exact h k (by rw [List.getElem?_eq_getElem hk, e])
theorem split_at {l : List UInt8} {i : Nat} {c : UInt8} (h : l[i]? = some c) : i < l.length ∧ l = l.take i ++ c :: l.drop (i + 1) := by
  obtain ⟨hi, e⟩ := List.getElem?_eq_some_iff.1 h
  refine ⟨hi, ?_⟩
  rw [← e, ← List.drop_eq_getElem_cons hi, List.take_append_drop]

theorem parts_miss {l : List UInt8} (h : Lib.indexByte l 47 = -1) : parts l = [l] := parts_one (not_in (Lib.indexByte_none h))
theorem parts_hit {l : List UInt8} {i : Nat} (h : Lib.indexByte l 47 = i) : i < l.length ∧ parts l = l.take i :: parts (l.drop (i + 1)) := by
  obtain ⟨h1, h2⟩ := Lib.indexByte_some h
  obtain ⟨hi, e⟩ := split_at h1
  refine ⟨hi, ?_⟩
  have hn : (47 : UInt8) ∉ l.take i := not_in (fun k => by
    rw [List.getElem?_take]
    split
    · exact h2 k (by assumption)
    · simp)
  conv => lhs; rw [e]
  rw [parts_app, parts_one hn]; rfl
theorem index_byte : ∀ (l : List UInt8) (c : UInt8), Lib.index l [c] = Lib.indexByte l c
  | [], c => by simp [Lib.index, Lib.indexByte]
  | b :: l, c => by
    have ih := index_byte l c
    by_cases h : b = c
    · subst h; simp [Lib.index, Lib.indexByte, List.isPrefixOf]
    · have h' : (c == b) = false := by simp [Ne.symm h]
      have h2 : (b == c) = false := by simp [h]
      rw [Lib.index, Lib.indexByte, ih, h2]
      simp [List.isPrefixOf, h']

/-- A text that is names, with slashes between. -/
def Jn (q : List UInt8) (l : List Nm) : Prop := (q = [] ∧ l = []) ∨ (q ≠ [] ∧ parts q = l)
theorem Jn.nil {q : List UInt8} (h : Jn q []) : q = [] := by
  rcases h with ⟨h, _⟩ | ⟨_, h⟩
  · exact h
  · exact absurd h (parts_ne q)
theorem Jn.ne {q : List UInt8} {x : Nm} {t : List Nm} (h : Jn q (x :: t)) : q ≠ [] := by
  rcases h with ⟨_, h⟩ | ⟨h, _⟩
  · cases h
  · exact h
/-- Its first name, and what is behind. -/
theorem Jn.cut {q : List UInt8} {x : Nm} {t : List Nm} (h : Jn q (x :: t)) (hn : ∀ y ∈ t, y ≠ []) : (Lib.cut q [47]).1 = x ∧ Jn (Lib.cut q [47]).2.1 t := by
  have hp : parts q = x :: t := by
    rcases h with ⟨_, h⟩ | ⟨_, h⟩
    · cases h
    · exact h
  unfold Lib.cut
  rw [index_byte]
  by_cases hm : Lib.indexByte q 47 = -1
  · rw [hm, if_neg (by decide)]
    rw [parts_miss hm] at hp
    cases hp
    exact ⟨rfl, .inl ⟨rfl, rfl⟩⟩
  · have hge := Lib.indexByte_ge q 47
    obtain ⟨i, hi⟩ : ∃ i : Nat, Lib.indexByte q 47 = i := ⟨(Lib.indexByte q 47).toNat, by omega⟩
    rw [hi, if_pos (by omega)]
    obtain ⟨_, e⟩ := parts_hit hi
    rw [hp] at e
    injection e with e1 e2
    simp only [Int.toNat_natCast, List.length_cons, List.length_nil]
    refine ⟨e1.symm, .inr ⟨fun h0 => ?_, e2.symm⟩⟩
    rw [h0] at e2
    exact hn [] (by rw [e2]; simp [parts]) rfl

/-- A PATH but the one of the directory of all. -/
theorem namesOf_path {p : List UInt8} {l : List Nm} (h : namesOf p = some l) (h0 : p ≠ [47]) : ∃ q, p = 47 :: q ∧ parts q = l ∧ l ≠ [] ∧ ∀ x ∈ l, isName x = true := by
  unfold namesOf at h
  rw [if_neg h0] at h
  split at h
  · rename_i x t e
    split at h
    · rename_i ha
      cases h
      cases p with
      | nil => simp [parts] at e
      | cons c q =>
        by_cases hc : c = 47
        · subst hc
          rw [parts_slash] at e
          injection e with _ e
          exact ⟨q, rfl, e, by simp, fun x hx => List.all_eq_true.1 ha x hx⟩
        · cases e2 : parts q with
          | nil => exact absurd e2 (parts_ne q)
          | cons y s => rw [parts_other q hc e2] at e; cases e
    · cases h
  · cases h
theorem namesOf_root : namesOf [47] = some [] := rfl
theorem isName_ne {x : Nm} (h : isName x = true) : x ≠ [] := by
  rintro rfl
  simp [isName] at h
/-- The text behind a PATH's slash. -/
theorem namesOf_join {p : List UInt8} {l : List Nm} (h : namesOf p = some l) : ∃ q, p = 47 :: q ∧ Jn q l ∧ ∀ x ∈ l, isName x = true := by
  by_cases h0 : p = [47]
  · subst h0
    rw [namesOf_root] at h
    cases h
    exact ⟨[], rfl, .inl ⟨rfl, rfl⟩, fun x hx => by cases hx⟩
  · obtain ⟨q, rfl, e, hl, hn⟩ := namesOf_path h h0
    exact ⟨q, rfl, .inr ⟨fun e0 => h0 (by rw [e0]), e⟩, hn⟩
/-- A PATH's last slash. -/
theorem namesOf_last {p : List UInt8} {l : List Nm} (h : namesOf p = some l) (h0 : p ≠ [47]) : ∃ i : Nat, Lib.lastIndexByte ⟨p.toArray⟩ 47 = i ∧ i < p.length ∧ p.drop (i + 1) = l.getLastD [] ∧ Jn (Lib.trimPrefix (p.take i) [47]) l.dropLast := by
  obtain ⟨q, rfl, e, hl, hn⟩ := namesOf_path h h0
  have hsz : (⟨(47 :: q).toArray⟩ : ByteArray).size = (47 :: q).length := by simp [ByteArray.size]
  have hget : ∀ j, j < (47 :: q).length → (((⟨(47 :: q).toArray⟩ : ByteArray).data[j]!).toNat : Int) = (((47 :: q)[j]?.getD 0).toNat : Int) := fun j hj => by
    simp [getElem!_def]
    cases (47 :: q)[j]? <;> rfl
  rcases Lib.lastIndexByte_spec ⟨(47 :: q).toArray⟩ 47 with ⟨_, hno⟩ | ⟨i, hi, hix, hat, haft⟩
  · exact absurd (by rw [hget 0 (by simp)]; rfl) (hno 0 (by rw [hsz]; simp))
  · rw [hsz] at hi haft
    have h47 : (47 :: q)[i]? = some 47 := by
      rw [hget i hi] at hat
      rw [List.getElem?_eq_getElem hi] at hat ⊢
      simp only [Option.getD_some] at hat
      congr 1
      exact UInt8.toNat_inj.1 (by have : ((47 : UInt8).toNat : Int) = 47 := rfl; omega)
    obtain ⟨_, hsp⟩ := split_at h47
    have hlast : (47 : UInt8) ∉ (47 :: q).drop (i + 1) := not_in (fun k hk => by
      rw [List.getElem?_drop] at hk
      have hlt : i + 1 + k < (47 :: q).length := (List.getElem?_eq_some_iff.1 hk).1
      refine haft (i + 1 + k) (by omega) hlt ?_
      rw [hget _ hlt, hk]; rfl)
    have hp : parts (47 :: q) = parts ((47 :: q).take i) ++ [(47 :: q).drop (i + 1)] := by
      conv => lhs; rw [hsp]
      rw [parts_app, parts_one hlast]
    rw [parts_slash, e] at hp
    refine ⟨i, hix, hi, ?_⟩
    cases i with
    | zero =>
      simp only [List.take_zero, parts, List.singleton_append, List.cons.injEq, true_and] at hp
      rw [hp]
      exact ⟨rfl, .inl ⟨by simp [Lib.trimPrefix, Lib.hasPrefix], rfl⟩⟩
    | succ i =>
      rw [List.take_succ_cons, parts_slash, List.cons_append, List.cons.injEq] at hp
      have hp2 := hp.2
      rw [hp2, List.take_succ_cons]
      rw [List.dropLast_concat, List.getLastD_eq_getLast?, List.getLast?_concat]
      refine ⟨rfl, .inr ⟨fun h0 => ?_, ?_⟩⟩
      · have hq : q.take i = [] := by simpa [Lib.trimPrefix, Lib.hasPrefix, List.isPrefixOf] using h0
        have : ([] : Nm) ∈ l := by rw [hp2, hq]; simp [parts]
        exact isName_ne (hn _ this) rfl
      · simp [Lib.trimPrefix, Lib.hasPrefix, List.isPrefixOf]
end Go.Proofs.YtjkneekfijibiabGreatDoor

namespace Go.Proofs.YtjkneekfijibiabGreatDoor
open Go.RowKit Go.Shelf
attribute [local go_sem] Oper.semAt_some

/-- A box's block, and its cell. -/
theorem box_cell {W : World} {B : Nat} {v : Value} {t : TypeId} (h : W.heap[B]? = some (.cells #[v] t)) : W.cell? ⟨B, 0, none⟩ = some v ∧ W.frozen? ⟨B, 0, none⟩ = false := by
  constructor
  · rw [cell_of_row W B 0 _ _ _ h]; rfl
  · simp [World.frozen?, h]
theorem box_set {W : World} {B : Nat} {v : Value} {t : TypeId} (u : Value) (h : W.heap[B]? = some (.cells #[v] t)) : (W.setCell ⟨B, 0, none⟩ u).heap[B]? = some (.cells #[u] t) := one_setCell h
theorem grown_box {W1 W : World} {B : Nat} (h : W1.grownBy W (some B)) (u : Value) : W1.grownBy (W.setCell ⟨B, 0, none⟩ u) (some B) :=
  ⟨h.os, h.tape, h.output, by simpa using h.size, fun i hi hne => (Below.heap_setCell _ _ _ _ (fun e => hne (by rw [e]))).trans (h.block i hi hne)⟩

theorem all_cons' {p : List Nm} {x : Nm} {t : List Nm} (h : p.all isName = true) (hx : isName x = true) : (p ++ [x]).all isName = true ∧ p ++ x :: t = (p ++ [x]) ++ t := ⟨by rw [List.all_append, h]; simp [hx], by simp⟩
theorem all_stop {p : List Nm} {x : Nm} {t : List Nm} (hx : isName x = false) : (p ++ x :: t).all isName = false := by rw [List.all_append]; simp [hx]

set_option maxRecDepth 100000 in
set_option maxHeartbeats 2000000 in
theorem iter_ok (l Bs Bp Bv : Nat) (z0 : List UInt8) (hz : z0.length < 100000) (W1 : World) (hBp : Bp ≠ Bs) (hBv : Bv ≠ Bs)
    (c1 : W1.cell? ⟨Bp, 0, none⟩ = some (.string ⟨#[47]⟩)) (c2 : W1.heap[Bs]? = some (.cells #[tx z0] 9)) (c3 : W1.cell? ⟨Bv, 0, none⟩ = some (.int .i64 0)) (stop : World → Prop)
    (hI : ∀ z W, Calls Tryz.prog 173 #[tx z, .string ⟨#[47]⟩] W fun e w' => e = .returned (.int .i64 (Lib.indexByte z 47)) ∧ w' = W)
    (hY : ∀ (x : List UInt8) W, x.length < 100000 → W1.grownBy W (some Bs) → YieldAt Fence.wide 2 Tryz.prog l #[tx x] W fun e W' => (isName x = true ∧ e = .returned (.bool true) ∧ W' = W) ∨ (isName x = false ∧ e = .returned (.bool false) ∧ stop W')) :
    CallsIn Fence.wide 3 Tryz.prog 171 #[.func (.yield l) #[] #[], .pointer (some ⟨Bp, 0, none⟩), .pointer (some ⟨Bs, 0, none⟩), .pointer (some ⟨Bv, 0, none⟩)] W1 fun e W' => (∃ v, e = .returned v) ∧ (((parts z0).all isName = true ∧ W1.grownBy W' (some Bs)) ∨ ((parts z0).all isName = false ∧ stop W')) := by
  have hcell : ∀ {W : World} {B : Nat} {v : Value}, B ≠ Bs → W1.cell? ⟨B, 0, none⟩ = some v → W1.grownBy W (some Bs) → W.cell? ⟨B, 0, none⟩ = some v := fun {W B v} hne hc hg => by
    have hlt : B < W1.heap.size := World.block_lt_of_cell? W1 _ hc
    rw [World.cell?_of_block (w := W1) (a := ⟨B, 0, none⟩) (hg.block B hlt (fun e => hne (Option.some.inj e)))]; exact hc
  have hf : Fence.wide.fn 173 := trivial
  refine callsIn_of_wp Tryz.func171 rfl trivial ?_ rfl
  simp only [Tryz.ntmps171, List.size_toArray, List.length_cons, List.length_nil, Nat.reduceAdd, Nat.reduceSub, Array.replicate_succ, Array.replicate_zero, List.push_toArray, List.append_toArray, List.nil_append, List.cons_append]
  gi_wp2
  gi_loopg [7] z0.length (fun mm _ wr => ∃ (pre : List Nm) (rest : List UInt8), wr.heap[Bs]? = some (.cells #[tx rest] 9) ∧ W1.grownBy wr (some Bs) ∧ parts z0 = pre ++ parts rest ∧ pre.all isName = true ∧ rest.length ≤ z0.length ∧ mm = rest.length)
  case atStart => exact ⟨[], z0, c2, ⟨rfl, rfl, rfl, Nat.le_refl _, fun _ _ _ => rfl⟩, rfl, rfl, Nat.le_refl _, rfl⟩
  case round =>
    obtain ⟨pre, rest, hbx, hg, hp, ha, hle, hmm⟩ := hrel
    have d1 := hcell hBp c1 hg
    have d3 := hcell hBv c3 hg
    obtain ⟨d2, d2f⟩ := box_cell hbx
    have hIx := callsIn_wide (n := 2) |>.2 (hI rest wr)
    by_cases hm : Lib.indexByte rest 47 = -1
    · rw [hm] at hIx
      rw [parts_miss hm] at hp
      obtain ⟨fn, tmps, assign, body, hy, hR⟩ := hY rest wr (by omega) hg
      clear hm
      gi_wp2_with (gi_at_call 173; refine hIx.mono ?_; rintro e w' ⟨rfl, hw'⟩; subst w')
      refine hR.mono ?_
      rintro e W3 (⟨hx, rfl, h3⟩ | ⟨hx, rfl, hst⟩)
      · subst W3
        gi_wp2
        go_end0
        exact ⟨⟨_, rfl⟩, .inl ⟨by rw [hp]; exact (all_cons' (t := []) ha hx).1, hg⟩⟩
      · gi_wp2
        go_end0
        exact ⟨⟨_, rfl⟩, .inr ⟨by rw [hp]; exact all_stop hx, hst⟩⟩
    · have hge := Lib.indexByte_ge rest 47
      obtain ⟨i, hi⟩ : ∃ i : Nat, Lib.indexByte rest 47 = i := ⟨(Lib.indexByte rest 47).toNat, by omega⟩
      rw [hi] at hIx
      obtain ⟨hil, he⟩ := parts_hit hi
      rw [he] at hp
      have s1 := wtext_h rest i (by omega)
      have s2 := wtext_l rest (i + 1) (by omega)
      have hng : ¬ (i : Int) < 0 := by omega
      obtain ⟨fn, tmps, assign, body, hy, hR⟩ := hY (rest.take i) wr (by simp; omega) hg
      clear hm hi hge he
      gi_wp2_with (gi_at_call 173; refine hIx.mono ?_; rintro e w' ⟨rfl, hw'⟩; subst w')
      refine hR.mono ?_
      rintro e W3 (⟨hx, rfl, h3⟩ | ⟨hx, rfl, hst⟩)
      · subst W3
        gi_wp2
        gi_roundg (rest.length - (i + 1))
        case measure => omega
        case rel =>
          have hex : (⟨rest.toArray⟩ : ByteArray).extract (i + 1) rest.length = ⟨(rest.drop (i + 1)).toArray⟩ := by
            apply ByteArray.ext
            simp only [ByteArray.data_extract, List.extract_toArray, List.extract]
            rw [List.take_of_length_le (by simp)]
          rw [hex]
          refine ⟨pre ++ [rest.take i], rest.drop (i + 1), box_set _ hbx, grown_box hg _, ?_, ?_, ?_, ?_⟩
          · rw [hp]; exact (all_cons' ha hx).2
          · exact (all_cons' (t := []) ha hx).1
          · simp; omega
          · simp
      · gi_wp2
        refine bodyPost_ret (results_none rfl _ _ _) rfl ?_
        exact ⟨⟨_, rfl⟩, .inr ⟨by rw [hp]; exact all_stop hx, hst⟩⟩
end Go.Proofs.YtjkneekfijibiabGreatDoor

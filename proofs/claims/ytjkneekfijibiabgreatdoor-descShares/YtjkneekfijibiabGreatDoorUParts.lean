/- A tree plainly: how many names lead to a node; what no name leads to, and nobody holds, goes. -/
import Derived.Test.YtjkneekfijibiabGreatDoorWAbs
import Derived.Test.YtjkneekfijibiabGreatDoorDAbs
import Derived.Test.YtjkneekfijibiabGreatDoorWood
import Derived.Test.YtjkneekfijibiabGreatDoorRows
import Derived.WalkLawsBesides
import Derived.Outline
import Derived.Deep.LoopGhost
import Derived.Deep.DeepCutAuto
import Derived.Deep.Light
import Derived.WalkSmall
import Derived.RangeFuncNested
import Derived.RangeFuncBound
import Derived.RangeFuncCalls
import Derived.RangeFuncLeaves
import Derived.Shelf.Abstract
import Derived.OwnWalkIn
import Derived.TacticsInMore
import Derived.LoopNIn
import Derived.LoopIn
import Derived.Lib.IndexLaws
import Derived.Lib.IndexMore
import Derived.Lib.LastIndexByte
namespace Go.Proofs.YtjkneekfijibiabGreatDoor
open Go.RowKit Go.Maps

/-- How many names of one node lead to k. -/
def cnt1 : Option Nd → Int → Nat
  | some (.dir C), k => (C.filter (fun x => decide (x.2 = k))).length
  | _, _ => 0
def cntTo (T : Wd) (k : Int) : Nat → Nat
  | 0 => 0
  | m + 1 => cntTo T k m + cnt1 (T m) k
/-- How many names lead to k. -/
def cntT (T : Wd) (k : Int) : Nat := cntTo T k 64

theorem cntTo_same {T T' : Wd} {k : Int} : ∀ m : Nat, (∀ i : Nat, i < m → cnt1 (T' i) k = cnt1 (T i) k) → cntTo T' k m = cntTo T k m
  | 0, _ => rfl
  | m + 1, h => by rw [cntTo, cntTo, cntTo_same m (fun i hi => h i (by omega)), h m (by omega)]
theorem cntTo_one {T T' : Wd} {k : Int} {d : Nat} (hd : ∀ i : Nat, i ≠ d → cnt1 (T' i) k = cnt1 (T i) k) : ∀ m : Nat, d < m → cntTo T' k m + cnt1 (T d) k = cntTo T k m + cnt1 (T' d) k
  | 0, h => by omega
  | m + 1, h => by
    rw [cntTo, cntTo]
    by_cases e : m = d
    · subst e
      rw [cntTo_same m (fun i hi => hd i (by omega))]; omega
    · have := cntTo_one hd m (by omega)
      rw [hd m e]; omega
/-- One node turned. -/
theorem cntT_one {T T' : Wd} {k d : Int} (h0 : 0 ≤ d) (h1 : d < 64) (h : ∀ i, i ≠ d → cnt1 (T' i) k = cnt1 (T i) k) : cntT T' k + cnt1 (T d) k = cntT T k + cnt1 (T' d) k := by
  obtain ⟨e, rfl⟩ : ∃ e : Nat, d = e := ⟨d.toNat, by omega⟩
  exact cntTo_one (fun i hi => h i (by omega)) 64 (by omega)
theorem cntT_same {T T' : Wd} {k : Int} (h : ∀ i, cnt1 (T' i) k = cnt1 (T i) k) : cntT T' k = cntT T k := cntTo_same 64 (fun i _ => h i)

theorem cntTo_pos {T : Wd} {k : Int} : ∀ m : Nat, cntTo T k m ≠ 0 → ∃ i : Nat, i < m ∧ cnt1 (T i) k ≠ 0
  | 0, h => absurd rfl h
  | m + 1, h => by
    rw [cntTo] at h
    by_cases e : cnt1 (T m) k = 0
    · obtain ⟨i, hi, h2⟩ := cntTo_pos (T := T) (k := k) m (fun e0 => h (by rw [e0, e]))
      exact ⟨i, by omega, h2⟩
    · exact ⟨m, by omega, e⟩
theorem cntTo_ge {T : Wd} {k : Int} {i : Nat} : ∀ m : Nat, i < m → cnt1 (T i) k ≤ cntTo T k m
  | 0, h => by omega
  | m + 1, h => by
    rw [cntTo]
    by_cases e : i = m
    · subst e; omega
    · have := cntTo_ge (T := T) (k := k) m (show i < m by omega); omega

theorem cnt1_pos {C : List (Nm × Int)} {k : Int} (h : cnt1 (some (.dir C)) k ≠ 0) : ∃ s, (s, k) ∈ C := by
  unfold cnt1 at h
  obtain ⟨⟨s, n⟩, hx⟩ := List.exists_mem_of_length_pos (Nat.pos_of_ne_zero h)
  rw [List.mem_filter] at hx
  have e : n = k := by simpa using hx.2
  exact ⟨s, by rw [← e]; exact hx.1⟩
theorem cnt1_mem {C : List (Nm × Int)} {s : Nm} {k : Int} (h : (s, k) ∈ C) : cnt1 (some (.dir C)) k ≠ 0 := by
  unfold cnt1
  exact Nat.ne_of_gt (List.length_pos_of_mem (List.mem_filter.2 ⟨h, by simp⟩))
theorem mem_lookup : ∀ {C : List (Nm × Int)} {s : Nm} {n : Int}, (C.map (·.1)).Nodup → (s, n) ∈ C → C.lookup s = some n
  | (a, b) :: C, s, n, hn, h => by
    rw [List.map_cons, List.nodup_cons] at hn
    rcases List.mem_cons.1 h with e | h
    · cases e; simp [List.lookup]
    · have hne : s ≠ a := fun e => hn.1 (by rw [← e]; exact List.mem_map.2 ⟨(s, n), h, rfl⟩)
      have : (s == a) = false := by simp [hne]
      rw [List.lookup, this]
      exact mem_lookup hn.2 h
/-- Led, by its count. -/
theorem led_cnt {T : Wd} (hT : TrOk T) (n : Int) : Led T n ↔ n = 0 ∨ cntT T n ≠ 0 := by
  unfold Led
  constructor
  · rintro (h | ⟨k, C, s, hk, hl⟩)
    · exact .inl h
    · right
      have hkey := hT.key k (by rw [hk]; rfl)
      obtain ⟨e, rfl⟩ : ∃ e : Nat, k = e := ⟨k.toNat, by omega⟩
      have h1 := cnt1_mem (lookup_mem hl)
      have h2 := cntTo_ge (T := T) (k := n) (i := e) 64 (by omega)
      rw [hk] at h2
      unfold cntT; omega
  · rintro (h | h)
    · exact .inl h
    · right
      obtain ⟨i, _, hi⟩ := cntTo_pos 64 h
      cases hd : T (i : Int) with
      | none => rw [hd] at hi; exact absurd rfl hi
      | some nd => cases nd with
        | file b x => rw [hd] at hi; exact absurd rfl hi
        | dir C =>
          rw [hd] at hi
          obtain ⟨s, hs⟩ := cnt1_pos hi
          exact ⟨i, C, s, hd, mem_lookup (hT.nodup _ _ hd) hs⟩

/-- What holds of every tree besides: nothing leads to the first node, and all are led to, or held. -/
structure TrLv (T : Wd) : Prop extends TrOk T where
  nr : cntT T 0 = 0
  lv : ∀ k nd, T k = some nd → k = 0 ∨ cntT T k ≠ 0 ∨ heldT nd ≠ 0

/-- One node gone. -/
def eraT (T : Wd) (n : Int) : Wd := fun k => if k = n then none else T k
theorem eraT_other {T : Wd} {n k : Int} (h : k ≠ n) : eraT T n k = T k := if_neg h
theorem eraT_same (T : Wd) (n : Int) : eraT T n n = none := if_pos rfl

theorem cnt_set_none {T : Wd} {n : Int} {x : Nd} (h : T n = none) (hx : ∀ k, cnt1 (some x) k = 0) (k : Int) : cntT (setT T n x) k = cntT T k := cntT_same (fun i => by
  by_cases e : i = n
  · subst e; rw [setT_same, h, hx]; rfl
  · rw [setT_other _ e])
theorem cnt_setF {T : Wd} {n : Int} {b b' : List UInt8} {x x' : Nat} (h : T n = some (.file b x)) (k : Int) : cntT (setT T n (.file b' x')) k = cntT T k := cntT_same (fun i => by
  by_cases e : i = n
  · subst e; rw [setT_same, h]; rfl
  · rw [setT_other _ e])
theorem cnt_era {T : Wd} {n : Int} (h : ∀ k, cnt1 (T n) k = 0) (k : Int) : cntT (eraT T n) k = cntT T k := cntT_same (fun i => by
  by_cases e : i = n
  · subst e; rw [eraT_same, h]; rfl
  · rw [eraT_other e])
theorem cnt_add {T : Wd} (hT : TrOk T) {d n : Int} {nm : Nm} {C : List (Nm × Int)} (hd : T d = some (.dir C)) (k : Int) : cntT (addT T d nm n) k = cntT T k + if k = n then 1 else 0 := by
  have hkey := hT.key d (by rw [hd]; rfl)
  rw [addT_eq hd]
  have h1 := cntT_one (T := T) (T' := setT T d (.dir ((nm, n) :: C))) (k := k) hkey.1 hkey.2 (fun i hi => by rw [setT_other _ hi])
  rw [setT_same, hd] at h1
  have h2 : cnt1 (some (.dir ((nm, n) :: C))) k = cnt1 (some (.dir C)) k + if k = n then 1 else 0 := by
    simp only [cnt1, List.filter_cons]
    by_cases e : n = k
    · subst e; simp
    · simp [e, Ne.symm e]
  omega
theorem filter_cnt {nm : Nm} {n : Int} : ∀ {C : List (Nm × Int)}, (C.map (·.1)).Nodup → C.lookup nm = some n → ∀ k, ((C.filter (fun x => x.1 != nm)).filter (fun x => decide (x.2 = k))).length + (if k = n then 1 else 0) = (C.filter (fun x => decide (x.2 = k))).length
  | (a, b) :: C, hn, hl, k => by
    rw [List.map_cons, List.nodup_cons] at hn
    by_cases e : nm = a
    · subst e
      have hb : b = n := by simpa [List.lookup] using hl
      subst hb
      have hf := filter_same hn.1
      simp only [List.filter_cons, bne_self_eq_false, Bool.false_eq_true, if_false, hf]
      by_cases e2 : b = k
      · simp [e2]
      · simp [e2, Ne.symm e2]
    · have hne : (nm == a) = false := by simp [e]
      rw [List.lookup, hne] at hl
      have ih := filter_cnt hn.2 hl k
      have hbne : (a != nm) = true := by simp [Ne.symm e]
      simp only [List.filter_cons, hbne, if_true]
      by_cases e2 : b = k
      · simp only [e2, decide_true, if_true, List.length_cons]; omega
      · simp only [e2, decide_false, Bool.false_eq_true, if_false]; omega
theorem cnt_del {T : Wd} (hT : TrOk T) {d n : Int} {nm : Nm} {C : List (Nm × Int)} (hd : T d = some (.dir C)) (hl : C.lookup nm = some n) (k : Int) : cntT (delT T d nm) k + (if k = n then 1 else 0) = cntT T k := by
  have hkey := hT.key d (by rw [hd]; rfl)
  rw [delT_eq hd]
  have h1 := cntT_one (T := T) (T' := setT T d (.dir (C.filter (fun x => x.1 != nm)))) (k := k) hkey.1 hkey.2 (fun i hi => by rw [setT_other _ hi])
  rw [setT_same, hd] at h1
  have h2 := filter_cnt (hT.nodup d C hd) hl k
  simp only [cnt1] at h1
  omega

/-- What goes when all but n are led to, or held. -/
theorem sweep_one {T : Wd} (hT : TrOk T) (n : Int) (hl : ∀ k nd, k ≠ n → T k = some nd → k = 0 ∨ cntT T k ≠ 0 ∨ heldT nd ≠ 0) (nd : Nd) (hn : T n = some nd) (h0 : n ≠ 0) :
    sweepT T = if cntT T n = 0 ∧ heldT nd = 0 then eraT T n else T := by
  have hk : ∀ k, k ≠ n → sweepT T k = T k := fun k hk => sweepT_stay (fun nd h => by
    rcases hl k nd hk h with e | e | e
    · exact .inl ((led_cnt hT k).2 (.inl e))
    · exact .inl ((led_cnt hT k).2 (.inr e))
    · exact .inr e)
  funext k
  by_cases e : k = n
  · subst e
    by_cases hz : cntT T k = 0 ∧ heldT nd = 0
    · rw [if_pos hz, eraT_same]
      exact sweepT_go hn (fun h => by
        rcases h with h | h
        · rcases (led_cnt hT k).1 h with e | e
          · exact h0 e
          · exact e hz.1
        · exact h hz.2)
    · rw [if_neg hz]
      refine sweepT_stay (fun nd' h' => ?_)
      rw [hn] at h'; cases h'
      by_cases e1 : cntT T k = 0
      · exact .inr (fun e2 => hz ⟨e1, e2⟩)
      · exact .inl ((led_cnt hT k).2 (.inr e1))
  · rw [hk k e]
    split
    · rw [eraT_other e]
    · rfl
/-- And where all are led to, or held, nothing goes. -/
theorem sweep_none {T : Wd} (hT : TrOk T) (hl : ∀ k nd, T k = some nd → k = 0 ∨ cntT T k ≠ 0 ∨ heldT nd ≠ 0) : sweepT T = T := by
  funext k
  exact sweepT_stay (fun nd h => by
    rcases hl k nd h with e | e | e
    · exact .inl ((led_cnt hT k).2 (.inl e))
    · exact .inl ((led_cnt hT k).2 (.inr e))
    · exact .inr e)
end Go.Proofs.YtjkneekfijibiabGreatDoor

namespace Go.Proofs.YtjkneekfijibiabGreatDoor
open Go.RowKit

set_option maxHeartbeats 1000000 in
theorem isName_ok (z : List UInt8) (hz : z.length < 100000) (w : World) : Calls Tryz.prog 121 #[tx z] w fun e w' => e = .returned (.bool (isName z)) ∧ w' = w := by
  have hisn : isName z = (decide ((1 : Int) ≤ (z.length : Int)) && decide ((z.length : Int) ≤ 12) && !(z == [46]) && !(z == [46, 46])) := by
    unfold isName
    congr 3
    · exact decide_eq_decide.2 (by omega)
    · exact decide_eq_decide.2 (by omega)
  rw [hisn]
  clear hisn
  by_cases h1 : (1 : Int) ≤ (z.length : Int)
  · by_cases h2 : (z.length : Int) ≤ 12
    · cases h3 : (z == [46]) with
      | true =>
        simp only [h1, h2, decide_true]
        go_enter Tryz.func121, Tryz.ntmps121
        go_wp2_with fail
        go_ret
        exact ⟨rfl, rfl⟩
      | false =>
        cases h4 : (z == [46, 46]) with
        | true =>
          simp only [h1, h2, decide_true]
          go_enter Tryz.func121, Tryz.ntmps121
          go_wp2_with fail
          go_ret
          exact ⟨rfl, rfl⟩
        | false =>
          simp only [h1, h2, decide_true]
          go_enter Tryz.func121, Tryz.ntmps121
          go_wp2_with fail
          go_ret
          exact ⟨rfl, rfl⟩
    · simp only [h1, h2, decide_true, decide_false, Bool.and_false, Bool.false_and]
      go_enter Tryz.func121, Tryz.ntmps121
      go_wp2_with fail
      go_ret
      exact ⟨rfl, rfl⟩
  · simp only [h1, decide_false, Bool.false_and]
    go_enter Tryz.func121, Tryz.ntmps121
    go_wp2_with fail
    go_ret
    exact ⟨rfl, rfl⟩

/-- A SplitSeq at a slash: three boxes, and the function over them. -/
theorem splitSeq_ok (z : List UInt8) (w : World) : Calls Tryz.prog 120 #[tx z, .string ⟨#[47]⟩] w fun e w' =>
    e = .returned (.func (.func 171) #[] #[.pointer (some ⟨w.heap.size + 1, 0, none⟩), .pointer (some ⟨w.heap.size, 0, none⟩), .pointer (some ⟨w.heap.size + 2, 0, none⟩)]) ∧
    w' = ((w.alloc (.cells #[tx z] 9)).alloc (.cells #[.string ⟨#[47]⟩] 9)).alloc (.cells #[.int .i64 0] 3) := by
  go_enter Tryz.func120, Tryz.ntmps120
  go_wp2_with go_in
  go_ret
  exact ⟨rfl, rfl⟩
end Go.Proofs.YtjkneekfijibiabGreatDoor

namespace Go.Proofs.YtjkneekfijibiabGreatDoor
open Go.RowKit

theorem parts_app : ∀ (a b : List UInt8), parts (a ++ 47 :: b) = parts a ++ parts b
  | [], b => by rw [List.nil_append, parts_slash]; rfl
  | c :: a, b => by
    have ih := parts_app a b
    by_cases h : c = 47
    · subst h; rw [List.cons_append, parts_slash, parts_slash, ih]; rfl
    · cases e : parts a with
      | nil => exact absurd e (parts_ne a)
      | cons x t =>
        rw [e] at ih
        rw [List.cons_append, parts_other _ h (x := x) (t := t ++ parts b) (by rw [ih]; rfl), parts_other a h e]; rfl
theorem parts_one : ∀ {b : List UInt8}, (47 : UInt8) ∉ b → parts b = [b]
  | [], _ => rfl
  | c :: b, h => by
    have hc : c ≠ 47 := fun e => h (by rw [e]; exact List.mem_cons_self)
    exact parts_other b hc (parts_one (fun hm => h (List.mem_cons_of_mem _ hm)))

theorem not_in {l : List UInt8} {c : UInt8} (h : ∀ k : Nat, l[k]? ≠ some c) : c ∉ l := fun hm => by
  obtain ⟨k, hk, e⟩ := List.getElem_of_mem hm
  exact h k (by rw [List.getElem?_eq_getElem hk, e])
theorem split_at {l : List UInt8} {i : Nat} {c : UInt8} (h : l[i]? = some c) : i < l.length ∧ l = l.take i ++ c :: l.drop (i + 1) := by
  obtain ⟨hi, e⟩ := List.getElem?_eq_some_iff.1 h
  refine ⟨hi, ?_⟩
  rw [← e, ← List.drop_eq_getElem_cons hi, List.take_append_drop]

theorem parts_miss {l : List UInt8} (h : Lib.indexByte l 47 = -1) : parts l = [l] := parts_one (not_in (Lib.indexByte_none h))
theorem parts_hit {l : List UInt8} {i : Nat} (h : Lib.indexByte l 47 = i) : i < l.length ∧ parts l = l.take i :: parts (l.drop (i + 1)) := by
  obtain ⟨h1, h2⟩ := Lib.indexByte_some h
  obtain ⟨hi, e⟩ := split_at h1
  refine ⟨hi, ?_⟩
  have hn : (47 : UInt8) ∉ l.take i := not_in (fun k => by
    rw [List.getElem?_take]
    split
    · exact h2 k (by assumption)
    · simp)
  conv => lhs; rw [e]
  rw [parts_app, parts_one hn]; rfl
theorem index_byte : ∀ (l : List UInt8) (c : UInt8), Lib.index l [c] = Lib.indexByte l c
  | [], c => by simp [Lib.index, Lib.indexByte]
  | b :: l, c => by
    have ih := index_byte l c
    by_cases h : b = c
    · subst h; simp [Lib.index, Lib.indexByte, List.isPrefixOf]
    · have h' : (c == b) = false := by simp [Ne.symm h]
      have h2 : (b == c) = false := by simp [h]
      rw [Lib.index, Lib.indexByte, ih, h2]
      simp [List.isPrefixOf, h']

/-- A text that is names, with slashes between. -/
def Jn (q : List UInt8) (l : List Nm) : Prop := (q = [] ∧ l = []) ∨ (q ≠ [] ∧ parts q = l)
theorem Jn.nil {q : List UInt8} (h : Jn q []) : q = [] := by
  rcases h with ⟨h, _⟩ | ⟨_, h⟩
  · exact h
  · exact absurd h (parts_ne q)
theorem Jn.ne {q : List UInt8} {x : Nm} {t : List Nm} (h : Jn q (x :: t)) : q ≠ [] := by
  rcases h with ⟨_, h⟩ | ⟨h, _⟩
  · cases h
  · exact h
/-- Its first name, and what is behind. -/
theorem Jn.cut {q : List UInt8} {x : Nm} {t : List Nm} (h : Jn q (x :: t)) (hn : ∀ y ∈ t, y ≠ []) : (Lib.cut q [47]).1 = x ∧ Jn (Lib.cut q [47]).2.1 t := by
  have hp : parts q = x :: t := by
    rcases h with ⟨_, h⟩ | ⟨_, h⟩
    · cases h
    · exact h
  unfold Lib.cut
  rw [index_byte]
  by_cases hm : Lib.indexByte q 47 = -1
  · rw [hm, if_neg (by decide)]
    rw [parts_miss hm] at hp
    cases hp
    exact ⟨rfl, .inl ⟨rfl, rfl⟩⟩
  · have hge := Lib.indexByte_ge q 47
    obtain ⟨i, hi⟩ : ∃ i : Nat, Lib.indexByte q 47 = i := ⟨(Lib.indexByte q 47).toNat, by omega⟩
    rw [hi, if_pos (by omega)]
    obtain ⟨_, e⟩ := parts_hit hi
    rw [hp] at e
    injection e with e1 e2
    simp only [Int.toNat_natCast, List.length_cons, List.length_nil]
    refine ⟨e1.symm, .inr ⟨fun h0 => ?_, e2.symm⟩⟩
    rw [h0] at e2
    exact hn [] (by rw [e2]; simp [parts]) rfl

/-- A PATH but the one of the directory of all. -/
theorem namesOf_path {p : List UInt8} {l : List Nm} (h : namesOf p = some l) (h0 : p ≠ [47]) : ∃ q, p = 47 :: q ∧ parts q = l ∧ l ≠ [] ∧ ∀ x ∈ l, isName x = true := by
  unfold namesOf at h
  rw [if_neg h0] at h
  split at h
  · rename_i x t e
    split at h
    · rename_i ha
      cases h
      cases p with
      | nil => simp [parts] at e
      | cons c q =>
        by_cases hc : c = 47
        · subst hc
          rw [parts_slash] at e
          injection e with _ e
          exact ⟨q, rfl, e, by simp, fun x hx => List.all_eq_true.1 ha x hx⟩
        · cases e2 : parts q with
          | nil => exact absurd e2 (parts_ne q)
          | cons y s => rw [parts_other q hc e2] at e; cases e
    · cases h
  · cases h
theorem namesOf_root : namesOf [47] = some [] := rfl
theorem isName_ne {x : Nm} (h : isName x = true) : x ≠ [] := by
  rintro rfl
  simp [isName] at h
/-- The text behind a PATH's slash. -/
theorem namesOf_join {p : List UInt8} {l : List Nm} (h : namesOf p = some l) : ∃ q, p = 47 :: q ∧ Jn q l ∧ ∀ x ∈ l, isName x = true := by
  by_cases h0 : p = [47]
  · subst h0
    rw [namesOf_root] at h
    cases h
    exact ⟨[], rfl, .inl ⟨rfl, rfl⟩, fun x hx => by cases hx⟩
  · obtain ⟨q, rfl, e, hl, hn⟩ := namesOf_path h h0
    exact ⟨q, rfl, .inr ⟨fun e0 => h0 (by rw [e0]), e⟩, hn⟩
/-- A PATH's last slash. -/
theorem namesOf_last {p : List UInt8} {l : List Nm} (h : namesOf p = some l) (h0 : p ≠ [47]) : ∃ i : Nat, Lib.lastIndexByte ⟨p.toArray⟩ 47 = i ∧ i < p.length ∧ p.drop (i + 1) = l.getLastD [] ∧ Jn (Lib.trimPrefix (p.take i) [47]) l.dropLast := by
  obtain ⟨q, rfl, e, hl, hn⟩ := namesOf_path h h0
  have hsz : (⟨(47 :: q).toArray⟩ : ByteArray).size = (47 :: q).length := by simp [ByteArray.size]
  have hget : ∀ j, j < (47 :: q).length → (((⟨(47 :: q).toArray⟩ : ByteArray).data[j]!).toNat : Int) = (((47 :: q)[j]?.getD 0).toNat : Int) := fun j hj => by
    simp [getElem!_def]
    cases (47 :: q)[j]? <;> rfl
  rcases Lib.lastIndexByte_spec ⟨(47 :: q).toArray⟩ 47 with ⟨_, hno⟩ | ⟨i, hi, hix, hat, haft⟩
  · exact absurd (by rw [hget 0 (by simp)]; rfl) (hno 0 (by rw [hsz]; simp))
  · rw [hsz] at hi haft
    have h47 : (47 :: q)[i]? = some 47 := by
      rw [hget i hi] at hat
      rw [List.getElem?_eq_getElem hi] at hat ⊢
      simp only [Option.getD_some] at hat
      congr 1
      exact UInt8.toNat_inj.1 (by have : ((47 : UInt8).toNat : Int) = 47 := rfl; omega)
    obtain ⟨_, hsp⟩ := split_at h47
    have hlast : (47 : UInt8) ∉ (47 :: q).drop (i + 1) := not_in (fun k hk => by
      rw [List.getElem?_drop] at hk
      have hlt : i + 1 + k < (47 :: q).length := (List.getElem?_eq_some_iff.1 hk).1
      refine haft (i + 1 + k) (by omega) hlt ?_
      rw [hget _ hlt, hk]; rfl)
    have hp : parts (47 :: q) = parts ((47 :: q).take i) ++ [(47 :: q).drop (i + 1)] := by
      conv => lhs; rw [hsp]
      rw [parts_app, parts_one hlast]
    rw [parts_slash, e] at hp
    refine ⟨i, hix, hi, ?_⟩
    cases i with
    | zero =>
      simp only [List.take_zero, parts, List.singleton_append, List.cons.injEq, true_and] at hp
      rw [hp]
      exact ⟨rfl, .inl ⟨by simp [Lib.trimPrefix, Lib.hasPrefix], rfl⟩⟩
    | succ i =>
      rw [List.take_succ_cons, parts_slash, List.cons_append, List.cons.injEq] at hp
      have hp2 := hp.2
      rw [hp2, List.take_succ_cons]
      rw [List.dropLast_concat, List.getLastD_eq_getLast?, List.getLast?_concat]
      refine ⟨rfl, .inr ⟨fun h0 => ?_, ?_⟩⟩
      · have hq : q.take i = [] := by simpa [Lib.trimPrefix, Lib.hasPrefix, List.isPrefixOf] using h0
        have : ([] : Nm) ∈ l := by rw [hp2, hq]; simp [parts]
        exact isName_ne (hn _ this) rfl
      · simp [Lib.trimPrefix, Lib.hasPrefix, List.isPrefixOf]
end Go.Proofs.YtjkneekfijibiabGreatDoor

/- Maps that a statement makes for itself and keys by int: what a look-up answers, what a store makes of them. The elements are taken as they are (whatever type they have). -/
import Derived.Test.YtpokeaacnbndbaaDoorRows
import Derived.WalkKit
import Derived.Maps.OwnSet
import Derived.Maps.OwnOps
namespace Go.Proofs.YtpokeaacnbndbaaDoor
open Go.RowKit Go.Maps

/-- Each element stands for itself. -/
def whole (v : Value) : Option (DataW Value × List MemPlace) := some (.held v, [])

/-- Block g is a map of at most n entries, keyed by int; a look-up at a gives M a. -/
def IMap (P : Program) (z : Value) (w : World) (g n : Nat) (M : Int → Value) : Prop :=
  ∃ D : DataW Value, w.ownsMap P 3 whole g n D ∧ ∀ a, D.atKey (.int .i64 a) (.held z) = .held (M a)

theorem IMap.made (P : Program) (z : Value) (w : World) : IMap P z (w.alloc (.map #[] 0)) w.heap.size 0 (fun _ => z) :=
  ⟨.map [], World.ownsMap_made w P 3 whole, fun a => by simp [DataW.atKey]⟩

theorem IMap.keep {P : Program} {z : Value} {w w' : World} {g n : Nat} {M : Int → Value} (m : IMap P z w g n M) (h : w'.heap[g]? = w.heap[g]?) : IMap P z w' g n M := by
  obtain ⟨D, ⟨es, clock, hb, F, hs, hD⟩, hM⟩ := m
  exact ⟨D, ⟨es, clock, h.trans hb, F, hs, hD⟩, hM⟩

theorem IMap.lt {P : Program} {z : Value} {w : World} {g n : Nat} {M : Int → Value} (m : IMap P z w g n M) : g < w.heap.size := by
  obtain ⟨D, h, _⟩ := m
  exact h.lt

theorem intKeyed : Keyed Tryd.prog 3 := int_keyed Tryd.underlying3

theorem IMap.look {z : Value} {w : World} {g n : Nat} {M : Int → Value} {t e : TypeId} (m : IMap Tryd.prog z w g n M) (ht : Tryd.prog.underlying t = some (.map 3 e)) (hz : (zeroValue e).run Tryd.prog w = .ok z w) (a : Int) (ha : (Lit.int .i64 a).wf = true) :
    (Instr.lookup t (.map (some g)) (.int .i64 a) false).run Tryd.prog w = .ok (M a) w := by
  obtain ⟨D, h, hM⟩ := m
  obtain ⟨v, ps, hrun, hv⟩ := h.lookup intKeyed ht hz (zd := .held z) (zp := []) rfl (keyOf_int_mk Tryd.underlying3 ha)
  rw [hM a] at hv
  have e : v = M a := by
    simp only [whole, Option.some.injEq, Prod.mk.injEq, DataW.held.injEq] at hv
    exact hv.1
  rw [← e]; exact hrun

theorem IMap.put {z : Value} {w : World} {g n : Nat} {M : Int → Value} {t e : TypeId} (m : IMap Tryd.prog z w g n M) (ht : Tryd.prog.underlying t = some (.map 3 e)) (hn : n < maxLen) (a : Int) (ha : (Lit.int .i64 a).wf = true) (v : Value) :
    ∃ w', (Instr.mapUpdate t (.map (some g)) (.int .i64 a) v).run Tryd.prog w = .ok () w' ∧ IMap Tryd.prog z w' g (n + 1) (fun i => if i = a then v else M i) ∧ w.grownBy w' (some g) := by
  obtain ⟨D, h, hM⟩ := m
  have hk := keyOf_int_mk Tryd.underlying3 ha
  obtain ⟨w', hrun, r1, r2⟩ := h.update intKeyed ht hn hk (d := .held v) (ps := []) rfl
  refine ⟨w', hrun, ⟨_, r1, fun i => ?_⟩, r2⟩
  by_cases e : i = a
  · subst e
    rw [atKey_put_same h.isMap (intKeyed.key hk)]; simp
  · rw [atKey_put_other (by simpa using e), hM i]; simp [e]

/-- A store into such a map, as the walk meets it. -/
theorem wpList_put {ops : Array Oper} {rest : List Oper} {o : Oper} {a : Act} {w : World} {Q : Exit → Act → World → Prop} (hgd : o.guard = none) (m x v : Operand) (t : TypeId) (hop : o.op = Op.mapUpdate t m x v)
    (e : TypeId) (ht : Tryd.prog.underlying t = some (.map 3 e)) (z : Value) (g n : Nat) (M : Int → Value) (hm : a.eval m = .map (some g)) (hown : IMap Tryd.prog z w g n M) (hn : n < maxLen)
    (k : Int) (hx : a.eval x = .int .i64 k) (hk : (Lit.int .i64 k).wf = true) (u : Value) (hv : a.eval v = u)
    (h : ∀ w', IMap Tryd.prog z w' g (n + 1) (fun i => if i = k then u else M i) → w.grownBy w' (some g) → wpList Tryd.prog ops Q rest (a.put o.dst undef) w') : wpList Tryd.prog ops Q (o :: rest) a w := by
  refine wpList_plain hgd fun K' hK' => ?_
  obtain ⟨w', hrun, r1, r2⟩ := hown.put ht hn k hk u
  unfold Oper.wp
  simp [execOp, hop, hm, hx, hv, hrun, Result.andThen]
  exact hK' _ _ (h w' r1 r2)

/-- A look-up in such a map, as the walk meets it. -/
theorem wpList_look {ops : Array Oper} {rest : List Oper} {o : Oper} {a : Act} {w : World} {Q : Exit → Act → World → Prop} (hgd : o.guard = none) (m x : Operand) (t : TypeId) (hop : o.op = Op.lookup t m x false)
    (e : TypeId) (ht : Tryd.prog.underlying t = some (.map 3 e)) (z : Value) (hz : (zeroValue e).run Tryd.prog w = .ok z w) (g n : Nat) (M : Int → Value) (hm : a.eval m = .map (some g)) (hown : IMap Tryd.prog z w g n M)
    (k : Int) (hx : a.eval x = .int .i64 k) (hk : (Lit.int .i64 k).wf = true)
    (h : wpList Tryd.prog ops Q rest (a.put o.dst (M k)) w) : wpList Tryd.prog ops Q (o :: rest) a w := by
  refine wpList_plain hgd fun K' hK' => ?_
  have hrun := hown.look ht hz k hk
  unfold Oper.wp
  simp [execOp, hop, hm, hx, hrun, Result.andThen]
  exact hK' _ _ h
end Go.Proofs.YtpokeaacnbndbaaDoor

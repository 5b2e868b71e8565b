/- Maps that are keyed by int, as functions: what is there, what a look-up answers, what a store and a deletion make of them, and how many there are. The elements are taken as they are. -/
import Derived.Test.YtcfhanoekniaaaaGreatDoorRows
import Derived.WalkKit
import Derived.Maps.OwnSet
import Derived.Maps.OwnOps
import Derived.Maps.Views
import Derived.ChangeAlike
import Derived.Shelf.SlicesE.DeleteFunc
import Derived.Deep.LoopGhost
import Derived.Sort.LoopGhostIn
import Derived.Deep.Light
import Derived.Laws.IdiomCopy
import Derived.Laws.Rows
import Derived.Lib.SlKeysI
namespace Go.Proofs.YtcfhanoekniaaaaGreatDoor
open Go.RowKit Go.Maps

/-- Each element stands for itself. -/
def self (v : Value) : Option (DataW Value × List MemPlace) := some (.held v, [])

/-- Block g is a map of s entries, keyed by int: at a there is M a. -/
def PMap (w : World) (g s : Nat) (M : Int → Option Value) : Prop :=
  ∃ D : DataW Value, w.ownsMap Tryz.prog 3 self g s D ∧ Maps.size D = s ∧ (∀ a, Maps.has D (.int .i64 a) = (M a).isSome) ∧ ∀ a z, D.atKey (.int .i64 a) (.held z) = .held ((M a).getD z)

theorem keyedInt : Keyed Tryz.prog 3 := int_keyed Tryz.underlying3

theorem own_exact {w : World} {g n : Nat} {D : DataW Value} (h : w.ownsMap Tryz.prog 3 self g n D) : w.ownsMap Tryz.prog 3 self g (Maps.size D) D := by
  obtain ⟨es, clock, hb, F, hs, hD⟩ := h
  refine ⟨es, clock, hb, F, ?_, hD⟩
  rw [hD]; simp [Maps.size, length_sorted]

theorem PMap.made (w : World) : PMap (w.alloc (.map #[] 0)) w.heap.size 0 (fun _ => none) :=
  ⟨.map [], World.ownsMap_made w Tryz.prog 3 self, rfl, fun a => by simp [Maps.has], fun a z => by simp [DataW.atKey]⟩

theorem PMap.keep {w w' : World} {g n : Nat} {M : Int → Option Value} (m : PMap w g n M) (h : w'.heap[g]? = w.heap[g]?) : PMap w' g n M := by
  obtain ⟨D, ⟨es, clock, hb, F, hs, hD⟩, hM⟩ := m
  exact ⟨D, ⟨es, clock, h.trans hb, F, hs, hD⟩, hM⟩

theorem PMap.lt {w : World} {g n : Nat} {M : Int → Option Value} (m : PMap w g n M) : g < w.heap.size := by
  obtain ⟨D, h, _⟩ := m
  exact h.lt

theorem PMap.isMap {w : World} {g n : Nat} {M : Int → Option Value} (m : PMap w g n M) : ∃ es clock, w.heap[g]? = some (.map es clock) := by
  obtain ⟨D, ⟨es, clock, hb, _⟩, _⟩ := m
  exact ⟨es, clock, hb⟩

theorem PMap.look {w : World} {g n : Nat} {M : Int → Option Value} {t e : TypeId} {z : Value} (m : PMap w g n M) (ht : Tryz.prog.underlying t = some (.map 3 e)) (hz : (zeroValue e).run Tryz.prog w = .ok z w) (a : Int) (ha : (Lit.int .i64 a).wf = true) :
    (Instr.lookup t (.map (some g)) (.int .i64 a) false).run Tryz.prog w = .ok ((M a).getD z) w := by
  obtain ⟨D, h, _, _, hM⟩ := m
  obtain ⟨v, ps, hrun, hv⟩ := h.lookup keyedInt ht hz (zd := .held z) (zp := []) rfl (keyOf_int_mk Tryz.underlying3 ha)
  rw [hM a z] at hv
  have e : v = (M a).getD z := by
    simp only [self, Option.some.injEq, Prod.mk.injEq, DataW.held.injEq] at hv
    exact hv.1
  rw [← e]; exact hrun

theorem PMap.look_ok {w : World} {g n : Nat} {M : Int → Option Value} {t e : TypeId} {z : Value} (m : PMap w g n M) (ht : Tryz.prog.underlying t = some (.map 3 e)) (hz : (zeroValue e).run Tryz.prog w = .ok z w) (a : Int) (ha : (Lit.int .i64 a).wf = true) :
    (Instr.lookup t (.map (some g)) (.int .i64 a) true).run Tryz.prog w = .ok (.tuple #[(M a).getD z, .bool (M a).isSome]) w := by
  obtain ⟨D, h, _, hS, hM⟩ := m
  obtain ⟨v, ps, hrun, hv⟩ := h.look_ok keyedInt ht hz (zd := .held z) (zp := []) rfl (keyOf_int_mk Tryz.underlying3 ha)
  rw [hM a z] at hv
  have e : v = (M a).getD z := by
    simp only [self, Option.some.injEq, Prod.mk.injEq, DataW.held.injEq] at hv
    exact hv.1
  rw [← e, ← hS a]; exact hrun

theorem PMap.put {w : World} {g n : Nat} {M : Int → Option Value} {t e : TypeId} (m : PMap w g n M) (ht : Tryz.prog.underlying t = some (.map 3 e)) (hn : n < maxLen) (a : Int) (ha : (Lit.int .i64 a).wf = true) (v : Value) :
    ∃ w', (Instr.mapUpdate t (.map (some g)) (.int .i64 a) v).run Tryz.prog w = .ok () w' ∧ PMap w' g (if (M a).isSome then n else n + 1) (fun i => if i = a then some v else M i) ∧ w.grownBy w' (some g) := by
  obtain ⟨D, h, hs, hS, hM⟩ := m
  have hk := keyOf_int_mk Tryz.underlying3 ha
  obtain ⟨w', hrun, r1, r2⟩ := h.update keyedInt ht hn hk (d := .held v) (ps := []) rfl
  have hsz := size_put (k := .int .i64 a) (h.tidy keyedInt) (DataW.held v)
  rw [hS a, hs] at hsz
  refine ⟨w', hrun, ⟨_, hsz ▸ own_exact r1, hsz, fun i => ?_, fun i z => ?_⟩, r2⟩
  · by_cases e : i = a
    · subst e; rw [has_put_same h.isMap (keyedInt.key hk)]; simp
    · rw [has_put_other (by simpa using e), hS i]; simp [e]
  · by_cases e : i = a
    · subst e
      rw [atKey_put_same h.isMap (keyedInt.key hk)]; simp
    · rw [atKey_put_other (by simpa using e), hM i]; simp [e]

theorem PMap.del {w : World} {g n : Nat} {M : Int → Option Value} {t e : TypeId} (m : PMap w g n M) (ht : Tryz.prog.underlying t = some (.map 3 e)) (a : Int) (ha : (Lit.int .i64 a).wf = true) (ty : TypeId) :
    ∃ w', (Builtin.delete_ #[t, 3] ty #[.map (some g), .int .i64 a]).run Tryz.prog w = .ok (.tuple #[]) w' ∧ PMap w' g (if (M a).isSome then n - 1 else n) (fun i => if i = a then none else M i) ∧ w.grownBy w' (some g) := by
  obtain ⟨D, h, hs, hS, hM⟩ := m
  have hk := keyOf_int_mk Tryz.underlying3 ha
  obtain ⟨w', hrun, r1, r2⟩ := h.drop keyedInt ht hk ty
  have hsz := size_del (k := .int .i64 a) (h.tidy keyedInt)
  rw [hS a, hs] at hsz
  have hsz' : Maps.size (D.del (.int .i64 a)) = if (M a).isSome then n - 1 else n := by split at hsz <;> simp_all <;> omega
  refine ⟨w', hrun, ⟨_, hsz' ▸ own_exact r1, hsz', fun i => ?_, fun i z => ?_⟩, r2.grown⟩
  · by_cases e : i = a
    · subst e; rw [has_del_same]; simp
    · rw [has_del_other (by simpa using e), hS i]; simp [e]
  · by_cases e : i = a
    · subst e; rw [atKey_del_same]; simp
    · rw [atKey_del_other (by simpa using e), hM i]; simp [e]

theorem PMap.len {w : World} {g n : Nat} {M : Int → Option Value} {t e : TypeId} (m : PMap w g n M) (ht : Tryz.prog.underlying t = some (.map 3 e)) (ty : TypeId) :
    (Builtin.len_ #[t] ty #[.map (some g)]).run Tryz.prog w = .ok (.int .i64 n) w := by
  obtain ⟨D, h, hs, _⟩ := m
  rw [h.len ht ty, hs]

section
variable {ops : Array Oper} {rest : List Oper} {o : Oper} {a : Act} {w : World} {Q : Exit → Act → World → Prop}

/-- A store into such a map, as the walk meets it. -/
theorem wpList_kput (hgd : o.guard = none) (m x v : Operand) (t : TypeId) (hop : o.op = Op.mapUpdate t m x v)
    (e : TypeId) (ht : Tryz.prog.underlying t = some (.map 3 e)) (g n : Nat) (M : Int → Option Value) (hm : a.eval m = .map (some g)) (hown : PMap w g n M) (hn : n < maxLen)
    (k : Int) (hx : a.eval x = .int .i64 k) (hk : (Lit.int .i64 k).wf = true) (u : Value) (hv : a.eval v = u)
    (h : ∀ w', PMap w' g (if (M k).isSome then n else n + 1) (fun i => if i = k then some u else M i) → w.grownBy w' (some g) → wpList Tryz.prog ops Q rest (a.put o.dst undef) w') : wpList Tryz.prog ops Q (o :: rest) a w := by
  refine wpList_plain hgd fun K' hK' => ?_
  obtain ⟨w', hrun, r1, r2⟩ := hown.put ht hn k hk u
  unfold Oper.wp
  simp [execOp, hop, hm, hx, hv, hrun, Result.andThen]
  exact hK' _ _ (h w' r1 r2)

/-- A look-up. -/
theorem wpList_klook (hgd : o.guard = none) (m x : Operand) (t : TypeId) (hop : o.op = Op.lookup t m x false)
    (e : TypeId) (ht : Tryz.prog.underlying t = some (.map 3 e)) (z : Value) (hz : (zeroValue e).run Tryz.prog w = .ok z w) (g n : Nat) (M : Int → Option Value) (hm : a.eval m = .map (some g)) (hown : PMap w g n M)
    (k : Int) (hx : a.eval x = .int .i64 k) (hk : (Lit.int .i64 k).wf = true)
    (h : wpList Tryz.prog ops Q rest (a.put o.dst ((M k).getD z)) w) : wpList Tryz.prog ops Q (o :: rest) a w := by
  refine wpList_plain hgd fun K' hK' => ?_
  have hrun := hown.look ht hz k hk
  unfold Oper.wp
  simp [execOp, hop, hm, hx, hrun, Result.andThen]
  exact hK' _ _ h

/-- A look-up that asks whether it is there. -/
theorem wpList_kask (hgd : o.guard = none) (m x : Operand) (t : TypeId) (hop : o.op = Op.lookup t m x true)
    (e : TypeId) (ht : Tryz.prog.underlying t = some (.map 3 e)) (z : Value) (hz : (zeroValue e).run Tryz.prog w = .ok z w) (g n : Nat) (M : Int → Option Value) (hm : a.eval m = .map (some g)) (hown : PMap w g n M)
    (k : Int) (hx : a.eval x = .int .i64 k) (hk : (Lit.int .i64 k).wf = true)
    (h : wpList Tryz.prog ops Q rest (a.put o.dst (.tuple #[(M k).getD z, .bool (M k).isSome])) w) : wpList Tryz.prog ops Q (o :: rest) a w := by
  refine wpList_plain hgd fun K' hK' => ?_
  have hrun := hown.look_ok ht hz k hk
  unfold Oper.wp
  simp [execOp, hop, hm, hx, hrun, Result.andThen]
  exact hK' _ _ h

/-- A deletion. -/
theorem wpList_kdel (hgd : o.guard = none) (m x : Operand) (t : TypeId) (hop : o.op = Op.call { callee := Callee.builtin Builtin.delete, args := #[m, x], argTypes := #[t, 3] })
    (e : TypeId) (ht : Tryz.prog.underlying t = some (.map 3 e)) (g n : Nat) (M : Int → Option Value) (hm : a.eval m = .map (some g)) (hown : PMap w g n M)
    (k : Int) (hx : a.eval x = .int .i64 k) (hk : (Lit.int .i64 k).wf = true)
    (h : ∀ w', PMap w' g (if (M k).isSome then n - 1 else n) (fun i => if i = k then none else M i) → w.grownBy w' (some g) → wpList Tryz.prog ops Q rest (a.put o.dst (.tuple #[])) w') : wpList Tryz.prog ops Q (o :: rest) a w := by
  refine wpList_plain hgd fun K' hK' => ?_
  obtain ⟨w', hrun, r1, r2⟩ := hown.del ht k hk o.type
  unfold Oper.wp
  simp [execOp, hop, resolve, invoke, builtin, hm, hx, hrun, Result.andThen]
  exact hK' _ _ (h w' r1 r2)

/-- How many. -/
theorem wpList_klen (hgd : o.guard = none) (m : Operand) (t : TypeId) (hop : o.op = Op.call { callee := Callee.builtin Builtin.len, args := #[m], argTypes := #[t] })
    (e : TypeId) (ht : Tryz.prog.underlying t = some (.map 3 e)) (g n : Nat) (M : Int → Option Value) (hm : a.eval m = .map (some g)) (hown : PMap w g n M)
    (h : wpList Tryz.prog ops Q rest (a.put o.dst (.int .i64 n)) w) : wpList Tryz.prog ops Q (o :: rest) a w := by
  refine wpList_plain hgd fun K' hK' => ?_
  unfold Oper.wp
  simp [execOp, hop, resolve, invoke, builtin, hm, hown.len ht o.type, Result.andThen]
  exact hK' _ _ h
end
end Go.Proofs.YtcfhanoekniaaaaGreatDoor

namespace Go.Proofs.YtcfhanoekniaaaaGreatDoor
open Go.RowKit Go.Maps

abbrev wp (b : Nat) : Value := .pointer (some ⟨b, 0, none⟩)
/-- An error, or none. -/
abbrev uer (k : Int) : Value := .iface 36 (.int .i64 k)
def uev (c : Int) : Value := if c = 0 then .nilIface else uer c
theorem uev_zero : uev 0 = .nilIface := rfl
theorem uev_ne {c : Int} (h : c ≠ 0) : uev c = uer c := if_neg h

section
variable {w w' : World} {O : Nat → Prop}
/-- All but a few blocks stayed. -/
structure Wt (A : Nat → Prop) (w w' : World) : Prop where
  os : w'.os = w.os
  tape : w'.tape = w.tape
  output : w'.output = w.output
  size : w.heap.size ≤ w'.heap.size
  block : ∀ i, i < w.heap.size → ¬ A i → w'.heap[i]? = w.heap[i]?
theorem Wt.below (A : Nat → Prop) (h : Below w.heap.size w w') : Wt A w w' := ⟨h.os, h.tape, h.output, h.size, fun i hi _ => h.block i hi⟩
theorem Wt.grown {A : Nat → Prop} {g : Nat} (h : w.grownBy w' (some g)) (hg : A g) : Wt A w w' := ⟨h.os, h.tape, h.output, h.size, fun i hi hA => h.block i hi (fun e => hA (by rw [Option.some.inj e]; exact hg))⟩
theorem Wt.trans {A : Nat → Prop} {w1 w2 : World} (h : Wt A w w1) (k : Wt A w1 w2) : Wt A w w2 :=
  ⟨k.os.trans h.os, k.tape.trans h.tape, k.output.trans h.output, Nat.le_trans h.size k.size, fun i hi hA => (k.block i (Nat.lt_of_lt_of_le hi h.size) hA).trans (h.block i hi hA)⟩
/-- All but its own blocks stayed; what is its own now was its own, or is new. -/
structure Stp (w w' : World) (O O' : Nat → Prop) : Prop where
  wt : Wt O w w'
  own : ∀ i, O' i → O i ∨ w.heap.size ≤ i

theorem Stp.refl (w : World) (O : Nat → Prop) : Stp w w O O := ⟨⟨rfl, rfl, rfl, Nat.le_refl _, fun _ _ _ => rfl⟩, fun _ h => .inl h⟩
theorem Stp.below {O : Nat → Prop} (h : Below w.heap.size w w') : Stp w w' O O := ⟨.below _ h, fun _ h => .inl h⟩
theorem Stp.trans {w1 w2 : World} {O1 O2 : Nat → Prop} (h : Stp w w1 O O1) (k : Stp w1 w2 O1 O2) : Stp w w2 O O2 :=
  ⟨⟨k.wt.os.trans h.wt.os, k.wt.tape.trans h.wt.tape, k.wt.output.trans h.wt.output, Nat.le_trans h.wt.size k.wt.size, fun i hi hn => (k.wt.block i (Nat.lt_of_lt_of_le hi h.wt.size) (fun ho => by
      rcases h.own i ho with e | e
      · exact hn e
      · omega)).trans (h.wt.block i hi hn)⟩,
   fun i hi => by
    rcases k.own i hi with e | e
    · exact h.own i e
    · exact .inr (Nat.le_trans h.wt.size e)⟩
/-- Memory that is not its own stays. -/
theorem Stp.keep {O' P : Nat → Prop} (h : Stp w w' O O') (hP : ∀ i, P i → ¬ O i ∧ i < w.heap.size) (i : Nat) (hi : P i) : w'.heap[i]? = w.heap[i]? := h.wt.block i (hP i hi).2 (hP i hi).1
theorem Stp.apart {O' P : Nat → Prop} (h : Stp w w' O O') (hP : ∀ i, P i → ¬ O i ∧ i < w.heap.size) (i : Nat) (hi : P i) : ¬ O' i ∧ i < w'.heap.size := by
  obtain ⟨h1, h2⟩ := hP i hi
  refine ⟨fun ho => ?_, Nat.lt_of_lt_of_le h2 h.wt.size⟩
  rcases h.own i ho with e | e
  · exact h1 e
  · omega

end
end Go.Proofs.YtcfhanoekniaaaaGreatDoor

namespace Go.Proofs.YtcfhanoekniaaaaGreatDoor
open Go.RowKit Go.Maps

/-- Block g is a map of s entries, keyed by texts: at a there is M a. -/
def SMap (w : World) (g s : Nat) (M : List UInt8 → Option Value) : Prop :=
  ∃ D : DataW Value, w.ownsMap Tryz.prog 9 self g s D ∧ Maps.size D = s ∧ (∀ a, Maps.has D (.string a) = (M a).isSome) ∧ ∀ a z, D.atKey (.string a) (.held z) = .held ((M a).getD z)

theorem SMap.made (w : World) : SMap (w.alloc (.map #[] 0)) w.heap.size 0 (fun _ => none) :=
  ⟨.map [], World.ownsMap_made w Tryz.prog 9 self, rfl, fun a => by simp [Maps.has], fun a z => by simp [DataW.atKey]⟩

theorem SMap.keep {w w' : World} {g n : Nat} {M : List UInt8 → Option Value} (m : SMap w g n M) (h : w'.heap[g]? = w.heap[g]?) : SMap w' g n M := by
  obtain ⟨D, ⟨es, clock, hb, F, hs, hD⟩, hM⟩ := m
  exact ⟨D, ⟨es, clock, h.trans hb, F, hs, hD⟩, hM⟩

theorem SMap.lt {w : World} {g n : Nat} {M : List UInt8 → Option Value} (m : SMap w g n M) : g < w.heap.size := by
  obtain ⟨D, h, _⟩ := m
  exact h.lt

theorem SMap.isMap {w : World} {g n : Nat} {M : List UInt8 → Option Value} (m : SMap w g n M) : ∃ es clock, w.heap[g]? = some (.map es clock) := by
  obtain ⟨D, ⟨es, clock, hb, _⟩, _⟩ := m
  exact ⟨es, clock, hb⟩

section
variable {ops : Array Oper} {rest : List Oper} {o : Oper} {a : Act} {w : World} {Q : Exit → Act → World → Prop}

end
end Go.Proofs.YtcfhanoekniaaaaGreatDoor

namespace Go.Proofs.YtcfhanoekniaaaaGreatDoor
open Go.RowKit Go.Maps Go.Sort Go.Shelf Go.Lib

/-- A function that answers of each of L, wherever Ok holds, and turns nothing that was there. -/
def Asks1 (f : Nat) (lb : Array Value) (p : Int → Bool) (Ok : World → Prop) (L : List Int) : Prop :=
  ∀ W x, Ok W → x ∈ L → Calls Tryz.prog f (#[.int .i64 x] ++ lb) W fun e w' => e = .returned (.bool (p x)) ∧ Below W.heap.size W w'
section
variable {w w' : World} {b cap f : Nat} {lb : Array Value} {p : Int → Bool} {Ok : World → Prop} {L : List Int}
set_option maxHeartbeats 2000000 in
theorem idxF_ok (ef : ∀ args w, (callFunc f args).run Tryz.prog w = .ok (.enter f args) w) (hp : Asks1 f lb p Ok L) (hk : ∀ W, Below w.heap.size w W → Ok W) (hl : L.length ≤ 1000) (hb : b < w.heap.size) (hc : ∀ j, j < L.length → w.cell? ⟨b, j, none⟩ = some (.int .i64 L[j]!)) :
    Calls Tryz.prog 213 #[.slice (some ⟨b, 0, none⟩) L.length cap, .func (.func f) #[] lb] w fun e w' => e = .returned (.int .i64 (idxBy (fun _ y => p y) L default)) ∧ Below w.heap.size w w' := by
  have HP : Aside (Asks1 f lb p Ok L) := hp
  have HK : Aside (∀ W, Below w.heap.size w W → Ok W) := hk
  have HC : Aside (∀ j, j < L.length → w.cell? ⟨b, j, none⟩ = some (.int .i64 L[j]!)) := hc
  clear hp hk hc
  go_enter Tryz.func213, Tryz.ntmps213
  go_wp2_with fail
  go_loopg [5, 8] L.length (fun gg _ s8 wr => ∃ kk : Nat, kk ≤ L.length ∧ L.length - kk ≤ gg ∧ s8 = .int .i64 kk ∧ Below w.heap.size w wr ∧ Aside (∀ j, j < kk → p L[j]! = false))
  case atStart => exact ⟨0, Nat.zero_le _, by omega, rfl, Below.refl _ _, fun j hj => absurd hj (Nat.not_lt_zero _)⟩
  case round =>
    obtain ⟨kk, hkk, hg, rfl, hbel, A⟩ := hrel
    by_cases hlt : kk < L.length
    · have hltz : (kk : Int) < (L.length : Int) := by omega
      have hcell : wr.cell? ⟨b, kk, none⟩ = some (.int .i64 L[kk]!) := by rw [hbel.cell (p := ⟨b, kk, none⟩) hb]; exact HC.out kk hlt
      have hmem : L[kk]! ∈ L := by rw [getElem!_pos L kk hlt]; exact List.getElem_mem hlt
      have hcall := HP.out wr L[kk]! (HK.out wr hbel) hmem
      generalize hy : L[kk]! = y at hcell hcall
      have B : Aside (L[kk]! = y) := hy
      clear hy hmem
      cases hq : p y with
      | true =>
        rw [hq] at hcall
        go_wp2_with (go_at_fn f; refine hcall.mono ?_; rintro e w' ⟨rfl, hb2⟩)
        go_ret
        refine ⟨?_, hbel.trans (hb2.mono hbel.size)⟩
        have := Lib.idxBy_hit (fun _ y => p y) L L.length kk default hlt (Nat.le_refl _) (by show p L[kk]! = true; rw [B.out]; exact hq) A.out
        rw [List.take_length] at this
        rw [this]
        rfl
      | false =>
        rw [hq] at hcall
        go_wp2_with (go_at_fn f; refine hcall.mono ?_; rintro e w' ⟨rfl, hb2⟩)
        go_roundg (L.length - (kk + 1))
        case measure => omega
        case rel =>
          refine ⟨kk + 1, by omega, by omega, by go_num, hbel.trans (hb2.mono hbel.size), (show Aside _ from fun j hj => ?_)⟩
          by_cases e : j = kk
          · subst e
            rw [B.out]; exact hq
          · exact A.out j (by omega)
    · have hltz : ¬ (kk : Int) < (L.length : Int) := by omega
      have hz : kk = L.length := by omega
      have HZ : Aside (kk = L.length) := hz
      clear hz
      go_wp2_with fail
      go_ret
      refine ⟨?_, hbel⟩
      have := Lib.idxBy_miss (fun _ y => p y) L kk default A.out
      rw [HZ.out, List.take_length] at this
      have h9 : idxBy (fun _ y => p y) L 0 = -1 := this
      first | rw [h9] | rw [this]
      rfl
theorem holds_keep {d : Array Int} (h : Holds encZ w b 0 d) (hb : w'.heap[b]? = w.heap[b]?) : Holds encZ w' b 0 d := fun j hj => by
  rw [World.cell?_of_block (w := w) (a := ⟨b, 0 + j, none⟩) hb, World.frozen?_of_block (w := w) (a := ⟨b, 0 + j, none⟩) hb]
  exact h j hj
theorem holds_set {d : Array Int} (h : Holds encZ w b 0 d) {i : Nat} (hi : i < d.size) (u : Int) : Holds encZ (w.setCell ⟨b, i, none⟩ (.int .i64 u)) b 0 (d.setIfInBounds i u) := fun j hj => by
  have hj' : j < d.size := by simpa using hj
  rw [World.frozen?_setCell]
  refine ⟨?_, (h j hj').2⟩
  rw [Nat.zero_add]
  by_cases e : j = i
  · subst e
    rw [World.cell?_setCell_same _ _ _ (u := encZ d[j]!) (by have := (h j hj').1; rw [Nat.zero_add] at this; exact this)]
    rw [getElem!_pos (d.setIfInBounds j u) j hj, Array.getElem_setIfInBounds_self]
  · rw [World.cell?_setCell_other _ _ _ _ (fun z => e (by injection z with _ z; exact z.symm))]
    have := (h j hj').1
    rw [Nat.zero_add] at this
    rw [this, getElem!_pos (d.setIfInBounds i u) j hj, Array.getElem_setIfInBounds_ne _ (fun z => e z.symm), getElem!_pos d j hj']
theorem wt_cells (b : Nat) : ∀ (vs : List Value) (o : Nat) (w : World), Wt (fun i => i = b) w (w.setCells b o vs)
  | [], o, w => ⟨rfl, rfl, rfl, Nat.le_refl _, fun _ _ _ => rfl⟩
  | v :: vs, o, w => Wt.trans (w1 := w.setCell ⟨b, o, none⟩ v) ⟨rfl, rfl, rfl, by simp, fun m _ hne => heap_setCell_other _ _ _ _ hne⟩ (wt_cells b vs (o + 1) _)
set_option maxHeartbeats 4000000 in
set_option maxRecDepth 1000000 in
theorem delF_ok (ef : ∀ args w, (callFunc f args).run Tryz.prog w = .ok (.enter f args) w) (hp : Asks1 f lb p Ok L) (hk : ∀ W, Wt (fun i => i = b) w W → Ok W) (hl : L.length ≤ 1000) (hcap : L.length ≤ cap) (hb : b < w.heap.size) (hH : Holds encZ w b 0 L.toArray) :
    Calls Tryz.prog 281 #[.slice (some ⟨b, 0, none⟩) L.length cap, .func (.func f) #[] lb] w fun e w' => e = .returned (.slice (some ⟨b, 0, none⟩) (L.filter fun x => !p x).length cap) ∧ (∀ j (hj : j < (L.filter fun x => !p x).length), w'.cell? ⟨b, j, none⟩ = some (.int .i64 (L.filter fun x => !p x)[j])) ∧ Wt (fun i => i = b) w w' := by
  have hIF := idxF_ok (w := w) (b := b) (cap := cap) ef hp (fun W hW => hk W (.below _ hW)) hl hb (fun j hj => by
    have := (hH j (by simpa using hj)).1
    rw [Nat.zero_add] at this
    rw [this, getElem!_pos L j hj, getElem!_pos L.toArray j (by simpa using hj)]
    simp)
  obtain ⟨kp, HK⟩ : ∃ kp : Nat → Bool, Hid (kp = fun j => !p L.toArray[j]!) := ⟨_, rfl⟩
  have hfil : (L.filter fun x => !p x) = keptUpTo kp L.toArray L.toArray.size := by
    rw [HK.out]; exact (keptUpTo_filter (fun x => !p x) L.toArray).symm
  have tl : ∀ j, j < L.length → L[j]! = L.toArray[j]! := fun j hj => by rw [getElem!_pos L j hj, getElem!_pos L.toArray j (by simpa using hj)]; simp
  have HKO : Aside (∀ W, Wt (fun i => i = b) w W → Ok W) := hk
  have HP : Aside (Asks1 f lb p Ok L) := hp
  have hself : Wt (fun i => i = b) w w := ⟨rfl, rfl, rfl, Nat.le_refl _, fun _ _ _ => rfl⟩
  have hdsz : L.toArray.size = L.length := by simp
  have hgl : ∀ W, Wt (fun i => i = b) w W → b < W.heap.size := fun W hW => Nat.lt_of_lt_of_le hb hW.size
  clear hk hp
  rcases idxByFrom_spec (fun _ y => p y) default L 0 with ⟨e1, hall⟩ | ⟨k0, hk0, e1, ht, hall⟩
  · have e2 : Lib.idxBy (fun _ y => p y) L default = -1 := e1
    rw [e2] at hIF
    have hkeep : ∀ j, j < L.toArray.size → kp j = true := fun j hj => by rw [HK.out]; show (!p L.toArray[j]!) = true; rw [← tl j (by omega), hall j (by omega)]; rfl
    have e3 : (L.filter fun x => !p x) = L := by rw [hfil, keptUpTo_all kp _ _ hkeep, range_map_get]
    have hfin : ∀ W, Below w.heap.size w W → (∀ j (hj : j < L.length), W.cell? ⟨b, j, none⟩ = some (.int .i64 L[j])) ∧ Wt (fun i => i = b) w W := fun W hW => by
      refine ⟨fun j hj => ?_, .below _ hW⟩
      rw [hW.cell (p := ⟨b, j, none⟩) hb]
      have := (hH j (by simpa using hj)).1
      rw [Nat.zero_add, ← tl j hj, getElem!_pos L j hj] at this
      exact this
    rw [e3]
    clear hH hfil e3 hkeep hall e1 e2 tl hgl hself
    go_enter Tryz.func281, Tryz.ntmps281
    go_wp2_with (go_at_call 213; refine hIF.mono ?_; rintro e w' ⟨rfl, hb1⟩)
    go_ret
    obtain ⟨f1, f2⟩ := hfin _ hb1
    exact ⟨rfl, f1, f2⟩
  · have e2 : Lib.idxBy (fun _ y => p y) L default = (k0 : Int) := by unfold Lib.idxBy; rw [e1]; simp
    rw [e2] at hIF
    have hkeep : ∀ j, j < k0 → kp j = true := fun j hj => by rw [HK.out]; show (!p L.toArray[j]!) = true; rw [← tl j (by omega), hall j hj]; rfl
    have hdrop : kp k0 = false := by rw [HK.out]; show (!p L.toArray[k0]!) = false; rw [← tl k0 hk0, show p L[k0]! = true from ht]; rfl
    have hne1 : ((k0 : Int) == -1) = false := beq_eq_false_iff_ne.2 (by omega)
    have HH : Aside (Holds encZ w b 0 L.toArray) := hH
    have HFI : Aside ((L.filter fun x => !p x) = keptUpTo kp L.toArray L.toArray.size) := hfil
    have HTL : Aside (∀ j, j < L.length → L[j]! = L.toArray[j]!) := tl
    have HSZ : Aside (L.toArray.size = L.length) := hdsz
    have HGL : Aside (∀ W, Wt (fun i => i = b) w W → b < W.heap.size) := hgl
    clear hH hall ht e1 e2 hfil tl hdsz hgl
    go_enter Tryz.func281, Tryz.ntmps281
    go_wp2_with (go_at_call 213; refine hIF.mono ?_; rintro e w' ⟨rfl, hb1⟩)
    go_loopg [5, 6, 7] L.length (fun gg s5 s6 _ wr => ∃ (i j : Nat) (dk : Array Int), s5 = .int .i64 i ∧ s6 = .int .i64 j ∧ j ≤ L.length ∧ L.length - j ≤ gg ∧ Aside (Holds encZ wr b 0 dk) ∧ Wt (fun i => i = b) w wr ∧ Aside (KeptInv kp L.toArray j i dk))
    case atStart => exact ⟨k0, k0 + 1, L.toArray, rfl, by go_num, by omega, by omega, holds_keep HH.out (hb1.block b hb), .below _ hb1, KeptInv.start hkeep hdrop⟩
    case round =>
      obtain ⟨i, j, dk, rfl, rfl, hjd, hgg, HHk, hwt, I2⟩ := hrel
      have hI := I2.out
      have hij := hI.lt
      have hds := hI.size
      rw [HSZ.out] at hds
      by_cases hlt : j < L.length
      · have hltz : (j : Int) < (L.length : Int) := by omega
        obtain ⟨cj, _⟩ := HHk.out j (by omega)
        rw [hI.high j (by omega), Nat.zero_add] at cj
        have hmem : L.toArray[j]! ∈ L := by rw [← HTL.out j hlt, getElem!_pos L j hlt]; exact List.getElem_mem hlt
        have hcall := HP.out wr L.toArray[j]! (HKO.out wr hwt) hmem
        have hbw := HGL.out wr hwt
        generalize hu : L.toArray[j]! = u at cj hcall
        have C : Aside (L.toArray[j]! = u) := hu
        clear hu hI hmem
        cases hq : p u with
        | false =>
          rw [hq] at hcall
          have hci : ∀ W, Below wr.heap.size wr W → W.cell? ⟨b, i, none⟩ = some (encZ dk[i]!) ∧ W.frozen? ⟨b, i, none⟩ = false := fun W hW => by
            have := (holds_keep HHk.out (hW.block b hbw)) i (by omega)
            rw [Nat.zero_add] at this
            exact this
          have HCI : Aside (∀ W, Below wr.heap.size wr W → W.cell? ⟨b, i, none⟩ = some (encZ dk[i]!) ∧ W.frozen? ⟨b, i, none⟩ = false) := hci
          clear hci
          go_wp2_with (go_at_fn f; refine hcall.mono ?_; rintro e w2 ⟨rfl, hb2⟩; obtain ⟨ci, fi⟩ := HCI.out w2 hb2; unfold encZ at ci)
          go_roundg (L.length - (j + 1))
          case measure => omega
          case rel =>
            refine ⟨i + 1, j + 1, dk.setIfInBounds i u, by go_num, by go_num, by omega, Nat.le_refl _, (show Aside _ from holds_set (holds_keep HHk.out (hb2.block b hbw)) (by omega) u), ?_, (show Aside _ from ?_)⟩
            · exact (hwt.trans (.below _ hb2)).trans ⟨rfl, rfl, rfl, by simp, fun m hm hne => by rw [heap_setCell_other _ _ _ _ hne]⟩
            · have := I2.out.keep (by rw [HSZ.out]; exact hlt) (by rw [HK.out]; show (!p L.toArray[j]!) = true; rw [C.out, hq]; rfl)
              rwa [C.out] at this
        | true =>
          rw [hq] at hcall
          go_wp2_with (go_at_fn f; refine hcall.mono ?_; rintro e w2 ⟨rfl, hb2⟩)
          go_roundg (L.length - (j + 1))
          case measure => omega
          case rel => exact ⟨i, j + 1, dk, rfl, by go_num, by omega, Nat.le_refl _, holds_keep HHk.out (hb2.block b hbw), hwt.trans (.below _ hb2), I2.out.skip (by rw [HK.out]; show (!p L.toArray[j]!) = false; rw [C.out, hq]; rfl)⟩
      · obtain rfl : j = L.length := by omega
        have hltz : ¬ (L.length : Int) < (L.length : Int) := by omega
        have hcl : ∀ ty, (Builtin.clear_ #[23] ty #[.slice (some ⟨b, i, none⟩) (L.length - i) (cap - i)]).run Tryz.prog wr = .ok (.tuple #[]) (wr.setCells b i (List.replicate (L.length - i) (.int .i64 0))) :=
          fun ty => Lib.run_clear_slice wr _ _ ty _ Tryz.underlying23 (fun _ => Tryz.zeroValue3 _) rfl rfl b i _ _ (by omega) (fun t ht => by have := (HHk.out (i + t) (by omega)).1; rw [Nat.zero_add] at this; rw [this]; rfl) (fun t ht => by have := (HHk.out (i + t) (by omega)).2; rw [Nat.zero_add] at this; exact this)
        have hlen : (L.filter fun x => !p x).length = i := by rw [HFI.out, HSZ.out]; exact hI.len
        have hfin : (∀ j (hj : j < (L.filter fun x => !p x).length), (wr.setCells b i (List.replicate (L.length - i) (.int .i64 0))).cell? ⟨b, j, none⟩ = some (.int .i64 (L.filter fun x => !p x)[j])) ∧ Wt (fun i => i = b) w (wr.setCells b i (List.replicate (L.length - i) (.int .i64 0))) := by
          refine ⟨fun m hm => ?_, ?_⟩
          · rw [World.cell?_setCells_out b _ _ _ _ (fun _ _ => .inl (by show m < i; omega))]
            have h1 := (HHk.out m (by omega)).1
            rw [Nat.zero_add] at h1
            rw [h1]
            have h2 := hI.low m (by omega)
            have h3 : (L.filter fun x => !p x)[m]? = some dk[m]! := by rw [HFI.out, HSZ.out]; exact h2
            rw [List.getElem?_eq_getElem hm] at h3
            rw [Option.some.inj h3]
          · refine hwt.trans ?_
            exact wt_cells b _ i wr
        have HLE : Aside _ := hlen
        have hic : (i : Int) ≤ (cap : Int) := by omega
        clear hI hwt hlen
        go_wp2_with fail
        go_ret
        exact ⟨by rw [HLE.out]; rfl, hfin.1, hfin.2⟩
end
end Go.Proofs.YtcfhanoekniaaaaGreatDoor

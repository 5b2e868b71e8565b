/- The library's SplitSeq at a slash: its rounds, by its Go text. -/
import Derived.Test.YtcfhanoekniaaaaGreatDoorUCnt
import Derived.Test.YtcfhanoekniaaaaGreatDoorRows
import Derived.WalkLawsBesides
import Derived.Outline
import Derived.Deep.LoopGhost
import Derived.Deep.DeepCutAuto
import Derived.Deep.Light
import Derived.WalkSmall
import Derived.RangeFuncNested
import Derived.RangeFuncBound
import Derived.RangeFuncCalls
import Derived.RangeFuncLeaves
import Derived.Shelf.Abstract
import Derived.OwnWalkIn
import Derived.TacticsInMore
import Derived.LoopNIn
import Derived.LoopIn
import Derived.Lib.IndexLaws
import Derived.Lib.IndexMore
import Derived.Lib.LastIndexByte
import Derived.Sort.LoopGhostIn
import Derived.OneCell
import Derived.Test.YtcfhanoekniaaaaGreatDoorShelfU
import Derived.ArgAppend
import Derived.Lib.ConvBytes
import Derived.Lib.LazyBuf
import Derived.Laws.IdiomStrings
import Derived.BigQuiet
import Derived.Deep.QuietTactic
namespace Go.Proofs.YtcfhanoekniaaaaGreatDoor
open Go.RowKit Go.Shelf
attribute [local go_sem] Oper.semAt_some

end Go.Proofs.YtcfhanoekniaaaaGreatDoor

namespace Go.Proofs.YtcfhanoekniaaaaGreatDoor
open Go.RowKit Go.Shelf
attribute [local go_sem] Oper.semAt_some

end Go.Proofs.YtcfhanoekniaaaaGreatDoor

namespace Go.Proofs.YtcfhanoekniaaaaGreatDoor
open Go.RowKit

def u8s (l : List UInt8) : List Value := l.map fun x => Value.int .u8 (x.toNat : Int)
/-- A list of bytes in memory of its own, from block B on. -/
def Bfr (w : World) (B : Nat) (v : Value) (l : List UInt8) : Prop :=
  ∃ g cap, v = .slice (some ⟨g, 0, none⟩) l.length cap ∧ B ≤ g ∧ g < w.heap.size ∧ l.length ≤ cap ∧ (∀ j (h : j < l.length), w.cell? ⟨g, j, none⟩ = some (.int .u8 (l[j].toNat : Int))) ∧ ∀ j, j < cap → (w.cell? ⟨g, j, none⟩).isSome = true ∧ w.frozen? ⟨g, j, none⟩ = false

theorem u8s_get {l : List UInt8} {j : Nat} {u : Value} (h : (u8s l)[j]? = some u) : ∃ hj : j < l.length, u = .int .u8 (l[j].toNat : Int) := by
  unfold u8s at h
  rw [List.getElem?_map] at h
  cases e : l[j]? with
  | none => rw [e] at h; cases h
  | some x =>
    rw [e] at h
    obtain ⟨hj, hx⟩ := List.getElem?_eq_some_iff.1 e
    exact ⟨hj, by rw [hx]; exact (Option.some.inj h).symm⟩

section
variable {w w' : World} {B : Nat} {v : Value} {l : List UInt8}

end
end Go.Proofs.YtcfhanoekniaaaaGreatDoor

namespace Go.Proofs.YtcfhanoekniaaaaGreatDoor
open Go.RowKit

theorem below_setCells' {B b : Nat} {a : World} (hb : B ≤ b) : ∀ (vs : List Value) (o : Nat) (w : World), Below B a w → Below B a (w.setCells b o vs)
  | [], _, _, h => h
  | v :: r, o, _, h => below_setCells' hb r (o + 1) _ (h.setCell (p := ⟨b, o, none⟩) hb v)

section
variable {w w' : World} {B : Nat} {v : Value} {l : List UInt8}

end
end Go.Proofs.YtcfhanoekniaaaaGreatDoor

namespace Go.Proofs.YtcfhanoekniaaaaGreatDoor
open Go.RowKit Go.Maps

section
variable {w w' : World} {B : Nat} {v : Value} {l : List UInt8}
/-- A text copied in. -/
theorem Bfr.copy {g cap : Nat} (hv : v = .slice (some ⟨g, 0, none⟩) l.length cap) (h : Bfr w B v l) (a : Nat) (x : List UInt8) (hx : a + x.length ≤ l.length) (ty : TypeId) :
    (Builtin.copy_ #[300, 9] ty #[.slice (some ⟨g, a, none⟩) (l.length - a) (cap - a), tx x]).run Tryz.prog w = .ok (.int .i64 (x.length : Int)) (w.setCells g a (u8s x)) ∧ Bfr (w.setCells g a (u8s x)) B v (l.take a ++ x ++ l.drop (a + x.length)) ∧ B ≤ g := by
  obtain ⟨g', cap', e, hB, hlt, hcap, h1, h2⟩ := h
  rw [hv] at e
  cases e
  have hs : (⟨x.toArray⟩ : ByteArray).size = x.length := by simp [ByteArray.size]
  have hu : (u8s x).length = x.length := by unfold u8s; rw [List.length_map]
  have hc : ∀ j, j < (u8s x).length → (w.cell? ⟨g, a + j, none⟩).isSome = true := fun j hj => (h2 _ (by omega)).1
  refine ⟨?_, ⟨g, cap, ?_, hB, Nat.lt_of_lt_of_le hlt (below_setCells' (B := 0) (a := w) (Nat.zero_le _) _ _ _ (Below.refl _ _)).size, ?_, fun j hj => ?_, fun j hj => ?_⟩, hB⟩
  · have := run_copy_string (P := Tryz.prog) w 300 9 ty 5 g a (l.length - a) (cap - a) ⟨x.toArray⟩ Tryz.underlying300 (fun w => by kernel_rfl) (by rw [hs]; omega) (fun j hj => (h2 _ (by rw [hs] at hj; omega)).1) (fun j hj => (h2 _ (by rw [hs] at hj; omega)).2)
    rw [hs] at this
    exact this
  · rw [hv, List.length_append, List.length_append, List.length_take, List.length_drop]
    congr 1; omega
  · rw [List.length_append, List.length_append, List.length_take, List.length_drop]; omega
  · rw [List.length_append, List.length_append, List.length_take, List.length_drop] at hj
    by_cases e1 : j < a
    · rw [World.cell?_setCells_out _ _ _ _ _ (fun _ _ => .inl e1), List.getElem_append_left (by rw [List.length_append, List.length_take]; omega), List.getElem_append_left (by rw [List.length_take]; omega), List.getElem_take]
      exact h1 j (by omega)
    · by_cases e2 : j < a + x.length
      · obtain ⟨k, rfl⟩ : ∃ k, j = a + k := ⟨j - a, by omega⟩
        have hk : k < x.length := by omega
        have e : (l.take a ++ x ++ l.drop (a + x.length))[a + k]? = some x[k] := by
          rw [List.append_assoc, List.getElem?_append_right (by rw [List.length_take]; omega), List.length_take, show a + k - min a l.length = k by omega, List.getElem?_append_left hk, List.getElem?_eq_getElem hk]
        obtain ⟨_, e'⟩ := List.getElem?_eq_some_iff.1 e
        rw [World.cell?_setCells_in g (u8s x) a w hc k (by rw [hu]; omega), e']
        simp only [u8s, List.getElem_map]
      · have hk : j < l.length := by omega
        have e : (l.take a ++ x ++ l.drop (a + x.length))[j]? = some l[j] := by
          rw [List.getElem?_append_right (by rw [List.length_append, List.length_take]; omega), List.length_append, List.length_take, List.getElem?_drop, show a + x.length + (j - (min a l.length + x.length)) = j by omega, List.getElem?_eq_getElem hk]
        obtain ⟨_, e'⟩ := List.getElem?_eq_some_iff.1 e
        rw [World.cell?_setCells_out _ _ _ _ _ (fun _ _ => .inr (by rw [hu]; show _ ≤ j; omega)), e']
        exact h1 j hk
  · rw [World.frozen?_setCells]
    refine ⟨?_, (h2 j hj).2⟩
    by_cases e1 : j < a ∨ a + x.length ≤ j
    · rw [World.cell?_setCells_out _ _ _ _ _ (fun _ _ => by rw [hu]; exact e1)]; exact (h2 j hj).1
    · obtain ⟨k, rfl⟩ : ∃ k, j = a + k := ⟨j - a, by omega⟩
      rw [World.cell?_setCells_in g (u8s x) a w hc k (by rw [hu]; omega)]; rfl
end
end Go.Proofs.YtcfhanoekniaaaaGreatDoor

namespace Go.Proofs.YtcfhanoekniaaaaGreatDoor
open Go.RowKit Go.Maps

/-- Bytes that nobody writes any more. -/
def Dat (w : World) (v : Value) (b : List UInt8) : Prop :=
  (b = [] ∧ v = .slice none 0 0) ∨ ∃ g c, v = .slice (some ⟨g, 0, none⟩) b.length c ∧ b.length ≤ c ∧ g < w.heap.size ∧ ∀ j (h : j < b.length), w.cell? ⟨g, j, none⟩ = some (.int .u8 (b[j].toNat : Int))
/-- The block of a list. -/
def blkOf : Value → Option Nat
  | .slice (some a) _ _ => some a.block
  | _ => none
theorem Dat.keep {w w' : World} {v : Value} {b : List UInt8} (h : Dat w v b) (hk : ∀ i, blkOf v = some i → w'.heap[i]? = w.heap[i]?) (hs : w.heap.size ≤ w'.heap.size) : Dat w' v b := by
  rcases h with h | ⟨g, c, rfl, hc, hg, hi⟩
  · exact .inl h
  · exact .inr ⟨g, c, rfl, hc, by omega, fun j hj => by rw [World.cell?_of_block (w := w) (a := ⟨g, j, none⟩) (hk g rfl)]; exact hi j hj⟩
theorem Dat.lt {w : World} {v : Value} {b : List UInt8} (h : Dat w v b) {i : Nat} (hi : blkOf v = some i) : i < w.heap.size := by
  rcases h with ⟨_, rfl⟩ | ⟨g, c, rfl, _, hg, _⟩
  · cases hi
  · cases hi; exact hg

/-- A node's four cells. -/
def ncells (G : Int → Nat) (V : Int → Value) (Z : Int → Nat) (k : Int) : Nd → Array Value
  | .dir _ => #[.map (some (G k)), .slice none 0 0, .int .i64 (Z k : Int), .int .i64 0]
  | .file _ h => #[.map none, V k, .int .i64 (Z k : Int), .int .i64 (h : Int)]

/-- A tree at block r: its map, how many nodes, which block each node has, each directory's map, each file's bytes; what is its own. -/
structure PTr (w : World) (r gN s : Nat) (T : Wd) (Z : Int → Nat) (B G : Int → Nat) (V : Int → Value) (O : Nat → Prop) : Prop where
  head : w.heap[r]? = some (.cells #[.map (some gN)] 206)
  map : PMap w gN s (fun k => (T k).map (fun _ => wp (B k)))
  node : ∀ k nd, T k = some nd → w.heap[B k]? = some (.cells (ncells G V Z k nd) 337)
  dirs : ∀ k C, T k = some (.dir C) → SMap w (G k) C.length (fun nm => (C.lookup nm).map (.int .i64 ·))
  data : ∀ k b h, T k = some (.file b h) → Dat w (V k) b
  sep : ∀ k C, T k = some (.dir C) → G k ≠ gN
  inj : ∀ k k' C C', T k = some (.dir C) → T k' = some (.dir C') → G k = G k' → k = k'
  binj : ∀ k k', (T k).isSome = true → (T k').isSome = true → B k = B k' → k = k'
  ownR : O r
  ownN : O gN
  ownB : ∀ k, (T k).isSome = true → O (B k)
  ownG : ∀ k C, T k = some (.dir C) → O (G k)
  ownD : ∀ k b h i, T k = some (.file b h) → blkOf (V k) = some i → O i
  lt : ∀ i, O i → i < w.heap.size

section
variable {w w' : World} {r gN s : Nat} {T : Wd} {Z : Int → Nat} {B G : Int → Nat} {V : Int → Value} {O : Nat → Prop}

theorem PTr.keep (h : PTr w r gN s T Z B G V O) (hk : ∀ i, O i → w'.heap[i]? = w.heap[i]?) (hs : w.heap.size ≤ w'.heap.size) : PTr w' r gN s T Z B G V O :=
  ⟨(hk r h.ownR).trans h.head, h.map.keep (hk gN h.ownN), fun k nd e => (hk _ (h.ownB k (by rw [e]; rfl))).trans (h.node k nd e), fun k C e => (h.dirs k C e).keep (hk _ (h.ownG k C e)), fun k b x e => (h.data k b x e).keep (fun i hi => hk i (h.ownD k b x i e hi)) hs, h.sep, h.inj, h.binj, h.ownR, h.ownN, h.ownB, h.ownG, h.ownD, fun i hi => Nat.lt_of_lt_of_le (h.lt i hi) hs⟩
theorem PTr.below (h : PTr w r gN s T Z B G V O) (hb : Below w.heap.size w w') : PTr w' r gN s T Z B G V O := h.keep (fun i ht => hb.block i (h.lt i ht)) hb.size
theorem PTr.c0 (h : PTr w r gN s T Z B G V O) : w.cell? ⟨r, 0, none⟩ = some (.map (some gN)) := by rw [cell_of_row w r 0 _ _ _ h.head]; rfl
/-- A node's cells. -/
theorem PTr.dcell (h : PTr w r gN s T Z B G V O) {k : Int} {C : List (Nm × Int)} (e : T k = some (.dir C)) : w.cell? ⟨B k, 0, none⟩ = some (.map (some (G k))) ∧ w.cell? ⟨B k, 1, none⟩ = some (.slice none 0 0) ∧ w.cell? ⟨B k, 2, none⟩ = some (.int .i64 (Z k : Int)) ∧ w.cell? ⟨B k, 3, none⟩ = some (.int .i64 0) := by
  refine ⟨?_, ?_, ?_, ?_⟩ <;> (rw [cell_of_row w (B k) _ _ _ _ (h.node k _ e)]; rfl)
theorem PTr.fcell (h : PTr w r gN s T Z B G V O) {k : Int} {b : List UInt8} {x : Nat} (e : T k = some (.file b x)) : w.cell? ⟨B k, 0, none⟩ = some (.map none) ∧ w.cell? ⟨B k, 1, none⟩ = some (V k) ∧ w.cell? ⟨B k, 2, none⟩ = some (.int .i64 (Z k : Int)) ∧ w.cell? ⟨B k, 3, none⟩ = some (.int .i64 (x : Int)) := by
  refine ⟨?_, ?_, ?_, ?_⟩ <;> (rw [cell_of_row w (B k) _ _ _ _ (h.node k _ e)]; rfl)
theorem PTr.nfrozen (h : PTr w r gN s T Z B G V O) {k : Int} {nd : Nd} (e : T k = some nd) (j : Nat) : w.frozen? ⟨B k, j, none⟩ = false := by simp [World.frozen?, h.node k nd e]

theorem zero_nodeP (w : World) : (zeroValue 202).run Tryz.prog w = .ok (.pointer none) w := by kernel_rfl
theorem PTr.look (h : PTr w r gN s T Z B G V O) (n : Int) (hw : (Lit.int .i64 n).wf = true) : (Instr.lookup 204 (.map (some gN)) (.int .i64 n) false).run Tryz.prog w = .ok (if (T n).isSome then wp (B n) else .pointer none) w := by
  rw [h.map.look Tryz.underlying204 (zero_nodeP _) n hw]
  cases T n <;> rfl

theorem dir_ne (g : Nat) (w : World) : (binOp BinOp.neq 262 (.map (some g)) (.map none)).run Tryz.prog w = .ok (.bool true) w := by kernel_rfl
theorem file_ne (w : World) : (binOp BinOp.neq 262 (.map none) (.map none)).run Tryz.prog w = .ok (.bool false) w := by kernel_rfl
set_option maxRecDepth 100000 in
set_option maxHeartbeats 400000 in
theorem isDir_yes {b : Nat} {g : Nat} (h : w.cell? ⟨b, 0, none⟩ = some (.map (some g))) : Calls Tryz.prog 298 #[wp b] w fun e w' => e = .returned (.bool true) ∧ w' = w := by
  have hne := dir_ne g w
  go_enter Tryz.func298, Tryz.ntmps298
  go_wp2_with fail
  go_ret
  exact ⟨rfl, rfl⟩
set_option maxRecDepth 100000 in
set_option maxHeartbeats 400000 in
theorem isDir_no {b : Nat} (h : w.cell? ⟨b, 0, none⟩ = some (.map none)) : Calls Tryz.prog 298 #[wp b] w fun e w' => e = .returned (.bool false) ∧ w' = w := by
  have hne := file_ne w
  go_enter Tryz.func298, Tryz.ntmps298
  go_wp2_with fail
  go_ret
  exact ⟨rfl, rfl⟩
end
end Go.Proofs.YtcfhanoekniaaaaGreatDoor

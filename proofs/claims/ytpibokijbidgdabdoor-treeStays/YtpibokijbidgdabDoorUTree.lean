/- Package tree in memory: its nodes, its names, its bytes. -/
import Derived.Test.YtpibokijbidgdabDoorUCnt
import Derived.Test.YtpibokijbidgdabDoorUPath
import Derived.Test.YtpibokijbidgdabDoorWBuf3
import Derived.BigQuiet
import Derived.Deep.QuietTactic
namespace Go.Proofs.YtpibokijbidgdabDoor
open Go.RowKit Go.Maps

/-- A fact that the walk does not see. -/
structure Hidd (p : Prop) : Prop where
  out : p

/-- An error, or none. -/
abbrev uer (k : Int) : Value := .iface 39 (.int .i64 k)
def uev (c : Int) : Value := if c = 0 then .nilIface else uer c
theorem uev_zero : uev 0 = .nilIface := rfl
theorem uev_ne {c : Int} (h : c ≠ 0) : uev c = uer c := if_neg h

/-- Bytes that nobody writes any more. -/
def Dat (w : World) (v : Value) (b : List UInt8) : Prop :=
  (b = [] ∧ v = .slice none 0 0) ∨ ∃ g c, v = .slice (some ⟨g, 0, none⟩) b.length c ∧ b.length ≤ c ∧ g < w.heap.size ∧ ∀ j (h : j < b.length), w.cell? ⟨g, j, none⟩ = some (.int .u8 (b[j].toNat : Int))
/-- The block of a list. -/
def blkOf : Value → Option Nat
  | .slice (some a) _ _ => some a.block
  | _ => none
theorem Dat.keep {w w' : World} {v : Value} {b : List UInt8} (h : Dat w v b) (hk : ∀ i, blkOf v = some i → w'.heap[i]? = w.heap[i]?) (hs : w.heap.size ≤ w'.heap.size) : Dat w' v b := by
  rcases h with h | ⟨g, c, rfl, hc, hg, hi⟩
  · exact .inl h
  · exact .inr ⟨g, c, rfl, hc, by omega, fun j hj => by rw [World.cell?_of_block (w := w) (a := ⟨g, j, none⟩) (hk g rfl)]; exact hi j hj⟩
theorem Dat.lt {w : World} {v : Value} {b : List UInt8} (h : Dat w v b) {i : Nat} (hi : blkOf v = some i) : i < w.heap.size := by
  rcases h with ⟨_, rfl⟩ | ⟨g, c, rfl, _, hg, _⟩
  · cases hi
  · cases hi; exact hg

/-- A node's four cells. -/
def ncells (G : Int → Nat) (V : Int → Value) (Z : Int → Nat) (k : Int) : Nd → Array Value
  | .dir _ => #[.map (some (G k)), .slice none 0 0, .int .i64 (Z k : Int), .int .i64 0]
  | .file _ h => #[.map none, V k, .int .i64 (Z k : Int), .int .i64 (h : Int)]

/-- A tree at block r: its map, how many nodes, which block each node has, each directory's map, each file's bytes; what is its own. -/
structure PTr (w : World) (r gN s : Nat) (T : Wd) (Z : Int → Nat) (B G : Int → Nat) (V : Int → Value) (O : Nat → Prop) : Prop where
  head : w.heap[r]? = some (.cells #[.map (some gN)] 133)
  map : PMap w gN s (fun k => (T k).map (fun _ => wp (B k)))
  node : ∀ k nd, T k = some nd → w.heap[B k]? = some (.cells (ncells G V Z k nd) 142)
  dirs : ∀ k C, T k = some (.dir C) → SMap w (G k) C.length (fun nm => (C.lookup nm).map (.int .i64 ·))
  data : ∀ k b h, T k = some (.file b h) → Dat w (V k) b
  sep : ∀ k C, T k = some (.dir C) → G k ≠ gN
  inj : ∀ k k' C C', T k = some (.dir C) → T k' = some (.dir C') → G k = G k' → k = k'
  binj : ∀ k k', (T k).isSome = true → (T k').isSome = true → B k = B k' → k = k'
  ownR : O r
  ownN : O gN
  ownB : ∀ k, (T k).isSome = true → O (B k)
  ownG : ∀ k C, T k = some (.dir C) → O (G k)
  ownD : ∀ k b h i, T k = some (.file b h) → blkOf (V k) = some i → O i
  lt : ∀ i, O i → i < w.heap.size

/-- All but its own blocks stayed; what is its own now was its own, or is new. -/
structure Stp (w w' : World) (O O' : Nat → Prop) : Prop where
  wt : Wt O w w'
  own : ∀ i, O' i → O i ∨ w.heap.size ≤ i

section
variable {w w' : World} {r gN s : Nat} {T : Wd} {Z : Int → Nat} {B G : Int → Nat} {V : Int → Value} {O : Nat → Prop}

theorem PTr.keep (h : PTr w r gN s T Z B G V O) (hk : ∀ i, O i → w'.heap[i]? = w.heap[i]?) (hs : w.heap.size ≤ w'.heap.size) : PTr w' r gN s T Z B G V O :=
  ⟨(hk r h.ownR).trans h.head, h.map.keep (hk gN h.ownN), fun k nd e => (hk _ (h.ownB k (by rw [e]; rfl))).trans (h.node k nd e), fun k C e => (h.dirs k C e).keep (hk _ (h.ownG k C e)), fun k b x e => (h.data k b x e).keep (fun i hi => hk i (h.ownD k b x i e hi)) hs, h.sep, h.inj, h.binj, h.ownR, h.ownN, h.ownB, h.ownG, h.ownD, fun i hi => Nat.lt_of_lt_of_le (h.lt i hi) hs⟩
theorem PTr.below (h : PTr w r gN s T Z B G V O) (hb : Below w.heap.size w w') : PTr w' r gN s T Z B G V O := h.keep (fun i ht => hb.block i (h.lt i ht)) hb.size
theorem PTr.drew (h : PTr w r gN s T Z B G V O) (q : Nat) : PTr (w.drewN q) r gN s T Z B G V O := h.keep (fun _ _ => rfl) (Nat.le_refl _)

theorem Stp.refl (w : World) (O : Nat → Prop) : Stp w w O O := ⟨⟨rfl, rfl, rfl, Nat.le_refl _, fun _ _ _ => rfl⟩, fun _ h => .inl h⟩
theorem Stp.below {O : Nat → Prop} (h : Below w.heap.size w w') : Stp w w' O O := ⟨.below _ h, fun _ h => .inl h⟩
theorem Stp.trans {w1 w2 : World} {O1 O2 : Nat → Prop} (h : Stp w w1 O O1) (k : Stp w1 w2 O1 O2) : Stp w w2 O O2 :=
  ⟨⟨k.wt.os.trans h.wt.os, k.wt.tape.trans h.wt.tape, k.wt.output.trans h.wt.output, Nat.le_trans h.wt.size k.wt.size, fun i hi hn => (k.wt.block i (Nat.lt_of_lt_of_le hi h.wt.size) (fun ho => by
      rcases h.own i ho with e | e
      · exact hn e
      · omega)).trans (h.wt.block i hi hn)⟩,
   fun i hi => by
    rcases k.own i hi with e | e
    · exact h.own i e
    · exact .inr (Nat.le_trans h.wt.size e)⟩
/-- Memory that is not its own stays. -/
theorem Stp.keep {O' P : Nat → Prop} (h : Stp w w' O O') (hP : ∀ i, P i → ¬ O i ∧ i < w.heap.size) (i : Nat) (hi : P i) : w'.heap[i]? = w.heap[i]? := h.wt.block i (hP i hi).2 (hP i hi).1
theorem Stp.apart {O' P : Nat → Prop} (h : Stp w w' O O') (hP : ∀ i, P i → ¬ O i ∧ i < w.heap.size) (i : Nat) (hi : P i) : ¬ O' i ∧ i < w'.heap.size := by
  obtain ⟨h1, h2⟩ := hP i hi
  refine ⟨fun ho => ?_, Nat.lt_of_lt_of_le h2 h.wt.size⟩
  rcases h.own i ho with e | e
  · exact h1 e
  · omega

theorem PTr.c0 (h : PTr w r gN s T Z B G V O) : w.cell? ⟨r, 0, none⟩ = some (.map (some gN)) := by rw [cell_of_row w r 0 _ _ _ h.head]; rfl
theorem PTr.rf (h : PTr w r gN s T Z B G V O) : w.frozen? ⟨r, 0, none⟩ = false := by simp [World.frozen?, h.head]
/-- A node's cells. -/
theorem PTr.dcell (h : PTr w r gN s T Z B G V O) {k : Int} {C : List (Nm × Int)} (e : T k = some (.dir C)) : w.cell? ⟨B k, 0, none⟩ = some (.map (some (G k))) ∧ w.cell? ⟨B k, 1, none⟩ = some (.slice none 0 0) ∧ w.cell? ⟨B k, 2, none⟩ = some (.int .i64 (Z k : Int)) ∧ w.cell? ⟨B k, 3, none⟩ = some (.int .i64 0) := by
  refine ⟨?_, ?_, ?_, ?_⟩ <;> (rw [cell_of_row w (B k) _ _ _ _ (h.node k _ e)]; rfl)
theorem PTr.fcell (h : PTr w r gN s T Z B G V O) {k : Int} {b : List UInt8} {x : Nat} (e : T k = some (.file b x)) : w.cell? ⟨B k, 0, none⟩ = some (.map none) ∧ w.cell? ⟨B k, 1, none⟩ = some (V k) ∧ w.cell? ⟨B k, 2, none⟩ = some (.int .i64 (Z k : Int)) ∧ w.cell? ⟨B k, 3, none⟩ = some (.int .i64 (x : Int)) := by
  refine ⟨?_, ?_, ?_, ?_⟩ <;> (rw [cell_of_row w (B k) _ _ _ _ (h.node k _ e)]; rfl)
theorem PTr.nfrozen (h : PTr w r gN s T Z B G V O) {k : Int} {nd : Nd} (e : T k = some nd) (j : Nat) : w.frozen? ⟨B k, j, none⟩ = false := by simp [World.frozen?, h.node k nd e]

theorem zero_nodeP (w : World) : (zeroValue 129).run Tryd.prog w = .ok (.pointer none) w := by kernel_rfl
theorem PTr.look (h : PTr w r gN s T Z B G V O) (n : Int) (hw : (Lit.int .i64 n).wf = true) : (Instr.lookup 131 (.map (some gN)) (.int .i64 n) false).run Tryd.prog w = .ok (if (T n).isSome then wp (B n) else .pointer none) w := by
  rw [h.map.look Tryd.underlying131 (zero_nodeP _) n hw]
  cases T n <;> rfl

set_option maxHeartbeats 1000000 in
theorem PTr.nodes_ok (h : PTr w r gN s T Z B G V O) : Calls Tryd.prog 38 #[wp r] w fun e w' => e = .returned (.int .i64 (s : Int)) ∧ w' = w := by
  have c0 := h.c0
  have hl := h.map
  go_enter Tryd.func38, Tryd.ntmps38
  go_wp2_with (refine wpList_klen rfl _ 131 rfl 129 Tryd.underlying131 gN _ _ rfl hl ?_)
  go_ret
  exact ⟨rfl, rfl⟩

theorem dir_ne (g : Nat) (w : World) : (binOp BinOp.neq 81 (.map (some g)) (.map none)).run Tryd.prog w = .ok (.bool true) w := by kernel_rfl
theorem file_ne (w : World) : (binOp BinOp.neq 81 (.map none) (.map none)).run Tryd.prog w = .ok (.bool false) w := by kernel_rfl
set_option maxRecDepth 100000 in
set_option maxHeartbeats 400000 in
theorem isDir_yes {b : Nat} {g : Nat} (h : w.cell? ⟨b, 0, none⟩ = some (.map (some g))) : Calls Tryd.prog 74 #[wp b] w fun e w' => e = .returned (.bool true) ∧ w' = w := by
  have hne := dir_ne g w
  go_enter Tryd.func74, Tryd.ntmps74
  go_wp2_with fail
  go_ret
  exact ⟨rfl, rfl⟩
set_option maxRecDepth 100000 in
set_option maxHeartbeats 400000 in
theorem isDir_no {b : Nat} (h : w.cell? ⟨b, 0, none⟩ = some (.map none)) : Calls Tryd.prog 74 #[wp b] w fun e w' => e = .returned (.bool false) ∧ w' = w := by
  have hne := file_ne w
  go_enter Tryd.func74, Tryd.ntmps74
  go_wp2_with fail
  go_ret
  exact ⟨rfl, rfl⟩
end
end Go.Proofs.YtpibokijbidgdabDoor

/- Package tree in memory: its nodes, its names, its bytes. -/
import Derived.Test.YtjkneekfijibiabGreatDoorUCnt
import Derived.Test.YtjkneekfijibiabGreatDoorWBuf
import Derived.Test.YtjkneekfijibiabGreatDoorWBuf3
import Derived.BigQuiet
import Derived.Deep.QuietTactic
namespace Go.Proofs.YtjkneekfijibiabGreatDoor
open Go.RowKit Go.Maps

/-- A fact that the walk does not see. -/
structure Hidd (p : Prop) : Prop where
  out : p

/-- An error, or none. -/
abbrev uer (k : Int) : Value := .iface 51 (.int .i64 k)
def uev (c : Int) : Value := if c = 0 then .nilIface else uer c
theorem uev_zero : uev 0 = .nilIface := rfl
theorem uev_ne {c : Int} (h : c ≠ 0) : uev c = uer c := if_neg h

/-- Bytes that nobody writes any more. -/
def Dat (w : World) (v : Value) (b : List UInt8) : Prop :=
  (b = [] ∧ v = .slice none 0 0) ∨ ∃ g c, v = .slice (some ⟨g, 0, none⟩) b.length c ∧ b.length ≤ c ∧ g < w.heap.size ∧ ∀ j (h : j < b.length), w.cell? ⟨g, j, none⟩ = some (.int .u8 (b[j].toNat : Int))
/-- The block of a list. -/
def blkOf : Value → Option Nat
  | .slice (some a) _ _ => some a.block
  | _ => none
theorem Dat.keep {w w' : World} {v : Value} {b : List UInt8} (h : Dat w v b) (hk : ∀ i, blkOf v = some i → w'.heap[i]? = w.heap[i]?) (hs : w.heap.size ≤ w'.heap.size) : Dat w' v b := by
  rcases h with h | ⟨g, c, rfl, hc, hg, hi⟩
  · exact .inl h
  · exact .inr ⟨g, c, rfl, hc, by omega, fun j hj => by rw [World.cell?_of_block (w := w) (a := ⟨g, j, none⟩) (hk g rfl)]; exact hi j hj⟩
theorem Dat.lt {w : World} {v : Value} {b : List UInt8} (h : Dat w v b) {i : Nat} (hi : blkOf v = some i) : i < w.heap.size := by
  rcases h with ⟨_, rfl⟩ | ⟨g, c, rfl, _, hg, _⟩
  · cases hi
  · cases hi; exact hg

/-- A node's four cells. -/
def ncells (G : Int → Nat) (V : Int → Value) (Z : Int → Nat) (k : Int) : Nd → Array Value
  | .dir _ => #[.map (some (G k)), .slice none 0 0, .int .i64 (Z k : Int), .int .i64 0]
  | .file _ h => #[.map none, V k, .int .i64 (Z k : Int), .int .i64 (h : Int)]

/-- A tree at block r: its map, how many nodes, which block each node has, each directory's map, each file's bytes; what is its own. -/
structure PTr (w : World) (r gN s : Nat) (T : Wd) (Z : Int → Nat) (B G : Int → Nat) (V : Int → Value) (O : Nat → Prop) : Prop where
  head : w.heap[r]? = some (.cells #[.map (some gN)] 110)
  map : PMap w gN s (fun k => (T k).map (fun _ => wp (B k)))
  node : ∀ k nd, T k = some nd → w.heap[B k]? = some (.cells (ncells G V Z k nd) 128)
  dirs : ∀ k C, T k = some (.dir C) → SMap w (G k) C.length (fun nm => (C.lookup nm).map (.int .i64 ·))
  data : ∀ k b h, T k = some (.file b h) → Dat w (V k) b
  sep : ∀ k C, T k = some (.dir C) → G k ≠ gN
  inj : ∀ k k' C C', T k = some (.dir C) → T k' = some (.dir C') → G k = G k' → k = k'
  binj : ∀ k k', (T k).isSome = true → (T k').isSome = true → B k = B k' → k = k'
  ownR : O r
  ownN : O gN
  ownB : ∀ k, (T k).isSome = true → O (B k)
  ownG : ∀ k C, T k = some (.dir C) → O (G k)
  ownD : ∀ k b h i, T k = some (.file b h) → blkOf (V k) = some i → O i
  lt : ∀ i, O i → i < w.heap.size

/-- All but its own blocks stayed; what is its own now was its own, or is new. -/
structure Stp (w w' : World) (O O' : Nat → Prop) : Prop where
  wt : Wt O w w'
  own : ∀ i, O' i → O i ∨ w.heap.size ≤ i

section
variable {w w' : World} {r gN s : Nat} {T : Wd} {Z : Int → Nat} {B G : Int → Nat} {V : Int → Value} {O : Nat → Prop}

theorem PTr.keep (h : PTr w r gN s T Z B G V O) (hk : ∀ i, O i → w'.heap[i]? = w.heap[i]?) (hs : w.heap.size ≤ w'.heap.size) : PTr w' r gN s T Z B G V O :=
  ⟨(hk r h.ownR).trans h.head, h.map.keep (hk gN h.ownN), fun k nd e => (hk _ (h.ownB k (by rw [e]; rfl))).trans (h.node k nd e), fun k C e => (h.dirs k C e).keep (hk _ (h.ownG k C e)), fun k b x e => (h.data k b x e).keep (fun i hi => hk i (h.ownD k b x i e hi)) hs, h.sep, h.inj, h.binj, h.ownR, h.ownN, h.ownB, h.ownG, h.ownD, fun i hi => Nat.lt_of_lt_of_le (h.lt i hi) hs⟩
theorem PTr.below (h : PTr w r gN s T Z B G V O) (hb : Below w.heap.size w w') : PTr w' r gN s T Z B G V O := h.keep (fun i ht => hb.block i (h.lt i ht)) hb.size
theorem PTr.drew (h : PTr w r gN s T Z B G V O) (q : Nat) : PTr (w.drewN q) r gN s T Z B G V O := h.keep (fun _ _ => rfl) (Nat.le_refl _)

theorem Stp.refl (w : World) (O : Nat → Prop) : Stp w w O O := ⟨⟨rfl, rfl, rfl, Nat.le_refl _, fun _ _ _ => rfl⟩, fun _ h => .inl h⟩
theorem Stp.below {O : Nat → Prop} (h : Below w.heap.size w w') : Stp w w' O O := ⟨.below _ h, fun _ h => .inl h⟩
theorem Stp.trans {w1 w2 : World} {O1 O2 : Nat → Prop} (h : Stp w w1 O O1) (k : Stp w1 w2 O1 O2) : Stp w w2 O O2 :=
  ⟨⟨k.wt.os.trans h.wt.os, k.wt.tape.trans h.wt.tape, k.wt.output.trans h.wt.output, Nat.le_trans h.wt.size k.wt.size, fun i hi hn => (k.wt.block i (Nat.lt_of_lt_of_le hi h.wt.size) (fun ho => by
      rcases h.own i ho with e | e
      · exact hn e
      · omega)).trans (h.wt.block i hi hn)⟩,
   fun i hi => by
    rcases k.own i hi with e | e
    · exact h.own i e
    · exact .inr (Nat.le_trans h.wt.size e)⟩
/-- Memory that is not its own stays. -/
theorem Stp.keep {O' P : Nat → Prop} (h : Stp w w' O O') (hP : ∀ i, P i → ¬ O i ∧ i < w.heap.size) (i : Nat) (hi : P i) : w'.heap[i]? = w.heap[i]? := h.wt.block i (hP i hi).2 (hP i hi).1
theorem Stp.apart {O' P : Nat → Prop} (h : Stp w w' O O') (hP : ∀ i, P i → ¬ O i ∧ i < w.heap.size) (i : Nat) (hi : P i) : ¬ O' i ∧ i < w'.heap.size := by
  obtain ⟨h1, h2⟩ := hP i hi
  refine ⟨fun ho => ?_, Nat.lt_of_lt_of_le h2 h.wt.size⟩
  rcases h.own i ho with e | e
  · exact h1 e
  · omega

theorem PTr.c0 (h : PTr w r gN s T Z B G V O) : w.cell? ⟨r, 0, none⟩ = some (.map (some gN)) := by rw [cell_of_row w r 0 _ _ _ h.head]; rfl
theorem PTr.rf (h : PTr w r gN s T Z B G V O) : w.frozen? ⟨r, 0, none⟩ = false := by simp [World.frozen?, h.head]
/-- A node's cells. -/
theorem PTr.dcell (h : PTr w r gN s T Z B G V O) {k : Int} {C : List (Nm × Int)} (e : T k = some (.dir C)) : w.cell? ⟨B k, 0, none⟩ = some (.map (some (G k))) ∧ w.cell? ⟨B k, 1, none⟩ = some (.slice none 0 0) ∧ w.cell? ⟨B k, 2, none⟩ = some (.int .i64 (Z k : Int)) ∧ w.cell? ⟨B k, 3, none⟩ = some (.int .i64 0) := by
  refine ⟨?_, ?_, ?_, ?_⟩ <;> (rw [cell_of_row w (B k) _ _ _ _ (h.node k _ e)]; rfl)
theorem PTr.fcell (h : PTr w r gN s T Z B G V O) {k : Int} {b : List UInt8} {x : Nat} (e : T k = some (.file b x)) : w.cell? ⟨B k, 0, none⟩ = some (.map none) ∧ w.cell? ⟨B k, 1, none⟩ = some (V k) ∧ w.cell? ⟨B k, 2, none⟩ = some (.int .i64 (Z k : Int)) ∧ w.cell? ⟨B k, 3, none⟩ = some (.int .i64 (x : Int)) := by
  refine ⟨?_, ?_, ?_, ?_⟩ <;> (rw [cell_of_row w (B k) _ _ _ _ (h.node k _ e)]; rfl)
theorem PTr.nfrozen (h : PTr w r gN s T Z B G V O) {k : Int} {nd : Nd} (e : T k = some nd) (j : Nat) : w.frozen? ⟨B k, j, none⟩ = false := by simp [World.frozen?, h.node k nd e]

theorem zero_nodeP (w : World) : (zeroValue 106).run Tryz.prog w = .ok (.pointer none) w := by kernel_rfl
theorem PTr.look (h : PTr w r gN s T Z B G V O) (n : Int) (hw : (Lit.int .i64 n).wf = true) : (Instr.lookup 108 (.map (some gN)) (.int .i64 n) false).run Tryz.prog w = .ok (if (T n).isSome then wp (B n) else .pointer none) w := by
  rw [h.map.look Tryz.underlying108 (zero_nodeP _) n hw]
  cases T n <;> rfl

set_option maxHeartbeats 1000000 in
theorem PTr.nodes_ok (h : PTr w r gN s T Z B G V O) : Calls Tryz.prog 13 #[wp r] w fun e w' => e = .returned (.int .i64 (s : Int)) ∧ w' = w := by
  have c0 := h.c0
  have hl := h.map
  go_enter Tryz.func13, Tryz.ntmps13
  go_wp2_with (refine wpList_klen rfl _ 108 rfl 106 Tryz.underlying108 gN _ _ rfl hl ?_)
  go_ret
  exact ⟨rfl, rfl⟩

theorem dir_ne (g : Nat) (w : World) : (binOp BinOp.neq 111 (.map (some g)) (.map none)).run Tryz.prog w = .ok (.bool true) w := by kernel_rfl
theorem file_ne (w : World) : (binOp BinOp.neq 111 (.map none) (.map none)).run Tryz.prog w = .ok (.bool false) w := by kernel_rfl
set_option maxRecDepth 100000 in
set_option maxHeartbeats 400000 in
theorem isDir_yes {b : Nat} {g : Nat} (h : w.cell? ⟨b, 0, none⟩ = some (.map (some g))) : Calls Tryz.prog 98 #[wp b] w fun e w' => e = .returned (.bool true) ∧ w' = w := by
  have hne := dir_ne g w
  go_enter Tryz.func98, Tryz.ntmps98
  go_wp2_with fail
  go_ret
  exact ⟨rfl, rfl⟩
set_option maxRecDepth 100000 in
set_option maxHeartbeats 400000 in
theorem isDir_no {b : Nat} (h : w.cell? ⟨b, 0, none⟩ = some (.map none)) : Calls Tryz.prog 98 #[wp b] w fun e w' => e = .returned (.bool false) ∧ w' = w := by
  have hne := file_ne w
  go_enter Tryz.func98, Tryz.ntmps98
  go_wp2_with fail
  go_ret
  exact ⟨rfl, rfl⟩
end
end Go.Proofs.YtjkneekfijibiabGreatDoor

namespace Go.Proofs.YtjkneekfijibiabGreatDoor
open Go.RowKit Go.Maps

theorem cut_ok (z : List UInt8) (hz : z.length < 100000) (w : World) (m : Int) (hm : w.cell? ⟨2, 0, none⟩ = some (.int .i64 m)) :
    Calls Tryz.prog 122 #[tx z, .string ⟨#[47]⟩] w fun e w' => e = .returned (.tuple #[tx (Lib.cut z [47]).1, tx (Lib.cut z [47]).2.1, .bool (Lib.cut z [47]).2.2]) ∧ ∃ n, w' = w.drewN n := by
  have hs : (⟨z.toArray⟩ : ByteArray).size = z.length := by simp [ByteArray.size]
  exact Any.strings_Cut Tryz.cutL ⟨z.toArray⟩ ⟨#[47]⟩ m w (by rw [hs]; omega) hm

theorem drew_drew (w : World) (k j : Nat) : (w.drewN k).drewN j = w.drewN (k + j) := by simp [World.drewN, Nat.add_assoc]

theorem cut_less {q : List UInt8} (h : q ≠ []) : (Lib.cut q [47]).2.1.length < q.length := by
  have hp : 0 < q.length := List.length_pos_iff.2 h
  unfold Lib.cut
  split
  · simp only [List.length_drop, List.length_cons, List.length_nil]; omega
  · exact hp

section
variable {w w' : World} {r gN s : Nat} {T : Wd} {Z : Int → Nat} {B G : Int → Nat} {V : Int → Value} {O : Nat → Prop}

set_option maxRecDepth 100000 in
set_option maxHeartbeats 4000000 in
theorem PTr.lead_ok (h : PTr w r gN s T Z B G V O) (hT : TrOk T) (hs : 1 ≤ s) (q : List UInt8) (l : List Nm) (hq : Jn q l) (hn : ∀ x ∈ l, isName x = true) (hql : q.length < 100000) (m : Int) (hm : w.cell? ⟨2, 0, none⟩ = some (.int .i64 m)) :
    Calls Tryz.prog 69 #[wp r, tx q] w fun e w' => e = .returned (.tuple #[.int .i64 (leadT T 0 l).1, uev (leadT T 0 l).2]) ∧ ∃ n, w' = w.drewN n := by
  have hN := h.nodes_ok
  have hs0 : ((s : Int) == 0) = false := by simp; omega
  obtain ⟨R, hR⟩ : ∃ R, leadT T 0 l = R := ⟨_, rfl⟩
  rw [hR]
  go_enter Tryz.func69, Tryz.ntmps69
  go_wp2_with (go_at_call 13; refine hN.mono ?_; rintro e w' ⟨rfl, hw'⟩; subst w')
  clear hN hs0
  go_loopg [1, 6] q.length (fun mm s1 s6 wr => ∃ (q' : List UInt8) (l' : List Nm) (n : Int) (k : Nat), mm = q'.length ∧ q'.length ≤ q.length ∧ s1 = tx q' ∧ s6 = .int .i64 n ∧ Jn q' l' ∧ (∀ x ∈ l', isName x = true) ∧ (T n).isSome = true ∧ leadT T n l' = R ∧ wr = w.drewN k)
  case atStart => exact ⟨q, l, 0, 0, rfl, Nat.le_refl _, rfl, rfl, hq, hn, by obtain ⟨C, e⟩ := hT.root; rw [e]; rfl, hR, rfl⟩
  case round =>
    obtain ⟨q', l', n, k, hmm, hle, rfl, rfl, hj, hnn, hsm, hl, hw⟩ := hrel
    have h1 := h.drew k
    have hm1 : (w.drewN k).cell? ⟨2, 0, none⟩ = some (.int .i64 m) := hm
    rw [← hw] at h1 hm1
    have HW : Hidd (wr = w.drewN k) := ⟨hw⟩
    clear hw
    have c0 := h1.c0
    have hkey := hT.key n hsm
    have hwf : (Lit.int .i64 n).wf = true := wf_few hkey.1 (by omega)
    have hlk := h1.look n hwf
    rw [if_pos hsm] at hlk
    cases l' with
    | nil =>
      obtain rfl := hj.nil
      rw [leadT_nil] at hl
      subst hl
      go_wp2_with fail
      go_ret2
      exact ⟨rfl, k, HW.out⟩
    | cons x t =>
      have hqe : (q' == []) = false := by simp [hj.ne]
      have hx := hnn x List.mem_cons_self
      obtain ⟨hc1, hc2⟩ := hj.cut (fun y hy => isName_ne (hnn y (List.mem_cons_of_mem _ hy)))
      have hless := cut_less hj.ne
      have hcut := cut_ok q' (by omega) wr m hm1
      rw [hc1] at hcut
      generalize (Lib.cut q' [47]).2.1 = q2 at *
      generalize (Lib.cut q' [47]).2.2 = fnd at *
      have hxm : x.length ≤ maxLen := by have := isName_len hx; unfold maxLen; omega
      clear hc1
      by_cases hd : ∃ C, T n = some (.dir C)
      · obtain ⟨C, hC⟩ := hd
        obtain ⟨n0, _⟩ := h1.dcell hC
        have hID := isDir_yes n0
        have hSm : ∀ j, SMap (wr.drewN j) (G n) C.length (fun nm => (C.lookup nm).map (.int .i64 ·)) := fun j => (h1.dirs n C hC).keep rfl
        cases hlx : C.lookup x with
        | none =>
          rw [leadT_miss _ hC hlx] at hl
          subst hl
          clear hnn hj hc2 hq hn
          go_wp2_with (first
            | (go_at_call 98; refine hID.mono ?_; rintro e w' ⟨rfl, hw'⟩; subst w')
            | (go_at_call 122; refine hcut.mono ?_; rintro e w' ⟨rfl, j, hw'⟩; subst w'; have hSj := hSm j)
            | (at_lookup; refine wpList_sask rfl _ _ 111 rfl 3 Tryz.underlying111 _ (zero_num _) (G n) _ _ rfl hSj x rfl hxm ?_; simp only [hlx, Option.map_none, Option.getD_none, Option.isSome_none]))
          go_ret2
          exact ⟨rfl, k + j, by rw [HW.out]; exact drew_drew w k j⟩
        | some n' =>
          rw [leadT_step _ hC hlx] at hl
          have hn' := hT.child n C x n' hC hlx
          have hnt : ∀ y ∈ t, isName y = true := fun y hy => hnn y (List.mem_cons_of_mem _ hy)
          clear hnn hj hq hn
          go_wp2_with (first
            | (go_at_call 98; refine hID.mono ?_; rintro e w' ⟨rfl, hw'⟩; subst w')
            | (go_at_call 122; refine hcut.mono ?_; rintro e w' ⟨rfl, j, hw'⟩; subst w'; have hSj := hSm j)
            | (at_lookup; refine wpList_sask rfl _ _ 111 rfl 3 Tryz.underlying111 _ (zero_num _) (G n) _ _ rfl hSj x rfl hxm ?_; simp only [hlx, Option.map_some, Option.getD_some, Option.isSome_some]))
          go_roundg (q2.length)
          case measure => omega
          case rel => exact ⟨q2, t, n', k + j, rfl, by omega, rfl, rfl, hc2, hnt, hn', hl, by rw [HW.out]; exact drew_drew w k j⟩
      · rw [leadT_file _ (fun C e => hd ⟨C, e⟩)] at hl
        subst hl
        obtain ⟨fb, fh, hF⟩ : ∃ fb fh, T n = some (.file fb fh) := by
          cases e : T n with
          | none => rw [e] at hsm; cases hsm
          | some nd => cases nd with
            | dir C => exact absurd ⟨C, e⟩ hd
            | file fb fh => exact ⟨fb, fh, rfl⟩
        obtain ⟨n0, _⟩ := h1.fcell hF
        have hID := isDir_no n0
        go_wp2_with (go_at_call 98; refine hID.mono ?_; rintro e w' ⟨rfl, hw'⟩; subst w')
        go_ret2
        exact ⟨rfl, k, HW.out⟩
end
end Go.Proofs.YtjkneekfijibiabGreatDoor

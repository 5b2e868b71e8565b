/- A pipe in memory, the program's and the document's; what is told of one, plainly. -/
import Derived.WalkKit
import Derived.ProofKit
import Derived.Laws.IdiomCopy
import Derived.Laws.BytesArg
import Derived.Lib.SliceRun
import Derived.Test.YtjkneekfijibiabGreatDoorRows
import Derived.WalkLawsBesides
import Derived.Outline
import Derived.RegionTactic
import Derived.ChangeAlike
import Derived.BigQuiet
import Derived.Deep.QuietTactic
import Derived.Test.YtjkneekfijibiabGreatDoorSKeys
import Derived.Lib.SlKeysI
import Derived.Maps.Views
import Derived.Test.YtjkneekfijibiabGreatDoorWFile
import Derived.Deep.LoopGhost
namespace Go.Proofs.YtjkneekfijibiabGreatDoor
open Go.RowKit

abbrev tp (b : Nat) : Value := .pointer (some ⟨b, 0, none⟩)
/-- A text by its bytes. -/
abbrev txt (l : List UInt8) : Value := .string ⟨l.toArray⟩
/-- The byte at a place (0 behind the last one). -/
def bt (l : List UInt8) (k : Nat) : Int := (((l[k]?).getD 0).toNat : Int)
/-- Bytes as cells. -/
def bcs (l : List UInt8) : List Value := l.map fun x => .int .u8 (x.toNat : Int)

theorem bcs_len (l : List UInt8) : (bcs l).length = l.length := by simp [bcs]
theorem bcs_get (l : List UInt8) (k : Nat) (h : k < l.length) : (bcs l)[k]'(by rw [bcs_len]; exact h) = .int .u8 (bt l k) := by
  simp [bcs, bt, h]
theorem bcs_get? (l : List UInt8) (k : Nat) (v : Value) (h : (bcs l)[k]? = some v) : k < l.length ∧ v = .int .u8 (bt l k) := by
  have hk : k < (bcs l).length := (List.getElem?_eq_some_iff.1 h).1
  rw [bcs_len] at hk
  refine ⟨hk, ?_⟩
  rw [List.getElem?_eq_getElem (by rw [bcs_len]; exact hk), bcs_get l k hk] at h
  exact (Option.some.inj h).symm
theorem bcs_one (l : List UInt8) : ∀ v ∈ bcs l, v.oneCell' = true := by
  intro v hv
  obtain ⟨x, _, rfl⟩ := List.mem_map.1 hv
  rfl
theorem bt_out (l : List UInt8) (k : Nat) (h : l.length ≤ k) : bt l k = 0 := by
  simp [bt, List.getElem?_eq_none h]
theorem bt_left (a b : List UInt8) (k : Nat) (h : k < a.length) : bt (a ++ b) k = bt a k := by
  simp [bt, List.getElem?_append_left h]
theorem bt_right (a b : List UInt8) (k : Nat) : bt (a ++ b) (a.length + k) = bt b k := by
  simp [bt, List.getElem?_append_right]
theorem bt_drop (l : List UInt8) (n k : Nat) : bt (l.drop n) k = bt l (n + k) := by
  simp [bt, List.getElem?_drop]

/-- The program's pipe at block b: F ends from which, I into which; the bytes B. -/
structure Tb (w : World) (b : Nat) (F I : Int) (B : List UInt8) : Prop where
  few : B.length ≤ 16
  frm : w.cell? ⟨b, 2, none⟩ = some (.int .i64 F)
  int : w.cell? ⟨b, 3, none⟩ = some (.int .i64 I)
  byte : ∀ k, k < 16 → w.cell? ⟨b, 4 + k, none⟩ = some (.int .u8 (bt B k))
  held : w.cell? ⟨b, 20, none⟩ = some (.int .i64 (B.length : Int))
  live : ∀ k, k < 21 → w.frozen? ⟨b, k, none⟩ = false

/-- The document's. -/
structure Rt (w : World) (b : Nat) (F I : Int) (B : List UInt8) : Prop where
  few : B.length ≤ 16
  text : w.cell? ⟨b, 0, none⟩ = some (txt B)
  frm : w.cell? ⟨b, 1, none⟩ = some (.int .i64 F)
  int : w.cell? ⟨b, 2, none⟩ = some (.int .i64 I)
  live : ∀ k, k < 3 → w.frozen? ⟨b, k, none⟩ = false

section
variable {w w' : World} {b : Nat} {F I : Int} {B : List UInt8}

theorem Tb.keep (h : Tb w b F I B) (hb : w'.heap[b]? = w.heap[b]?) : Tb w' b F I B :=
  ⟨h.few, by rw [World.cell?_of_block (w := w) (a := ⟨b, 2, none⟩) hb]; exact h.frm, by rw [World.cell?_of_block (w := w) (a := ⟨b, 3, none⟩) hb]; exact h.int,
   fun k hk => by rw [World.cell?_of_block (w := w) (a := ⟨b, 4 + k, none⟩) hb]; exact h.byte k hk, by rw [World.cell?_of_block (w := w) (a := ⟨b, 20, none⟩) hb]; exact h.held,
   fun k hk => by rw [World.frozen?_of_block (w := w) (a := ⟨b, k, none⟩) hb]; exact h.live k hk⟩
theorem Tb.lt (h : Tb w b F I B) : b < w.heap.size := World.block_lt_of_cell? w _ h.frm
theorem Rt.keep (h : Rt w b F I B) (hb : w'.heap[b]? = w.heap[b]?) : Rt w' b F I B :=
  ⟨h.few, by rw [World.cell?_of_block (w := w) (a := ⟨b, 0, none⟩) hb]; exact h.text, by rw [World.cell?_of_block (w := w) (a := ⟨b, 1, none⟩) hb]; exact h.frm, by rw [World.cell?_of_block (w := w) (a := ⟨b, 2, none⟩) hb]; exact h.int,
   fun k hk => by rw [World.frozen?_of_block (w := w) (a := ⟨b, k, none⟩) hb]; exact h.live k hk⟩
theorem Rt.lt (h : Rt w b F I B) : b < w.heap.size := World.block_lt_of_cell? w _ h.frm

theorem off_ne {b i j : Nat} (h : i ≠ j) : (⟨b, i, none⟩ : Addr) ≠ ⟨b, j, none⟩ := by
  intro e; simp only [Addr.mk.injEq, true_and, and_true] at e; exact h e

theorem Tb.putF (h : Tb w b F I B) (v : Int) : Tb (w.setCell ⟨b, 2, none⟩ (.int .i64 v)) b v I B :=
  ⟨h.few, World.cell?_setCell_same _ _ _ h.frm, by rw [World.cell?_setCell_other _ _ _ _ (off_ne (by omega))]; exact h.int,
   fun k hk => by rw [World.cell?_setCell_other _ _ _ _ (off_ne (by omega))]; exact h.byte k hk, by rw [World.cell?_setCell_other _ _ _ _ (off_ne (by omega))]; exact h.held,
   fun k hk => by rw [World.frozen?_setCell]; exact h.live k hk⟩
theorem Tb.putI (h : Tb w b F I B) (v : Int) : Tb (w.setCell ⟨b, 3, none⟩ (.int .i64 v)) b F v B :=
  ⟨h.few, by rw [World.cell?_setCell_other _ _ _ _ (off_ne (by omega))]; exact h.frm, World.cell?_setCell_same _ _ _ h.int,
   fun k hk => by rw [World.cell?_setCell_other _ _ _ _ (off_ne (by omega))]; exact h.byte k hk, by rw [World.cell?_setCell_other _ _ _ _ (off_ne (by omega))]; exact h.held,
   fun k hk => by rw [World.frozen?_setCell]; exact h.live k hk⟩

theorem Tb.some_at (h : Tb w b F I B) (o n : Nat) (ho : 4 ≤ o) (hn : o + n ≤ 20) : ∀ j, j < n → (w.cell? ⟨b, o + j, none⟩).isSome = true := by
  intro j hj
  have := h.byte (o + j - 4) (by omega)
  rw [show 4 + (o + j - 4) = o + j by omega] at this
  rw [this]; rfl
theorem Tb.free_at (h : Tb w b F I B) (o n : Nat) (hn : o + n ≤ 20) : ∀ j, j < n → w.frozen? ⟨b, o + j, none⟩ = false := fun j hj => h.live (o + j) (by omega)

theorem out_cell {k o n : Nat} {vs : List Value} (hl : vs.length = n) (h : k < o ∨ o + n ≤ k) : (w.setCells b o vs).cell? ⟨b, k, none⟩ = w.cell? ⟨b, k, none⟩ :=
  World.cell?_setCells_out b vs o w ⟨b, k, none⟩ (fun _ _ => by show k < o ∨ o + vs.length ≤ k; omega)

/-- Behind a write: the bytes S stand behind the others. -/
theorem Tb.write (h : Tb w b F I B) (S : List UInt8) (hS : B.length + S.length ≤ 16) :
    Tb ((w.setCells b (4 + B.length) (bcs S)).setCell ⟨b, 20, none⟩ (.int .i64 ((B.length : Int) + (S.length : Int)))) b F I (B ++ S) := by
  have hl := bcs_len S
  have at_ := h.some_at (4 + B.length) S.length (by omega) (by omega)
  refine ⟨by rw [List.length_append]; exact hS, ?_, ?_, fun k hk => ?_, ?_, fun k hk => by rw [World.frozen?_setCell, World.frozen?_setCells]; exact h.live k hk⟩
  · rw [World.cell?_setCell_other _ _ _ _ (off_ne (by omega)), out_cell hl (by omega)]; exact h.frm
  · rw [World.cell?_setCell_other _ _ _ _ (off_ne (by omega)), out_cell hl (by omega)]; exact h.int
  · rw [World.cell?_setCell_other _ _ _ _ (off_ne (by omega))]
    by_cases h1 : k < B.length
    · rw [out_cell hl (by omega), h.byte k hk, bt_left _ _ _ h1]
    · obtain ⟨j, rfl⟩ : ∃ j, k = B.length + j := ⟨k - B.length, by omega⟩
      rw [bt_right]
      by_cases h2 : j < S.length
      · rw [show 4 + (B.length + j) = 4 + B.length + j by omega, World.cell?_setCells_in b (bcs S) (4 + B.length) w (fun i hi => at_ i (by rw [hl] at hi; exact hi)) j (by rw [hl]; exact h2), bcs_get S j h2]
      · rw [out_cell hl (by omega), h.byte _ hk, bt_out _ _ (by omega), bt_out _ _ (by omega)]
  · have hh : (w.setCells b (4 + B.length) (bcs S)).cell? ⟨b, 20, none⟩ = some (.int .i64 (B.length : Int)) := by rw [out_cell hl (by omega)]; exact h.held
    rw [World.cell?_setCell_same _ _ _ hh, List.length_append]; simp

/-- Behind a take: those that are left have moved up, the others are 0. -/
theorem Tb.take (h : Tb w b F I B) (n : Nat) (hn : n ≤ B.length) :
    Tb (((w.setCells b 4 (bcs (B.drop n))).setCell ⟨b, 20, none⟩ (.int .i64 ((B.length - n : Nat) : Int))).setCells b (4 + (B.length - n)) (List.replicate (16 - (B.length - n)) (.int .u8 0))) b F I (B.drop n) := by
  have hf := h.few
  have hd : (B.drop n).length = B.length - n := by simp
  have hl : (bcs (B.drop n)).length = B.length - n := by rw [bcs_len, hd]
  have hr : (List.replicate (16 - (B.length - n)) (Value.int .u8 0)).length = 16 - (B.length - n) := by simp
  have at_ := h.some_at 4 (B.length - n) (by omega) (by omega)
  obtain ⟨w1, hw1⟩ : ∃ w1, (w.setCells b 4 (bcs (B.drop n))).setCell ⟨b, 20, none⟩ (.int .i64 ((B.length - n : Nat) : Int)) = w1 := ⟨_, rfl⟩
  have c1 : ∀ k, k < 16 → w1.cell? ⟨b, 4 + k, none⟩ = some (.int .u8 (if k < B.length - n then bt (B.drop n) k else bt B k)) := by
    intro k hk
    rw [← hw1, World.cell?_setCell_other _ _ _ _ (off_ne (by omega))]
    by_cases h1 : k < B.length - n
    · rw [if_pos h1, World.cell?_setCells_in b (bcs (B.drop n)) 4 w (fun i hi => at_ i (by rw [hl] at hi; exact hi)) k (by rw [hl]; exact h1), bcs_get _ k (by rw [hd]; exact h1)]
    · rw [if_neg h1, out_cell hl (by omega), h.byte k hk]
  have l1 : ∀ k, k < 21 → w1.frozen? ⟨b, k, none⟩ = false := fun k hk => by rw [← hw1, World.frozen?_setCell, World.frozen?_setCells]; exact h.live k hk
  have f1 : w1.cell? ⟨b, 2, none⟩ = some (.int .i64 F) := by rw [← hw1, World.cell?_setCell_other _ _ _ _ (off_ne (by omega)), out_cell hl (by omega)]; exact h.frm
  have i1 : w1.cell? ⟨b, 3, none⟩ = some (.int .i64 I) := by rw [← hw1, World.cell?_setCell_other _ _ _ _ (off_ne (by omega)), out_cell hl (by omega)]; exact h.int
  have h1 : w1.cell? ⟨b, 20, none⟩ = some (.int .i64 ((B.length - n : Nat) : Int)) := by
    have hh : (w.setCells b 4 (bcs (B.drop n))).cell? ⟨b, 20, none⟩ = some (.int .i64 (B.length : Int)) := by rw [out_cell hl (by omega)]; exact h.held
    rw [← hw1, World.cell?_setCell_same _ _ _ hh]
  rw [hw1]
  clear hw1
  refine ⟨by rw [hd]; omega, ?_, ?_, fun k hk => ?_, ?_, fun k hk => by rw [World.frozen?_setCells]; exact l1 k hk⟩
  · rw [out_cell hr (by omega)]; exact f1
  · rw [out_cell hr (by omega)]; exact i1
  · by_cases h2 : k < B.length - n
    · rw [out_cell hr (by omega), c1 k hk, if_pos h2]
    · obtain ⟨j, rfl⟩ : ∃ j, k = B.length - n + j := ⟨k - (B.length - n), by omega⟩
      rw [show 4 + (B.length - n + j) = 4 + (B.length - n) + j by omega, World.cell?_setCells_in b (List.replicate (16 - (B.length - n)) (Value.int .u8 0)) (4 + (B.length - n)) w1 (fun i hi => by rw [hr] at hi; rw [show 4 + (B.length - n) + i = 4 + (B.length - n + i) by omega, c1 _ (by omega)]; rfl) j (by rw [hr]; omega), bt_out _ _ (by rw [hd]; omega)]
      simp
  · rw [out_cell hr (by omega), h1, hd]

theorem Rt.putF (h : Rt w b F I B) (v : Int) : Rt (w.setCell ⟨b, 1, none⟩ (.int .i64 v)) b v I B :=
  ⟨h.few, by rw [World.cell?_setCell_other _ _ _ _ (off_ne (by omega))]; exact h.text, World.cell?_setCell_same _ _ _ h.frm, by rw [World.cell?_setCell_other _ _ _ _ (off_ne (by omega))]; exact h.int, fun k hk => by rw [World.frozen?_setCell]; exact h.live k hk⟩
theorem Rt.putI (h : Rt w b F I B) (v : Int) : Rt (w.setCell ⟨b, 2, none⟩ (.int .i64 v)) b F v B :=
  ⟨h.few, by rw [World.cell?_setCell_other _ _ _ _ (off_ne (by omega))]; exact h.text, by rw [World.cell?_setCell_other _ _ _ _ (off_ne (by omega))]; exact h.frm, World.cell?_setCell_same _ _ _ h.int, fun k hk => by rw [World.frozen?_setCell]; exact h.live k hk⟩
theorem Rt.putB (h : Rt w b F I B) (B' : List UInt8) (hB : B'.length ≤ 16) : Rt (w.setCell ⟨b, 0, none⟩ (txt B')) b F I B' :=
  ⟨hB, World.cell?_setCell_same _ _ _ h.text, by rw [World.cell?_setCell_other _ _ _ _ (off_ne (by omega))]; exact h.frm, by rw [World.cell?_setCell_other _ _ _ _ (off_ne (by omega))]; exact h.int, fun k hk => by rw [World.frozen?_setCell]; exact h.live k hk⟩
end

/-- What Open and Close answer, and make. -/
def opE (e : Int) : Int := if e = 2 ∨ e = 3 then 0 else 1
def opF (F e : Int) : Int := if e = 2 then F + 1 else F
def opI (I e : Int) : Int := if e = 3 then I + 1 else I
def clE (F I e : Int) : Int := if e = 2 then (if F = 0 then 6 else 0) else if e = 3 then (if I = 0 then 6 else 0) else 1
def clF (F e : Int) : Int := if e = 2 ∧ F ≠ 0 then F - 1 else F
def clI (I e : Int) : Int := if e = 3 ∧ I ≠ 0 then I - 1 else I
/-- What Write answers, and makes. -/
def wrE (F : Int) (B s : List UInt8) : Int := if F = 0 then 14 else if s = [] then 0 else if B.length = 16 then 12 else 0
def wrN (F : Int) (B s : List UInt8) : Nat := if F = 0 then 0 else min s.length (16 - B.length)
def wrB (F : Int) (B s : List UInt8) : List UInt8 := if F = 0 then B else B ++ s.take (16 - B.length)
/-- What Read answers, and makes. -/
def rdE (I : Int) (B : List UInt8) (n : Int) : Int := if n < 0 then 2 else if n = 0 then 0 else if B = [] ∧ 0 < I then 8 else 0

theorem wrB_len (F : Int) (B s : List UInt8) (h : B.length ≤ 16) : (wrB F B s).length ≤ 16 := by
  unfold wrB; split
  · exact h
  · rw [List.length_append, List.length_take]; omega

/-- An error, or none, by its number. -/
def erT (c : Int) : Value := if c = 0 then .nilIface else .iface 51 (.int .i64 c)

/-- 'copy(dst, s)' from a string: as many of its first bytes as dst has room for. -/
theorem run_copy_text {P : Program} (w : World) (dT sT ty elem : TypeId) (b o dLen dCap : Nat) (s : List UInt8)
    (hu : P.underlying dT = some (.slice elem)) (hz : ∀ w, (Go.sizeOf elem).run P w = .ok 1 w)
    (hc : ∀ j, j < dLen → (w.cell? ⟨b, o + j, none⟩).isSome = true) (hf : ∀ j, j < dLen → w.frozen? ⟨b, o + j, none⟩ = false) :
    (Builtin.copy_ #[dT, sT] ty #[.slice (some ⟨b, o, none⟩) dLen dCap, txt s]).run P w = .ok (.int .i64 ((s.take dLen).length : Int)) (w.setCells b o (bcs (s.take dLen))) := by
  have hl : (bcs (s.take dLen)).length = min dLen s.length := by rw [bcs_len, List.length_take]
  have hst := run_storeCells_cells (P := P) b o (bcs (s.take dLen)) 0 w (by rw [hl]; intro j hj; simpa using hc j (by omega)) (by rw [hl]; intro j hj; simpa using hf j (by omega)) (bcs_one _)
  have hsz : (⟨s.toArray⟩ : ByteArray).size = s.length := by simp [ByteArray.size]
  have hm : Nat.min s.length dLen = min dLen s.length := Nat.min_comm _ _
  have htk : List.take (min dLen s.length) (List.map (fun x : UInt8 => Value.int .u8 (x.toNat : Int)) s) = bcs (s.take dLen) := by
    unfold bcs; rw [List.map_take]
    by_cases h : dLen ≤ s.length
    · rw [Nat.min_eq_left h]
    · rw [Nat.min_eq_right (by omega), List.take_of_length_le (by simp), List.take_of_length_le (by simp; omega)]
  simp [Builtin.copy_, run_underlying hu, Builtin.lenOf, Builtin.firstCells, hz, hsz, hm]
  rw [htk, hst]
  simp [Result.andThen, goInt]
end Go.Proofs.YtjkneekfijibiabGreatDoor

namespace Go.Proofs.YtjkneekfijibiabGreatDoor
open Go.RowKit
theorem tgrown_set (w : World) (b o : Nat) (v : Value) : w.grownBy (w.setCell ⟨b, o, none⟩ v) (some b) :=
  ⟨rfl, rfl, rfl, by simp [World.setCell], fun k _ h => Below.heap_setCell _ _ _ _ (fun e => h (by rw [e]))⟩
theorem tgrown_sets (b : Nat) : ∀ (vs : List Value) (o : Nat) (w : World), w.grownBy (w.setCells b o vs) (some b)
  | [], _, w => World.grownBy.refl w _
  | v :: r, o, w => by
    rw [World.setCells]
    have h := tgrown_set w b o v
    have k := tgrown_sets b r (o + 1) (w.setCell ⟨b, o, none⟩ v)
    exact ⟨k.os.trans h.os, k.tape.trans h.tape, k.output.trans h.output, Nat.le_trans h.size k.size, fun i hi hn => (k.block i (Nat.lt_of_lt_of_le hi h.size) hn).trans (h.block i hi hn)⟩
theorem drew_cells (b : Nat) : ∀ (vs : List Value) (o : Nat) (w : World), (w.setCells b o vs).drew = w.drew.setCells b o vs
  | [], _, _ => rfl
  | v :: r, o, w => by rw [World.setCells, World.setCells, drew_cells b r]; rfl
theorem tgrown_drew {w w' : World} {r : Option Nat} (h : w.grownBy w' r) : w.grownBy w'.drew r := ⟨h.os, h.tape, h.output, h.size, h.block⟩
theorem tgrown_trans {w w' w'' : World} {r : Option Nat} (h : w.grownBy w' r) (k : w'.grownBy w'' r) : w.grownBy w'' r :=
  ⟨k.os.trans h.os, k.tape.trans h.tape, k.output.trans h.output, Nat.le_trans h.size k.size, fun i hi hn => (k.block i (Nat.lt_of_lt_of_le hi h.size) hn).trans (h.block i hi hn)⟩

end Go.Proofs.YtjkneekfijibiabGreatDoor

namespace Go.Proofs.YtjkneekfijibiabGreatDoor
open Go.RowKit Go.Maps

/-- What a map's keys are. -/
theorem PMap.data {w : World} {g s : Nat} {M : Int → Option Value} (m : PMap w g s M) : ∃ D : DataW Value, w.ownsMap Tryz.prog 3 self g s D ∧ Maps.size D = s ∧ (Go.intKeys D).Nodup ∧ (Go.intKeys D).length = s ∧ ∀ x, x ∈ Go.intKeys D ↔ (M x).isSome = true := by
  obtain ⟨D, hown, hs, hS, _⟩ := m
  refine ⟨D, hown, hs, ?_⟩
  obtain ⟨es, hD, hpw, _⟩ := hown.entries keyedInt
  obtain ⟨es', hD', hko⟩ := hown.keysOf
  obtain rfl : es = es' := by rw [hD] at hD'; simpa using hD'
  have hk : ∀ p ∈ es, ∃ x, p.1 = .int .i64 x := fun p hp => by
    obtain ⟨v, hv⟩ := hko p hp
    obtain ⟨x, _, hx, _⟩ := Maps.keyOf_i64 Tryz.underlying3 hv
    exact ⟨x, hx⟩
  have hnd : (es.map fun p => Go.intOf p.1).Nodup := by
    refine List.pairwise_map.2 (hpw.imp_of_mem fun {p q} hp hq hne e => hne ?_)
    obtain ⟨a, ha⟩ := hk p hp
    obtain ⟨d, hd⟩ := hk q hq
    rw [ha, hd] at e ⊢
    exact congrArg _ e
  subst hD
  refine ⟨hnd, by rw [← hs]; simp [Go.intKeys, Maps.size], fun x => ?_⟩
  rw [← hS x, has_eq, List.any_eq_true]
  show x ∈ es.map (fun p => Go.intOf p.1) ↔ _
  rw [List.mem_map]
  constructor
  · rintro ⟨p, hp, rfl⟩
    obtain ⟨a, ha⟩ := hk p hp
    exact ⟨p, hp, by rw [ha]; simp [Lit.sameKey, Go.intOf]⟩
  · rintro ⟨p, hp, hq⟩
    obtain ⟨a, ha⟩ := hk p hp
    rw [ha] at hq
    exact ⟨p, hp, by rw [ha]; simpa [Lit.sameKey, Go.intOf] using hq⟩
end Go.Proofs.YtjkneekfijibiabGreatDoor

namespace Go.Proofs.YtjkneekfijibiabGreatDoor
open Go.RowKit Go.Maps

/-- Numbers: of which ENTRY each is (0: free), whether it is MARKED. -/
abbrev Ns := List (Int × Bool)
def nv (N : Ns) : List Value := N.flatMap (fun x => [.int .i64 x.1, .bool x.2])
def usedN (N : Ns) : Nat := (N.filter (fun x => decide (0 < x.1))).length
def leastN : Ns → Int
  | [] => -1
  | x :: N => if x.1 = 0 then 0 else if leastN N = -1 then -1 else leastN N + 1
def hasN (N : Ns) (n : Int) : Bool := decide (0 ≤ n) && decide (n ≤ 7) && decide (0 < (N.getD n.toNat (0, false)).1)
theorem nv_len (N : Ns) : (nv N).length = 2 * N.length := by
  induction N with
  | nil => rfl
  | cons x N ih => unfold nv at ih ⊢; rw [List.flatMap_cons, List.length_append, ih, List.length_cons]; simp; omega
theorem nv_at : ∀ (N : Ns) (i : Nat) (h : i < N.length), (nv N)[2 * i]? = some (.int .i64 N[i].1) ∧ (nv N)[2 * i + 1]? = some (.bool N[i].2)
  | [], i, h => by simp at h
  | x :: N, 0, h => ⟨rfl, rfl⟩
  | x :: N, i + 1, h => by
    have := nv_at N i (by simpa using h)
    unfold nv at this ⊢
    rw [List.flatMap_cons, show 2 * (i + 1) = (2 * i) + 1 + 1 by omega]
    exact this
theorem used_take {N : Ns} {i : Nat} (h : i < N.length) : usedN (N.take (i + 1)) = usedN (N.take i) + if 0 < N[i].1 then 1 else 0 := by
  unfold usedN
  rw [List.take_succ_eq_append_getElem h, List.filter_append, List.length_append]
  by_cases e : 0 < N[i].1
  · simp [e]
  · simp [e]
theorem used_le (N : Ns) : usedN N ≤ N.length := List.length_filter_le _ _
theorem new_pair (w : World) (a b : Value) (t : TypeId) : (w.alloc (.cells #[a, b] t)).cell? ⟨w.heap.size, 0, none⟩ = some a ∧ (w.alloc (.cells #[a, b] t)).cell? ⟨w.heap.size, 1, none⟩ = some b := by
  refine ⟨?_, ?_⟩ <;> simp
theorem below_dr {B : Nat} {w w' : World} (h : Below B w w') : Below B w w'.drew := ⟨h.os, h.tape, h.output, h.size, h.block⟩
theorem least_none : ∀ {N : Ns}, (∀ x ∈ N, x.1 ≠ 0) → leastN N = -1
  | [], _ => rfl
  | x :: N, h => by
    rw [leastN, if_neg (h x List.mem_cons_self), least_none (fun y hy => h y (List.mem_cons_of_mem _ hy)), if_pos rfl]
theorem least_at : ∀ {N : Ns} {i : Nat} (hi : i < N.length), (∀ j (hj : j < i), N[j].1 ≠ 0) → N[i].1 = 0 → leastN N = i
  | x :: N, 0, _, _, h => by rw [leastN, if_pos (show x.1 = 0 from h)]; rfl
  | x :: N, i + 1, hi, hn, h => by
    have ih := least_at (N := N) (i := i) (by simpa using hi) (fun j hj => hn (j + 1) (by omega)) h
    rw [leastN, if_neg (show ¬ x.1 = 0 from hn 0 (by omega)), ih, if_neg (by omega)]; rfl
theorem least_lt : ∀ {N : Ns}, leastN N = -1 ∨ (∃ i : Nat, leastN N = i ∧ ∃ h : i < N.length, N[i].1 = 0)
  | [] => .inl rfl
  | x :: N => by
    rw [leastN]
    by_cases e : x.1 = 0
    · rw [if_pos e]; exact .inr ⟨0, rfl, by simp, e⟩
    · rw [if_neg e]
      rcases least_lt (N := N) with h | ⟨i, h, hi, h0⟩
      · rw [if_pos h]; exact .inl rfl
      · rw [if_neg (by omega), h]
        exact .inr ⟨i + 1, rfl, by simpa using hi, h0⟩
theorem nv_put : ∀ (N : Ns) (i : Nat) (x : Int × Bool), i < N.length → ((nv N).set (2 * i) (.int .i64 x.1)).set (2 * i + 1) (.bool x.2) = nv (N.set i x)
  | [], i, x, h => by simp at h
  | y :: N, 0, x, h => rfl
  | y :: N, i + 1, x, h => by
    have ih := nv_put N i x (by simpa using h)
    have e : nv (y :: N) = .int .i64 y.1 :: .bool y.2 :: nv N := rfl
    have e2 : nv ((y :: N).set (i + 1) x) = .int .i64 y.1 :: .bool y.2 :: nv (N.set i x) := rfl
    rw [e, e2, ← ih, show 2 * (i + 1) = (2 * i) + 1 + 1 by omega, show 2 * i + 1 + 1 + 1 = (2 * i + 1) + 1 + 1 by omega]
    rfl
/-- An ENTRY. -/
structure En where
  kind : Int
  prot : Int
  node : Int
  pipe : Int
  pos : Int
/-- A pipe: its bytes, its open ends. -/
abbrev Pi := List UInt8 × Int × Int
/-- All that is open. -/
structure DS where
  T : Wd
  E : Int → Option En
  R : Int → Option Int
  P : Int → Option Pi
  nx : Int
/-- A number's place in a table. -/
theorem hasN_at {N : Ns} {n : Int} (h : hasN N n = true) (hL : N.length = 8) : ∃ i : Nat, n = i ∧ i < 8 ∧ ∃ hi : i < N.length, 0 < N[i].1 := by
  unfold hasN at h
  simp only [Bool.and_eq_true, decide_eq_true_eq] at h
  obtain ⟨⟨h0, h1⟩, h2⟩ := h
  have hi : n.toNat < N.length := by omega
  refine ⟨n.toNat, by omega, by omega, hi, ?_⟩
  rw [List.getD_eq_getElem?_getD, List.getElem?_eq_getElem hi] at h2
  exact h2
def markN (N : Ns) (n : Int) (c : Bool) : Ns := if hasN N n = true then N.set n.toNat ((N.getD n.toNat (0, false)).1, c) else N
/-- What is told of a place. -/
def seekE (D : DS) (N : Ns) (n a : Int) : Int := if hasN N n = true then (match D.E (N.getD n.toNat (0, false)).1 with
  | some e => if e.kind ≠ 1 then 6 else if 0 ≤ a ∧ a ≤ 200 then 0 else 2
  | none => 6) else 7
def seekD (D : DS) (N : Ns) (n a : Int) : DS := if seekE D N n a = 0 then (match D.E (N.getD n.toNat (0, false)).1 with
  | some e => { D with E := fun i => if i = (N.getD n.toNat (0, false)).1 then some { e with pos := a } else D.E i }
  | none => D) else D
theorem getD_in {N : Ns} {i : Nat} (hi : i < N.length) : N.getD (i : Int).toNat (0, false) = N[i] := by
  rw [List.getD_eq_getElem?_getD, show (i : Int).toNat = i by omega, List.getElem?_eq_getElem hi]; rfl
theorem new_five (w : World) (a b c d e : Value) (t : TypeId) : (w.alloc (.cells #[a, b, c, d, e] t)).heap[w.heap.size]? = some (.cells #[a, b, c, d, e] t) := by
  show (w.heap.push _)[w.heap.size]? = _
  rw [Array.getElem?_push, if_pos rfl]
def dupE (N : Ns) (n : Int) : Int := if hasN N n = true then (if leastN N < 0 then 12 else 0) else 7
def dupN (N : Ns) (n : Int) : Ns := if dupE N n = 0 then N.set (leastN N).toNat ((N.getD n.toNat (0, false)).1, false) else N
def dupD (D : DS) (N : Ns) (n : Int) : DS := if dupE N n = 0 then { D with R := fun i => if i = (N.getD n.toNat (0, false)).1 then some ((D.R i).getD 0 + 1) else D.R i } else D
def dupK (N : Ns) (n : Int) : Int := if dupE N n = 0 then leastN N else 0
/-- What is left of a pipe whose end is closed. -/
def turnP (p : Pi) (kd : Int) : Pi := (p.1, clF p.2.1 kd, clI p.2.2 kd)
/-- A number closed: what is open then. -/
noncomputable def closeK (D : DS) (k : Int) : DS := match D.E k, D.R k with
  | some e, some c => if 0 < c - 1 then { D with R := fun i => if i = k then some (c - 1) else D.R i } else
    if e.kind = 1 then { T := holdN D.T e.node (-1), E := fun i => if i = k then none else D.E i, R := fun i => if i = k then none else if i = k then some (c - 1) else D.R i, P := D.P, nx := D.nx }
    else { T := D.T, E := fun i => if i = k then none else D.E i, R := fun i => if i = k then none else if i = k then some (c - 1) else D.R i, P := fun i => if i = e.pipe then some (turnP ((D.P e.pipe).getD ([], 0, 0)) e.kind) else D.P i, nx := D.nx }
  | _, _ => D
/-- What is asked of a number that is closed. -/
structure CanClose (D : DS) (k : Int) (e : En) (c : Int) : Prop where
  k0 : 0 < k
  k1 : k < 100000
  ent : D.E k = some e
  cnt : D.R k = some c
  c0 : 0 < c
  c1 : c < 100000
  kind : e.kind = 1 ∨ e.kind = 2 ∨ e.kind = 3
  node : e.kind = 1 → 0 ≤ e.node ∧ e.node < 100000
  pipe : e.kind ≠ 1 → 0 ≤ e.pipe ∧ e.pipe < 100000 ∧ ∃ p, D.P e.pipe = some p ∧ p.1.length ≤ 16 ∧ 0 ≤ p.2.1 ∧ p.2.1 < 1000 ∧ 0 ≤ p.2.2 ∧ p.2.2 < 1000
/-- A new ENTRY: what is open then. -/
def addD (D : DS) (e : En) : DS := { D with E := fun i => if i = D.nx + 1 then some e else D.E i, R := fun i => if i = D.nx + 1 then some 1 else D.R i, nx := D.nx + 1 }
def addN (D : DS) (N : Ns) : Ns := N.set (leastN N).toNat (D.nx + 1, false)
/-- All numbers of ENTRIES, and of pipes, were given. -/
structure Given (D : DS) : Prop where
  n0 : 0 ≤ D.nx
  n1 : D.nx < 900
  e : ∀ x, (D.E x).isSome = true → 0 < x ∧ x ≤ D.nx
  r : ∀ x, (D.R x).isSome = true → 0 < x ∧ x ≤ D.nx
  p : ∀ x, (D.P x).isSome = true → 0 < x ∧ x ≤ D.nx
theorem int_sub : ∀ {a b : List Int}, a.Nodup → a ⊆ b → a.length ≤ b.length
  | [], b, _, _ => Nat.zero_le _
  | x :: a, b, hn, hs => by
    rw [List.nodup_cons] at hn
    have hx : x ∈ b := hs List.mem_cons_self
    have h1 := int_sub (b := b.erase x) hn.2 (fun y hy => (List.mem_erase_of_ne (fun e => hn.1 (by rw [← e]; exact hy))).2 (hs (List.mem_cons_of_mem _ hy)))
    have h2 := List.length_erase_of_mem hx
    have h3 := List.length_pos_of_mem hx
    rw [List.length_cons]; omega
theorem size_le {w : World} {g s : Nat} {M : Int → Option Value} {B : Int} (m : PMap w g s M) (h0 : 0 ≤ B) (h : ∀ x, (M x).isSome = true → 0 < x ∧ x ≤ B) : (s : Int) ≤ B := by
  obtain ⟨D, _, _, h1, h2, h3⟩ := m.data
  have := int_sub (b := (List.range (B.toNat + 1)).map (fun i : Nat => (i : Int))) h1 (fun x hx => by
    have := h x ((h3 x).1 hx)
    exact List.mem_map.2 ⟨x.toNat, List.mem_range.2 (by omega), by omega⟩)
  have h4 : (Go.intKeys D).length ≤ B.toNat := by
    have h5 := int_sub (b := ((List.range B.toNat).map (fun i : Nat => (i : Int) + 1))) h1 (fun x hx => by
      have := h x ((h3 x).1 hx)
      exact List.mem_map.2 ⟨(x - 1).toNat, List.mem_range.2 (by omega), by omega⟩)
    simpa using h5
  omega
section
variable {D : DS}
theorem Given.new (g : Given D) : D.E (D.nx + 1) = none ∧ D.R (D.nx + 1) = none ∧ D.P (D.nx + 1) = none := by
  refine ⟨?_, ?_, ?_⟩
  · cases h : D.E (D.nx + 1) with
    | none => rfl
    | some e => have := g.e _ (by rw [h]; rfl); omega
  · cases h : D.R (D.nx + 1) with
    | none => rfl
    | some e => have := g.r _ (by rw [h]; rfl); omega
  · cases h : D.P (D.nx + 1) with
    | none => rfl
    | some e => have := g.p _ (by rw [h]; rfl); omega
theorem Given.add (g : Given D) (h : D.nx < 899) (e : En) : Given (addD D e) := by
  have hx : ∀ x, ¬ x = D.nx + 1 → x ≤ D.nx → x ≤ D.nx + 1 := fun x _ h => by omega
  refine ⟨by show 0 ≤ D.nx + 1; have := g.n0; omega, by show D.nx + 1 < 900; omega, fun x hs => ?_, fun x hs => ?_, fun x hs => ?_⟩
  · show 0 < x ∧ x ≤ D.nx + 1
    by_cases e1 : x = D.nx + 1
    · have := g.n0; omega
    · have hs' : (if x = D.nx + 1 then some e else D.E x).isSome = true := hs
      rw [if_neg e1] at hs'
      have := g.e x hs'; omega
  · show 0 < x ∧ x ≤ D.nx + 1
    by_cases e1 : x = D.nx + 1
    · have := g.n0; omega
    · have hs' : (if x = D.nx + 1 then some (1 : Int) else D.R x).isSome = true := hs
      rw [if_neg e1] at hs'
      have := g.r x hs'; omega
  · show 0 < x ∧ x ≤ D.nx + 1
    have := g.p x hs; omega
/-- A new pipe: what is open then. -/
def pipeD0 (D : DS) : DS := { D with P := fun i => if i = D.nx + 1 then some ([], 1, 1) else D.P i, nx := D.nx + 1 }
def pipeD1 (D : DS) : DS := addD (pipeD0 D) ⟨2, 1, 0, D.nx + 1, 0⟩
def pipeD (D : DS) : DS := addD (pipeD1 D) ⟨3, 2, 0, D.nx + 1, 0⟩
def pipeN1 (D : DS) (N : Ns) : Ns := addN (pipeD0 D) N
def pipeN (D : DS) (N : Ns) : Ns := addN (pipeD1 D) (pipeN1 D N)
theorem Given.pipe0 (g : Given D) (h : D.nx < 899) : Given (pipeD0 D) := by
  refine ⟨by show 0 ≤ D.nx + 1; have := g.n0; omega, by show D.nx + 1 < 900; omega, fun x hs => ?_, fun x hs => ?_, fun x hs => ?_⟩
  · show 0 < x ∧ x ≤ D.nx + 1
    have := g.e x hs; omega
  · show 0 < x ∧ x ≤ D.nx + 1
    have := g.r x hs; omega
  · show 0 < x ∧ x ≤ D.nx + 1
    by_cases e1 : x = D.nx + 1
    · have := g.n0; omega
    · have hs' : (if x = D.nx + 1 then some (([], 1, 1) : Pi) else D.P x).isSome = true := hs
      rw [if_neg e1] at hs'
      have := g.p x hs'; omega
theorem Given.turn (g : Given D) (T : Wd) : Given { D with T := T } := ⟨g.n0, g.n1, g.e, g.r, g.p⟩
end
/-- Room for one number, and one ENTRY, more. -/
def roomy (N : Ns) (sE : Nat) : Prop := ¬ leastN N < 0 ∧ sE < 40
/-- More than may be. -/
def tooMuch (x : List UInt8) (a ps : Int) : Prop := x ≠ [] ∧ (a < (x.length : Int) ∨ a - (x.length : Int) < ps)
/-- Nothing is open. -/
def noneD (T : Wd) : DS := ⟨T, fun _ => none, fun _ => none, fun _ => none, 0⟩
theorem noneD_given (T : Wd) : Given (noneD T) := ⟨Int.le_refl _, by show (0 : Int) < 900; omega, fun x h => (by cases h), fun x h => (by cases h), fun x h => (by cases h)⟩
section
variable {w : World}
theorem del_run {g n : Nat} {M : Int → Option Value} {t e : TypeId} (m : PMap w g n M) (ht : Tryz.prog.underlying t = some (.map 3 e)) (a : Int) (ha : (Lit.int .i64 a).wf = true) : ∃ w', (∀ ty, (Builtin.delete_ #[t, 3] ty #[.map (some g), .int .i64 a]).run Tryz.prog w = .ok (.tuple #[]) w') ∧ PMap w' g (if (M a).isSome then n - 1 else n) (fun i => if i = a then none else M i) ∧ w.grownBy w' (some g) := by
  obtain ⟨w', h1, h2, h3⟩ := m.del ht a ha 3
  refine ⟨w', fun ty => ?_, h2, h3⟩
  rw [← h1]
  rfl
end
/-- A file that is made is held at once. -/
theorem made_hold {T : Wd} {p : List UInt8} {s : Nat} {k : Int} (hT : TrOk T) (hM : makeE T s p = 0) (hk : IsFree T k) : holdE (makeN T p false k) k 1 = 0 ∧ ∀ b x, makeN T p false k k = some (.file b x) → x = 0 := by
  obtain ⟨_, ⟨C, hd, hlk⟩, _, _⟩ := makeE_zero hT hM
  have hdk : (placeT T p).1 ≠ k := fun e => by rw [e, hk.none] at hd; cases hd
  have hv : makeN T p false k k = some (.file [] 0) := by
    unfold makeN
    rw [addT_eq (show setT T k (newNd false) (placeT T p).1 = some (.dir C) by rw [setT_other _ hdk]; exact hd), setT_other _ (Ne.symm hdk), setT_same]
    rfl
  refine ⟨?_, fun b x e => ?_⟩
  · unfold holdE
    rw [hv]
    rfl
  · rw [hv] at e; cases e; rfl
end Go.Proofs.YtjkneekfijibiabGreatDoor

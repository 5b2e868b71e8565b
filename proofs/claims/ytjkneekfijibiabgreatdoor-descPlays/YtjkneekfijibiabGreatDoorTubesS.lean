/- A pipe in memory, the program's and the document's; what is told of one, plainly. -/
import Derived.WalkKit
import Derived.ProofKit
import Derived.Laws.IdiomCopy
import Derived.Laws.BytesArg
import Derived.Lib.SliceRun
import Derived.Test.YtjkneekfijibiabGreatDoorRows
import Derived.WalkLawsBesides
import Derived.Outline
import Derived.RegionTactic
import Derived.ChangeAlike
import Derived.BigQuiet
import Derived.Deep.QuietTactic
namespace Go.Proofs.YtjkneekfijibiabGreatDoor
open Go.RowKit

abbrev tp (b : Nat) : Value := .pointer (some ⟨b, 0, none⟩)
/-- A text by its bytes. -/
abbrev txt (l : List UInt8) : Value := .string ⟨l.toArray⟩
/-- The byte at a place (0 behind the last one). -/
def bt (l : List UInt8) (k : Nat) : Int := (((l[k]?).getD 0).toNat : Int)
/-- Bytes as cells. -/
def bcs (l : List UInt8) : List Value := l.map fun x => .int .u8 (x.toNat : Int)

theorem bcs_len (l : List UInt8) : (bcs l).length = l.length := by simp [bcs]
theorem bcs_get (l : List UInt8) (k : Nat) (h : k < l.length) : (bcs l)[k]'(by rw [bcs_len]; exact h) = .int .u8 (bt l k) := by
  simp [bcs, bt, h]
theorem bcs_get? (l : List UInt8) (k : Nat) (v : Value) (h : (bcs l)[k]? = some v) : k < l.length ∧ v = .int .u8 (bt l k) := by
  have hk : k < (bcs l).length := (List.getElem?_eq_some_iff.1 h).1
  rw [bcs_len] at hk
  refine ⟨hk, ?_⟩
  rw [List.getElem?_eq_getElem (by rw [bcs_len]; exact hk), bcs_get l k hk] at h
  exact (Option.some.inj h).symm
theorem bcs_one (l : List UInt8) : ∀ v ∈ bcs l, v.oneCell' = true := by
  intro v hv
  obtain ⟨x, _, rfl⟩ := List.mem_map.1 hv
  rfl
theorem bt_out (l : List UInt8) (k : Nat) (h : l.length ≤ k) : bt l k = 0 := by
  simp [bt, List.getElem?_eq_none h]
theorem bt_left (a b : List UInt8) (k : Nat) (h : k < a.length) : bt (a ++ b) k = bt a k := by
  simp [bt, List.getElem?_append_left h]
theorem bt_right (a b : List UInt8) (k : Nat) : bt (a ++ b) (a.length + k) = bt b k := by
  simp [bt, List.getElem?_append_right]
theorem bt_drop (l : List UInt8) (n k : Nat) : bt (l.drop n) k = bt l (n + k) := by
  simp [bt, List.getElem?_drop]

/-- The program's pipe at block b: F ends from which, I into which; the bytes B. -/
structure Tb (w : World) (b : Nat) (F I : Int) (B : List UInt8) : Prop where
  few : B.length ≤ 16
  frm : w.cell? ⟨b, 2, none⟩ = some (.int .i64 F)
  int : w.cell? ⟨b, 3, none⟩ = some (.int .i64 I)
  byte : ∀ k, k < 16 → w.cell? ⟨b, 4 + k, none⟩ = some (.int .u8 (bt B k))
  held : w.cell? ⟨b, 20, none⟩ = some (.int .i64 (B.length : Int))
  live : ∀ k, k < 21 → w.frozen? ⟨b, k, none⟩ = false

/-- The document's. -/
structure Rt (w : World) (b : Nat) (F I : Int) (B : List UInt8) : Prop where
  few : B.length ≤ 16
  text : w.cell? ⟨b, 0, none⟩ = some (txt B)
  frm : w.cell? ⟨b, 1, none⟩ = some (.int .i64 F)
  int : w.cell? ⟨b, 2, none⟩ = some (.int .i64 I)
  live : ∀ k, k < 3 → w.frozen? ⟨b, k, none⟩ = false

section
variable {w w' : World} {b : Nat} {F I : Int} {B : List UInt8}

theorem Tb.keep (h : Tb w b F I B) (hb : w'.heap[b]? = w.heap[b]?) : Tb w' b F I B :=
  ⟨h.few, by rw [World.cell?_of_block (w := w) (a := ⟨b, 2, none⟩) hb]; exact h.frm, by rw [World.cell?_of_block (w := w) (a := ⟨b, 3, none⟩) hb]; exact h.int,
   fun k hk => by rw [World.cell?_of_block (w := w) (a := ⟨b, 4 + k, none⟩) hb]; exact h.byte k hk, by rw [World.cell?_of_block (w := w) (a := ⟨b, 20, none⟩) hb]; exact h.held,
   fun k hk => by rw [World.frozen?_of_block (w := w) (a := ⟨b, k, none⟩) hb]; exact h.live k hk⟩
theorem Tb.lt (h : Tb w b F I B) : b < w.heap.size := World.block_lt_of_cell? w _ h.frm
theorem Rt.keep (h : Rt w b F I B) (hb : w'.heap[b]? = w.heap[b]?) : Rt w' b F I B :=
  ⟨h.few, by rw [World.cell?_of_block (w := w) (a := ⟨b, 0, none⟩) hb]; exact h.text, by rw [World.cell?_of_block (w := w) (a := ⟨b, 1, none⟩) hb]; exact h.frm, by rw [World.cell?_of_block (w := w) (a := ⟨b, 2, none⟩) hb]; exact h.int,
   fun k hk => by rw [World.frozen?_of_block (w := w) (a := ⟨b, k, none⟩) hb]; exact h.live k hk⟩
theorem Rt.lt (h : Rt w b F I B) : b < w.heap.size := World.block_lt_of_cell? w _ h.frm

theorem off_ne {b i j : Nat} (h : i ≠ j) : (⟨b, i, none⟩ : Addr) ≠ ⟨b, j, none⟩ := by
  intro e; simp only [Addr.mk.injEq, true_and, and_true] at e; exact h e

theorem Tb.putF (h : Tb w b F I B) (v : Int) : Tb (w.setCell ⟨b, 2, none⟩ (.int .i64 v)) b v I B :=
  ⟨h.few, World.cell?_setCell_same _ _ _ h.frm, by rw [World.cell?_setCell_other _ _ _ _ (off_ne (by omega))]; exact h.int,
   fun k hk => by rw [World.cell?_setCell_other _ _ _ _ (off_ne (by omega))]; exact h.byte k hk, by rw [World.cell?_setCell_other _ _ _ _ (off_ne (by omega))]; exact h.held,
   fun k hk => by rw [World.frozen?_setCell]; exact h.live k hk⟩
theorem Tb.putI (h : Tb w b F I B) (v : Int) : Tb (w.setCell ⟨b, 3, none⟩ (.int .i64 v)) b F v B :=
  ⟨h.few, by rw [World.cell?_setCell_other _ _ _ _ (off_ne (by omega))]; exact h.frm, World.cell?_setCell_same _ _ _ h.int,
   fun k hk => by rw [World.cell?_setCell_other _ _ _ _ (off_ne (by omega))]; exact h.byte k hk, by rw [World.cell?_setCell_other _ _ _ _ (off_ne (by omega))]; exact h.held,
   fun k hk => by rw [World.frozen?_setCell]; exact h.live k hk⟩

theorem Tb.some_at (h : Tb w b F I B) (o n : Nat) (ho : 4 ≤ o) (hn : o + n ≤ 20) : ∀ j, j < n → (w.cell? ⟨b, o + j, none⟩).isSome = true := by
  intro j hj
  have := h.byte (o + j - 4) (by omega)
  rw [show 4 + (o + j - 4) = o + j by omega] at this
  rw [this]; rfl
theorem Tb.free_at (h : Tb w b F I B) (o n : Nat) (hn : o + n ≤ 20) : ∀ j, j < n → w.frozen? ⟨b, o + j, none⟩ = false := fun j hj => h.live (o + j) (by omega)

theorem out_cell {k o n : Nat} {vs : List Value} (hl : vs.length = n) (h : k < o ∨ o + n ≤ k) : (w.setCells b o vs).cell? ⟨b, k, none⟩ = w.cell? ⟨b, k, none⟩ :=
  World.cell?_setCells_out b vs o w ⟨b, k, none⟩ (fun _ _ => by show k < o ∨ o + vs.length ≤ k; omega)

/-- Behind a write: the bytes S stand behind the others. -/
theorem Tb.write (h : Tb w b F I B) (S : List UInt8) (hS : B.length + S.length ≤ 16) :
    Tb ((w.setCells b (4 + B.length) (bcs S)).setCell ⟨b, 20, none⟩ (.int .i64 ((B.length : Int) + (S.length : Int)))) b F I (B ++ S) := by
  have hl := bcs_len S
  have at_ := h.some_at (4 + B.length) S.length (by omega) (by omega)
  refine ⟨by rw [List.length_append]; exact hS, ?_, ?_, fun k hk => ?_, ?_, fun k hk => by rw [World.frozen?_setCell, World.frozen?_setCells]; exact h.live k hk⟩
  · rw [World.cell?_setCell_other _ _ _ _ (off_ne (by omega)), out_cell hl (by omega)]; exact h.frm
  · rw [World.cell?_setCell_other _ _ _ _ (off_ne (by omega)), out_cell hl (by omega)]; exact h.int
  · rw [World.cell?_setCell_other _ _ _ _ (off_ne (by omega))]
    by_cases h1 : k < B.length
    · rw [out_cell hl (by omega), h.byte k hk, bt_left _ _ _ h1]
    · obtain ⟨j, rfl⟩ : ∃ j, k = B.length + j := ⟨k - B.length, by omega⟩
      rw [bt_right]
      by_cases h2 : j < S.length
      · rw [show 4 + (B.length + j) = 4 + B.length + j by omega, World.cell?_setCells_in b (bcs S) (4 + B.length) w (fun i hi => at_ i (by rw [hl] at hi; exact hi)) j (by rw [hl]; exact h2), bcs_get S j h2]
      · rw [out_cell hl (by omega), h.byte _ hk, bt_out _ _ (by omega), bt_out _ _ (by omega)]
  · have hh : (w.setCells b (4 + B.length) (bcs S)).cell? ⟨b, 20, none⟩ = some (.int .i64 (B.length : Int)) := by rw [out_cell hl (by omega)]; exact h.held
    rw [World.cell?_setCell_same _ _ _ hh, List.length_append]; simp

/-- Behind a take: those that are left have moved up, the others are 0. -/
theorem Tb.take (h : Tb w b F I B) (n : Nat) (hn : n ≤ B.length) :
    Tb (((w.setCells b 4 (bcs (B.drop n))).setCell ⟨b, 20, none⟩ (.int .i64 ((B.length - n : Nat) : Int))).setCells b (4 + (B.length - n)) (List.replicate (16 - (B.length - n)) (.int .u8 0))) b F I (B.drop n) := by
  have hf := h.few
  have hd : (B.drop n).length = B.length - n := by simp
  have hl : (bcs (B.drop n)).length = B.length - n := by rw [bcs_len, hd]
  have hr : (List.replicate (16 - (B.length - n)) (Value.int .u8 0)).length = 16 - (B.length - n) := by simp
  have at_ := h.some_at 4 (B.length - n) (by omega) (by omega)
  obtain ⟨w1, hw1⟩ : ∃ w1, (w.setCells b 4 (bcs (B.drop n))).setCell ⟨b, 20, none⟩ (.int .i64 ((B.length - n : Nat) : Int)) = w1 := ⟨_, rfl⟩
  have c1 : ∀ k, k < 16 → w1.cell? ⟨b, 4 + k, none⟩ = some (.int .u8 (if k < B.length - n then bt (B.drop n) k else bt B k)) := by
    intro k hk
    rw [← hw1, World.cell?_setCell_other _ _ _ _ (off_ne (by omega))]
    by_cases h1 : k < B.length - n
    · rw [if_pos h1, World.cell?_setCells_in b (bcs (B.drop n)) 4 w (fun i hi => at_ i (by rw [hl] at hi; exact hi)) k (by rw [hl]; exact h1), bcs_get _ k (by rw [hd]; exact h1)]
    · rw [if_neg h1, out_cell hl (by omega), h.byte k hk]
  have l1 : ∀ k, k < 21 → w1.frozen? ⟨b, k, none⟩ = false := fun k hk => by rw [← hw1, World.frozen?_setCell, World.frozen?_setCells]; exact h.live k hk
  have f1 : w1.cell? ⟨b, 2, none⟩ = some (.int .i64 F) := by rw [← hw1, World.cell?_setCell_other _ _ _ _ (off_ne (by omega)), out_cell hl (by omega)]; exact h.frm
  have i1 : w1.cell? ⟨b, 3, none⟩ = some (.int .i64 I) := by rw [← hw1, World.cell?_setCell_other _ _ _ _ (off_ne (by omega)), out_cell hl (by omega)]; exact h.int
  have h1 : w1.cell? ⟨b, 20, none⟩ = some (.int .i64 ((B.length - n : Nat) : Int)) := by
    have hh : (w.setCells b 4 (bcs (B.drop n))).cell? ⟨b, 20, none⟩ = some (.int .i64 (B.length : Int)) := by rw [out_cell hl (by omega)]; exact h.held
    rw [← hw1, World.cell?_setCell_same _ _ _ hh]
  rw [hw1]
  clear hw1
  refine ⟨by rw [hd]; omega, ?_, ?_, fun k hk => ?_, ?_, fun k hk => by rw [World.frozen?_setCells]; exact l1 k hk⟩
  · rw [out_cell hr (by omega)]; exact f1
  · rw [out_cell hr (by omega)]; exact i1
  · by_cases h2 : k < B.length - n
    · rw [out_cell hr (by omega), c1 k hk, if_pos h2]
    · obtain ⟨j, rfl⟩ : ∃ j, k = B.length - n + j := ⟨k - (B.length - n), by omega⟩
      rw [show 4 + (B.length - n + j) = 4 + (B.length - n) + j by omega, World.cell?_setCells_in b (List.replicate (16 - (B.length - n)) (Value.int .u8 0)) (4 + (B.length - n)) w1 (fun i hi => by rw [hr] at hi; rw [show 4 + (B.length - n) + i = 4 + (B.length - n + i) by omega, c1 _ (by omega)]; rfl) j (by rw [hr]; omega), bt_out _ _ (by rw [hd]; omega)]
      simp
  · rw [out_cell hr (by omega), h1, hd]

theorem Rt.putF (h : Rt w b F I B) (v : Int) : Rt (w.setCell ⟨b, 1, none⟩ (.int .i64 v)) b v I B :=
  ⟨h.few, by rw [World.cell?_setCell_other _ _ _ _ (off_ne (by omega))]; exact h.text, World.cell?_setCell_same _ _ _ h.frm, by rw [World.cell?_setCell_other _ _ _ _ (off_ne (by omega))]; exact h.int, fun k hk => by rw [World.frozen?_setCell]; exact h.live k hk⟩
theorem Rt.putI (h : Rt w b F I B) (v : Int) : Rt (w.setCell ⟨b, 2, none⟩ (.int .i64 v)) b F v B :=
  ⟨h.few, by rw [World.cell?_setCell_other _ _ _ _ (off_ne (by omega))]; exact h.text, by rw [World.cell?_setCell_other _ _ _ _ (off_ne (by omega))]; exact h.frm, World.cell?_setCell_same _ _ _ h.int, fun k hk => by rw [World.frozen?_setCell]; exact h.live k hk⟩
theorem Rt.putB (h : Rt w b F I B) (B' : List UInt8) (hB : B'.length ≤ 16) : Rt (w.setCell ⟨b, 0, none⟩ (txt B')) b F I B' :=
  ⟨hB, World.cell?_setCell_same _ _ _ h.text, by rw [World.cell?_setCell_other _ _ _ _ (off_ne (by omega))]; exact h.frm, by rw [World.cell?_setCell_other _ _ _ _ (off_ne (by omega))]; exact h.int, fun k hk => by rw [World.frozen?_setCell]; exact h.live k hk⟩
end

/-- What Open and Close answer, and make. -/
def opE (e : Int) : Int := if e = 2 ∨ e = 3 then 0 else 1
def opF (F e : Int) : Int := if e = 2 then F + 1 else F
def opI (I e : Int) : Int := if e = 3 then I + 1 else I
def clE (F I e : Int) : Int := if e = 2 then (if F = 0 then 6 else 0) else if e = 3 then (if I = 0 then 6 else 0) else 1
def clF (F e : Int) : Int := if e = 2 ∧ F ≠ 0 then F - 1 else F
def clI (I e : Int) : Int := if e = 3 ∧ I ≠ 0 then I - 1 else I
/-- What Write answers, and makes. -/
def wrE (F : Int) (B s : List UInt8) : Int := if F = 0 then 14 else if s = [] then 0 else if B.length = 16 then 12 else 0
def wrN (F : Int) (B s : List UInt8) : Nat := if F = 0 then 0 else min s.length (16 - B.length)
def wrB (F : Int) (B s : List UInt8) : List UInt8 := if F = 0 then B else B ++ s.take (16 - B.length)
/-- What Read answers, and makes. -/
def rdE (I : Int) (B : List UInt8) (n : Int) : Int := if n < 0 then 2 else if n = 0 then 0 else if B = [] ∧ 0 < I then 8 else 0

theorem wrB_len (F : Int) (B s : List UInt8) (h : B.length ≤ 16) : (wrB F B s).length ≤ 16 := by
  unfold wrB; split
  · exact h
  · rw [List.length_append, List.length_take]; omega

/-- An error, or none, by its number. -/
def erT (c : Int) : Value := if c = 0 then .nilIface else .iface 51 (.int .i64 c)

/-- 'copy(dst, s)' from a string: as many of its first bytes as dst has room for. -/
theorem run_copy_text {P : Program} (w : World) (dT sT ty elem : TypeId) (b o dLen dCap : Nat) (s : List UInt8)
    (hu : P.underlying dT = some (.slice elem)) (hz : ∀ w, (Go.sizeOf elem).run P w = .ok 1 w)
    (hc : ∀ j, j < dLen → (w.cell? ⟨b, o + j, none⟩).isSome = true) (hf : ∀ j, j < dLen → w.frozen? ⟨b, o + j, none⟩ = false) :
    (Builtin.copy_ #[dT, sT] ty #[.slice (some ⟨b, o, none⟩) dLen dCap, txt s]).run P w = .ok (.int .i64 ((s.take dLen).length : Int)) (w.setCells b o (bcs (s.take dLen))) := by
  have hl : (bcs (s.take dLen)).length = min dLen s.length := by rw [bcs_len, List.length_take]
  have hst := run_storeCells_cells (P := P) b o (bcs (s.take dLen)) 0 w (by rw [hl]; intro j hj; simpa using hc j (by omega)) (by rw [hl]; intro j hj; simpa using hf j (by omega)) (bcs_one _)
  have hsz : (⟨s.toArray⟩ : ByteArray).size = s.length := by simp [ByteArray.size]
  have hm : Nat.min s.length dLen = min dLen s.length := Nat.min_comm _ _
  have htk : List.take (min dLen s.length) (List.map (fun x : UInt8 => Value.int .u8 (x.toNat : Int)) s) = bcs (s.take dLen) := by
    unfold bcs; rw [List.map_take]
    by_cases h : dLen ≤ s.length
    · rw [Nat.min_eq_left h]
    · rw [Nat.min_eq_right (by omega), List.take_of_length_le (by simp), List.take_of_length_le (by simp; omega)]
  simp [Builtin.copy_, run_underlying hu, Builtin.lenOf, Builtin.firstCells, hz, hsz, hm]
  rw [htk, hst]
  simp [Result.andThen, goInt]
end Go.Proofs.YtjkneekfijibiabGreatDoor

namespace Go.Proofs.YtjkneekfijibiabGreatDoor
open Go.RowKit
theorem tgrown_set (w : World) (b o : Nat) (v : Value) : w.grownBy (w.setCell ⟨b, o, none⟩ v) (some b) :=
  ⟨rfl, rfl, rfl, by simp [World.setCell], fun k _ h => Below.heap_setCell _ _ _ _ (fun e => h (by rw [e]))⟩
theorem tgrown_sets (b : Nat) : ∀ (vs : List Value) (o : Nat) (w : World), w.grownBy (w.setCells b o vs) (some b)
  | [], _, w => World.grownBy.refl w _
  | v :: r, o, w => by
    rw [World.setCells]
    have h := tgrown_set w b o v
    have k := tgrown_sets b r (o + 1) (w.setCell ⟨b, o, none⟩ v)
    exact ⟨k.os.trans h.os, k.tape.trans h.tape, k.output.trans h.output, Nat.le_trans h.size k.size, fun i hi hn => (k.block i (Nat.lt_of_lt_of_le hi h.size) hn).trans (h.block i hi hn)⟩
theorem drew_cells (b : Nat) : ∀ (vs : List Value) (o : Nat) (w : World), (w.setCells b o vs).drew = w.drew.setCells b o vs
  | [], _, _ => rfl
  | v :: r, o, w => by rw [World.setCells, World.setCells, drew_cells b r]; rfl
theorem tgrown_drew {w w' : World} {r : Option Nat} (h : w.grownBy w' r) : w.grownBy w'.drew r := ⟨h.os, h.tape, h.output, h.size, h.block⟩
theorem tgrown_trans {w w' w'' : World} {r : Option Nat} (h : w.grownBy w' r) (k : w'.grownBy w'' r) : w.grownBy w'' r :=
  ⟨k.os.trans h.os, k.tape.trans h.tape, k.output.trans h.output, Nat.le_trans h.size k.size, fun i hi hn => (k.block i (Nat.lt_of_lt_of_le hi h.size) hn).trans (h.block i hi hn)⟩

end Go.Proofs.YtjkneekfijibiabGreatDoor

namespace Go.Proofs.YtjkneekfijibiabGreatDoor
open Go.RowKit

theorem text_h (s : List UInt8) (n : Nat) (hn : n ≤ s.length) (w : World) : (Instr.slice 9 (txt s) none (some (.int .i64 (n : Int))) none).run Tryz.prog w = .ok (txt (s.take n)) w := by
  have hs : (⟨s.toArray⟩ : ByteArray).size = s.length := by simp [ByteArray.size]
  have e : (⟨s.toArray⟩ : ByteArray).extract 0 n = ⟨(s.take n).toArray⟩ := by apply ByteArray.ext; simp
  simp [Instr.slice, run_underlying Tryz.underlying9, Instr.sliceBounds, run_sliceBound, hs, hn, e]
theorem text_l (s : List UInt8) (n : Nat) (hn : n ≤ s.length) (w : World) : (Instr.slice 9 (txt s) (some (.int .i64 (n : Int))) none none).run Tryz.prog w = .ok (txt (s.drop n)) w := by
  have hs : (⟨s.toArray⟩ : ByteArray).size = s.length := by simp [ByteArray.size]
  have e : (⟨s.toArray⟩ : ByteArray).extract n s.length = ⟨(s.drop n).toArray⟩ := by
    apply ByteArray.ext
    simp only [ByteArray.data_extract]
    rw [List.extract_toArray]
    simp [List.extract, List.take_of_length_le]
  simp [Instr.slice, run_underlying Tryz.underlying9, Instr.sliceBounds, run_sliceBound, hs, hn, e]

section
variable {w : World} {b : Nat} {F I : Int} {B : List UInt8}

set_option maxHeartbeats 1000000 in
theorem Rt.open_ok (h : Rt w b F I B) (e : Int) (hF : 0 ≤ F) (hF' : F < 1000) (hI : 0 ≤ I) (hI' : I < 1000) :
    Calls Tryz.prog 132 #[tp b, .int .i64 e, .int .i64 1] w fun x w' => x = .returned (.int .i64 (opE e)) ∧ Rt w' b (opF F e) (opI I e) B ∧ w.grownBy w' (some b) := by
  have c1 := h.frm
  have c2 := h.int
  have l1 := h.live 1 (by omega)
  have l2 := h.live 2 (by omega)
  by_cases h2 : e = 2
  · subst h2
    have hg : ¬ F + 1 < 0 := by omega
    go_enter Tryz.func132, Tryz.ntmps132
    go_wp2
    go_ret
    exact ⟨rfl, h.putF (F + 1), tgrown_set _ _ _ _⟩
  · by_cases h3 : e = 3
    · subst h3
      have hg : ¬ I + 1 < 0 := by omega
      go_enter Tryz.func132, Tryz.ntmps132
      go_wp2
      go_ret
      exact ⟨rfl, h.putI (I + 1), tgrown_set _ _ _ _⟩
    · have e1 : opE e = 1 := by unfold opE; rw [if_neg (by omega)]
      have e2 : opF F e = F := by unfold opF; rw [if_neg h2]
      have e3 : opI I e = I := by unfold opI; rw [if_neg h3]
      have q2 : (e == 2) = false := by simp [h2]
      have q3 : (e == 3) = false := by simp [h3]
      rw [e1, e2, e3]
      go_enter Tryz.func132, Tryz.ntmps132
      go_wp2
      go_ret
      exact ⟨rfl, h, World.grownBy.refl _ _⟩

set_option maxHeartbeats 1000000 in
theorem Rt.close_ok (h : Rt w b F I B) (e : Int) (hF : 0 ≤ F) (hF' : F < 1000) (hI : 0 ≤ I) (hI' : I < 1000) :
    Calls Tryz.prog 132 #[tp b, .int .i64 e, .int .i64 (-1)] w fun x w' => x = .returned (.int .i64 (clE F I e)) ∧ Rt w' b (clF F e) (clI I e) B ∧ w.grownBy w' (some b) := by
  have c1 := h.frm
  have c2 := h.int
  have l1 := h.live 1 (by omega)
  have l2 := h.live 2 (by omega)
  by_cases h2 : e = 2
  · subst h2
    by_cases hz : F = 0
    · subst hz
      go_enter Tryz.func132, Tryz.ntmps132
      go_wp2
      go_ret
      exact ⟨rfl, h, World.grownBy.refl _ _⟩
    · have e1 : clE F I 2 = 0 := by unfold clE; rw [if_pos rfl, if_neg hz]
      have e2 : clF F 2 = F - 1 := by unfold clF; rw [if_pos ⟨rfl, hz⟩]
      have e3 : clI I 2 = I := by unfold clI; rw [if_neg (by omega)]
      have hg : ¬ F + -1 < 0 := by omega
      rw [e1, e2, e3]
      go_enter Tryz.func132, Tryz.ntmps132
      go_wp2
      go_ret
      exact ⟨rfl, h.putF (F - 1), tgrown_set _ _ _ _⟩
  · by_cases h3 : e = 3
    · subst h3
      by_cases hz : I = 0
      · subst hz
        go_enter Tryz.func132, Tryz.ntmps132
        go_wp2
        go_ret
        exact ⟨rfl, h, World.grownBy.refl _ _⟩
      · have e1 : clE F I 3 = 0 := by unfold clE; rw [if_neg (by omega), if_pos rfl, if_neg hz]
        have e2 : clF F 3 = F := by unfold clF; rw [if_neg (by omega)]
        have e3 : clI I 3 = I - 1 := by unfold clI; rw [if_pos ⟨rfl, hz⟩]
        have hg : ¬ I + -1 < 0 := by omega
        rw [e1, e2, e3]
        go_enter Tryz.func132, Tryz.ntmps132
        go_wp2
        go_ret
        exact ⟨rfl, h.putI (I - 1), tgrown_set _ _ _ _⟩
    · have e1 : clE F I e = 1 := by unfold clE; rw [if_neg h2, if_neg h3]
      have e2 : clF F e = F := by unfold clF; rw [if_neg (by omega)]
      have e3 : clI I e = I := by unfold clI; rw [if_neg (by omega)]
      have q2 : (e == 2) = false := by simp [h2]
      have q3 : (e == 3) = false := by simp [h3]
      rw [e1, e2, e3]
      go_enter Tryz.func132, Tryz.ntmps132
      go_wp2
      go_ret
      exact ⟨rfl, h, World.grownBy.refl _ _⟩
end
end Go.Proofs.YtjkneekfijibiabGreatDoor

namespace Go.Proofs.YtjkneekfijibiabGreatDoor
open Go.RowKit

theorem text_cat (a b : List UInt8) : ((⟨a.toArray⟩ : ByteArray) ++ ⟨b.toArray⟩) = ⟨(a ++ b).toArray⟩ := by apply ByteArray.ext; simp

section
variable {w : World} {b : Nat} {F I : Int} {B : List UInt8}

set_option maxHeartbeats 2000000 in
theorem Rt.write_ok (h : Rt w b F I B) (s : List UInt8) (hs100 : s.length ≤ 1000) :
    Calls Tryz.prog 134 #[tp b, txt s] w fun x w' => x = .returned (.tuple #[.int .i64 (wrN F B s : Int), .int .i64 (wrE F B s)]) ∧ Rt w' b F I (wrB F B s) ∧ w.grownBy w' (some b) := by
  have c0 := h.text
  have c1 := h.frm
  have l0 := h.live 0 (by omega)
  have hfew := h.few
  by_cases hz : F = 0
  · subst hz
    go_enter Tryz.func134, Tryz.ntmps134
    go_wp2
    go_ret2
    exact ⟨rfl, h, World.grownBy.refl _ _⟩
  · have hq : (F == 0) = false := by simp [hz]
    by_cases hs : s = []
    · subst hs
      have e1 : wrE F B [] = 0 := by unfold wrE; rw [if_neg hz, if_pos rfl]
      have e2 : wrN F B [] = 0 := by unfold wrN; rw [if_neg hz]; simp
      have e3 : wrB F B [] = B := by unfold wrB; rw [if_neg hz]; simp
      rw [e1, e2, e3]
      go_enter Tryz.func134, Tryz.ntmps134
      go_wp2
      go_ret2
      exact ⟨rfl, h, World.grownBy.refl _ _⟩
    · have hsq : s.isEmpty = false := by cases s with
        | nil => exact absurd rfl hs
        | cons _ _ => rfl
      by_cases hf : B.length = 16
      · have e1 : wrE F B s = 12 := by unfold wrE; rw [if_neg hz, if_neg hs, if_pos hf]
        have e2 : wrN F B s = 0 := by unfold wrN; rw [if_neg hz, hf]; simp
        have e3 : wrB F B s = B := by unfold wrB; rw [if_neg hz, hf]; simp
        rw [e1, e2, e3]
        go_enter Tryz.func134, Tryz.ntmps134
        go_wp2
        go_ret2
        exact ⟨rfl, h, World.grownBy.refl _ _⟩
      · have e1 : wrE F B s = 0 := by unfold wrE; rw [if_neg hz, if_neg hs, if_neg hf]
        obtain ⟨S, hS⟩ : ∃ S, s.take (16 - B.length) = S := ⟨_, rfl⟩
        have hSl : S.length = min s.length (16 - B.length) := by rw [← hS, List.length_take]; exact Nat.min_comm _ _
        have e2 : wrN F B s = S.length := by unfold wrN; rw [if_neg hz, hSl]
        have e3 : wrB F B s = B ++ S := by unfold wrB; rw [if_neg hz, hS]
        rw [e1, e2, e3]
        have hcat := text_cat B S
        have hfin := h.putB (B ++ S) (by rw [List.length_append]; omega)
        generalize B ++ S = BS at *
        by_cases hgt : (16 : Int) - (B.length : Int) < (s.length : Int)
        · have hsl := text_h s (16 - B.length) (by omega)
          rw [hS, show ((16 - B.length : Nat) : Int) = 16 - (B.length : Int) by omega] at hsl
          have hr : ((16 : Int) - (B.length : Int) == 0) = false := by simp; omega
          have hc : ¬ 9223372036854775807 < B.length + S.length := by omega
          clear hS hSl
          go_enter Tryz.func134, Tryz.ntmps134
          go_wp2
          go_ret2
          exact ⟨rfl, hfin, tgrown_set _ _ _ _⟩
        · have hSs : S = s := by rw [← hS]; exact List.take_of_length_le (by omega)
          subst hSs
          have hr : ((16 : Int) - (B.length : Int) == 0) = false := by simp; omega
          have hc : ¬ 9223372036854775807 < B.length + S.length := by omega
          clear hS hSl
          go_enter Tryz.func134, Tryz.ntmps134
          go_wp2
          go_ret2
          exact ⟨rfl, hfin, tgrown_set _ _ _ _⟩

set_option maxHeartbeats 2000000 in
theorem Rt.read_ok (h : Rt w b F I B) (n : Int) :
    Calls Tryz.prog 133 #[tp b, .int .i64 n] w fun x w' => x = .returned (.tuple #[txt (B.take n.toNat), .int .i64 (rdE I B n)]) ∧ Rt w' b F I (B.drop n.toNat) ∧ w.grownBy w' (some b) := by
  have c0 := h.text
  have c2 := h.int
  have l0 := h.live 0 (by omega)
  have hfew := h.few
  by_cases h0 : n < 0
  · have e1 : rdE I B n = 2 := by unfold rdE; rw [if_pos h0]
    have e2 : n.toNat = 0 := by omega
    rw [e1, e2, List.take_zero, List.drop_zero]
    go_enter Tryz.func133, Tryz.ntmps133
    go_wp2
    go_ret2
    exact ⟨rfl, h, World.grownBy.refl _ _⟩
  · by_cases hz : n = 0
    · subst hz
      go_enter Tryz.func133, Tryz.ntmps133
      go_wp2
      go_ret2
      exact ⟨rfl, h, World.grownBy.refl _ _⟩
    · have hnq : (n == 0) = false := by simp [hz]
      by_cases hB : B = [] ∧ 0 < I
      · obtain ⟨rfl, hI0⟩ := hB
        have e1 : rdE I [] n = 8 := by unfold rdE; rw [if_neg h0, if_neg hz, if_pos ⟨rfl, hI0⟩]
        rw [e1, List.take_nil, List.drop_nil]
        go_enter Tryz.func133, Tryz.ntmps133
        go_wp2
        go_ret2
        exact ⟨rfl, h, World.grownBy.refl _ _⟩
      · have e1 : rdE I B n = 0 := by unfold rdE; rw [if_neg h0, if_neg hz, if_neg hB]
        rw [e1]
        have hfin := h.putB (B.drop n.toNat) (by rw [List.length_drop]; omega)
        have hg : B.isEmpty = true ∧ ¬ 0 < I ∨ B.isEmpty = false := by
          cases B with
          | nil => exact .inl ⟨rfl, fun e => hB ⟨rfl, e⟩⟩
          | cons _ _ => exact .inr rfl
        clear hB e1
        by_cases hgt : (B.length : Int) < n
        · have e2 : B.take n.toNat = B := List.take_of_length_le (by omega)
          have e3 : B.drop n.toNat = [] := List.drop_eq_nil_of_le (by omega)
          rw [e3] at hfin
          rw [e2, e3]
          have hs1 := text_h B B.length (Nat.le_refl _)
          have hs2 := text_l B B.length (Nat.le_refl _)
          rw [List.take_of_length_le (Nat.le_refl _)] at hs1
          rw [List.drop_eq_nil_of_le (Nat.le_refl _)] at hs2
          clear e2 e3
          rcases hg with ⟨g1, g2⟩ | g1
          all_goals
            go_enter Tryz.func133, Tryz.ntmps133
            go_wp2
            go_ret2
            exact ⟨rfl, hfin, tgrown_set _ _ _ _⟩
        · have hs1 := text_h B n.toNat (by omega)
          have hs2 := text_l B n.toNat (by omega)
          rw [show ((n.toNat : Nat) : Int) = n by omega] at hs1 hs2
          generalize B.take n.toNat = T at *
          generalize B.drop n.toNat = E at *
          rcases hg with ⟨g1, g2⟩ | g1
          all_goals
            go_enter Tryz.func133, Tryz.ntmps133
            go_wp2
            go_ret2
            exact ⟨rfl, hfin, tgrown_set _ _ _ _⟩
end
end Go.Proofs.YtjkneekfijibiabGreatDoor

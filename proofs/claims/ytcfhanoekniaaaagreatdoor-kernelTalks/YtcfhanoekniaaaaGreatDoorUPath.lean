/- Paths plainly: a text's parts between slashes; the names of a PATH. -/
import Derived.WalkKit
import Derived.Lib.SplitLaws
import Derived.Test.YtcfhanoekniaaaaGreatDoorRows
import Derived.WalkLawsBesides
import Derived.Outline
import Derived.Deep.LoopGhost
import Derived.Deep.DeepCutAuto
import Derived.Deep.Light
import Derived.WalkSmall
import Derived.RangeFuncNested
import Derived.RangeFuncBound
import Derived.RangeFuncCalls
import Derived.RangeFuncLeaves
import Derived.Shelf.Abstract
import Derived.OwnWalkIn
import Derived.TacticsInMore
import Derived.LoopNIn
import Derived.LoopIn
import Derived.Lib.IndexLaws
import Derived.Lib.IndexMore
import Derived.Lib.LastIndexByte
import Derived.Sort.LoopGhostIn
import Derived.OneCell
import Derived.Test.YtcfhanoekniaaaaGreatDoorShelfU
namespace Go.Proofs.YtcfhanoekniaaaaGreatDoor
open Go.RowKit

abbrev Nm := List UInt8
/-- A text by its bytes. -/
abbrev tx (l : List UInt8) : Value := .string ⟨l.toArray⟩

/-- A text's parts between its slashes. -/
def parts : List UInt8 → List Nm
  | [] => [[]]
  | b :: l => if b = 47 then [] :: parts l else match parts l with
    | [] => [[b]]
    | h :: t => (b :: h) :: t
/-- May a part be a name? -/
def isName (s : Nm) : Bool := decide (1 ≤ s.length) && decide (s.length ≤ 12) && !(s == [46]) && !(s == [46, 46])
/-- The names of a PATH (none: it is no PATH). -/
def namesOf (p : List UInt8) : Option (List Nm) :=
  if p = [47] then some [] else match parts p with
  | [] :: x :: t => if (x :: t).all isName then some (x :: t) else none
  | _ => none
end Go.Proofs.YtcfhanoekniaaaaGreatDoor

namespace Go.Proofs.YtcfhanoekniaaaaGreatDoor

/-- Texts that came in. -/
def Strs (w : World) (ad : Option Addr) (len : Nat) (q : Nat → List UInt8) : Prop :=
  len = 0 ∨ ∃ blk off, ad = some ⟨blk, off, none⟩ ∧ blk < w.heap.size ∧ ∀ i, i < len → w.cell? ⟨blk, off + i, none⟩ = some (tx (q i))
end Go.Proofs.YtcfhanoekniaaaaGreatDoor

namespace Go.Proofs.YtcfhanoekniaaaaGreatDoor
open Go.RowKit Go.Maps

theorem wtext_h (s : List UInt8) (n : Nat) (hn : n ≤ s.length) (w : World) : (Instr.slice 9 (tx s) none (some (.int .i64 (n : Int))) none).run Tryz.prog w = .ok (tx (s.take n)) w := by
  have hs : (⟨s.toArray⟩ : ByteArray).size = s.length := by simp [ByteArray.size]
  have e : (⟨s.toArray⟩ : ByteArray).extract 0 n = ⟨(s.take n).toArray⟩ := by apply ByteArray.ext; simp
  simp [Instr.slice, run_underlying Tryz.underlying9, Instr.sliceBounds, run_sliceBound, hs, hn, e]
theorem wtext_cat (a b : List UInt8) : ((⟨a.toArray⟩ : ByteArray) ++ ⟨b.toArray⟩) = ⟨(a ++ b).toArray⟩ := by apply ByteArray.ext; simp

theorem wtext_l (s : List UInt8) (n : Nat) (hn : n ≤ s.length) (w : World) : (Instr.slice 9 (tx s) (some (.int .i64 (n : Int))) none none).run Tryz.prog w = .ok (tx (s.drop n)) w := by
  have hs : (⟨s.toArray⟩ : ByteArray).size = s.length := by simp [ByteArray.size]
  have e : (⟨s.toArray⟩ : ByteArray).extract n s.length = ⟨(s.drop n).toArray⟩ := by
    apply ByteArray.ext
    simp only [ByteArray.data_extract, List.extract_toArray, List.extract]
    rw [List.take_of_length_le (by simp)]
  simp [Instr.slice, run_underlying Tryz.underlying9, Instr.sliceBounds, run_sliceBound, hs, hn, e]
end Go.Proofs.YtcfhanoekniaaaaGreatDoor

namespace Go.Proofs.YtcfhanoekniaaaaGreatDoor
open Go.RowKit Go.Shelf
attribute [local go_sem] Oper.semAt_some

end Go.Proofs.YtcfhanoekniaaaaGreatDoor

namespace Go.Proofs.YtcfhanoekniaaaaGreatDoor
open Go.RowKit Go.Shelf
attribute [local go_sem] Oper.semAt_some

end Go.Proofs.YtcfhanoekniaaaaGreatDoor

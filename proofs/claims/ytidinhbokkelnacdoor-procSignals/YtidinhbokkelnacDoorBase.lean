/- Pointers, errors, steps of memory: what all other texts lean on. -/
import Derived.Test.YtidinhbokkelnacDoorKeys
import Derived.ChangeAlike
namespace Go.Proofs.YtidinhbokkelnacDoor
open Go.RowKit Go.Maps

abbrev wp (b : Nat) : Value := .pointer (some ⟨b, 0, none⟩)
theorem zero_num (w : World) : (zeroValue 3).run Tryd.prog w = .ok (.int .i64 0) w := by kernel_rfl
/-- An error, or none. -/
abbrev uer (k : Int) : Value := .iface 40 (.int .i64 k)
def uev (c : Int) : Value := if c = 0 then .nilIface else uer c
theorem uev_zero : uev 0 = .nilIface := rfl
theorem uev_ne {c : Int} (h : c ≠ 0) : uev c = uer c := if_neg h

section
variable {w w' : World} {O : Nat → Prop}
/-- All but a few blocks stayed. -/
structure Wt (A : Nat → Prop) (w w' : World) : Prop where
  os : w'.os = w.os
  tape : w'.tape = w.tape
  output : w'.output = w.output
  size : w.heap.size ≤ w'.heap.size
  block : ∀ i, i < w.heap.size → ¬ A i → w'.heap[i]? = w.heap[i]?
theorem Wt.below (A : Nat → Prop) (h : Below w.heap.size w w') : Wt A w w' := ⟨h.os, h.tape, h.output, h.size, fun i hi _ => h.block i hi⟩
theorem Wt.grown {A : Nat → Prop} {g : Nat} (h : w.grownBy w' (some g)) (hg : A g) : Wt A w w' := ⟨h.os, h.tape, h.output, h.size, fun i hi hA => h.block i hi (fun e => hA (by rw [Option.some.inj e]; exact hg))⟩
theorem Wt.trans {A : Nat → Prop} {w1 w2 : World} (h : Wt A w w1) (k : Wt A w1 w2) : Wt A w w2 :=
  ⟨k.os.trans h.os, k.tape.trans h.tape, k.output.trans h.output, Nat.le_trans h.size k.size, fun i hi hA => (k.block i (Nat.lt_of_lt_of_le hi h.size) hA).trans (h.block i hi hA)⟩
/-- All but its own blocks stayed; what is its own now was its own, or is new. -/
structure Stp (w w' : World) (O O' : Nat → Prop) : Prop where
  wt : Wt O w w'
  own : ∀ i, O' i → O i ∨ w.heap.size ≤ i

theorem Stp.refl (w : World) (O : Nat → Prop) : Stp w w O O := ⟨⟨rfl, rfl, rfl, Nat.le_refl _, fun _ _ _ => rfl⟩, fun _ h => .inl h⟩
theorem Stp.below {O : Nat → Prop} (h : Below w.heap.size w w') : Stp w w' O O := ⟨.below _ h, fun _ h => .inl h⟩
theorem Stp.trans {w1 w2 : World} {O1 O2 : Nat → Prop} (h : Stp w w1 O O1) (k : Stp w1 w2 O1 O2) : Stp w w2 O O2 :=
  ⟨⟨k.wt.os.trans h.wt.os, k.wt.tape.trans h.wt.tape, k.wt.output.trans h.wt.output, Nat.le_trans h.wt.size k.wt.size, fun i hi hn => (k.wt.block i (Nat.lt_of_lt_of_le hi h.wt.size) (fun ho => by
      rcases h.own i ho with e | e
      · exact hn e
      · omega)).trans (h.wt.block i hi hn)⟩,
   fun i hi => by
    rcases k.own i hi with e | e
    · exact h.own i e
    · exact .inr (Nat.le_trans h.wt.size e)⟩
/-- Memory that is not its own stays. -/
theorem Stp.keep {O' P : Nat → Prop} (h : Stp w w' O O') (hP : ∀ i, P i → ¬ O i ∧ i < w.heap.size) (i : Nat) (hi : P i) : w'.heap[i]? = w.heap[i]? := h.wt.block i (hP i hi).2 (hP i hi).1
theorem Stp.apart {O' P : Nat → Prop} (h : Stp w w' O O') (hP : ∀ i, P i → ¬ O i ∧ i < w.heap.size) (i : Nat) (hi : P i) : ¬ O' i ∧ i < w'.heap.size := by
  obtain ⟨h1, h2⟩ := hP i hi
  refine ⟨fun ho => ?_, Nat.lt_of_lt_of_le h2 h.wt.size⟩
  rcases h.own i ho with e | e
  · exact h1 e
  · omega

end
end Go.Proofs.YtidinhbokkelnacDoor

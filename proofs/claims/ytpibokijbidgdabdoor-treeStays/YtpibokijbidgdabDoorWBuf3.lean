/- Bytes of a call's own: a text copied in. -/
import Derived.Test.YtpibokijbidgdabDoorWBuf2
namespace Go.Proofs.YtpibokijbidgdabDoor
open Go.RowKit Go.Maps

section
variable {w w' : World} {B : Nat} {v : Value} {l : List UInt8}
/-- A text copied in. -/
theorem Bfr.copy {g cap : Nat} (hv : v = .slice (some ⟨g, 0, none⟩) l.length cap) (h : Bfr w B v l) (a : Nat) (x : List UInt8) (hx : a + x.length ≤ l.length) (ty : TypeId) :
    (Builtin.copy_ #[127, 9] ty #[.slice (some ⟨g, a, none⟩) (l.length - a) (cap - a), tx x]).run Tryd.prog w = .ok (.int .i64 (x.length : Int)) (w.setCells g a (u8s x)) ∧ Bfr (w.setCells g a (u8s x)) B v (l.take a ++ x ++ l.drop (a + x.length)) ∧ B ≤ g := by
  obtain ⟨g', cap', e, hB, hlt, hcap, h1, h2⟩ := h
  rw [hv] at e
  cases e
  have hs : (⟨x.toArray⟩ : ByteArray).size = x.length := by simp [ByteArray.size]
  have hu : (u8s x).length = x.length := by unfold u8s; rw [List.length_map]
  have hc : ∀ j, j < (u8s x).length → (w.cell? ⟨g, a + j, none⟩).isSome = true := fun j hj => (h2 _ (by omega)).1
  refine ⟨?_, ⟨g, cap, ?_, hB, Nat.lt_of_lt_of_le hlt (below_setCells' (B := 0) (a := w) (Nat.zero_le _) _ _ _ (Below.refl _ _)).size, ?_, fun j hj => ?_, fun j hj => ?_⟩, hB⟩
  · have := run_copy_string (P := Tryd.prog) w 127 9 ty 5 g a (l.length - a) (cap - a) ⟨x.toArray⟩ Tryd.underlying127 (fun w => by kernel_rfl) (by rw [hs]; omega) (fun j hj => (h2 _ (by rw [hs] at hj; omega)).1) (fun j hj => (h2 _ (by rw [hs] at hj; omega)).2)
    rw [hs] at this
    exact this
  · rw [hv, List.length_append, List.length_append, List.length_take, List.length_drop]
    congr 1; omega
  · rw [List.length_append, List.length_append, List.length_take, List.length_drop]; omega
  · rw [List.length_append, List.length_append, List.length_take, List.length_drop] at hj
    by_cases e1 : j < a
    · rw [World.cell?_setCells_out _ _ _ _ _ (fun _ _ => .inl e1), List.getElem_append_left (by rw [List.length_append, List.length_take]; omega), List.getElem_append_left (by rw [List.length_take]; omega), List.getElem_take]
      exact h1 j (by omega)
    · by_cases e2 : j < a + x.length
      · obtain ⟨k, rfl⟩ : ∃ k, j = a + k := ⟨j - a, by omega⟩
        have hk : k < x.length := by omega
        have e : (l.take a ++ x ++ l.drop (a + x.length))[a + k]? = some x[k] := by
          rw [List.append_assoc, List.getElem?_append_right (by rw [List.length_take]; omega), List.length_take, show a + k - min a l.length = k by omega, List.getElem?_append_left hk, List.getElem?_eq_getElem hk]
        obtain ⟨_, e'⟩ := List.getElem?_eq_some_iff.1 e
        rw [World.cell?_setCells_in g (u8s x) a w hc k (by rw [hu]; omega), e']
        simp only [u8s, List.getElem_map]
      · have hk : j < l.length := by omega
        have e : (l.take a ++ x ++ l.drop (a + x.length))[j]? = some l[j] := by
          rw [List.getElem?_append_right (by rw [List.length_append, List.length_take]; omega), List.length_append, List.length_take, List.getElem?_drop, show a + x.length + (j - (min a l.length + x.length)) = j by omega, List.getElem?_eq_getElem hk]
        obtain ⟨_, e'⟩ := List.getElem?_eq_some_iff.1 e
        rw [World.cell?_setCells_out _ _ _ _ _ (fun _ _ => .inr (by rw [hu]; show _ ≤ j; omega)), e']
        exact h1 j hk
  · rw [World.frozen?_setCells]
    refine ⟨?_, (h2 j hj).2⟩
    by_cases e1 : j < a ∨ a + x.length ≤ j
    · rw [World.cell?_setCells_out _ _ _ _ _ (fun _ _ => by rw [hu]; exact e1)]; exact (h2 j hj).1
    · obtain ⟨k, rfl⟩ : ∃ k, j = a + k := ⟨j - a, by omega⟩
      rw [World.cell?_setCells_in g (u8s x) a w hc k (by rw [hu]; omega)]; rfl
end
end Go.Proofs.YtpibokijbidgdabDoor

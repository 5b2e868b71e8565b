/- Bytes of a call's own: out of a text, one more, a text copied in, and a text again. -/
import Derived.Test.YtpibokijbidgdabDoorWText
import Derived.ArgAppend
import Derived.Lib.ConvBytes
import Derived.Lib.LazyBuf
import Derived.Laws.IdiomStrings
namespace Go.Proofs.YtpibokijbidgdabDoor
open Go.RowKit

def u8s (l : List UInt8) : List Value := l.map fun x => Value.int .u8 (x.toNat : Int)
/-- A list of bytes in memory of its own, from block B on. -/
def Bfr (w : World) (B : Nat) (v : Value) (l : List UInt8) : Prop :=
  ∃ g cap, v = .slice (some ⟨g, 0, none⟩) l.length cap ∧ B ≤ g ∧ g < w.heap.size ∧ l.length ≤ cap ∧ (∀ j (h : j < l.length), w.cell? ⟨g, j, none⟩ = some (.int .u8 (l[j].toNat : Int))) ∧ ∀ j, j < cap → (w.cell? ⟨g, j, none⟩).isSome = true ∧ w.frozen? ⟨g, j, none⟩ = false

theorem u8s_get {l : List UInt8} {j : Nat} {u : Value} (h : (u8s l)[j]? = some u) : ∃ hj : j < l.length, u = .int .u8 (l[j].toNat : Int) := by
  unfold u8s at h
  rw [List.getElem?_map] at h
  cases e : l[j]? with
  | none => rw [e] at h; cases h
  | some x =>
    rw [e] at h
    obtain ⟨hj, hx⟩ := List.getElem?_eq_some_iff.1 e
    exact ⟨hj, by rw [hx]; exact (Option.some.inj h).symm⟩

section
variable {w w' : World} {B : Nat} {v : Value} {l : List UInt8}

theorem Bfr.drop {g : Nat} (h : Bfr w B v l) (hg : w.grownBy w' (some g)) (hgB : g < B) : Bfr w' B v l := by
  obtain ⟨g', cap, rfl, hB, hl, hc, h1, h2⟩ := h
  have hb : w'.heap[g']? = w.heap[g']? := hg.block g' hl (fun e => by have := Option.some.inj e; omega)
  exact ⟨g', cap, rfl, hB, Nat.lt_of_lt_of_le hl hg.size, hc, fun j hj => by rw [World.cell?_of_block hb]; exact h1 j hj, fun j hj => by rw [World.cell?_of_block hb, World.frozen?_of_block hb]; exact h2 j hj⟩
theorem Bfr.alloc (h : Bfr w B v l) (o : Obj) : Bfr (w.alloc o) B v l := by
  obtain ⟨g', cap, rfl, hB, hl, hc, h1, h2⟩ := h
  have hb : (w.alloc o).heap[g']? = w.heap[g']? := Below.heap_alloc _ _ _ hl
  exact ⟨g', cap, rfl, hB, Nat.lt_of_lt_of_le hl (by show _ ≤ (w.heap.push _).size; rw [Array.size_push]; omega), hc, fun j hj => by rw [World.cell?_of_block hb]; exact h1 j hj, fun j hj => by rw [World.cell?_of_block hb, World.frozen?_of_block hb]; exact h2 j hj⟩

/-- A text as bytes. -/
theorem bfr_made (w : World) (s : List UInt8) : ∃ v w', (convert 9 127 (tx s)).run Tryd.prog w = .ok v w' ∧ Bfr w' w.heap.size v s ∧ Below w.heap.size w w' := by
  have hs : (⟨s.toArray⟩ : ByteArray).size = s.length := by simp [ByteArray.size]
  refine ⟨_, _, Lib.run_convert_string_bytes (P := Tryd.prog) w 9 127 5 ⟨s.toArray⟩ Tryd.underlying9 Tryd.underlying127 Tryd.underlying5, ?_, ?_⟩
  · have hge : s.length ≤ grownCap w s.length 0 5 := grownCap_ge w s.length 0 5
    rw [hs]
    refine ⟨w.heap.size, _, rfl, Nat.le_refl _, by rw [Lib.bytesWorld_size]; omega, hge, fun j hj => ?_, fun j hj => ?_⟩
    · rw [Lib.bytesWorld_cell _ _ _ _ (by rw [hs]; exact hj)]
      simp [List.getD, hj]
    · have hz : (Lib.bytesCells w 5 ⟨s.toArray⟩).size = grownCap w s.length 0 5 := by
        simp only [Lib.bytesCells, Array.size_append, Array.size_map, Array.size_replicate, hs, List.size_toArray]; omega
      have hn := Lib.bytesWorld_at_new w 5 ⟨s.toArray⟩
      rw [hz] at hn
      constructor
      · rw [cell_of_row _ _ j _ _ _ hn, Array.getElem?_eq_getElem (by rw [hz]; exact hj)]; rfl
      · simp only [World.frozen?, hn]
        simp; omega
  · exact ⟨rfl, rfl, rfl, by rw [Lib.bytesWorld_size]; omega, fun k hk => Lib.bytesWorld_at_old w _ _ k hk⟩

/-- And back. -/
theorem Bfr.text (h : Bfr w B v l) : (convert 127 9 v).run Tryd.prog w = .ok (tx l) w := by
  obtain ⟨g, cap, rfl, hB, hl, hc, h1, h2⟩ := h
  exact run_convert_bytes_back (P := Tryd.prog) w 127 9 5 ⟨g, 0, none⟩ cap l Tryd.underlying127 Tryd.underlying5 Tryd.underlying9 (fun j hj => by rw [Addr.add_lit, Nat.zero_add]; exact h1 j hj)
end
end Go.Proofs.YtpibokijbidgdabDoor

/- Bytes of a call's own: out of a text, one more, a text copied in, and a text again. -/
import Derived.Test.YtjkneekfijibiabGreatDoorWAbs
import Derived.ArgAppend
import Derived.Lib.ConvBytes
import Derived.Lib.LazyBuf
import Derived.Laws.IdiomStrings
namespace Go.Proofs.YtjkneekfijibiabGreatDoor
open Go.RowKit

def u8s (l : List UInt8) : List Value := l.map fun x => Value.int .u8 (x.toNat : Int)
/-- A list of bytes in memory of its own, from block B on. -/
def Bfr (w : World) (B : Nat) (v : Value) (l : List UInt8) : Prop :=
  ∃ g cap, v = .slice (some ⟨g, 0, none⟩) l.length cap ∧ B ≤ g ∧ g < w.heap.size ∧ l.length ≤ cap ∧ (∀ j (h : j < l.length), w.cell? ⟨g, j, none⟩ = some (.int .u8 (l[j].toNat : Int))) ∧ ∀ j, j < cap → (w.cell? ⟨g, j, none⟩).isSome = true ∧ w.frozen? ⟨g, j, none⟩ = false

theorem u8s_get {l : List UInt8} {j : Nat} {u : Value} (h : (u8s l)[j]? = some u) : ∃ hj : j < l.length, u = .int .u8 (l[j].toNat : Int) := by
  unfold u8s at h
  rw [List.getElem?_map] at h
  cases e : l[j]? with
  | none => rw [e] at h; cases h
  | some x =>
    rw [e] at h
    obtain ⟨hj, hx⟩ := List.getElem?_eq_some_iff.1 e
    exact ⟨hj, by rw [hx]; exact (Option.some.inj h).symm⟩

section
variable {w w' : World} {B : Nat} {v : Value} {l : List UInt8}

theorem Bfr.drop {g : Nat} (h : Bfr w B v l) (hg : w.grownBy w' (some g)) (hgB : g < B) : Bfr w' B v l := by
  obtain ⟨g', cap, rfl, hB, hl, hc, h1, h2⟩ := h
  have hb : w'.heap[g']? = w.heap[g']? := hg.block g' hl (fun e => by have := Option.some.inj e; omega)
  exact ⟨g', cap, rfl, hB, Nat.lt_of_lt_of_le hl hg.size, hc, fun j hj => by rw [World.cell?_of_block hb]; exact h1 j hj, fun j hj => by rw [World.cell?_of_block hb, World.frozen?_of_block hb]; exact h2 j hj⟩
theorem Bfr.alloc (h : Bfr w B v l) (o : Obj) : Bfr (w.alloc o) B v l := by
  obtain ⟨g', cap, rfl, hB, hl, hc, h1, h2⟩ := h
  have hb : (w.alloc o).heap[g']? = w.heap[g']? := Below.heap_alloc _ _ _ hl
  exact ⟨g', cap, rfl, hB, Nat.lt_of_lt_of_le hl (by show _ ≤ (w.heap.push _).size; rw [Array.size_push]; omega), hc, fun j hj => by rw [World.cell?_of_block hb]; exact h1 j hj, fun j hj => by rw [World.cell?_of_block hb, World.frozen?_of_block hb]; exact h2 j hj⟩

/-- A text as bytes. -/
theorem bfr_made (w : World) (s : List UInt8) : ∃ v w', (convert 9 29 (tx s)).run Tryz.prog w = .ok v w' ∧ Bfr w' w.heap.size v s ∧ Below w.heap.size w w' := by
  have hs : (⟨s.toArray⟩ : ByteArray).size = s.length := by simp [ByteArray.size]
  refine ⟨_, _, Lib.run_convert_string_bytes (P := Tryz.prog) w 9 29 5 ⟨s.toArray⟩ Tryz.underlying9 Tryz.underlying29 Tryz.underlying5, ?_, ?_⟩
  · have hge : s.length ≤ grownCap w s.length 0 5 := grownCap_ge w s.length 0 5
    rw [hs]
    refine ⟨w.heap.size, _, rfl, Nat.le_refl _, by rw [Lib.bytesWorld_size]; omega, hge, fun j hj => ?_, fun j hj => ?_⟩
    · rw [Lib.bytesWorld_cell _ _ _ _ (by rw [hs]; exact hj)]
      simp [List.getD, hj]
    · have hz : (Lib.bytesCells w 5 ⟨s.toArray⟩).size = grownCap w s.length 0 5 := by
        simp only [Lib.bytesCells, Array.size_append, Array.size_map, Array.size_replicate, hs, List.size_toArray]; omega
      have hn := Lib.bytesWorld_at_new w 5 ⟨s.toArray⟩
      rw [hz] at hn
      constructor
      · rw [cell_of_row _ _ j _ _ _ hn, Array.getElem?_eq_getElem (by rw [hz]; exact hj)]; rfl
      · simp only [World.frozen?, hn]
        simp; omega
  · exact ⟨rfl, rfl, rfl, by rw [Lib.bytesWorld_size]; omega, fun k hk => Lib.bytesWorld_at_old w _ _ k hk⟩

/-- And back. -/
theorem Bfr.text (h : Bfr w B v l) : (convert 29 9 v).run Tryz.prog w = .ok (tx l) w := by
  obtain ⟨g, cap, rfl, hB, hl, hc, h1, h2⟩ := h
  exact run_convert_bytes_back (P := Tryz.prog) w 29 9 5 ⟨g, 0, none⟩ cap l Tryz.underlying29 Tryz.underlying5 Tryz.underlying9 (fun j hj => by rw [Addr.add_lit, Nat.zero_add]; exact h1 j hj)
end
end Go.Proofs.YtjkneekfijibiabGreatDoor

namespace Go.Proofs.YtjkneekfijibiabGreatDoor
open Go.RowKit

theorem below_setCells' {B b : Nat} {a : World} (hb : B ≤ b) : ∀ (vs : List Value) (o : Nat) (w : World), Below B a w → Below B a (w.setCells b o vs)
  | [], _, _, h => h
  | v :: r, o, _, h => below_setCells' hb r (o + 1) _ (h.setCell (p := ⟨b, o, none⟩) hb v)

section
variable {w w' : World} {B : Nat} {v : Value} {l : List UInt8}

theorem bfr_own {n : Nat} (h : w.ownsRow B 5 1 v (n + 1) (u8s l)) (hn : l.length = n + 1) : Bfr w B v l := by
  obtain ⟨_, hh⟩ := h
  rcases hh with ⟨_, e⟩ | ⟨g, cap, cur, rfl, hB, hg, hc, _, hz, ht⟩
  · omega
  · rw [Nat.mul_one] at hz ht
    refine ⟨g, cap, by rw [hn], hB, (Array.getElem?_eq_some_iff.1 hg).1, by omega, fun j hj => ?_, fun j hj => ⟨?_, ?_⟩⟩
    · rw [cell_of_row _ _ j _ _ _ hg]
      have e1 : (u8s l)[j]? = some (.int .u8 (l[j].toNat : Int)) := by unfold u8s; rw [List.getElem?_map, List.getElem?_eq_getElem hj]; rfl
      rw [← ht, List.getElem?_take_of_lt (by omega), Array.getElem?_toList] at e1
      exact e1
    · rw [cell_of_row _ _ j _ _ _ hg, Array.getElem?_eq_getElem (by omega)]; rfl
    · simp [World.frozen?, hg]

theorem wpList_bapp {ops : Array Oper} {rest : List Oper} {o : Oper} {a : Act} {Q : Exit → Act → World → Prop} (hgd : o.guard = none) (s x : Operand) (hop : o.op = Op.call { callee := Callee.builtin Builtin.append, args := #[s, x], argTypes := #[29, 29] })
    (hs : a.eval s = v) (hb : Bfr w B v l) (hBw : B ≤ w.heap.size) (b : UInt8) (ad : Addr) (c : Nat) (hx : a.eval x = .slice (some ad) 1 c) (hc : w.cell? ad = some (.int .u8 (b.toNat : Int))) (hl : l.length ≤ 100000)
    (h : ∀ v' w', Bfr w' B v' (l ++ [b]) → Below B w w' → wpList Tryz.prog ops Q rest (a.put o.dst v') w') : wpList Tryz.prog ops Q (o :: rest) a w := by
  obtain ⟨g, cap, rfl, hB, hlt, hcap, h1, h2⟩ := hb
  obtain ⟨i0, hi, hz0, hz1, hz2⟩ := info_parts (P := Tryz.prog) (e := 5) (z := .int .u8 0) (size := 1) (bytes := 1) (by kernel_rfl)
  have hlen : (u8s l).length = l.length := by unfold u8s; rw [List.length_map]
  refine wpList_append_arg w hgd s x 29 hop 5 i0 (.int .u8 0) 1 1 Tryz.underlying29 hi hz0 hz1 hz2 rfl (by decide) g 0 l.length cap (u8s l) hs (by rw [hlen, Nat.mul_one]) (fun j u e => ?_) ad 1 c [.int .u8 (b.toNat : Int)] hx rfl (fun j u e => ?_) (fun u hu => ?_) (fun hr j hj => ?_) (by unfold maxLen; omega) (by omega) (fun hr => ?_) (fun hr v' w' ho hg => ?_)
  · obtain ⟨hj, rfl⟩ := u8s_get e
    rw [Nat.zero_add]; exact h1 j hj
  · cases j with
    | zero => rw [List.getElem?_cons_zero] at e; cases e; rw [show ad.add 0 = ad by cases ad; rfl]; exact hc
    | succ j => simp at e
  · rw [List.mem_singleton] at hu; subst hu; rfl
  · simp only [List.length_singleton] at hj
    have := h2 (0 + l.length * 1 + j) (by omega)
    exact this
  · refine h _ _ ⟨g, cap, by rw [List.length_append]; rfl, hB, ?_, by rw [List.length_append]; exact hr, fun j hj => ?_, fun j hj => ?_⟩ (below_setCells' hB _ _ _ (Below.refl _ _))
    · exact Nat.lt_of_lt_of_le hlt (below_setCells' (B := 0) (a := w) (Nat.zero_le _) _ _ _ (Below.refl _ _)).size
    · rw [List.length_append, List.length_singleton] at hj
      by_cases e : j = l.length
      · subst e
        have := World.cell?_setCells_in g [.int .u8 (b.toNat : Int)] (0 + l.length * 1) w (fun j hj => by
          simp only [List.length_singleton] at hj
          exact (h2 _ (by omega)).1) 0 (by simp)
        simp only [Nat.zero_add, Nat.mul_one, Nat.add_zero] at this ⊢
        rw [this]; simp
      · rw [World.cell?_setCells_out _ _ _ _ _ (fun _ _ => .inl (by show j < _; omega)), List.getElem_append_left (by omega)]
        exact h1 j (by omega)
    · rw [World.frozen?_setCells]
      refine ⟨?_, (h2 j hj).2⟩
      by_cases e : j = l.length
      · subst e
        have := World.cell?_setCells_in g [.int .u8 (b.toNat : Int)] (0 + l.length * 1) w (fun j hj => by
          simp only [List.length_singleton] at hj
          exact (h2 _ (by omega)).1) 0 (by simp)
        simp only [Nat.zero_add, Nat.mul_one, Nat.add_zero] at this ⊢
        rw [this]; rfl
      · rw [World.cell?_setCells_out _ _ _ _ _ (fun _ _ => by show j < _ ∨ _ ≤ j; simp only [List.length_singleton]; omega)]
        exact (h2 j hj).1
  · have e : u8s l ++ [.int .u8 (b.toNat : Int)] = u8s (l ++ [b]) := by unfold u8s; rw [List.map_append]; rfl
    rw [e] at ho
    have hbf := bfr_own ho (by rw [List.length_append]; rfl)
    obtain ⟨g', cap', ev, hB', rest'⟩ := hbf
    exact h _ _ ⟨g', cap', ev, Nat.le_trans hBw hB', rest'⟩ ⟨hg.os, hg.tape, hg.output, hg.size, fun i hi => hg.block i (Nat.lt_of_lt_of_le hi hBw) (by simp)⟩
end
end Go.Proofs.YtjkneekfijibiabGreatDoor

namespace Go.Proofs.YtjkneekfijibiabGreatDoor
open Go.RowKit Go.Maps

section
variable {w w' : World} {B : Nat} {v : Value} {l : List UInt8}
/-- A text copied in. -/
theorem Bfr.copy {g cap : Nat} (hv : v = .slice (some ⟨g, 0, none⟩) l.length cap) (h : Bfr w B v l) (a : Nat) (x : List UInt8) (hx : a + x.length ≤ l.length) (ty : TypeId) :
    (Builtin.copy_ #[29, 9] ty #[.slice (some ⟨g, a, none⟩) (l.length - a) (cap - a), tx x]).run Tryz.prog w = .ok (.int .i64 (x.length : Int)) (w.setCells g a (u8s x)) ∧ Bfr (w.setCells g a (u8s x)) B v (l.take a ++ x ++ l.drop (a + x.length)) ∧ B ≤ g := by
  obtain ⟨g', cap', e, hB, hlt, hcap, h1, h2⟩ := h
  rw [hv] at e
  cases e
  have hs : (⟨x.toArray⟩ : ByteArray).size = x.length := by simp [ByteArray.size]
  have hu : (u8s x).length = x.length := by unfold u8s; rw [List.length_map]
  have hc : ∀ j, j < (u8s x).length → (w.cell? ⟨g, a + j, none⟩).isSome = true := fun j hj => (h2 _ (by omega)).1
  refine ⟨?_, ⟨g, cap, ?_, hB, Nat.lt_of_lt_of_le hlt (below_setCells' (B := 0) (a := w) (Nat.zero_le _) _ _ _ (Below.refl _ _)).size, ?_, fun j hj => ?_, fun j hj => ?_⟩, hB⟩
  · have := run_copy_string (P := Tryz.prog) w 29 9 ty 5 g a (l.length - a) (cap - a) ⟨x.toArray⟩ Tryz.underlying29 (fun w => by kernel_rfl) (by rw [hs]; omega) (fun j hj => (h2 _ (by rw [hs] at hj; omega)).1) (fun j hj => (h2 _ (by rw [hs] at hj; omega)).2)
    rw [hs] at this
    exact this
  · rw [hv, List.length_append, List.length_append, List.length_take, List.length_drop]
    congr 1; omega
  · rw [List.length_append, List.length_append, List.length_take, List.length_drop]; omega
  · rw [List.length_append, List.length_append, List.length_take, List.length_drop] at hj
    by_cases e1 : j < a
    · rw [World.cell?_setCells_out _ _ _ _ _ (fun _ _ => .inl e1), List.getElem_append_left (by rw [List.length_append, List.length_take]; omega), List.getElem_append_left (by rw [List.length_take]; omega), List.getElem_take]
      exact h1 j (by omega)
    · by_cases e2 : j < a + x.length
      · obtain ⟨k, rfl⟩ : ∃ k, j = a + k := ⟨j - a, by omega⟩
        have hk : k < x.length := by omega
        have e : (l.take a ++ x ++ l.drop (a + x.length))[a + k]? = some x[k] := by
          rw [List.append_assoc, List.getElem?_append_right (by rw [List.length_take]; omega), List.length_take, show a + k - min a l.length = k by omega, List.getElem?_append_left hk, List.getElem?_eq_getElem hk]
        obtain ⟨_, e'⟩ := List.getElem?_eq_some_iff.1 e
        rw [World.cell?_setCells_in g (u8s x) a w hc k (by rw [hu]; omega), e']
        simp only [u8s, List.getElem_map]
      · have hk : j < l.length := by omega
        have e : (l.take a ++ x ++ l.drop (a + x.length))[j]? = some l[j] := by
          rw [List.getElem?_append_right (by rw [List.length_append, List.length_take]; omega), List.length_append, List.length_take, List.getElem?_drop, show a + x.length + (j - (min a l.length + x.length)) = j by omega, List.getElem?_eq_getElem hk]
        obtain ⟨_, e'⟩ := List.getElem?_eq_some_iff.1 e
        rw [World.cell?_setCells_out _ _ _ _ _ (fun _ _ => .inr (by rw [hu]; show _ ≤ j; omega)), e']
        exact h1 j hk
  · rw [World.frozen?_setCells]
    refine ⟨?_, (h2 j hj).2⟩
    by_cases e1 : j < a ∨ a + x.length ≤ j
    · rw [World.cell?_setCells_out _ _ _ _ _ (fun _ _ => by rw [hu]; exact e1)]; exact (h2 j hj).1
    · obtain ⟨k, rfl⟩ : ∃ k, j = a + k := ⟨j - a, by omega⟩
      rw [World.cell?_setCells_in g (u8s x) a w hc k (by rw [hu]; omega)]; rfl
end
end Go.Proofs.YtjkneekfijibiabGreatDoor

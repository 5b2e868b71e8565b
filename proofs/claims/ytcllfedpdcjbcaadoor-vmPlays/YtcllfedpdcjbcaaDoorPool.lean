/- A pool of free blocks as it lies in memory: its rows of bases, each in a block of its own; and what is left alone. -/
import Derived.Test.YtcllfedpdcjbcaaDoorPages
import Derived.Test.YtcllfedpdcjbcaaDoorKeys
import Derived.Sort.Row
import Derived.Laws.Rows
import Derived.Laws.AppendOwn
import Derived.Deep.Draws
namespace Go.Proofs.YtcllfedpdcjbcaaDoor
open Go.RowKit Go.Sort

/-- All blocks that are not A's are as they were. -/
structure Fr (A : Nat → Prop) (w w' : World) : Prop where
  os : w'.os = w.os
  tape : w'.tape = w.tape
  output : w'.output = w.output
  size : w.heap.size ≤ w'.heap.size
  block : ∀ i, i < w.heap.size → ¬ A i → w'.heap[i]? = w.heap[i]?

theorem Fr.refl (A : Nat → Prop) (w : World) : Fr A w w := ⟨rfl, rfl, rfl, Nat.le_refl _, fun _ _ _ => rfl⟩
theorem Fr.trans {A B : Nat → Prop} {w w1 w2 : World} (h : Fr A w w1) (k : Fr B w1 w2) (hB : ∀ i, i < w.heap.size → B i → A i) : Fr A w w2 :=
  ⟨k.os.trans h.os, k.tape.trans h.tape, k.output.trans h.output, Nat.le_trans h.size k.size, fun i hi hn => (k.block i (Nat.lt_of_lt_of_le hi h.size) (fun hb => hn (hB i hi hb))).trans (h.block i hi hn)⟩
theorem Fr.mono {A B : Nat → Prop} {w w1 : World} (h : Fr A w w1) (hB : ∀ i, i < w.heap.size → A i → B i) : Fr B w w1 :=
  ⟨h.os, h.tape, h.output, h.size, fun i hi hn => h.block i hi (fun a => hn (hB i hi a))⟩
theorem Fr.grown {w w' : World} {g : Nat} (h : w.grownBy w' (some g)) : Fr (· = g) w w' :=
  ⟨h.os, h.tape, h.output, h.size, fun i hi hn => h.block i hi (fun e => hn (Option.some.inj e))⟩
theorem Fr.alloc (A : Nat → Prop) (w : World) (o : Obj) : Fr A w (w.alloc o) :=
  ⟨rfl, rfl, rfl, by simp, fun i hi _ => Below.heap_alloc w o i hi⟩
theorem Fr.drewN (A : Nat → Prop) (w : World) (q : Nat) : Fr A w (w.drewN q) := ⟨rfl, rfl, rfl, Nat.le_refl _, fun _ _ _ => rfl⟩
theorem Fr.drew (A : Nat → Prop) (w : World) : Fr A w w.drew := ⟨rfl, rfl, rfl, Nat.le_refl _, fun _ _ _ => rfl⟩
theorem Fr.setCell {A : Nat → Prop} {w w1 : World} (h : Fr A w w1) (b o : Nat) (v : Value) (hb : b < w.heap.size → A b) : Fr A w (w1.setCell ⟨b, o, none⟩ v) :=
  ⟨h.os, h.tape, h.output, by simpa using h.size, fun i hi hn => (Below.heap_setCell _ _ _ _ (fun e => hn (by subst e; exact hb hi))).trans (h.block i hi hn)⟩
theorem Fr.setCells {A : Nat → Prop} {w : World} (b : Nat) (hb : b < w.heap.size → A b) : ∀ (vs : List Value) (o : Nat) (w1 : World), Fr A w w1 → Fr A w (w1.setCells b o vs)
  | [], _, _, h => h
  | v :: r, o, w1, h => by rw [World.setCells]; exact Fr.setCells b hb r (o + 1) _ (h.setCell b o v hb)

theorem heap_mapBlock_other (w : World) (s i : Nat) (f : Array Value → Array Value) (h : i ≠ s) : (mapBlock w s f).heap[i]? = w.heap[i]? := by
  simp [mapBlock, Array.getElem?_modify, h.symm]
theorem heap_mapBlock_same (w : World) (s : Nat) (f : Array Value → Array Value) (c : Array Value) (t : TypeId) (fr : Nat × Nat) (h : w.heap[s]? = some (.cells c t fr)) : (mapBlock w s f).heap[s]? = some (.cells (f c) t fr) := by
  simp [mapBlock, Array.getElem?_modify, h, onCells]
theorem Fr.mapBlock {A : Nat → Prop} {w w1 : World} (h : Fr A w w1) (b : Nat) (f : Array Value → Array Value) (hb : b < w.heap.size → A b) : Fr A w (mapBlock w1 b f) :=
  ⟨h.os, h.tape, h.output, by simpa [Sort.mapBlock] using h.size, fun i hi hn => (heap_mapBlock_other _ _ _ _ (fun e => hn (by subst e; exact hb hi))).trans (h.block i hi hn)⟩

theorem heap_setCell_same (w : World) (s o : Nat) (v : Value) (c : Array Value) (t : TypeId) (fr : Nat × Nat) (h : w.heap[s]? = some (.cells c t fr)) : (w.setCell ⟨s, o, none⟩ v).heap[s]? = some (.cells (c.setIfInBounds o v) t fr) := by
  rw [setCell_eq]; exact heap_mapBlock_same w s _ c t fr h

theorem heap_setCells_same (s : Nat) (t : TypeId) (fr : Nat × Nat) : ∀ (vs : List Value) (o : Nat) (w : World) (c : Array Value), w.heap[s]? = some (.cells c t fr) → ∃ c', (w.setCells s o vs).heap[s]? = some (.cells c' t fr) ∧ c'.size = c.size
  | [], _, _, c, h => ⟨c, h, rfl⟩
  | v :: r, o, w, c, h => by
    rw [World.setCells]
    obtain ⟨c', h1, h2⟩ := heap_setCells_same s t fr r (o + 1) _ _ (heap_setCell_same w s o v c t fr h)
    exact ⟨c', h1, by rw [h2]; simp⟩

/-- A row of bases, in a block of its own or in none. -/
def RowAt (w : World) (o : Option Nat) (v : Value) (xs : List Int) : Prop :=
  match o with
  | none => v = .slice none 0 0 ∧ xs = []
  | some s => ∃ c : Array Value, w.heap[s]? = some (.cells c 3) ∧ v = .slice (some ⟨s, 0, none⟩) xs.length c.size ∧ xs.length ≤ c.size ∧ c.size ≤ maxLen ∧ ∀ j, j < xs.length → c[j]? = some (.int .i64 (xs.getD j 0))

theorem RowAt.keep {w w' : World} {o : Option Nat} {v : Value} {xs : List Int} (h : RowAt w o v xs) (hs : ∀ s, o = some s → w'.heap[s]? = w.heap[s]?) : RowAt w' o v xs := by
  cases o with
  | none => exact h
  | some s =>
    obtain ⟨c, h1, h2⟩ := h
    exact ⟨c, (hs s rfl).trans h1, h2⟩

/-- The eight cells of a pool. -/
def pc (V : Nat → Value) (g : Nat) : Array Value := #[V 0, V 1, V 2, V 3, V 4, V 5, V 6, .map (some g)]

theorem pc_get (V : Nat → Value) (g k : Nat) (h : k < 7) : (pc V g)[k]? = some (V k) := by
  match k, h with
  | 0, _ | 1, _ | 2, _ | 3, _ | 4, _ | 5, _ | 6, _ => rfl

def putV (V : Nat → Value) (k : Nat) (v : Value) : Nat → Value := fun j => if j = k then v else V j

theorem pc_set (V : Nat → Value) (g k : Nat) (v : Value) (h : k < 7) : (pc V g).setIfInBounds k v = pc (putV V k v) g := by
  match k, h with
  | 0, _ | 1, _ | 2, _ | 3, _ | 4, _ | 5, _ | 6, _ => rfl

/-- A pool at block b, with its map at g and its rows at O's blocks. -/
structure Pl (w : World) (b g : Nat) (O : Nat → Option Nat) (V : Nat → Value) (F : Nat → List Int) : Prop where
  head : w.heap[b]? = some (.cells (pc V g) 135)
  row : ∀ k, k < 7 → RowAt w (O k) (V k) (F k)
  apart : ∀ j k s, j < 7 → k < 7 → O j = some s → O k = some s → j = k

/-- What is a pool's, its map aside. -/
def own (b : Nat) (O : Nat → Option Nat) (i : Nat) : Prop := i = b ∨ ∃ k, k < 7 ∧ O k = some i

theorem lt_of_heap {w : World} {i : Nat} {o : Obj} (h : w.heap[i]? = some o) : i < w.heap.size := (Array.getElem?_eq_some_iff.1 h).1

theorem Pl.row_block {w : World} {b g : Nat} {O : Nat → Option Nat} {V : Nat → Value} {F : Nat → List Int} (p : Pl w b g O V F) {k s : Nat} (hk : k < 7) (h : O k = some s) : ∃ c, w.heap[s]? = some (.cells c 3) := by
  have := p.row k hk
  rw [h] at this
  obtain ⟨c, h1, _⟩ := this
  exact ⟨c, h1⟩

theorem Pl.ne_b {w : World} {b g : Nat} {O : Nat → Option Nat} {V : Nat → Value} {F : Nat → List Int} (p : Pl w b g O V F) {k s : Nat} (hk : k < 7) (h : O k = some s) : s ≠ b := by
  intro e; subst e
  obtain ⟨c, h1⟩ := p.row_block hk h
  rw [p.head] at h1; cases h1

theorem Pl.own_lt {w : World} {b g : Nat} {O : Nat → Option Nat} {V : Nat → Value} {F : Nat → List Int} (p : Pl w b g O V F) {i : Nat} (h : own b O i) : i < w.heap.size := by
  rcases h with rfl | ⟨k, hk, h⟩
  · exact lt_of_heap p.head
  · obtain ⟨c, h1⟩ := p.row_block hk h; exact lt_of_heap h1

theorem Pl.map_off {w : World} {b g : Nat} {O : Nat → Option Nat} {V : Nat → Value} {F : Nat → List Int} (p : Pl w b g O V F) {s : Nat} {M : Int → Option Value} {g' : Nat} (m : PMap w g' s M) : ¬ own b O g' := by
  obtain ⟨es, cl, hm⟩ := m.isMap
  rintro (rfl | ⟨k, hk, h⟩)
  · rw [p.head] at hm; cases hm
  · obtain ⟨c, h1⟩ := p.row_block hk h; rw [h1] at hm; cases hm

theorem Pl.keep {w w' : World} {b g : Nat} {O : Nat → Option Nat} {V : Nat → Value} {F : Nat → List Int} (p : Pl w b g O V F) (h : ∀ i, own b O i → w'.heap[i]? = w.heap[i]?) : Pl w' b g O V F :=
  ⟨(h b (.inl rfl)).trans p.head, fun k hk => (p.row k hk).keep (fun s hs => h s (.inr ⟨k, hk, hs⟩)), p.apart⟩

theorem Pl.cell {w : World} {b g : Nat} {O : Nat → Option Nat} {V : Nat → Value} {F : Nat → List Int} (p : Pl w b g O V F) {k : Nat} (hk : k < 7) : w.cell? ⟨b, k, none⟩ = some (V k) := by
  rw [cell_of_row w b k _ _ _ p.head, pc_get V g k hk]
theorem Pl.free {w : World} {b g : Nat} {O : Nat → Option Nat} {V : Nat → Value} {F : Nat → List Int} (p : Pl w b g O V F) (k : Nat) : w.frozen? ⟨b, k, none⟩ = false := by
  simp [World.frozen?, p.head]
theorem Pl.cellm {w : World} {b g : Nat} {O : Nat → Option Nat} {V : Nat → Value} {F : Nat → List Int} (p : Pl w b g O V F) : w.cell? ⟨b, 7, none⟩ = some (.map (some g)) := by
  rw [cell_of_row w b 7 _ _ _ p.head]; rfl

theorem RowAt.isSlice {w : World} {o : Option Nat} {v : Value} {xs : List Int} (h : RowAt w o v xs) : ∃ a c, v = .slice a xs.length c ∧ xs.length ≤ c ∧ c ≤ maxLen := by
  cases o with
  | none => obtain ⟨rfl, rfl⟩ := h; exact ⟨none, 0, rfl, Nat.le_refl _, by decide⟩
  | some s => obtain ⟨c, _, rfl, h1, h2, _⟩ := h; exact ⟨_, _, rfl, h1, h2⟩

/-- One row turned: in its own block, or in a new one. -/
theorem Pl.turn {w w' : World} {b g : Nat} {O : Nat → Option Nat} {V : Nat → Value} {F : Nat → List Int} (p : Pl w b g O V F) {k : Nat} (hk : k < 7) (o : Option Nat) (v : Value) (xs : List Int)
    (hf : Fr (fun i => O k = some i) w w') (ho : o = O k ∨ ∃ s, o = some s ∧ w.heap.size ≤ s) (hr : RowAt w' o v xs) :
    Pl (w'.setCell ⟨b, k, none⟩ v) b g (fun j => if j = k then o else O j) (putV V k v) (putF F k xs) ∧ Fr (own b O) w (w'.setCell ⟨b, k, none⟩ v) ∧ (∀ i, i < w.heap.size → own b (fun j => if j = k then o else O j) i → own b O i) := by
  have hbl := lt_of_heap p.head
  have hbk : ¬ O k = some b := fun e => p.ne_b hk e rfl
  have hb' : w'.heap[b]? = some (.cells (pc V g) 135) := (hf.block b hbl hbk).trans p.head
  have hob : o ≠ some b := by
    rintro rfl
    rcases ho with e | ⟨s, e, hs⟩
    · exact hbk e.symm
    · cases e; omega
  refine ⟨⟨by rw [heap_setCell_same w' b k v _ _ _ hb', pc_set V g k v hk], fun j hj => ?_, fun j1 j2 s h1 h2 e1 e2 => ?_⟩, ?_, ?_⟩
  · by_cases e : j = k
    · subst e
      simp only [putV, putF, if_pos]
      exact hr.keep (fun s hs => Below.heap_setCell _ _ _ _ (fun e => hob (by rw [hs, e])))
    · simp only [putV, putF, if_neg e]
      refine (p.row j hj).keep (fun s hs => ?_)
      obtain ⟨c, hc⟩ := p.row_block hj hs
      rw [Below.heap_setCell _ _ _ _ (fun e => p.ne_b hj hs e)]
      exact hf.block s (lt_of_heap hc) (fun e' => e (p.apart j k s hj hk hs e'))
  · by_cases c1 : j1 = k <;> by_cases c2 : j2 = k
    · rw [c1, c2]
    · rw [if_pos c1] at e1; rw [if_neg c2] at e2
      rcases ho with e | ⟨s', e, hs⟩
      · exact c1.trans (p.apart k j2 s hk h2 (e ▸ e1) e2)
      · obtain ⟨c, hc⟩ := p.row_block h2 e2
        have := lt_of_heap hc
        rw [e] at e1; cases e1; omega
    · rw [if_neg c1] at e1; rw [if_pos c2] at e2
      rcases ho with e | ⟨s', e, hs⟩
      · exact (p.apart j1 k s h1 hk e1 (e ▸ e2)).trans c2.symm
      · obtain ⟨c, hc⟩ := p.row_block h1 e1
        have := lt_of_heap hc
        rw [e] at e2; cases e2; omega
    · rw [if_neg c1] at e1; rw [if_neg c2] at e2
      exact p.apart j1 j2 s h1 h2 e1 e2
  · exact (hf.mono (fun i _ h => .inr ⟨k, hk, h⟩)).setCell b k v (fun _ => .inl rfl)
  · rintro i hi (rfl | ⟨j, hj, h⟩)
    · exact .inl rfl
    · by_cases c : j = k
      · replace h : o = some i := by simpa [c] using h
        rcases ho with e | ⟨s', e, hs⟩
        · exact .inr ⟨k, hk, e ▸ h⟩
        · rw [e] at h; cases h; omega
      · exact .inr ⟨j, hj, by simpa [c] using h⟩

end Go.Proofs.YtcllfedpdcjbcaaDoor

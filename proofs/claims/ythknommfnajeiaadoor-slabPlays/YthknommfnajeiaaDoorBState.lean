/- The program's pool and the document's beside each other: what each call makes of both. -/
import Derived.Test.YthknommfnajeiaaDoorSame
import Derived.Test.YthknommfnajeiaaDoorBare
namespace Go.Proofs.YthknommfnajeiaaDoor
open Go.RowKit Go.Shelf Go.Lib Go.Sort

theorem At.lt {w : World} {b n : Nat} {U : Nat → Bool} {T : Int → Option Nat} {m : Nat} {A : Nat → Prop} (h : At w b n U T m A) {i : Nat} (hi : A i) : i < w.heap.size := by
  obtain ⟨g, O, V, F, s, p, c, pm, hs, inv, hn, hA⟩ := h
  rcases (hA i).1 hi with h | rfl
  · exact p.own_lt h
  · exact pm.lt

theorem At.keep {w w' : World} {b n : Nat} {U : Nat → Bool} {T : Int → Option Nat} {m : Nat} {A : Nat → Prop} (h : At w b n U T m A) (hk : ∀ i, A i → w'.heap[i]? = w.heap[i]?) : At w' b n U T m A := by
  obtain ⟨g, O, V, F, s, p, c, pm, hs, inv, hn, hA⟩ := h
  exact ⟨g, O, V, F, s, p.keep (fun i hi => hk i ((hA i).2 (.inl hi))), c, pm.keep (hk g ((hA g).2 (.inr rfl))), hs, inv, hn, hA⟩

theorem At.inv {w : World} {b n : Nat} {U : Nat → Bool} {T : Int → Option Nat} {m : Nat} {A : Nat → Prop} (h : At w b n U T m A) : Inv n U T := by
  obtain ⟨g, O, V, F, s, p, c, pm, hs, inv, hn, hA⟩ := h
  exact inv
theorem At.small {w : World} {b n : Nat} {U : Nat → Bool} {T : Int → Option Nat} {m : Nat} {A : Nat → Prop} (h : At w b n U T m A) : n ≤ 256 := by
  obtain ⟨g, O, V, F, s, p, c, pm, hs, inv, hn, hA⟩ := h
  exact hn
theorem At.more {w : World} {b n : Nat} {U : Nat → Bool} {T : Int → Option Nat} {m m' : Nat} {A : Nat → Prop} (h : At w b n U T m A) (hm : m ≤ m') : At w b n U T m' A := by
  obtain ⟨g, O, V, F, s, p, c, pm, hs, inv, hn, hA⟩ := h
  exact ⟨g, O, V, F, s, p, c, pm, Nat.le_trans hs hm, inv, hn, hA⟩
theorem RAt.more {w : World} {r f g n : Nat} {U : Nat → Bool} {T : Int → Option Nat} {m m' : Nat} (h : RAt w r f g n U T m) (hm : m ≤ m') : RAt w r f g n U T m' := by
  obtain ⟨h1, h2, ⟨s, h5, h6⟩, h7, h8⟩ := h
  exact ⟨h1, h2, ⟨s, h5, Nat.le_trans h6 hm⟩, h7, h8⟩

/-- Both pools, apart from each other and from all that was there at first. -/
structure Both (w0 w : World) (b n r f g : Nat) (A : Nat → Prop) (U : Nat → Bool) (T : Int → Option Nat) (m : Nat) (U' : Nat → Bool) (T' : Int → Option Nat) (m' : Nat) : Prop where
  pool : At w b n U T m A
  ref : RAt w r f g n U' T' m'
  below : Below w0.heap.size w0 w
  apart : ∀ i, rown r f g i → ¬ A i
  offA : ∀ i, i < w0.heap.size → ¬ A i
  offR : ∀ i, i < w0.heap.size → ¬ rown r f g i

/-- .. and an item of the script beside them. -/
def St (w0 : World) (b n r f g xb : Nat) (xs : Array Value) (w : World) (U : Nat → Bool) (T : Int → Option Nat) (m : Nat) (U' : Nat → Bool) (T' : Int → Option Nat) (m' : Nat) : Prop :=
  ∃ A, Both w0 w b n r f g A U T m U' T' m' ∧ w.heap[xb]? = some (.cells xs 33) ∧ ¬ A xb ∧ ¬ rown r f g xb

section
variable {w0 w w' : World} {b n r f g xb : Nat} {xs : Array Value} {A : Nat → Prop} {U U' U1 : Nat → Bool} {T T' T1 : Int → Option Nat} {m m' m1 : Nat}

theorem Both.turn (B : Both w0 w b n r f g A U T m U' T' m') (t : Turns w b n A w' U1 T1 m1) : ∃ A', Both w0 w' b n r f g A' U1 T1 m1 U' T' m' ∧ ∀ i, i < w.heap.size → ¬ A i → w'.heap[i]? = w.heap[i]? ∧ ¬ A' i := by
  obtain ⟨A', a, fr, sub⟩ := t
  refine ⟨A', ⟨a, B.ref.keep (fun i hi => fr.block i (B.ref.lt hi) (B.apart i hi)), B.below.trans ⟨fr.os, fr.tape, fr.output, fr.size, fun i hi => fr.block i (Nat.lt_of_lt_of_le hi B.below.size) (B.offA i hi)⟩, fun i hi h => B.apart i hi (sub i (B.ref.lt hi) h), fun i hi h => B.offA i hi (sub i (Nat.lt_of_lt_of_le hi B.below.size) h), B.offR⟩, fun i hi hn => ⟨fr.block i hi hn, fun h => hn (sub i hi h)⟩⟩

theorem Both.refd (B : Both w0 w b n r f g A U T m U' T' m') (R : RAt w' r f g n U1 T1 m1) (fr : Fr (rown r f g) w w') : Both w0 w' b n r f g A U T m U1 T1 m1 :=
  ⟨B.pool.keep (fun i hi => fr.block i (B.pool.lt hi) (fun h => B.apart i h hi)), R, B.below.trans ⟨fr.os, fr.tape, fr.output, fr.size, fun i hi => fr.block i (Nat.lt_of_lt_of_le hi B.below.size) (B.offR i hi)⟩, B.apart, B.offA, B.offR⟩

theorem Both.stay (B : Both w0 w b n r f g A U T m U' T' m') (h : Below w.heap.size w w') : Both w0 w' b n r f g A U T m U' T' m' :=
  ⟨B.pool.keep (fun i hi => h.block i (B.pool.lt hi)), B.ref.keep (fun i hi => h.block i (B.ref.lt hi)), B.below.trans (h.mono B.below.size), B.apart, B.offA, B.offR⟩

theorem St.turn (s : St w0 b n r f g xb xs w U T m U' T' m') (t : ∀ A, At w b n U T m A → Turns w b n A w' U1 T1 m1) : St w0 b n r f g xb xs w' U1 T1 m1 U' T' m' := by
  obtain ⟨A, B, hx, h1, h2⟩ := s
  obtain ⟨A', B', k⟩ := B.turn (t A B.pool)
  have := k xb (lt_of_heap hx) h1
  exact ⟨A', B', this.1.trans hx, this.2, h2⟩

theorem St.turn_at (B : Both w0 w b n r f g A U T m U' T' m') (hx : w.heap[xb]? = some (.cells xs 33)) (h1 : ¬ A xb) (h2 : ¬ rown r f g xb) (t : Turns w b n A w' U1 T1 m1) : St w0 b n r f g xb xs w' U1 T1 m1 U' T' m' := by
  obtain ⟨A', B', k⟩ := B.turn t
  have := k xb (lt_of_heap hx) h1
  exact ⟨A', B', this.1.trans hx, this.2, h2⟩

theorem St.refd (s : St w0 b n r f g xb xs w U T m U' T' m') (R : RAt w' r f g n U1 T1 m1) (fr : Fr (rown r f g) w w') : St w0 b n r f g xb xs w' U T m U1 T1 m1 := by
  obtain ⟨A, B, hx, h1, h2⟩ := s
  exact ⟨A, B.refd R fr, (fr.block xb (lt_of_heap hx) h2).trans hx, h1, h2⟩

theorem St.stay (s : St w0 b n r f g xb xs w U T m U' T' m') (h : Below w.heap.size w w') : St w0 b n r f g xb xs w' U T m U' T' m' := by
  obtain ⟨A, B, hx, h1, h2⟩ := s
  exact ⟨A, B.stay h, (h.block xb (lt_of_heap hx)).trans hx, h1, h2⟩

theorem St.cell (s : St w0 b n r f g xb xs w U T m U' T' m') (j : Nat) : w.cell? ⟨xb, j, none⟩ = xs[j]? := by
  obtain ⟨A, B, hx, h1, h2⟩ := s
  exact cell_of_row w xb j _ _ _ hx

theorem St.ref (s : St w0 b n r f g xb xs w U T m U' T' m') : RAt w r f g n U' T' m' := by
  obtain ⟨A, B, hx, h1, h2⟩ := s
  exact B.ref
theorem St.inv (s : St w0 b n r f g xb xs w U T m U' T' m') : Inv n U T := by
  obtain ⟨A, B, hx, h1, h2⟩ := s
  exact B.pool.inv
theorem St.below (s : St w0 b n r f g xb xs w U T m U' T' m') : Below w0.heap.size w0 w := by
  obtain ⟨A, B, hx, h1, h2⟩ := s
  exact B.below
theorem St.more (s : St w0 b n r f g xb xs w U T m U' T' m') {m2 m3 : Nat} (h1 : m ≤ m2) (h2 : m' ≤ m3) : St w0 b n r f g xb xs w U T m2 U' T' m3 := by
  obtain ⟨A, B, hx, k1, k2⟩ := s
  exact ⟨A, ⟨B.pool.more h1, B.ref.more h2, B.below, B.apart, B.offA, B.offR⟩, hx, k1, k2⟩
end

/-- Both lists of free blocks are one. -/
theorem frees_ok {w0 w : World} {b n r f g : Nat} {A : Nat → Prop} {U : Nat → Bool} {T : Int → Option Nat} {m m' : Nat} (B : Both w0 w b n r f g A U T m U T m') :
    Calls Tryd.prog 19 #[pp b] w fun e w1 => ∃ v, e = .returned v ∧ Both w0 w1 b n r f g A U T m U T m' ∧ Below w.heap.size w w1 ∧
      Calls Tryd.prog 20 #[pp r] w1 fun e w2 => ∃ u, e = .returned u ∧ Both w0 w2 b n r f g A U T m U T m' ∧ Below w.heap.size w w2 ∧
        Calls Tryd.prog 18 #[v, u] w2 fun e w3 => e = .returned (.bool true) ∧ Both w0 w3 b n r f g A U T m U T m' ∧ Below w.heap.size w w3 := by
  refine (free_ok B.pool).mono ?_
  rintro e w1 ⟨v, rfl, L1, b1⟩
  have B1 := B.stay b1
  refine ⟨v, rfl, B1, b1, (rfree_ok B1.ref).mono ?_⟩
  rintro e w2 ⟨u, rfl, L2, b2⟩
  have B2 := B1.stay b2
  have b12 : Below w.heap.size w w2 := b1.trans (b2.mono b1.size)
  refine ⟨u, rfl, B2, b12, (same_ok (L1.keep (fun i _ hi => b2.block i hi)) L2 ?_).mono ?_⟩
  · rw [List.length_map]; exact Nat.le_trans (blocks_len B.pool.inv.bound) B.pool.small
  · rintro e w3 ⟨rfl, b3⟩
    exact ⟨rfl, B2.stay b3, b12.trans (b3.mono b12.size)⟩
end Go.Proofs.YthknommfnajeiaaDoor

/- Two ledgers and three numbers beside each other, apart from all that was there at first. -/
import Derived.Test.YtfejiehkpikieaaDoorCharged
namespace Go.Proofs.YtfejiehkpikieaaDoor
open Go.RowKit

structure Tri (w0 : World) (A B C : Nat) (W : World) (U M U' M' V : Nat → Int) : Prop where
  a : Led W A U M
  b : Led W B U' M'
  c : ∀ k, k < 3 → W.cell? ⟨C, k, none⟩ = some (.int .i64 (V k))
  f : ∀ k, k < 3 → W.frozen? ⟨C, k, none⟩ = false
  bel : Below w0.heap.size w0 W
  ab : A ≠ B
  ac : A ≠ C
  bc : B ≠ C
  la : w0.heap.size ≤ A
  lb : w0.heap.size ≤ B
  lc : w0.heap.size ≤ C

section
variable {w0 W W' : World} {A B C : Nat} {U M U' M' V U1 M1 : Nat → Int}

theorem Tri.ltc (t : Tri w0 A B C W U M U' M' V) : C < W.heap.size := World.block_lt_of_cell? W _ (t.c 0 (by omega))

theorem Tri.move (t : Tri w0 A B C W U M U' M' V) (ha : Led W' A U1 M1) (hb : W'.heap[B]? = W.heap[B]?) (hc : W'.heap[C]? = W.heap[C]?) (bel : Below w0.heap.size w0 W') : Tri w0 A B C W' U1 M1 U' M' V :=
  ⟨ha, t.b.keep hb, fun k hk => by rw [World.cell?_of_block (w := W) (a := ⟨C, k, none⟩) hc]; exact t.c k hk, fun k hk => by rw [World.frozen?_of_block (w := W) (a := ⟨C, k, none⟩) hc]; exact t.f k hk, bel, t.ab, t.ac, t.bc, t.la, t.lb, t.lc⟩

theorem Tri.stay (t : Tri w0 A B C W U M U' M' V) (h : Below W.heap.size W W') : Tri w0 A B C W' U M U' M' V :=
  t.move (t.a.keep (h.block _ t.a.lt)) (h.block _ t.b.lt) (h.block _ t.ltc) (t.bel.trans (h.mono t.bel.size))

theorem Tri.turnA (t : Tri w0 A B C W U M U' M' V) (h : Led W' A U1 M1) (g : W.grownBy W' (some A)) : Tri w0 A B C W' U1 M1 U' M' V :=
  t.move h (g.block _ t.b.lt (fun e => by injection e with e; exact t.ab e.symm)) (g.block _ t.ltc (fun e => by injection e with e; exact t.ac e.symm)) (below_of_grown t.bel g t.la)

theorem Tri.turnB (t : Tri w0 A B C W U M U' M' V) (h : Led W' B U1 M1) (g : W.grownBy W' (some B)) : Tri w0 A B C W' U M U1 M1 V := by
  have hc := g.block C t.ltc (fun e => by injection e with e; exact t.bc e.symm)
  exact ⟨t.a.keep (g.block _ t.a.lt (fun e => by injection e with e; exact t.ab e)), h, fun k hk => by rw [World.cell?_of_block (w := W) (a := ⟨C, k, none⟩) hc]; exact t.c k hk, fun k hk => by rw [World.frozen?_of_block (w := W) (a := ⟨C, k, none⟩) hc]; exact t.f k hk, below_of_grown t.bel g t.lb, t.ab, t.ac, t.bc, t.la, t.lb, t.lc⟩

theorem Tri.note (t : Tri w0 A B C W U M U' M' V) (k : Nat) (hk : k < 3) (v : Int) : Tri w0 A B C (W.setCell ⟨C, k, none⟩ (.int .i64 v)) U M U' M' (put V k v) := by
  refine ⟨t.a.keep (Below.heap_setCell _ _ _ _ (fun e => t.ac (by simpa using e))), t.b.keep (Below.heap_setCell _ _ _ _ (fun e => t.bc (by simpa using e))), fun i hi => ?_, fun i hi => by rw [World.frozen?_setCell]; exact t.f i hi, t.bel.setCell (p := ⟨C, k, none⟩) t.lc _, t.ab, t.ac, t.bc, t.la, t.lb, t.lc⟩
  by_cases e : i = k
  · subst e; rw [World.cell?_setCell_same _ _ _ (t.c i hi), put_same]
  · rw [World.cell?_setCell_other _ _ _ _ (by intro e'; simp only [Addr.mk.injEq, true_and, and_true] at e'; omega), t.c i hi, put_other _ _ _ _ e]

theorem Tri.more (t : Tri w0 A B C W U M U' M' V) (o : Obj) : Tri w0 A B C (W.alloc o) U M U' M' V := t.stay ((Below.refl _ _).alloc (Nat.le_refl _) o)

theorem Tri.likeB (t : Tri w0 A B C W U M U' M' V) {V1 : Nat → Int} (h1 : ∀ k, k < 3 → U' k = U1 k) (h2 : ∀ k, k < 3 → M' k = M1 k) (h3 : ∀ k, k < 3 → V k = V1 k) : Tri w0 A B C W U M U1 M1 V1 :=
  ⟨t.a, t.b.like h1 h2, fun k hk => by rw [← h3 k hk]; exact t.c k hk, t.f, t.bel, t.ab, t.ac, t.bc, t.la, t.lb, t.lc⟩

/-- Two new ones beside an old one. -/
theorem tri_new (hA : Led W A U M) (bel : Below w0.heap.size w0 W) (la : w0.heap.size ≤ A) (t1 t2 : TypeId) :
    Tri w0 A W.heap.size (W.heap.size + 1) ((W.alloc (.cells #[.int .i64 0, .int .i64 0, .int .i64 0, .int .i64 0, .int .i64 0, .int .i64 0] t1)).alloc (.cells #[.int .i64 0, .int .i64 0, .int .i64 0] t2)) U M (fun _ => 0) (fun _ => 0) (fun _ => 0) := by
  have hs := bel.size
  have hl := hA.lt
  have hz := led_zero W t1
  refine ⟨(hA.more _).more _, hz.more _, fun k hk => ?_, fun k hk => ?_, (bel.alloc hs _).alloc (by simp; omega) _, by omega, by omega, by omega, la, hs, by omega⟩
  · match k, hk with
    | 0, _ | 1, _ | 2, _ =>
      rw [World.cell?_alloc_at _ _ _ _ (by simp)]; rfl
  · have h : ((W.alloc (.cells #[.int .i64 0, .int .i64 0, .int .i64 0, .int .i64 0, .int .i64 0, .int .i64 0] t1)).alloc (.cells #[.int .i64 0, .int .i64 0, .int .i64 0] t2)).heap[W.heap.size + 1]? = some (.cells #[.int .i64 0, .int .i64 0, .int .i64 0] t2) := by
      show ((W.heap.push _).push _)[W.heap.size + 1]? = _
      rw [Array.getElem?_push, if_pos (by simp)]
    simp only [World.frozen?, h]
    simp
end

/-- The first k of it, naught behind. -/
def cutoff (f : Nat → Int) (k : Nat) : Nat → Int := fun i => if i < k then f i else 0
theorem cutoff_zero (f : Nat → Int) : cutoff f 0 = fun _ => 0 := by funext i; simp [cutoff]
theorem cutoff_all (f : Nat → Int) (k : Nat) (h : k < 3) : cutoff f 3 k = f k := by simp [cutoff, h]
theorem cutoff_next (f : Nat → Int) (k : Nat) : put (cutoff f k) k (f k) = cutoff f (k + 1) := by
  funext i
  unfold put cutoff
  by_cases e : i = k
  · subst e; simp
  · by_cases h : i < k
    · rw [if_neg e, if_pos h, if_pos (by omega)]
    · rw [if_neg e, if_neg h, if_neg (by omega)]
theorem cutoff_at (f : Nat → Int) (k : Nat) : cutoff f k k = 0 := by simp [cutoff]
theorem Fit.cutoff {f : Nat → Int} (h : Fit f) (k : Nat) : Fit (cutoff f k) := by
  intro i
  unfold Proofs.YtfejiehkpikieaaDoor.cutoff
  split
  · exact h i
  · exact ⟨Int.le_refl _, by decide⟩

/-- An ask of as much as there is in another one, of a kind of which there is none here. -/
theorem fine_copy {U M : Nat → Int} (hU : Fit U) (hM : Fit M) (hle : ∀ k, U k ≤ M k) (k : Nat) (hk : k < 3) : Fine (cutoff U k) (cutoff M (k + 1)) (fun _ => ⟨(k : Int), U k⟩) 1 := by
  intro i hi
  obtain rfl : i = 0 := by omega
  have a := hU k
  have b := hle k
  have c := hM k
  show why (cutoff U k) (cutoff M (k + 1)) (k : Int) (U k) = 0
  unfold why
  have h1 : cutoff U k (k : Int).toNat = 0 := by rw [Int.toNat_natCast]; exact cutoff_at U k
  have h2 : cutoff M (k + 1) (k : Int).toNat = M k := by rw [Int.toNat_natCast]; simp [cutoff]
  rw [h1, h2, if_neg (by omega), if_neg (by omega), if_neg (by omega), if_neg (by omega)]

theorem upon_copy {U : Nat → Int} (k : Nat) : upon (cutoff U k) (fun _ => ⟨(k : Int), U k⟩) 1 = cutoff U (k + 1) := by
  show after (cutoff U k) (k : Int) (U k) = _
  unfold after
  rw [Int.toNat_natCast, cutoff_at, Int.zero_add]
  exact cutoff_next U k

/-- All of a kind given back, and asked for again. -/
theorem fine_back {U M : Nat → Int} (hU : Fit U) (hle : ∀ k, U k ≤ M k) (k : Nat) (hk : k < 3) : Fine U M (fun i => if i = 0 then ⟨(k : Int), -U k⟩ else ⟨(k : Int), U k⟩) 2 := by
  have a := hU k
  have b := hle k
  intro i hi
  match i, hi with
  | 0, _ =>
    show why U M (k : Int) (-U k) = 0
    unfold why
    rw [Int.toNat_natCast, if_neg (by omega), if_neg (by omega), if_neg (by omega), if_neg (by omega)]
  | 1, _ =>
    show why (after U (k : Int) (-U k)) M (k : Int) (U k) = 0
    unfold why after
    rw [Int.toNat_natCast, put_same, if_neg (by omega), if_neg (by omega), if_neg (by omega), if_neg (by omega)]

theorem upon_back {U : Nat → Int} (k i : Nat) : upon U (fun i => if i = 0 then ⟨(k : Int), -U k⟩ else ⟨(k : Int), U k⟩) 2 i = U i := by
  show after (after U (k : Int) (-U k)) (k : Int) (U k) i = _
  unfold after
  rw [Int.toNat_natCast, put_same]
  by_cases e : i = k
  · subst e; rw [put_same]; omega
  · rw [put_other _ _ _ _ e, put_other _ _ _ _ e]

/-- What there is stays within what may be. -/
theorem Fine.le {U M : Nat → Int} (hle : ∀ k, U k ≤ M k) {q : Nat → Want} : ∀ {j}, Fine U M q j → ∀ k, upon U q j k ≤ M k
  | 0, _ => hle
  | j + 1, h => by
    intro k
    have ih := Fine.le hle (j := j) (fun i hi => h i (by omega))
    obtain ⟨_, _, h3, _⟩ := why_ok (h j (by omega))
    show after (upon U q j) (q j).kind (q j).n k ≤ M k
    unfold after
    by_cases e : k = (q j).kind.toNat
    · subst e
      rw [put_same]
      by_cases h5 : 0 < (q j).n
      · exact h3 h5
      · have := ih (q j).kind.toNat; omega
    · rw [put_other _ _ _ _ e]; exact ih k
end Go.Proofs.YtfejiehkpikieaaDoor

/- Both ledgers, apart from each other and from all that was there at first; an item of the script beside them. -/
import Derived.Test.YtfejiehkpikieaaDoorPairs
namespace Go.Proofs.YtfejiehkpikieaaDoor
open Go.RowKit

/-- The program's ledger at the first block behind w0, the document's at the second; the item at block x. -/
structure AA (w0 : World) (x : Nat) (xs : Array Value) (w : World) (U M U' M' : Nat → Int) : Prop where
  a : Led w w0.heap.size U M
  d : Led w (w0.heap.size + 1) U' M'
  bel : Below w0.heap.size w0 w
  item : w.heap[x]? = some (.cells xs 33)
  far : w0.heap.size + 1 < x

section
variable {w0 w w' : World} {x : Nat} {xs : Array Value} {U M U' M' U1 M1 : Nat → Int}

theorem AA.lt (s : AA w0 x xs w U M U' M') : x < w.heap.size := by
  by_cases e : x < w.heap.size
  · exact e
  · have h := s.item
    rw [Array.getElem?_eq_none (by omega)] at h; cases h

theorem AA.cell (s : AA w0 x xs w U M U' M') (j : Nat) : w.cell? ⟨x, j, none⟩ = xs[j]? := by simp [World.cell?, s.item]

theorem AA.grow (s : AA w0 x xs w U M U' M') {r : Option Nat} (g : w.grownBy w' r) (hr : ∀ j, r = some j → x < j) : AA w0 x xs w' U M U' M' := by
  have hl := s.lt
  have hf := s.far
  have keep : ∀ i, i ≤ x → w'.heap[i]? = w.heap[i]? := fun i hi => g.block i (by omega) (fun e => by have := hr i e.symm; omega)
  exact ⟨s.a.keep (keep _ (by omega)), s.d.keep (keep _ (by omega)), ⟨g.os.trans s.bel.os, g.tape.trans s.bel.tape, g.output.trans s.bel.output, Nat.le_trans s.bel.size g.size, fun i hi => (keep i (by omega)).trans (s.bel.block i hi)⟩, (keep x (Nat.le_refl _)).trans s.item, s.far⟩

theorem AA.stay (s : AA w0 x xs w U M U' M') (h : Below w.heap.size w w') : AA w0 x xs w' U M U' M' :=
  s.grow (r := none) ⟨h.os, h.tape, h.output, h.size, fun i hi _ => h.block i hi⟩ (fun _ e => by cases e)

theorem AA.more (s : AA w0 x xs w U M U' M') (o : Obj) : AA w0 x xs (w.alloc o) U M U' M' := s.stay ((Below.refl _ _).alloc (Nat.le_refl _) o)

theorem AA.turnA (s : AA w0 x xs w U M U' M') (l : Led w' w0.heap.size U1 M1) (g : w.grownBy w' (some w0.heap.size)) : AA w0 x xs w' U1 M1 U' M' := by
  have hf := s.far
  exact ⟨l, s.d.keep (g.block _ s.d.lt (fun e => by injection e with e; omega)), below_of_grown s.bel g (Nat.le_refl _), (g.block x s.lt (fun e => by injection e with e; omega)).trans s.item, s.far⟩

theorem AA.turnD (s : AA w0 x xs w U M U' M') (l : Led w' (w0.heap.size + 1) U1 M1) (g : w.grownBy w' (some (w0.heap.size + 1))) : AA w0 x xs w' U M U1 M1 := by
  have hf := s.far
  exact ⟨s.a.keep (g.block _ s.a.lt (fun e => by injection e with e; omega)), l, below_of_grown s.bel g (by omega), (g.block x s.lt (fun e => by injection e with e; omega)).trans s.item, s.far⟩
end

/-- What Limit answers, and makes. -/
def lim (k n : Int) : Int := if ¬ (0 ≤ k ∧ k < 3) then 1 else if ¬ (0 ≤ n ∧ n ≤ 1000000) then 2 else 0
def limM (M : Nat → Int) (k n : Int) : Nat → Int := if lim k n = 0 then put M k.toNat n else M
/-- An error, or none, by its number. -/
def errA (c : Int) : Value := if c = 0 then .nilIface else eno c

theorem lim_cases (k n : Int) : (¬ (0 ≤ k ∧ k < 3) ∧ lim k n = 1) ∨ ((0 ≤ k ∧ k < 3) ∧ ¬ (0 ≤ n ∧ n ≤ 1000000) ∧ lim k n = 2) ∨ ((0 ≤ k ∧ k < 3) ∧ (0 ≤ n ∧ n ≤ 1000000) ∧ lim k n = 0) := by
  unfold lim
  by_cases h1 : 0 ≤ k ∧ k < 3
  · by_cases h2 : 0 ≤ n ∧ n ≤ 1000000
    · right; right; exact ⟨h1, h2, by simp [h1, h2]⟩
    · right; left; exact ⟨h1, h2, by simp [h1, h2]⟩
  · left; exact ⟨h1, by simp [h1]⟩

theorem Fit.limM {M : Nat → Int} (h : Fit M) (k n : Int) : Fit (limM M k n) := by
  rcases lim_cases k n with ⟨_, e⟩ | ⟨_, _, e⟩ | ⟨_, h2, e⟩
  · simpa [Proofs.YtfejiehkpikieaaDoor.limM, e] using h
  · simpa [Proofs.YtfejiehkpikieaaDoor.limM, e] using h
  · have := h.put k.toNat n h2.1 h2.2
    simpa [Proofs.YtfejiehkpikieaaDoor.limM, e] using this

theorem grown_same (w : World) (r : Option Nat) : w.grownBy w r := ⟨rfl, rfl, rfl, Nat.le_refl _, fun _ _ _ => rfl⟩

theorem limit_any {w : World} {b : Nat} {U M : Nat → Int} (l : Led w b U M) (k n : Int) :
    Calls Tryd.prog 48 #[lp b, .int .i64 k, .int .i64 n] w fun e w' => e = .returned (errA (lim k n)) ∧ Led w' b U (limM M k n) ∧ w.grownBy w' (some b) := by
  rcases lim_cases k n with ⟨h1, e⟩ | ⟨h1, h2, e⟩ | ⟨h1, h2, e⟩
  · refine (limit_arg w b k n h1).mono ?_
    rintro e' w' ⟨rfl, rfl⟩
    exact ⟨by simp [errA, e], by simpa [limM, e] using l, grown_same _ _⟩
  · refine (limit_range w b k n h1 h2).mono ?_
    rintro e' w' ⟨rfl, rfl⟩
    exact ⟨by simp [errA, e], by simpa [limM, e] using l, grown_same _ _⟩
  · refine (limit_ok l k n h1.1 h1.2 h2.1 h2.2).mono ?_
    rintro e' w' ⟨rfl, l', g⟩
    exact ⟨by simp [errA, e], by simpa [limM, e] using l', g⟩

theorem rlimit_any {w : World} {b : Nat} {U M : Nat → Int} (l : Led w b U M) (k n : Int) :
    Calls Tryd.prog 49 #[lp b, .int .i64 k, .int .i64 n] w fun e w' => e = .returned (.int .i64 (lim k n)) ∧ Led w' b U (limM M k n) ∧ w.grownBy w' (some b) := by
  rcases lim_cases k n with ⟨h1, e⟩ | ⟨h1, h2, e⟩ | ⟨h1, h2, e⟩
  · refine (rlimit_arg w b k n h1).mono ?_
    rintro e' w' ⟨rfl, rfl⟩
    exact ⟨by simp [e], by simpa [limM, e] using l, grown_same _ _⟩
  · refine (rlimit_range w b k n h1 h2).mono ?_
    rintro e' w' ⟨rfl, rfl⟩
    exact ⟨by simp [e], by simpa [limM, e] using l, grown_same _ _⟩
  · refine (rlimit_ok l k n h1.1 h1.2 h2.1 h2.2).mono ?_
    rintro e' w' ⟨rfl, l', g⟩
    exact ⟨by simp [e], by simpa [limM, e] using l', g⟩

theorem bare_err (c : Int) (w : World) (hg : w.cell? ⟨1, 0, none⟩ = some errT) : Calls Tryd.prog 12 #[errA c, .int .i64 c] w fun e w' => e = .returned (.bool true) ∧ Below w.heap.size w w' := by
  by_cases h : c = 0
  · subst h; exact bare_nil w
  · rw [errA, if_neg h]; exact bare_eno c w hg

/-- The document's Charge where all may be, and where one may not. -/
theorem rcharge_ok {w : World} {b : Nat} {U M : Nat → Int} (l : Led w b U M) (hU : Fit U) (hM : Fit M) (hW : Well w) (hbf : b ≠ 0) (ad : Option Addr) (len cap : Nat) (q : Nat → Want) (hq : Asks w ad len q) (hl : len ≤ 1000) (hF : Fine U M q len) :
    Calls Tryd.prog 52 #[lp b, .slice ad len cap] w fun e w' => e = .returned (.agg #[.int .i64 0, .int .i64 (-1)]) ∧ Led w' b (upon U q len) M ∧ w.grownBy w' (some b) := by
  refine (rcharge_go l hU hM hW hbf ad len cap q hq hl).mono ?_
  rintro e w' (⟨_, h⟩ | ⟨p, hp, _, hn, _⟩)
  · exact h
  · exact absurd (hF p hp) hn

theorem rcharge_no {w : World} {b : Nat} {U M : Nat → Int} (l : Led w b U M) (hU : Fit U) (hM : Fit M) (hW : Well w) (hbf : b ≠ 0) (ad : Option Addr) (len cap : Nat) (q : Nat → Want) (hq : Asks w ad len q) (hl : len ≤ 1000) (p : Nat) (hp : p < len) (hF : Fine U M q p) (hn : fault U M q p ≠ 0) :
    Calls Tryd.prog 52 #[lp b, .slice ad len cap] w fun e w' => e = .returned (.agg #[.int .i64 (fault U M q p), .int .i64 p]) ∧ Below w.heap.size w w' := by
  refine (rcharge_go l hU hM hW hbf ad len cap q hq hl).mono ?_
  rintro e w' (⟨h, _⟩ | ⟨p', hp', hF', hn', h⟩)
  · exact absurd (h p hp) hn
  · have : p' = p := by
      rcases Nat.lt_trichotomy p p' with h | h | h
      · exact absurd (hF' p h) hn
      · exact h.symm
      · exact absurd (hF p' h) hn'
    subst this
    exact h
end Go.Proofs.YtfejiehkpikieaaDoor

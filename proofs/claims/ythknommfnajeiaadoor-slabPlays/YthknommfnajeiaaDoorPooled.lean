/- pooled and pick of the statements' own, by their Go text. -/
import Derived.Test.YthknommfnajeiaaDoorFree
namespace Go.Proofs.YthknommfnajeiaaDoor
open Go.RowKit Go.Shelf Go.Lib Go.Sort

theorem At.free_len {w : World} {b n : Nat} {U : Nat → Bool} {T : Int → Option Nat} {m : Nat} {A : Nat → Prop} (h : At w b n U T m A) (k : Nat) (hk : (blocks U n).length = k) :
    Calls Tryd.prog 19 #[pp b] w fun e w' => ∃ a c, e = .returned (.slice a k c) ∧ Below w.heap.size w w' := by
  refine (free_ok h).mono ?_
  rintro e w' ⟨v, rfl, hB, hb⟩
  rcases hB.2 with ⟨rfl, h0⟩ | ⟨g, cap, cur, rfl, _⟩
  · rw [List.length_map, hk] at h0; subst h0; exact ⟨none, 0, rfl, hb⟩
  · rw [List.length_map, hk]; exact ⟨_, _, rfl, hb⟩

theorem At.lt' {w : World} {b n : Nat} {U : Nat → Bool} {T : Int → Option Nat} {m : Nat} {A : Nat → Prop} (h : At w b n U T m A) {i : Nat} (hi : A i) : i < w.heap.size := by
  obtain ⟨g, O, V, F, s, p, c, pm, hs, inv, hn, hA⟩ := h
  rcases (hA i).1 hi with h | rfl
  · exact p.own_lt h
  · exact pm.lt
theorem At.keep' {w w' : World} {b n : Nat} {U : Nat → Bool} {T : Int → Option Nat} {m : Nat} {A : Nat → Prop} (h : At w b n U T m A) (hk : ∀ i, A i → w'.heap[i]? = w.heap[i]?) : At w' b n U T m A := by
  obtain ⟨g, O, V, F, s, p, c, pm, hs, inv, hn, hA⟩ := h
  exact ⟨g, O, V, F, s, p.keep (fun i hi => hk i ((hA i).2 (.inl hi))), c, pm.keep (hk g ((hA g).2 (.inr rfl))), hs, inv, hn, hA⟩
theorem At.inv' {w : World} {b n : Nat} {U : Nat → Bool} {T : Int → Option Nat} {m : Nat} {A : Nat → Prop} (h : At w b n U T m A) : Inv n U T := by
  obtain ⟨g, O, V, F, s, p, c, pm, hs, inv, hn, hA⟩ := h
  exact inv

/-- A pool apart from all that was there at first. -/
def Own (w0 : World) (b n : Nat) (w : World) (U : Nat → Bool) (T : Int → Option Nat) (m : Nat) : Prop :=
  ∃ A, At w b n U T m A ∧ Below w0.heap.size w0 w ∧ ∀ i, i < w0.heap.size → ¬ A i

section
variable {w0 w w' : World} {b n : Nat} {U U1 : Nat → Bool} {T T1 : Int → Option Nat} {m m1 : Nat}
theorem Own.turn {A : Nat → Prop} (hb : Below w0.heap.size w0 w) (hA : ∀ i, i < w0.heap.size → ¬ A i) (t : Turns w b n A w' U1 T1 m1) : Own w0 b n w' U1 T1 m1 := by
  obtain ⟨A', a, fr, sub⟩ := t
  exact ⟨A', a, hb.trans ⟨fr.os, fr.tape, fr.output, fr.size, fun i hi => fr.block i (Nat.lt_of_lt_of_le hi hb.size) (hA i hi)⟩, fun i hi h => hA i hi (sub i (Nat.lt_of_lt_of_le hi hb.size) h)⟩
theorem Own.stay (h : Own w0 b n w U T m) (hb : Below w.heap.size w w') : Own w0 b n w' U T m := by
  obtain ⟨A, a, b0, o⟩ := h
  exact ⟨A, a.keep' (fun i hi => hb.block i (a.lt' hi)), b0.trans (hb.mono b0.size), o⟩
end

def five : Nat → Bool := fun f => decide (f < 5)
theorem five_blocks : blocks five 5 = [(0, 2), (4, 0)] := by decide
theorem five_best : Best five 1 (0 * 2 ^ 2) 2 := by
  have hb : ∀ f, five f = true → f < 5 := fun f h => by simpa [five] using h
  have hm := fun b k => blocks_mem hb b k
  rw [five_blocks] at hm
  refine ⟨?_, by omega, fun j r hx hj => ?_⟩
  · obtain ⟨q, hq, hx⟩ := (hm 0 2).1 (by simp)
    exact ⟨q, by omega, hx⟩
  · have := (hm (r * 2 ^ j) j).2 ⟨r, rfl, hx⟩
    simp only [List.mem_cons, Prod.mk.injEq, List.not_mem_nil, or_false] at this
    rcases this with ⟨h1, h2⟩ | ⟨h1, h2⟩
    · exact .inr ⟨h2.symm, by omega⟩
    · omega

set_option maxRecDepth 100000 in
set_option maxHeartbeats 4000000 in
theorem pooled_ok (w : World) : Calls Tryd.prog 27 #[] w fun e w' => e = .returned (.bool true) ∧ Below w.heap.size w w' := by
  have t1 : (fun z => if z = ((0 * 2 ^ 2 : Nat) : Int) then some 1 else none : Int → Option Nat) ((0 * 2 ^ 1 : Nat) : Int) = some 1 := by simp
  have n1 : cnt (fun f => decide (f < 5)) 0 5 = 5 := by decide
  have n2 : cnt (cut (fun f => decide (f < 5)) 1 (0 * 2 ^ (2 - 1))) 0 5 = 3 := by decide
  have l1 : (blocks (fun f => decide (f < 5)) 5).length = 2 := by decide
  have l2 : (blocks (join (cut (fun f => decide (f < 5)) 1 (0 * 2 ^ (2 - 1))) 1 0) 5).length = 2 := by decide
  have hL1 : ∀ b W, Own w b 5 W (fun f => decide (f < 5)) (fun _ => none) 0 → Calls Tryd.prog 25 #[pp b] W fun e w' => e = .returned (.int .i64 5) ∧ w' = W := by
    rintro b W ⟨A, a, _, _⟩
    have := left_ok a
    rw [n1] at this; exact this
  have hL2 : ∀ b W, Own w b 5 W (cut (fun f => decide (f < 5)) 1 (0 * 2 ^ (2 - 1))) (fun z => if z = ((0 * 2 ^ 2 : Nat) : Int) then some 1 else none) 1 → Calls Tryd.prog 25 #[pp b] W fun e w' => e = .returned (.int .i64 3) ∧ w' = W := by
    rintro b W ⟨A, a, _, _⟩
    have := left_ok a
    rw [n2] at this; exact this
  have hF1 : ∀ b W, Own w b 5 W (fun f => decide (f < 5)) (fun _ => none) 0 → Calls Tryd.prog 19 #[pp b] W fun e w' => ∃ a c, e = .returned (.slice a 2 c) ∧ Own w b 5 w' (fun f => decide (f < 5)) (fun _ => none) 0 := by
    intro b W P
    obtain ⟨A, a, b0, o⟩ := P
    refine (a.free_len 2 l1).mono ?_
    rintro e w' ⟨a', c, rfl, hb⟩
    exact ⟨a', c, rfl, Own.stay ⟨A, a, b0, o⟩ hb⟩
  have hA1 : ∀ b W, Own w b 5 W (fun f => decide (f < 5)) (fun _ => none) 0 → Calls Tryd.prog 22 #[pp b, .int .i64 1] W fun e w' => e = .returned (.tuple #[.int .i64 0, .nilIface]) ∧ Own w b 5 w' (cut (fun f => decide (f < 5)) 1 (0 * 2 ^ (2 - 1))) (fun z => if z = ((0 * 2 ^ 2 : Nat) : Int) then some 1 else none) 1 := by
    rintro b W ⟨A, a, b0, o⟩
    refine (alloc_some a (by omega) 1 (by omega) 2 0 five_best).mono ?_
    rintro e w' ⟨rfl, t⟩
    exact ⟨rfl, Own.turn b0 o t⟩
  have hG1 : ∀ b W, Own w b 5 W (cut (fun f => decide (f < 5)) 1 (0 * 2 ^ (2 - 1))) (fun z => if z = ((0 * 2 ^ 2 : Nat) : Int) then some 1 else none) 1 → Calls Tryd.prog 23 #[pp b, .int .i64 0, .int .i64 1] W fun e w' => ∃ T, e = .returned .nilIface ∧ Own w b 5 w' (join (cut (fun f => decide (f < 5)) 1 (0 * 2 ^ (2 - 1))) 1 0) T 1 := by
    rintro b W ⟨A, a, b0, o⟩
    refine (give_ok a 0 1 t1).mono ?_
    rintro e w' ⟨rfl, t⟩
    exact ⟨_, rfl, Own.turn b0 o t⟩
  have hF2 : ∀ b W T, Own w b 5 W (join (cut (fun f => decide (f < 5)) 1 (0 * 2 ^ (2 - 1))) 1 0) T 1 → Calls Tryd.prog 19 #[pp b] W fun e w' => ∃ a c, e = .returned (.slice a 2 c) ∧ Below w.heap.size w w' := by
    intro b W T P
    obtain ⟨A, a, b0, o⟩ := P
    refine (a.free_len 2 l2).mono ?_
    rintro e w' ⟨a', c, rfl, hb⟩
    exact ⟨a', c, rfl, b0.trans (hb.mono b0.size)⟩
  clear t1 n1 n2 l1 l2
  go_enter Tryd.func27, Tryd.ntmps27
  go_wp2_with (first
    | (go_at_call 16; refine (pool_ok _ 5 (by omega) (by omega)).mono ?_; rintro e w1 ⟨b, rfl, A1, a1, f1, o1⟩; have P1 : Own w b 5 w1 (fun f => decide (f < 5)) (fun _ => none) 0 := ⟨A1, a1, ⟨f1.os, f1.tape, f1.output, f1.size, fun i hi => f1.block i hi (fun h => h)⟩, o1⟩)
    | (go_at_call 25; refine (hL1 _ _ ?_).mono ?_; assumption; rintro e w2 ⟨rfl, h2⟩; subst w2)
    | (go_at_call 25; refine (hL2 _ _ ?_).mono ?_; assumption; rintro e w2 ⟨rfl, h2⟩; subst w2)
    | (go_at_call 19; refine (hF1 _ _ ?_).mono ?_; assumption; rintro e w3 ⟨a3, c3, rfl, P3⟩)
    | (go_at_call 22; refine (hA1 _ _ ?_).mono ?_; assumption; rintro e w4 ⟨rfl, P4⟩)
    | (go_at_call 23; refine (hG1 _ _ ?_).mono ?_; assumption; rintro e w5 ⟨T5, rfl, P5⟩)
    | (go_at_call 19; refine (hF2 _ _ _ P5).mono ?_; rintro e w6 ⟨a6, c6, rfl, b6⟩))
  go_ret
  exact ⟨rfl, b6⟩
end Go.Proofs.YthknommfnajeiaaDoor

/- The document's Give, by its Go text. -/
import Derived.Test.YthknommfnajeiaaDoorRefOps
namespace Go.Proofs.YthknommfnajeiaaDoor
open Go.RowKit Go.Shelf Go.Lib Go.Sort

theorem RAt.remap {w w1 : World} {r f g n : Nat} {U : Nat → Bool} {T T' : Int → Option Nat} {m m' s : Nat} (h : RAt w r f g n U T m) (g1 : w.grownBy w1 (some g)) (pm : PMap w1 g s (tm T')) (hs : s ≤ m') : RAt w1 r f g n U T' m' := by
  obtain ⟨⟨cap, h1, h2⟩, ⟨c, h3, h4⟩, ⟨s, h5, h6⟩, h7, h8⟩ := h
  obtain ⟨es, cl, hm⟩ := h5.isMap
  refine ⟨⟨cap, (g1.block r (lt_of_heap h1) (fun e => ?_)).trans h1, h2⟩, ⟨c, (g1.block f (lt_of_heap h3) (fun e => ?_)).trans h3, h4⟩, ⟨_, pm, hs⟩, h7, h8⟩
  · cases e; rw [hm] at h1; cases h1
  · cases e; rw [hm] at h3; cases h3

theorem RAt.same {w : World} {r f g n : Nat} {U U' : Nat → Bool} {T : Int → Option Nat} {m : Nat} (h : RAt w r f g n U T m) (e : U = U') : RAt w r f g n U' T m := e ▸ h

/-- The first j frames from z on, and what else is free. -/
def upto (U : Nat → Bool) (z j : Nat) (x : Bool) : Nat → Bool := fun f => if z ≤ f ∧ f < z + j then x else U f
theorem upto_zero (U : Nat → Bool) (z : Nat) (x : Bool) : upto U z 0 x = U := by funext f; unfold upto; rw [if_neg (by omega)]
theorem upto_succ (U : Nat → Bool) (z j : Nat) (x : Bool) : (fun i => if i = z + j then x else upto U z j x i) = upto U z (j + 1) x := by
  funext i; unfold upto
  by_cases h1 : i = z + j
  · rw [if_pos h1, if_pos (by omega)]
  · rw [if_neg h1]
    by_cases h2 : z ≤ i ∧ i < z + j
    · rw [if_pos h2, if_pos (by omega)]
    · rw [if_neg h2, if_neg (by omega)]
theorem upto_join (U : Nat → Bool) (k q : Nat) : upto U (q * 2 ^ k) (2 ^ k) true = join U k q := by
  funext f
  rw [Bool.eq_iff_iff, join_true, in_iff]
  unfold upto
  by_cases h : q * 2 ^ k ≤ f ∧ f < q * 2 ^ k + 2 ^ k
  · rw [if_pos h]; simp [h]
  · rw [if_neg h]; exact ⟨.inl, fun a => a.elim id (fun b => absurd b h)⟩
theorem upto_cut (U : Nat → Bool) (k q : Nat) : upto U (q * 2 ^ k) (2 ^ k) false = cut U k q := by
  funext f
  rw [Bool.eq_iff_iff, cut_true, ne_eq, in_iff]
  unfold upto
  by_cases h : q * 2 ^ k ≤ f ∧ f < q * 2 ^ k + 2 ^ k
  · rw [if_pos h]; simp [h]
  · rw [if_neg h]; exact ⟨fun a => ⟨a, h⟩, fun a => a.1⟩

set_option maxRecDepth 100000 in
set_option maxHeartbeats 2000000 in
theorem rgive_no {w : World} {r f g n : Nat} {U : Nat → Bool} {T : Int → Option Nat} {m : Nat} (h : RAt w r f g n U T m) (z k : Int) (hz : (Lit.int .i64 z).wf = true) (ht : ∀ j : Nat, T z = some j → (j : Int) ≠ k) :
    Calls Tryd.prog 24 #[pp r, .int .i64 z, .int .i64 k] w fun e w' => e = .returned (.int .i64 7) ∧ w' = w := by
  obtain ⟨cap, _, c1, _⟩ := h.cells
  obtain ⟨s, pm, _⟩ := h.map
  cases hT : T z with
  | none =>
    have e1 : (tm T z).isSome = false := by simp [tm, hT]
    go_enter Tryd.func24, Tryd.ntmps24
    go_wp2_with (at_lookup; refine wpList_kask rfl _ _ 65 rfl 3 Tryd.underlying65 _ (zero_int _) g s _ rfl pm z rfl hz ?_)
    go_ret
    exact ⟨rfl, rfl⟩
  | some j =>
    have e1 : tm T z = some (.int .i64 j) := by simp [tm, hT]
    have e2 : ((j : Int) == k) = false := by simpa using ht j hT
    go_enter Tryd.func24, Tryd.ntmps24
    go_wp2_with (at_lookup; refine wpList_kask rfl _ _ 65 rfl 3 Tryd.underlying65 _ (zero_int _) g s _ rfl pm z rfl hz ?_; rw [e1]; simp only [Option.getD_some, Option.isSome_some])
    go_ret
    exact ⟨rfl, rfl⟩

set_option maxRecDepth 100000 in
set_option maxHeartbeats 2000000 in
theorem rgive_ok {w : World} {r f g n : Nat} {U : Nat → Bool} {T : Int → Option Nat} {m : Nat} (h : RAt w r f g n U T m) (inv : Inv n U T) (q k : Nat) (ht : T ((q * 2 ^ k : Nat) : Int) = some k) :
    Calls Tryd.prog 24 #[pp r, .int .i64 ((q * 2 ^ k : Nat) : Int), .int .i64 k] w fun e w' => e = .returned (.int .i64 0) ∧ RAt w' r f g n (join U k q) (fun z => if z = ((q * 2 ^ k : Nat) : Int) then none else T z) m ∧ Fr (rown r f g) w w' := by
  obtain ⟨cap, _, c1, _⟩ := h.cells
  obtain ⟨s, pm, hs⟩ := h.map
  have hn := h.small
  obtain ⟨hk, r', hr', htk⟩ := inv.tk _ _ ht
  have hrq := at_order hr'
  subst hrq
  have hsm : q * 2 ^ k < 256 := by have := (htk _ (first_in k q)).1; omega
  have hend : q * 2 ^ k + 2 ^ k ≤ n := by
    have := (htk (q * 2 ^ k + 2 ^ k - 1) ((in_iff _ _ _).2 (by have := Nat.two_pow_pos k; omega))).1; omega
  have e1 : tm T ((q * 2 ^ k : Nat) : Int) = some (.int .i64 k) := by simp only [tm, ht]; rfl
  have hwf : (Lit.int .i64 ((q * 2 ^ k : Nat) : Int)).wf = true := wf_small (by omega) (by omega)
  have e2 := tm_del T ((q * 2 ^ k : Nat) : Int)
  have hs1 : (if (tm T ((q * 2 ^ k : Nat) : Int)).isSome then s - 1 else s) ≤ m := by split <;> omega
  have hj := upto_join U k q
  have hw := pow_wrap (z := q * 2 ^ k) (j := k) hsm hk
  have hre := fun w1 (g1 : w.grownBy w1 (some g)) (pm1 : PMap w1 g _ (tm fun z => if z = ((q * 2 ^ k : Nat) : Int) then none else T z)) => h.remap g1 pm1 hs1
  have hpc : ((2 ^ k : Nat) : Int) = (2 : Int) ^ k := by simp
  clear htk hr' inv
  generalize hZ : q * 2 ^ k = z at *
  generalize hx : 2 ^ k = x at *
  rw [← hpc] at hw
  rw [← hj]
  clear hj
  go_enter Tryd.func24, Tryd.ntmps24
  go_wp2_with (first
    | (at_lookup; refine wpList_kask rfl _ _ 65 rfl 3 Tryd.underlying65 _ (zero_int _) g s _ rfl pm (z : Int) rfl hwf ?_; rw [e1]; simp only [Option.getD_some, Option.isSome_some])
    | (at_delete; refine wpList_kdel rfl _ _ 65 rfl 3 Tryd.underlying65 g s _ rfl pm (z : Int) rfl hwf ?_; intro w1 pm1 g1; rw [e2] at pm1))
  have R1 := hre w1 g1 pm1
  have F1 : Fr (rown r f g) w w1 := (Fr.grown g1).mono (fun i _ h => .inr (.inr h))
  clear hre pm1 g1 e1 e2 hs1 pm
  go_loopg [9] x (fun mm s9 wr => ∃ j : Nat, j + mm = x ∧ s9 = .int .i64 ((z + j : Nat) : Int) ∧ RAt wr r f g n (upto U z j true) (fun i => if i = (z : Int) then none else T i) m ∧ Fr (rown r f g) w wr)
  case atStart => exact ⟨0, by omega, rfl, by rw [upto_zero]; exact R1, F1⟩
  case round =>
    obtain ⟨j, hj, rfl, R, F⟩ := hrel
    obtain ⟨cap', c0', _, hcap'⟩ := R.cells
    by_cases hlt : j < x
    · have hlt' : ((z + j : Nat) : Int) < (z : Int) + (x : Int) := by omega
      have hin : z + j < n := by omega
      have R' := R.set hin true
      rw [upto_succ] at R'
      obtain ⟨cb, fb⟩ := R.bit hin
      go_wp2_with fail
      go_roundg (x - (j + 1))
      case measure => omega
      case rel => exact ⟨j + 1, by omega, by go_num, R', F.bit f _ _ (.inr (.inl rfl))⟩
    · have hlt' : ¬ ((z + j : Nat) : Int) < (z : Int) + (x : Int) := by omega
      have hjx : j = x := by omega
      subst hjx
      go_wp2_with fail
      go_ret
      exact ⟨rfl, R, F⟩
end Go.Proofs.YthknommfnajeiaaDoor

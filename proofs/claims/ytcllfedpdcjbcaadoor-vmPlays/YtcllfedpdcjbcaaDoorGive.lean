/- Give, Alloc and New of package buddy, each by its Go text; a pool told by which frames are free, and what is taken. -/
import Derived.Test.YtcllfedpdcjbcaaDoorPut
namespace Go.Proofs.YtcllfedpdcjbcaaDoor
open Go.RowKit Go.Shelf Go.Lib Go.Sort

/-- What is taken, as a map's elements. -/
def tm (T : Int → Option Nat) (z : Int) : Option Value := (T z).map fun k => .int .i64 (k : Int)

/-- A pool at block b: frames below n, U free, T taken (at most m ever); A: all that is its own. -/
def At (w : World) (b n : Nat) (U : Nat → Bool) (T : Int → Option Nat) (m : Nat) (A : Nat → Prop) : Prop :=
  ∃ g O V F s, Pl w b g O V F ∧ Can F U ∧ PMap w g s (tm T) ∧ s ≤ m ∧ Inv n U T ∧ n ≤ 256 ∧ ∀ i, A i ↔ own b O i ∨ i = g

/-- It turned into another one; all else is as it was. -/
def Turns (w : World) (b n : Nat) (A : Nat → Prop) (w' : World) (U : Nat → Bool) (T : Int → Option Nat) (m : Nat) : Prop :=
  ∃ A', At w' b n U T m A' ∧ Fr A w w' ∧ ∀ i, i < w.heap.size → A' i → A i

abbrev enr (k : Int) : Value := .iface 29 (.int .i64 k)

theorem tm_put (T : Int → Option Nat) (z : Int) (k : Nat) : (fun i => if i = z then some (.int .i64 (k : Int)) else tm T i) = tm (fun i => if i = z then some k else T i) := by
  funext i; simp only [tm]; split <;> rfl
theorem tm_del (T : Int → Option Nat) (z : Int) : (fun i => if i = z then none else tm T i) = tm (fun i => if i = z then none else T i) := by
  funext i; simp only [tm]; split <;> rfl

theorem zero_int (w : World) : (zeroValue 3).run Tryd.prog w = .ok (.int .i64 0) w := by kernel_rfl

set_option maxRecDepth 100000 in
set_option maxHeartbeats 2000000 in
theorem give_no {w : World} {b n : Nat} {U : Nat → Bool} {T : Int → Option Nat} {m : Nat} {A : Nat → Prop} (h : At w b n U T m A) (z k : Int) (hz : (Lit.int .i64 z).wf = true) (ht : ∀ j : Nat, T z = some j → (j : Int) ≠ k) :
    Calls Tryd.prog 26 #[pp b, .int .i64 z, .int .i64 k] w fun e w' => e = .returned (enr 7) ∧ w' = w := by
  obtain ⟨g, O, V, F, s, p, c, pm, hs, inv, hn, hA⟩ := h
  have h7 := p.cellm
  cases hT : T z with
  | none =>
    have e1 : (tm T z).isSome = false := by simp [tm, hT]
    go_enter Tryd.func26, Tryd.ntmps26
    go_wp2_with (at_lookup; refine wpList_kask rfl _ _ 65 rfl 3 Tryd.underlying65 _ (zero_int _) g s _ rfl pm z rfl hz ?_)
    go_ret
    exact ⟨rfl, rfl⟩
  | some j =>
    have e1 : tm T z = some (.int .i64 j) := by simp [tm, hT]
    have e2 : ((j : Int) == k) = false := by simpa using ht j hT
    go_enter Tryd.func26, Tryd.ntmps26
    go_wp2_with (at_lookup; refine wpList_kask rfl _ _ 65 rfl 3 Tryd.underlying65 _ (zero_int _) g s _ rfl pm z rfl hz ?_; rw [e1]; simp only [Option.getD_some, Option.isSome_some])
    go_ret
    exact ⟨rfl, rfl⟩

theorem wf_small {z : Int} (h0 : 0 ≤ z) (h1 : z < 100000) : (Lit.int .i64 z).wf = true := by
  have a : IntKind.min .i64 = -9223372036854775808 := rfl
  have b : IntKind.max .i64 = 9223372036854775807 := rfl
  simp only [Lit.wf, a, b, Bool.and_eq_true, decide_eq_true_eq]; omega

/-- put, behind a change of the map. -/
theorem put_behind {w w1 : World} {b g n : Nat} {O : Nat → Option Nat} {V : Nat → Value} {F : Nat → List Int} {A : Nat → Prop} (p : Pl w b g O V F) (hA : ∀ i, A i ↔ own b O i ∨ i = g) (hgo : ¬ own b O g) (g1 : w.grownBy w1 (some g)) {s : Nat} {T : Int → Option Nat} {m : Nat} (pm1 : PMap w1 g s (tm T)) (hs : s ≤ m)
    {U : Nat → Bool} (inv : Inv n U T) (hn : n ≤ 256) (k q : Nat) (hk : k ≤ 6) (c : Can F (cut U k q)) (hb : blk U k q) :
    Calls Tryd.prog 80 #[pp b, .int .i64 ((q * 2 ^ k : Nat) : Int), .int .i64 k] w1 fun e w' => e = .returned (.tuple #[]) ∧ Turns w b n A w' U T m := by
  have p1 : Pl w1 b g O V F := p.keep (fun i hi => g1.block i (p.own_lt hi) (fun e => hgo (by cases e; exact hi)))
  refine (put_ok p1 inv.bound hn k q hk c hb).mono ?_
  rintro e w' ⟨rfl, O', V', F', G, c'⟩
  refine ⟨rfl, fun i => own b O' i ∨ i = g, ⟨g, O', V', F', s, G.pool, c', pm1.keep (G.fr.block g pm1.lt hgo), hs, inv, hn, fun _ => Iff.rfl⟩, ?_, ?_⟩
  · exact ((Fr.grown g1).mono (fun i _ h => (hA i).2 (.inr h))).trans G.fr (fun i _ h => (hA i).2 (.inl h))
  · rintro i hi (h | h)
    · exact (hA i).2 (.inl (G.sub i (Nat.lt_of_lt_of_le hi g1.size) h))
    · exact (hA i).2 (.inr h)

set_option maxRecDepth 100000 in
set_option maxHeartbeats 2000000 in
theorem give_ok {w : World} {b n : Nat} {U : Nat → Bool} {T : Int → Option Nat} {m : Nat} {A : Nat → Prop} (h : At w b n U T m A) (q k : Nat) (ht : T ((q * 2 ^ k : Nat) : Int) = some k) :
    Calls Tryd.prog 26 #[pp b, .int .i64 ((q * 2 ^ k : Nat) : Int), .int .i64 k] w fun e w' => e = .returned .nilIface ∧ Turns w b n A w' (join U k q) (fun z => if z = ((q * 2 ^ k : Nat) : Int) then none else T z) m := by
  obtain ⟨g, O, V, F, s, p, c, pm, hs, inv, hn, hA⟩ := h
  have h7 := p.cellm
  have inv' := inv.give ht
  obtain ⟨hk, r, hr, htk⟩ := inv.tk _ _ ht
  have hrq := at_order hr
  subst hrq
  have hsm : q * 2 ^ k < 256 := by have := (htk _ (first_in k q)).1; omega
  have e1 : tm T ((q * 2 ^ k : Nat) : Int) = some (.int .i64 k) := by simp only [tm, ht]; rfl
  have hcj : cut (join U k q) k q = U := cut_join (fun f hf => (htk f hf).2)
  have hbj : blk (join U k q) k q := fun f hf => join_true.2 (.inr hf)
  have hwf : (Lit.int .i64 ((q * 2 ^ k : Nat) : Int)).wf = true := wf_small (by omega) (by omega)
  have hgo := p.map_off pm
  rw [← hcj] at c
  have e2 := tm_del T ((q * 2 ^ k : Nat) : Int)
  have hput := fun w1 s1 (g1 : w.grownBy w1 (some g)) (pm1 : PMap w1 g s1 (tm fun z => if z = ((q * 2 ^ k : Nat) : Int) then none else T z)) (hs1 : s1 ≤ m) => put_behind p hA hgo g1 pm1 hs1 inv' hn k q hk c hbj
  have hs1 : (if (tm T ((q * 2 ^ k : Nat) : Int)).isSome then s - 1 else s) ≤ m := by split <;> omega
  clear p c inv inv' hA htk hcj hbj
  generalize hZ : ((q * 2 ^ k : Nat) : Int) = z at *
  go_enter Tryd.func26, Tryd.ntmps26
  go_wp2_with (first
    | (at_lookup; refine wpList_kask rfl _ _ 65 rfl 3 Tryd.underlying65 _ (zero_int _) g s _ rfl pm z rfl hwf ?_; rw [e1]; simp only [Option.getD_some, Option.isSome_some])
    | (at_delete; refine wpList_kdel rfl _ _ 65 rfl 3 Tryd.underlying65 g s _ rfl pm z rfl hwf ?_; intro w1 pm1 g1; rw [e2] at pm1)
    | (go_at_call 80; refine (hput _ _ g1 pm1 hs1).mono ?_; rintro e w2 ⟨rfl, t2⟩))
  go_ret
  exact ⟨rfl, t2⟩

/-- An Errno, or none. -/
def errV (c : Int) : Value := if c = 0 then .nilIface else enr c
end Go.Proofs.YtcllfedpdcjbcaaDoor

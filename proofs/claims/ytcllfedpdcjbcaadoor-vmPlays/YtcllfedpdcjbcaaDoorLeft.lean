/- New and Left of package buddy, each by its Go text. -/
import Derived.Test.YtcllfedpdcjbcaaDoorAlloc
import Derived.Carry
namespace Go.Proofs.YtcllfedpdcjbcaaDoor
open Go.RowKit Go.Shelf Go.Lib Go.Sort

theorem can_empty : Can (fun _ => []) (fun _ => false) := by
  intro k hk
  refine ⟨List.Pairwise.nil, fun z => ⟨fun h => (by cases h), ?_⟩⟩
  rintro ⟨q, _, hx⟩
  have := hx.2.1 _ (first_in k q)
  cases this

set_option maxHeartbeats 1000000 in
theorem pool_no (w : World) (n : Int) (h : ¬ (1 ≤ n ∧ n ≤ 256)) :
    Calls Tryd.prog 19 #[.int .i64 n] w fun e w' => e = .returned (.tuple #[.pointer none, enr 2]) ∧ w' = w := by
  by_cases h1 : n < 1 <;> by_cases h2 : 256 < n
  all_goals first
    | (exfalso; omega)
    | (clear h
       go_enter Tryd.func19, Tryd.ntmps19
       go_wp2_with fail
       go_ret2
       exact ⟨rfl, rfl⟩)

theorem pool_new (w : World) : Pl ((w.alloc (.map #[] 0)).alloc (.cells #[.slice none 0 0, .slice none 0 0, .slice none 0 0, .slice none 0 0, .slice none 0 0, .slice none 0 0, .slice none 0 0, .map (some w.heap.size)] 135)) (w.heap.size + 1) w.heap.size (fun _ => none) (fun _ => .slice none 0 0) (fun _ => []) := by
  refine ⟨?_, fun k _ => ⟨rfl, rfl⟩, fun j k s _ _ h => by cases h⟩
  show ((w.heap.push _).push _)[w.heap.size + 1]? = _
  rw [Array.getElem?_push, if_pos (by simp)]
  rfl

set_option maxRecDepth 100000 in
set_option maxHeartbeats 4000000 in
theorem pool_ok (w : World) (n : Nat) (h1 : 1 ≤ n) (h2 : n ≤ 256) :
    Calls Tryd.prog 19 #[.int .i64 n] w fun e w' => ∃ b, e = .returned (.tuple #[pp b, .nilIface]) ∧ ∃ A, At w' b n (fun f => decide (f < n)) (fun _ => none) 0 A ∧ Fr (fun _ => False) w w' ∧ ∀ i, i < w.heap.size → ¬ A i := by
  have p0 := pool_new w
  have pm0 : PMap ((w.alloc (.map #[] 0)).alloc (.cells #[.slice none 0 0, .slice none 0 0, .slice none 0 0, .slice none 0 0, .slice none 0 0, .slice none 0 0, .slice none 0 0, .map (some w.heap.size)] 135)) w.heap.size 0 (fun _ => none) := (PMap.made w).keep (Below.heap_alloc _ _ _ (by simp))
  have f0 : Fr (fun _ => False) w ((w.alloc (.map #[] 0)).alloc (.cells #[.slice none 0 0, .slice none 0 0, .slice none 0 0, .slice none 0 0, .slice none 0 0, .slice none 0 0, .slice none 0 0, .map (some w.heap.size)] 135)) := (Fr.alloc _ w _).trans (Fr.alloc _ _ _) (fun _ _ h => h)
  have hs0 : w.heap.size + 2 ≤ ((w.alloc (.map #[] 0)).alloc (.cells #[.slice none 0 0, .slice none 0 0, .slice none 0 0, .slice none 0 0, .slice none 0 0, .slice none 0 0, .slice none 0 0, .map (some w.heap.size)] 135)).heap.size := by simp
  have hmm := @run_makeMap Tryd.prog
  have h3 : ¬ (n : Int) < 1 := by omega
  have h4 : ¬ (256 : Int) < n := by omega
  go_enter Tryd.func19, Tryd.ntmps19
  go_wp2_with fail
  go_loopg [17] n (fun m s wr => ∃ (i : Nat) (O : Nat → Option Nat) (V : Nat → Value) (F : Nat → List Int), i + m = n ∧ s = .int .i64 i ∧ Goes (w.heap.size + 1) w.heap.size (fun _ => none) ((w.alloc (.map #[] 0)).alloc (.cells #[.slice none 0 0, .slice none 0 0, .slice none 0 0, .slice none 0 0, .slice none 0 0, .slice none 0 0, .slice none 0 0, .map (some w.heap.size)] 135)) wr O V F ∧ Can F (fun f => decide (f < i)))
  case atStart => exact ⟨0, _, _, _, by omega, rfl, ⟨p0, Fr.refl _ _, fun _ _ h => h⟩, by simpa using can_empty⟩
  case round =>
    obtain ⟨i, O, V, F, hi, rfl, G, c⟩ := hrel
    by_cases hlt : (i : Int) < n
    · have e1 : cut (fun f => decide (f < i + 1)) 0 i = fun f => decide (f < i) := by
        funext f; rw [Bool.eq_iff_iff, cut_true]; simp; omega
      have hp := put_ok G.pool (n := i + 1) (U := fun f => decide (f < i + 1)) (fun f hf => by simpa using hf) (by omega) 0 i (by omega) (by rw [e1]; exact c) (fun f hf => by simp at hf; simp; omega)
      rw [show ((i * 2 ^ 0 : Nat) : Int) = (i : Int) by simp] at hp
      go_wp2_with (go_at_call 80; refine hp.mono ?_; rintro e w2 ⟨rfl, O2, V2, F2, G2, c2⟩)
      go_roundg (n - (i + 1))
      case measure => omega
      case rel => exact ⟨i + 1, O2, V2, F2, by omega, by go_num, G.trans G2, c2⟩
    · have hin : i = n := by omega
      subst hin
      go_wp2_with fail
      go_ret2
      have hgo := p0.map_off pm0
      refine ⟨_, rfl, fun j => own (w.heap.size + 1) O j ∨ j = w.heap.size, ⟨w.heap.size, O, V, F, 0, G.pool, c, ?_, Nat.le_refl _, inv_new i, h2, fun _ => Iff.rfl⟩, ?_, ?_⟩
      · exact pm0.keep (G.fr.block _ (by omega) hgo)
      · refine f0.trans G.fr ?_
        rintro j hj (h | ⟨k, _, h⟩)
        · omega
        · cases h
      · rintro j hj (h | h)
        · rcases G.sub j (by omega) h with h | ⟨k, _, h⟩
          · omega
          · cases h
        · omega
end Go.Proofs.YtcllfedpdcjbcaaDoor

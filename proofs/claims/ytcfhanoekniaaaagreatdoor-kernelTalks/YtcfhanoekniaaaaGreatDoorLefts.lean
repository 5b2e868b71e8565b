/- New and Left of package buddy, each by its Go text. -/
import Derived.Test.YtcfhanoekniaaaaGreatDoorAlloc
import Derived.Carry
namespace Go.Proofs.YtcfhanoekniaaaaGreatDoor
open Go.RowKit Go.Shelf Go.Lib Go.Sort

theorem can_empty : Can (fun _ => []) (fun _ => false) := by
  intro k hk
  refine ⟨List.Pairwise.nil, fun z => ⟨fun h => (by cases h), ?_⟩⟩
  rintro ⟨q, _, hx⟩
  have := hx.2.1 _ (first_in k q)
  cases this

set_option maxHeartbeats 1000000 in
theorem pool_no (w : World) (n : Int) (h : ¬ (1 ≤ n ∧ n ≤ 256)) :
    Calls Tryz.prog 131 #[.int .i64 n] w fun e w' => e = .returned (.tuple #[.pointer none, enr 2]) ∧ w' = w := by
  by_cases h1 : n < 1 <;> by_cases h2 : 256 < n
  all_goals first
    | (exfalso; omega)
    | (clear h
       go_enter Tryz.func131, Tryz.ntmps131
       go_wp2_with fail
       go_ret2
       exact ⟨rfl, rfl⟩)

theorem pool_new (w : World) : Pl ((w.alloc (.map #[] 0)).alloc (.cells #[.slice none 0 0, .slice none 0 0, .slice none 0 0, .slice none 0 0, .slice none 0 0, .slice none 0 0, .slice none 0 0, .map (some w.heap.size)] 334)) (w.heap.size + 1) w.heap.size (fun _ => none) (fun _ => .slice none 0 0) (fun _ => []) := by
  refine ⟨?_, fun k _ => ⟨rfl, rfl⟩, fun j k s _ _ h => by cases h⟩
  show ((w.heap.push _).push _)[w.heap.size + 1]? = _
  rw [Array.getElem?_push, if_pos (by simp)]
  rfl

set_option maxRecDepth 100000 in
set_option maxHeartbeats 4000000 in
theorem pool_ok (w : World) (n : Nat) (h1 : 1 ≤ n) (h2 : n ≤ 256) :
    Calls Tryz.prog 131 #[.int .i64 n] w fun e w' => ∃ b, e = .returned (.tuple #[pp b, .nilIface]) ∧ ∃ A, At w' b n (fun f => decide (f < n)) (fun _ => none) 0 A ∧ Fr (fun _ => False) w w' ∧ ∀ i, i < w.heap.size → ¬ A i := by
  have p0 := pool_new w
  have pm0 : PMap ((w.alloc (.map #[] 0)).alloc (.cells #[.slice none 0 0, .slice none 0 0, .slice none 0 0, .slice none 0 0, .slice none 0 0, .slice none 0 0, .slice none 0 0, .map (some w.heap.size)] 334)) w.heap.size 0 (fun _ => none) := (PMap.made w).keep (Below.heap_alloc _ _ _ (by simp))
  have f0 : Fr (fun _ => False) w ((w.alloc (.map #[] 0)).alloc (.cells #[.slice none 0 0, .slice none 0 0, .slice none 0 0, .slice none 0 0, .slice none 0 0, .slice none 0 0, .slice none 0 0, .map (some w.heap.size)] 334)) := (Fr.alloc _ w _).trans (Fr.alloc _ _ _) (fun _ _ h => h)
  have hs0 : w.heap.size + 2 ≤ ((w.alloc (.map #[] 0)).alloc (.cells #[.slice none 0 0, .slice none 0 0, .slice none 0 0, .slice none 0 0, .slice none 0 0, .slice none 0 0, .slice none 0 0, .map (some w.heap.size)] 334)).heap.size := by simp
  have hmm := @run_makeMap Tryz.prog
  have h3 : ¬ (n : Int) < 1 := by omega
  have h4 : ¬ (256 : Int) < n := by omega
  go_enter Tryz.func131, Tryz.ntmps131
  go_wp2_with fail
  go_loopg [17] n (fun m s wr => ∃ (i : Nat) (O : Nat → Option Nat) (V : Nat → Value) (F : Nat → List Int), i + m = n ∧ s = .int .i64 i ∧ Goes (w.heap.size + 1) w.heap.size (fun _ => none) ((w.alloc (.map #[] 0)).alloc (.cells #[.slice none 0 0, .slice none 0 0, .slice none 0 0, .slice none 0 0, .slice none 0 0, .slice none 0 0, .slice none 0 0, .map (some w.heap.size)] 334)) wr O V F ∧ Can F (fun f => decide (f < i)))
  case atStart => exact ⟨0, _, _, _, by omega, rfl, ⟨p0, Fr.refl _ _, fun _ _ h => h⟩, by simpa using can_empty⟩
  case round =>
    obtain ⟨i, O, V, F, hi, rfl, G, c⟩ := hrel
    by_cases hlt : (i : Int) < n
    · have e1 : cut (fun f => decide (f < i + 1)) 0 i = fun f => decide (f < i) := by
        funext f; rw [Bool.eq_iff_iff, cut_true]; simp; omega
      have hp := put_ok G.pool (n := i + 1) (U := fun f => decide (f < i + 1)) (fun f hf => by simpa using hf) (by omega) 0 i (by omega) (by rw [e1]; exact c) (fun f hf => by simp at hf; simp; omega)
      rw [show ((i * 2 ^ 0 : Nat) : Int) = (i : Int) by simp] at hp
      go_wp2_with (go_at_call 233; refine hp.mono ?_; rintro e w2 ⟨rfl, O2, V2, F2, G2, c2⟩)
      go_roundg (n - (i + 1))
      case measure => omega
      case rel => exact ⟨i + 1, O2, V2, F2, by omega, by go_num, G.trans G2, c2⟩
    · have hin : i = n := by omega
      subst hin
      go_wp2_with fail
      go_ret2
      have hgo := p0.map_off pm0
      refine ⟨_, rfl, fun j => own (w.heap.size + 1) O j ∨ j = w.heap.size, ⟨w.heap.size, O, V, F, 0, G.pool, c, ?_, Nat.le_refl _, inv_new i, h2, fun _ => Iff.rfl⟩, ?_, ?_⟩
      · exact pm0.keep (G.fr.block _ (by omega) hgo)
      · refine f0.trans G.fr ?_
        rintro j hj (h | ⟨k, _, h⟩)
        · omega
        · cases h
      · rintro j hj (h | h)
        · rcases G.sub j (by omega) h with h | ⟨k, _, h⟩
          · omega
          · cases h
        · omega
end Go.Proofs.YtcfhanoekniaaaaGreatDoor

namespace Go.Proofs.YtcfhanoekniaaaaGreatDoor
open Go.RowKit Go.Shelf Go.Lib Go.Sort

theorem shl_small {l k : Nat} (h : l * 2 ^ k ≤ 256) (a : Nat) (ha : a ≤ 256) : wrap64 ((a : Int) + wrap64 ((l : Int) * 2 ^ k)) = ((a + l * 2 ^ k : Nat) : Int) := by
  have e : ((l * 2 ^ k : Nat) : Int) = (l : Int) * 2 ^ k := by simp
  rw [← e]
  generalize l * 2 ^ k = x at *
  unfold wrap64; omega

theorem index7 (V : Nat → Value) (k : Nat) (hk : k < 7) (w : World) : (Instr.index 332 (.agg #[V 0, V 1, V 2, V 3, V 4, V 5, V 6]) (.int .i64 k)).run Tryz.prog w = .ok (V k) w := by
  rcases (by omega : k = 0 ∨ k = 1 ∨ k = 2 ∨ k = 3 ∨ k = 4 ∨ k = 5 ∨ k = 6) with h | h | h | h | h | h | h <;> subst h <;> kernel_rfl

set_option maxRecDepth 100000 in
set_option maxHeartbeats 4000000 in
theorem left_ok {w : World} {b n : Nat} {U : Nat → Bool} {T : Int → Option Nat} {m : Nat} {A : Nat → Prop} (h : At w b n U T m A) :
    Calls Tryz.prog 219 #[pp b] w fun e w' => e = .returned (.int .i64 (cnt U 0 n : Nat)) ∧ w' = w := by
  obtain ⟨g, O, V, F, s, p, c, pm, hs, inv, hn, hA⟩ := h
  have hlf := lf_eq c inv.bound
  have hle := lf_le c inv.bound
  have c0 := p.cell (k := 0) (by omega)
  have c1 := p.cell (k := 1) (by omega)
  have c2 := p.cell (k := 2) (by omega)
  have c3 := p.cell (k := 3) (by omega)
  have c4 := p.cell (k := 4) (by omega)
  have c5 := p.cell (k := 5) (by omega)
  have c6 := p.cell (k := 6) (by omega)
  go_enter Tryz.func219, Tryz.ntmps219
  go_wp2_with fail
  go_loopg [3, 12] 7 (fun mm s3 s12 wr => ∃ k : Nat, k + mm = 7 ∧ s3 = .int .i64 (lf F k : Nat) ∧ s12 = .int .i64 k ∧ wr = w)
  case atStart => exact ⟨0, by omega, rfl, rfl, rfl⟩
  case round =>
    obtain ⟨k, hk, rfl, rfl, hw⟩ := hrel
    subst wr
    by_cases hlt : (k : Int) < 7
    · have hk7 : k < 7 := by omega
      obtain ⟨a, cc, hv, _, _⟩ := (p.row k hk7).isSlice
      have hrow := lf_row F (k := k) (m := 7) hk7
      have hw := shl_small (l := (F k).length) (k := k) (by omega) (lf F k) (by omega)
      have hix := index7 V k hk7 w
      rw [hv] at hix
      go_wp2_with fail
      go_roundg (7 - (k + 1))
      case measure => omega
      case rel => exact ⟨k + 1, by omega, by rw [lf, hw], by go_num, rfl⟩
    · have hk7 : k = 7 := by omega
      subst hk7
      go_wp2_with fail
      go_ret
      exact ⟨rfl, rfl⟩
end Go.Proofs.YtcfhanoekniaaaaGreatDoor

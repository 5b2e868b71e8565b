/- Left of package buddy, by its Go text. -/
import Derived.Test.YtcllfedpdcjbcaaDoorLeft
namespace Go.Proofs.YtcllfedpdcjbcaaDoor
open Go.RowKit Go.Shelf Go.Lib Go.Sort

theorem shl_small {l k : Nat} (h : l * 2 ^ k ≤ 256) (a : Nat) (ha : a ≤ 256) : wrap64 ((a : Int) + wrap64 ((l : Int) * 2 ^ k)) = ((a + l * 2 ^ k : Nat) : Int) := by
  have e : ((l * 2 ^ k : Nat) : Int) = (l : Int) * 2 ^ k := by simp
  rw [← e]
  generalize l * 2 ^ k = x at *
  unfold wrap64; omega

theorem index7 (V : Nat → Value) (k : Nat) (hk : k < 7) (w : World) : (Instr.index 133 (.agg #[V 0, V 1, V 2, V 3, V 4, V 5, V 6]) (.int .i64 k)).run Tryd.prog w = .ok (V k) w := by
  rcases (by omega : k = 0 ∨ k = 1 ∨ k = 2 ∨ k = 3 ∨ k = 4 ∨ k = 5 ∨ k = 6) with h | h | h | h | h | h | h <;> subst h <;> kernel_rfl

set_option maxRecDepth 100000 in
set_option maxHeartbeats 4000000 in
theorem left_ok {w : World} {b n : Nat} {U : Nat → Bool} {T : Int → Option Nat} {m : Nat} {A : Nat → Prop} (h : At w b n U T m A) :
    Calls Tryd.prog 28 #[pp b] w fun e w' => e = .returned (.int .i64 (cnt U 0 n : Nat)) ∧ w' = w := by
  obtain ⟨g, O, V, F, s, p, c, pm, hs, inv, hn, hA⟩ := h
  have hlf := lf_eq c inv.bound
  have hle := lf_le c inv.bound
  have c0 := p.cell (k := 0) (by omega)
  have c1 := p.cell (k := 1) (by omega)
  have c2 := p.cell (k := 2) (by omega)
  have c3 := p.cell (k := 3) (by omega)
  have c4 := p.cell (k := 4) (by omega)
  have c5 := p.cell (k := 5) (by omega)
  have c6 := p.cell (k := 6) (by omega)
  go_enter Tryd.func28, Tryd.ntmps28
  go_wp2_with fail
  go_loopg [3, 12] 7 (fun mm s3 s12 wr => ∃ k : Nat, k + mm = 7 ∧ s3 = .int .i64 (lf F k : Nat) ∧ s12 = .int .i64 k ∧ wr = w)
  case atStart => exact ⟨0, by omega, rfl, rfl, rfl⟩
  case round =>
    obtain ⟨k, hk, rfl, rfl, hw⟩ := hrel
    subst wr
    by_cases hlt : (k : Int) < 7
    · have hk7 : k < 7 := by omega
      obtain ⟨a, cc, hv, _, _⟩ := (p.row k hk7).isSlice
      have hrow := lf_row F (k := k) (m := 7) hk7
      have hw := shl_small (l := (F k).length) (k := k) (by omega) (lf F k) (by omega)
      have hix := index7 V k hk7 w
      rw [hv] at hix
      go_wp2_with fail
      go_roundg (7 - (k + 1))
      case measure => omega
      case rel => exact ⟨k + 1, by omega, by rw [lf, hw], by go_num, rfl⟩
    · have hk7 : k = 7 := by omega
      subst hk7
      go_wp2_with fail
      go_ret
      exact ⟨rfl, rfl⟩
end Go.Proofs.YtcllfedpdcjbcaaDoor

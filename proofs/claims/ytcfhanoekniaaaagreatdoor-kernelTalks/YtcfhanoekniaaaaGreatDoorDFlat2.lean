/- Close, Dup2, Pipe, plainly. -/
import Derived.Test.YtcfhanoekniaaaaGreatDoorDInv3
import Derived.Test.YtcfhanoekniaaaaGreatDoorQFork
import Derived.Test.YtcfhanoekniaaaaGreatDoorDInv
namespace Go.Proofs.YtcfhanoekniaaaaGreatDoor
open Go.RowKit Go.Maps

noncomputable def closeD (D : DS) (N : Ns) (x : Int) : DS := if hasN N x = true then closeK D (N.getD x.toNat (0, false)).1 else D
def closeN (N : Ns) (x : Int) : Ns := if hasN N x = true then N.set x.toNat (0, false) else N
def noPipe (N : Ns) (n : Nat) : Prop := usedN N + 2 > 8 ∨ n + 2 > 40
/-- What Pipe comes to. -/
def PipeO (D : DS) (N : Ns) (n : Nat) (x y c : Int) (D' : DS) (N' : Ns) : Prop := (noPipe N n ∧ x = 0 ∧ y = 0 ∧ c = 12 ∧ D' = D ∧ N' = N) ∨ (¬ noPipe N n ∧ x = leastN N ∧ y = leastN (pipeN1 D N) ∧ c = 0 ∧ D' = pipeD D ∧ N' = pipeN D N)
section
variable {D : DS} {Ts : List Ns} {k j i : Nat} {d : Int} {e : En}
theorem used_set : ∀ (N : Ns) (i : Nat) (y : Int × Bool), usedN (N.set i y) ≤ usedN N + 1
  | [], _, _ => by simp [usedN]
  | x :: N, 0, y => by
    simp only [List.set_cons_zero, usedN, List.filter_cons]
    split <;> split <;> simp <;> omega
  | x :: N, i + 1, y => by
    have := used_set N i y
    simp only [List.set_cons_succ, usedN, List.filter_cons] at this ⊢
    split
    · simp; omega
    · exact this
theorem Inv.nn (h : Inv D Ts k) (hj : j < Ts.length) : ∀ x ∈ Ts[j], 0 ≤ x.1 := fun x hx => ((h.tab _ (List.getElem_mem hj)).2 x hx).1
theorem Inv.pipe_room (h : Inv D Ts k) (hj : j < Ts.length) {n : Nat} (hf : ¬ noPipe Ts[j] n) : ¬ leastN Ts[j] < 0 ∧ ¬ leastN (pipeN1 D Ts[j]) < 0 := by
  have h0 := h.core.giv.n0
  have hl := h.len hj
  have hu : usedN Ts[j] + 2 ≤ 8 := by unfold noPipe at hf; omega
  have e1 : ¬ leastN Ts[j] < 0 := fun z => by
    have := (used_least (h.nn hj)).1 z; omega
  refine ⟨e1, fun z => ?_⟩
  have h2 : ∀ x ∈ pipeN1 D Ts[j], 0 ≤ x.1 := fun x hx => by
    unfold pipeN1 addN at hx
    rcases List.mem_or_eq_of_mem_set hx with h1 | h1
    · exact h.nn hj x h1
    · rw [h1]; show 0 ≤ D.nx + 1 + 1; omega
  have h3 := (used_least h2).1 z
  have h4 : usedN (pipeN1 D Ts[j]) ≤ usedN Ts[j] + 1 := used_set _ _ _
  have h5 : (pipeN1 D Ts[j]).length = 8 := by unfold pipeN1 addN; rw [List.length_set]; exact hl
  omega
theorem Inv.closeO (h : Inv D Ts k) (hk : k ≤ 900) (hj : j < Ts.length) (x : Int) : Inv (closeD D Ts[j] x) (Ts.set j (closeN Ts[j] x)) k := by
  unfold closeD closeN
  by_cases hx : hasN Ts[j] x = true
  · obtain ⟨i, rfl, hi, hiL, h0⟩ := hasN_at hx (h.len hj)
    rw [if_pos hx, if_pos hx, getD_in hiL, show (i : Int).toNat = i by omega]
    exact h.close hk hj hiL h0
  · rw [if_neg hx, if_neg hx]; exact h.setSelf hj
end
end Go.Proofs.YtcfhanoekniaaaaGreatDoor

namespace Go.Proofs.YtcfhanoekniaaaaGreatDoor
open Go.RowKit Go.Maps

section
variable {w w' w2 w0 w1 : World} {f b n q : Nat} {D D' : DS} {g g' g1 : QG} {M N N' : Ns} {d k m : Int} {e : En} {T' : Wd}
theorem new_six (w : World) (a b c d e x : Value) (t : TypeId) : (w.alloc (.cells #[a, b, c, d, e, x] t)).heap[w.heap.size]? = some (.cells #[a, b, c, d, e, x] t) := by
  show (w.heap.push _)[w.heap.size]? = _
  rw [Array.getElem?_push, if_pos rfl]
theorem QSt.cell0 (hq : QSt w w1 f D T' g n b M N) : w1.cell? ⟨f, 0, none⟩ = some (wp g.r) := by
  obtain ⟨⟨g1, a1, a2, a3, a4, a5, _⟩, wt⟩ := hq
  rw [← a5]; exact a1.cells.1
end
end Go.Proofs.YtcfhanoekniaaaaGreatDoor

namespace Go.Proofs.YtcfhanoekniaaaaGreatDoor
open Go.RowKit Go.Maps

section
variable {D : DS}
theorem nx_close (D : DS) (d : Int) : (closeK D d).nx = D.nx := by
  unfold closeK
  split
  · split
    · rfl
    · split <;> rfl
  · rfl
theorem nx_free (all : Bool) (D : DS) (N : Ns) : ∀ i, (freeS all D N i).1.nx = D.nx
  | 0 => rfl
  | i + 1 => by
    rw [freeS]
    split
    · simp only; rw [nx_close]; exact nx_free all D N i
    · exact nx_free all D N i
theorem nx_pipe {N : Ns} {n : Nat} {x y c : Int} {D' : DS} {N' : Ns} (h : PipeO D N n x y c D' N') : D'.nx ≤ D.nx + 3 := by
  rcases h with ⟨_, _, _, _, rfl, _⟩ | ⟨_, _, _, _, rfl, _⟩
  · omega
  · simp only [pipeD, pipeD1, pipeD0, addD]; omega
theorem nx_closeD (D : DS) (N : Ns) (x : Int) : (closeD D N x).nx = D.nx := by
  unfold closeD
  split
  · rw [nx_close]
  · rfl
theorem nx_read (D : DS) (N : Ns) (x a : Int) : (readO D N x a).2.2.nx = D.nx := by
  unfold readO
  split
  · split
    · rfl
    · split
      · rfl
      · split
        · rfl
        · split <;> rfl
  · rfl
theorem nx_write (D : DS) (N : Ns) (x : Int) (s : List UInt8) (a : Int) : (writeO D N x s a).2.2.nx = D.nx := by
  unfold writeO
  split
  · split
    · rfl
    · split
      · rfl
      · split
        · split
          · rfl
          · split <;> rfl
        · split <;> rfl
  · rfl
end
end Go.Proofs.YtcfhanoekniaaaaGreatDoor

namespace Go.Proofs.YtcfhanoekniaaaaGreatDoor
open Go.RowKit Go.Maps

section
variable {D : DS} {Ts : List Ns} {k j i : Nat} {d : Int} {e : En}
theorem usedN_zero {N : Ns} (h : ∀ x ∈ N, ¬ 0 < x.1) : usedN N = 0 := by
  unfold usedN
  rw [List.length_eq_zero_iff, List.filter_eq_nil_iff]
  intro x hx
  simp only [decide_eq_true_eq]
  exact h x hx
theorem free_used (D : DS) (N : Ns) : ∀ i y, y < i → ∀ z, (freeS true D N i).2[y]? = some z → ¬ 0 < z.1
  | 0, y, hy, _, _ => by omega
  | i + 1, y, hy, z, hz => by
    rw [freeS] at hz
    have hN := (freeS_tab true D N i).2 i (Nat.le_refl _)
    split at hz
    · simp only at hz
      by_cases e : i = y
      · subst e
        rw [List.getElem?_set_self'] at hz
        cases h9 : (freeS true D N i).2[i]? with
        | none => rw [h9] at hz; cases hz
        | some q => rw [h9] at hz; cases hz; simp
      · rw [List.getElem?_set_ne e] at hz
        exact free_used D N i y (by omega) z hz
    · rename_i hc
      by_cases e : y = i
      · subst e
        rw [hN] at hz
        intro h0
        apply hc
        rw [List.getD_eq_getElem?_getD, hz]
        exact ⟨h0, .inl rfl⟩
      · exact free_used D N i y (by omega) z hz
theorem free_none (D : DS) {N : Ns} (h8 : N.length = 8) : usedN (freeS true D N 8).2 = 0 := usedN_zero (fun x hx => by
  obtain ⟨y, hy, rfl⟩ := List.getElem_of_mem hx
  exact free_used D N 8 y (by rw [(freeS_tab true D N 8).1, h8] at hy; exact hy) _ (List.getElem?_eq_getElem hy))
end
end Go.Proofs.YtcfhanoekniaaaaGreatDoor

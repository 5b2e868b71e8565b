/- Package oom's Victim, by its Go text: who goes. -/
import Derived.Test.YtgbdoeopgdhgoacOVic
import Derived.Test.YtgbdoeopgdhgoacOFair0
namespace Go.Proofs.Ytgbdoeopgdhgoac
open Go.RowKit Go.Shelf

theorem drawn {B : Nat} {a w : World} (h : Below B a w) (n : Nat) : Below B a (w.drewN n) := ⟨h.os, h.tape, h.output, h.size, h.block⟩
theorem box_new (w : World) (o : Obj) : (w.alloc o).heap[w.heap.size]? = some o := by show (w.heap.push _)[w.heap.size]? = _; rw [Array.getElem?_push, if_pos rfl]
theorem new2 (w : World) (a b : Value) (t : TypeId) : (w.alloc (.cells #[a, b] t)).cell? ⟨w.heap.size, 0, none⟩ = some a ∧ (w.alloc (.cells #[a, b] t)).cell? ⟨w.heap.size, 1, none⟩ = some b :=
  ⟨by rw [cell_of_row _ _ _ _ _ _ (box_new w _)]; rfl, by rw [cell_of_row _ _ _ _ _ _ (box_new w _)]; rfl⟩
/-- Which of two goes sooner. -/
def cmpC (a b : Cd) : Int := orr (sgn (wgt a) (wgt b)) (sgn a.pid b.pid)
theorem cmpC_pos {a b : Cd} : 0 < cmpC a b ↔ wgt b < wgt a ∨ (wgt a = wgt b ∧ b.pid < a.pid) := by
  unfold cmpC orr sgn
  generalize wgt a = x
  generalize wgt b = y
  (repeat' split) <;> omega
set_option maxRecDepth 100000 in
set_option maxHeartbeats 2000000 in
theorem cmpC_ok (w : World) (X R D X2 R2 D2 : Int) : Calls Try.prog 13 #[.agg #[.int .i64 X, .int .i64 R, .int .i64 D], .agg #[.int .i64 X2, .int .i64 R2, .int .i64 D2]] w fun e w' => e = .returned (.int .i64 (cmpC ⟨X, R, D⟩ ⟨X2, R2, D2⟩)) ∧ Below w.heap.size w w' := by
  obtain ⟨w1, hw1⟩ : ∃ w1, (w.alloc (.cells #[.int .i64 X, .int .i64 R, .int .i64 D] 25)).alloc (.cells #[.int .i64 X2, .int .i64 R2, .int .i64 D2] 25) = w1 := ⟨_, rfl⟩
  have hA : Below w.heap.size w w1 := by
    rw [← hw1]; exact ((Below.refl _ w).alloc (Nat.le_refl _) _).alloc (by simp) _
  have hsz : w1.heap.size = w.heap.size + 2 := by rw [← hw1]; simp
  have b0 : w1.heap[w.heap.size]? = some (.cells #[.int .i64 X, .int .i64 R, .int .i64 D] 25) := by
    rw [← hw1, Below.heap_alloc _ _ _ (by simp)]; exact box_new _ _
  have b1 : w1.heap[w.heap.size + 1]? = some (.cells #[.int .i64 X2, .int .i64 R2, .int .i64 D2] 25) := by
    have := box_new (w.alloc (.cells #[.int .i64 X, .int .i64 R, .int .i64 D] 25)) (.cells #[.int .i64 X2, .int .i64 R2, .int .i64 D2] 25)
    rw [hw1] at this; simpa using this
  have hcs : ∀ V, Below w1.heap.size w1 V → V.cell? ⟨w.heap.size, 0, none⟩ = some (.int .i64 X) ∧ V.cell? ⟨w.heap.size, 1, none⟩ = some (.int .i64 R) ∧ V.cell? ⟨w.heap.size, 2, none⟩ = some (.int .i64 D) ∧ V.cell? ⟨w.heap.size + 1, 0, none⟩ = some (.int .i64 X2) ∧ V.cell? ⟨w.heap.size + 1, 1, none⟩ = some (.int .i64 R2) ∧ V.cell? ⟨w.heap.size + 1, 2, none⟩ = some (.int .i64 D2) := fun V hV => by
    have q0 := (hV.block w.heap.size (by omega)).trans b0
    have q1 := (hV.block (w.heap.size + 1) (by omega)).trans b1
    refine ⟨?_, ?_, ?_, ?_, ?_, ?_⟩ <;> first | (rw [cell_of_row _ _ _ _ _ _ q0]; rfl) | (rw [cell_of_row _ _ _ _ _ _ q1]; rfl)
  have hb : Below w1.heap.size w1 w1 := Below.refl _ _
  have hW : ∀ V A B C, Below w1.heap.size w1 V → Calls Try.prog 16 #[.agg #[.int .i64 A, .int .i64 B, .int .i64 C]] V fun e w' => e = .returned (.int .i64 (wgt ⟨A, B, C⟩)) ∧ Below w1.heap.size w1 w' := fun V A B C hV => (weight_ok V A B C).mono (by
    rintro e w' ⟨rfl, h⟩
    exact ⟨rfl, hV.trans (h.mono hV.size)⟩)
  have HF : Aside (∀ V, Below w1.heap.size w1 V → Below w.heap.size w V) := fun V hV => hA.trans (hV.mono hA.size)
  have HD : Aside (cmpC ⟨X, R, D⟩ ⟨X2, R2, D2⟩ = orr (sgn (wgt ⟨X, R, D⟩) (wgt ⟨X2, R2, D2⟩)) (sgn X X2)) := rfl
  generalize cmpC ⟨X, R, D⟩ ⟨X2, R2, D2⟩ = Z at *
  clear hA b0 b1
  obtain ⟨y0, y1, y2, y3, y4, y5⟩ := hcs _ hb
  go_enter Try.func13, Try.ntmps13
  go_upto_region 1 with fail
  clear hw1
  go_region_held3 (fun w' => w'.cell? ⟨w.heap.size, 0, none⟩ = some (.int .i64 X) ∧ w'.cell? ⟨w.heap.size, 1, none⟩ = some (.int .i64 R) ∧ w'.cell? ⟨w.heap.size, 2, none⟩ = some (.int .i64 D) ∧ w'.cell? ⟨w.heap.size + 1, 0, none⟩ = some (.int .i64 X2) ∧ w'.cell? ⟨w.heap.size + 1, 1, none⟩ = some (.int .i64 R2) ∧ w'.cell? ⟨w.heap.size + 1, 2, none⟩ = some (.int .i64 D2)) (first | exact hcs _ hb | exact hcs _ (drawn hb _) | exact hcs _ (hb.alloc hb.size _)) (first
    | (go_at_call 16; refine (hW _ _ _ _ (by first | exact hb | exact drawn hb _)).mono ?_; rintro e w2 ⟨rfl, hb⟩)
    | (go_at_call 15; refine (cmpI_ok _ _ _).mono ?_; rintro e w2 ⟨rfl, hw9⟩; subst w2)
    | (go_at_call 14; refine (or2_ok _ _ _ _ (by exact (new2 _ _ _ _).1) (by exact (new2 _ _ _ _).2)).mono ?_; rintro e w2 ⟨rfl, hw9⟩; subst w2))
  all_goals
    go_wp2_with fail
    go_ret
    refine ⟨by rw [HD.out]; rfl, ?_⟩
    refine HF.out _ ?_
    have := hb.alloc hb.size (.cells #[.int .i64 (sgn (wgt ⟨X, R, D⟩) (wgt ⟨X2, R2, D2⟩)), .int .i64 (sgn X X2)] 3)
    exact ⟨this.os, this.tape, this.output, this.size, this.block⟩
end Go.Proofs.Ytgbdoeopgdhgoac

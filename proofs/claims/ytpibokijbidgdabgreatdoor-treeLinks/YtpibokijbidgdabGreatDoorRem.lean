/- A remainder of two numbers, in a plain region. -/
import Derived.Test.YtpibokijbidgdabGreatDoorRows
import Derived.WalkKit
namespace Go.Proofs.YtpibokijbidgdabGreatDoor
open Go.RowKit

theorem rem_run {i l m : Nat} (hl : 0 < l) (hm : i % l = m) (wx : World) : (binOp .rem 3 (.int .i64 (i : Int)) (.int .i64 (l : Int))).run Tryz.prog wx = .ok (.int .i64 (m : Int)) wx := by
  have g3 : (i : Int).tmod (l : Int) = (m : Int) := by rw [← hm]; exact (Int.ofNat_tmod i l).symm
  go_simp
  exact Nat.ne_of_gt hl

section
variable {ops : Array Oper} {rest : List Oper} {o : Oper} {a : Act} {w : World} {Q : Exit → Act → World → Prop}
theorem wpList_remn (hgd : o.guard = none) (x y : Operand) (t : TypeId) (hop : o.op = Op.binOp BinOp.rem 3 x y t) (i l m : Nat) (hx : a.eval x = .int .i64 (i : Int)) (hy : a.eval y = .int .i64 (l : Int)) (hl : 0 < l) (hm : i % l = m)
    (h : wpList Tryz.prog ops Q rest (a.put o.dst (.int .i64 (m : Int))) w) : wpList Tryz.prog ops Q (o :: rest) a w := by
  refine wpList_plain hgd fun K' hK' => ?_
  have hrun := rem_run hl hm w
  unfold Oper.wp
  simp [execOp, hop, hx, hy, hrun, Result.andThen, eqGuard]
  exact hK' _ _ h
/-- The greater one of two numbers. -/
theorem wpList_maxn (hgd : o.guard = none) (x y : Operand) (ts : Array TypeId) (hop : o.op = Op.call { callee := Callee.builtin Builtin.max, args := #[x, y], argTypes := ts }) (i l m : Nat) (hx : a.eval x = .int .i64 (i : Int)) (hy : a.eval y = .int .i64 (l : Int)) (hm : max i l = m)
    (h : wpList Tryz.prog ops Q rest (a.put o.dst (.int .i64 (m : Int))) w) : wpList Tryz.prog ops Q (o :: rest) a w := by
  refine wpList_plain hgd fun K' hK' => ?_
  have hrun : (Builtin.max_ ts o.type #[.int .i64 (i : Int), .int .i64 (l : Int)]).run Tryz.prog w = .ok (.int .i64 (m : Int)) w := by
    rw [run_max_int2]
    congr 2
    subst hm
    by_cases e : (l : Int) > (i : Int)
    · rw [if_pos e]; omega
    · rw [if_neg e]; omega
  unfold Oper.wp
  simp [execOp, hop, resolve, invoke, builtin, hx, hy, hrun, Result.andThen]
  exact hK' _ _ h
end
end Go.Proofs.YtpibokijbidgdabGreatDoor

/- A loop over a map that is keyed by int: which keys are still to come. -/
import Derived.Test.YtidinhbokkelnabDoorKeys
import Derived.Maps.RangeWalk
namespace Go.Proofs.YtidinhbokkelnabDoor
open Go.RowKit Go.Maps

/-- A loop over map g under way, its iterator at r: todo a: a is still to come. -/
def PRng (w : World) (g r s : Nat) (M : Int → Option Value) (todo : Int → Bool) (cnt : Nat) : Prop :=
  ∃ (D : DataW Value) (left : Lit → Bool), w.ranges Tryd.prog 3 self g r s D left cnt ∧ Maps.size D = s ∧ (∀ a, Maps.has D (.int .i64 a) = (M a).isSome) ∧ (∀ a z, D.atKey (.int .i64 a) (.held z) = .held ((M a).getD z)) ∧ ∀ a, left (.int .i64 a) = todo a

section
variable {w w' : World} {g r s : Nat} {M : Int → Option Value} {todo : Int → Bool} {cnt : Nat}
theorem PRng.map (h : PRng w g r s M todo cnt) : PMap w g s M := by
  obtain ⟨D, left, hr, h1, h2, h3, _⟩ := h
  exact ⟨D, hr.owns, h1, h2, h3⟩
theorem PRng.keep (h : PRng w g r s M todo cnt) (hg : w'.heap[g]? = w.heap[g]?) (hr : w'.heap[r]? = w.heap[r]?) : PRng w' g r s M todo cnt := by
  obtain ⟨D, left, ⟨es, clock, since, seen, c0, hb, F, hs, hD, hi, rest⟩, h1⟩ := h
  exact ⟨D, left, ⟨es, clock, since, seen, c0, hg.trans hb, F, hs, hD, hr.trans hi, rest⟩, h1⟩
theorem PRng.rlt (h : PRng w g r s M todo cnt) : r < w.heap.size := by obtain ⟨D, left, hr, _⟩ := h; exact hr.lt
theorem PRng.ne (h : PRng w g r s M todo cnt) : r ≠ g := by obtain ⟨D, left, hr, _⟩ := h; exact hr.ne
end

section
variable {ops : Array Oper} {rest : List Oper} {o : Oper} {a : Act} {w : World} {Q : Exit → Act → World → Prop}

/-- The loop begins. -/
theorem wpList_krange (hgd : o.guard = none) (m : Operand) (t : TypeId) (hop : o.op = Op.range t m) (e : TypeId) (ht : Tryd.prog.underlying t = some (.map 3 e)) (g n : Nat) (M : Int → Option Value) (hm : a.eval m = .map (some g)) (hown : PMap w g n M)
    (h : ∀ w', PRng w' g w.heap.size n M (fun x => (M x).isSome) n → w.grownBy w' none → w'.heap.size = w.heap.size + 1 → wpList Tryd.prog ops Q rest (a.put o.dst (.pointer (some ⟨w.heap.size, 0, none⟩))) w') : wpList Tryd.prog ops Q (o :: rest) a w := by
  obtain ⟨D, hD, h1, h2, h3⟩ := hown
  refine wpList_range_own w hgd m t hop 3 e keyedInt ht self g n D hm hD (fun w' hr hg hs => h w' ⟨D, _, by rw [h1] at hr; exact hr, h1, h2, h3, fun x => h2 x⟩ hg hs)

/-- Its step: nothing is left, or an entry comes. -/
theorem wpList_knext (hgd : o.guard = none) (it : Operand) (hop : o.op = Op.next it false) (g r n : Nat) (M : Int → Option Value) (todo : Int → Bool) (cnt : Nat) (hit : a.eval it = .pointer (some ⟨r, 0, none⟩)) (hr : PRng w g r n M todo cnt)
    (hDone : (∀ x, todo x = false) → wpList Tryd.prog ops Q rest (a.put o.dst (.tuple #[.bool false])) w)
    (hMore : ∀ (x : Int) (v : Value) (w' : World) (cnt' : Nat), (Lit.int .i64 x).wf = true → todo x = true → M x = some v → PRng w' g r n M (fun z => todo z && !decide (z = x)) cnt' → cnt' < cnt → w.grownBy w' (some r) → w'.heap.size = w.heap.size →
      (Instr.entry (.pointer (some ⟨r, 0, none⟩))).run Tryd.prog w' = .ok (.tuple #[.int .i64 x, v]) w' → wpList Tryd.prog ops Q rest (a.put o.dst (.tuple #[.bool true, .int .i64 x, v])) w') : wpList Tryd.prog ops Q (o :: rest) a w := by
  obtain ⟨D, left, hrg, h1, h2, h3, h4⟩ := hr
  refine wpList_next_ranges w hgd it hop 3 keyedInt self (Value.int .i64) (fun v : Value => v) (fun key kl hkey => by obtain ⟨x, rfl, _⟩ := Maps.keyOf_int_inv Tryd.underlying3 hkey; exact ⟨x, rfl⟩) (fun v y _ => ⟨v, rfl⟩) g r n D left cnt hit hrg (fun _ hl => hDone (fun x => by rw [← h4]; exact hl _)) ?_
  intro x v kl y w' cnt' hkey hlk hv hat hrg' hlt hg hs hen
  obtain ⟨x', ex, rfl, hwx⟩ := Maps.keyOf_int_inv Tryd.underlying3 hkey
  cases ex
  have hy : y = (.held v, []) := by simp only [self, Option.some.injEq] at hv; exact hv.symm
  have hM : M x = some v := by
    have e1 := (h3 x (.bool true)).symm.trans (hat (.held (.bool true)))
    have e2 := (h3 x (.bool false)).symm.trans (hat (.held (.bool false)))
    rw [hy] at e1 e2
    simp only [DataW.held.injEq] at e1 e2
    cases e : M x with
    | none => rw [e] at e1 e2; simp only [Option.getD_none] at e1 e2; rw [← e1] at e2; cases e2
    | some u => rw [e] at e1; simp only [Option.getD_some] at e1; rw [e1]
  refine hMore x v w' cnt' hwx (by rw [← h4]; exact hlk) hM ⟨D, _, hrg', h1, h2, h3, fun z => ?_⟩ hlt hg hs hen
  have hsk : (Lit.int .i64 z).sameKey (.int .i64 x) = decide (z = x) := by
    by_cases e : z = x <;> simp [Lit.sameKey, e]
  show (left (.int .i64 z) && !(Lit.int .i64 z).sameKey (.int .i64 x)) = _
  rw [h4 z, hsk]
end
end Go.Proofs.YtidinhbokkelnabDoor

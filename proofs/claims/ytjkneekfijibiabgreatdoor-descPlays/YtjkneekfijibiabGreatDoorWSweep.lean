/- A loop over a map that is keyed by int: which keys are still to come. -/
import Derived.Test.YtjkneekfijibiabGreatDoorSKeys
import Derived.Maps.RangeWalk
import Derived.Test.YtjkneekfijibiabGreatDoorWMake2
import Derived.Laws.IdiomRangeMap
namespace Go.Proofs.YtjkneekfijibiabGreatDoor
open Go.RowKit Go.Maps

/-- A loop over map g under way, its iterator at r: todo a: a is still to come. -/
def PRng (w : World) (g r s : Nat) (M : Int → Option Value) (todo : Int → Bool) (cnt : Nat) : Prop :=
  ∃ (D : DataW Value) (left : Lit → Bool), w.ranges Tryz.prog 3 self g r s D left cnt ∧ Maps.size D = s ∧ (∀ a, Maps.has D (.int .i64 a) = (M a).isSome) ∧ (∀ a z, D.atKey (.int .i64 a) (.held z) = .held ((M a).getD z)) ∧ ∀ a, left (.int .i64 a) = todo a

section
variable {w w' : World} {g r s : Nat} {M : Int → Option Value} {todo : Int → Bool} {cnt : Nat}
theorem PRng.map (h : PRng w g r s M todo cnt) : PMap w g s M := by
  obtain ⟨D, left, hr, h1, h2, h3, _⟩ := h
  exact ⟨D, hr.owns, h1, h2, h3⟩
theorem PRng.keep (h : PRng w g r s M todo cnt) (hg : w'.heap[g]? = w.heap[g]?) (hr : w'.heap[r]? = w.heap[r]?) : PRng w' g r s M todo cnt := by
  obtain ⟨D, left, ⟨es, clock, since, seen, c0, hb, F, hs, hD, hi, rest⟩, h1⟩ := h
  exact ⟨D, left, ⟨es, clock, since, seen, c0, hg.trans hb, F, hs, hD, hr.trans hi, rest⟩, h1⟩
theorem PRng.rlt (h : PRng w g r s M todo cnt) : r < w.heap.size := by obtain ⟨D, left, hr, _⟩ := h; exact hr.lt
theorem PRng.ne (h : PRng w g r s M todo cnt) : r ≠ g := by obtain ⟨D, left, hr, _⟩ := h; exact hr.ne
end

section
variable {ops : Array Oper} {rest : List Oper} {o : Oper} {a : Act} {w : World} {Q : Exit → Act → World → Prop}

/-- The loop begins. -/
theorem wpList_krange (hgd : o.guard = none) (m : Operand) (t : TypeId) (hop : o.op = Op.range t m) (e : TypeId) (ht : Tryz.prog.underlying t = some (.map 3 e)) (g n : Nat) (M : Int → Option Value) (hm : a.eval m = .map (some g)) (hown : PMap w g n M)
    (h : ∀ w', PRng w' g w.heap.size n M (fun x => (M x).isSome) n → w.grownBy w' none → w'.heap.size = w.heap.size + 1 → wpList Tryz.prog ops Q rest (a.put o.dst (.pointer (some ⟨w.heap.size, 0, none⟩))) w') : wpList Tryz.prog ops Q (o :: rest) a w := by
  obtain ⟨D, hD, h1, h2, h3⟩ := hown
  refine wpList_range_own w hgd m t hop 3 e keyedInt ht self g n D hm hD (fun w' hr hg hs => h w' ⟨D, _, by rw [h1] at hr; exact hr, h1, h2, h3, fun x => h2 x⟩ hg hs)

/-- Its step: nothing is left, or an entry comes. -/
theorem wpList_knext (hgd : o.guard = none) (it : Operand) (hop : o.op = Op.next it false) (g r n : Nat) (M : Int → Option Value) (todo : Int → Bool) (cnt : Nat) (hit : a.eval it = .pointer (some ⟨r, 0, none⟩)) (hr : PRng w g r n M todo cnt)
    (hDone : (∀ x, todo x = false) → wpList Tryz.prog ops Q rest (a.put o.dst (.tuple #[.bool false])) w)
    (hMore : ∀ (x : Int) (v : Value) (w' : World) (cnt' : Nat), (Lit.int .i64 x).wf = true → todo x = true → M x = some v → PRng w' g r n M (fun z => todo z && !decide (z = x)) cnt' → cnt' < cnt → w.grownBy w' (some r) → w'.heap.size = w.heap.size →
      (Instr.entry (.pointer (some ⟨r, 0, none⟩))).run Tryz.prog w' = .ok (.tuple #[.int .i64 x, v]) w' → wpList Tryz.prog ops Q rest (a.put o.dst (.tuple #[.bool true, .int .i64 x, v])) w') : wpList Tryz.prog ops Q (o :: rest) a w := by
  obtain ⟨D, left, hrg, h1, h2, h3, h4⟩ := hr
  refine wpList_next_ranges w hgd it hop 3 keyedInt self (Value.int .i64) (fun v : Value => v) (fun key kl hkey => by obtain ⟨x, rfl, _⟩ := Maps.keyOf_int_inv Tryz.underlying3 hkey; exact ⟨x, rfl⟩) (fun v y _ => ⟨v, rfl⟩) g r n D left cnt hit hrg (fun _ hl => hDone (fun x => by rw [← h4]; exact hl _)) ?_
  intro x v kl y w' cnt' hkey hlk hv hat hrg' hlt hg hs hen
  obtain ⟨x', ex, rfl, hwx⟩ := Maps.keyOf_int_inv Tryz.underlying3 hkey
  cases ex
  have hy : y = (.held v, []) := by simp only [self, Option.some.injEq] at hv; exact hv.symm
  have hM : M x = some v := by
    have e1 := (h3 x (.bool true)).symm.trans (hat (.held (.bool true)))
    have e2 := (h3 x (.bool false)).symm.trans (hat (.held (.bool false)))
    rw [hy] at e1 e2
    simp only [DataW.held.injEq] at e1 e2
    cases e : M x with
    | none => rw [e] at e1 e2; simp only [Option.getD_none] at e1 e2; rw [← e1] at e2; cases e2
    | some u => rw [e] at e1; simp only [Option.getD_some] at e1; rw [e1]
  refine hMore x v w' cnt' hwx (by rw [← h4]; exact hlk) hM ⟨D, _, hrg', h1, h2, h3, fun z => ?_⟩ hlt hg hs hen
  have hsk : (Lit.int .i64 z).sameKey (.int .i64 x) = decide (z = x) := by
    by_cases e : z = x <;> simp [Lit.sameKey, e]
  show (left (.int .i64 z) && !(Lit.int .i64 z).sameKey (.int .i64 x)) = _
  rw [h4 z, hsk]
end
end Go.Proofs.YtjkneekfijibiabGreatDoor

namespace Go.Proofs.YtjkneekfijibiabGreatDoor
open Go.RowKit Go.Maps

section
variable {ops : Array Oper} {rest : List Oper} {o : Oper} {a : Act} {w : World} {Q : Exit → Act → World → Prop}

theorem ranges_exact {g r n cnt : Nat} {D : DataW Value} {left : Lit → Bool} (h : w.ranges Tryz.prog 3 self g r n D left cnt) : w.ranges Tryz.prog 3 self g r (Maps.size D) D left cnt := by
  obtain ⟨es, clock, since, seen, c0, hb, F, hs, hD, rest⟩ := h
  exact ⟨es, clock, since, seen, c0, hb, F, by rw [hD]; simp [Maps.size, length_sorted], hD, rest⟩

theorem wpList_kdelr (hgd : o.guard = none) (m x : Operand) (t : TypeId) (hop : o.op = Op.call { callee := Callee.builtin Builtin.delete, args := #[m, x], argTypes := #[t, 3] })
    (e : TypeId) (ht : Tryz.prog.underlying t = some (.map 3 e)) (g r n : Nat) (M : Int → Option Value) (todo : Int → Bool) (cnt : Nat) (hm : a.eval m = .map (some g)) (hr : PRng w g r n M todo cnt) (k : Int) (hx : a.eval x = .int .i64 k) (hk : (Lit.int .i64 k).wf = true)
    (h : ∀ w' cnt', PRng w' g r (if (M k).isSome then n - 1 else n) (fun i => if i = k then none else M i) (fun z => todo z && !decide (z = k)) cnt' → cnt' ≤ cnt → w.grownBy w' (some g) → wpList Tryz.prog ops Q rest (a.put o.dst (.tuple #[])) w') : wpList Tryz.prog ops Q (o :: rest) a w := by
  obtain ⟨D, left, hrg, h1, h2, h3, h4⟩ := hr
  refine wpList_delete_ranges w hgd m x t 3 hop e keyedInt ht self g r n D left cnt hm hrg _ _ hx (keyOf_int_mk Tryz.underlying3 hk) ?_
  intro w' cnt' hr' hle htn
  have hsz := size_del (k := .int .i64 k) (hrg.owns.tidy keyedInt)
  rw [h2 k, h1] at hsz
  have hsz' : Maps.size (D.del (.int .i64 k)) = if (M k).isSome then n - 1 else n := by split at hsz <;> simp_all <;> omega
  refine h w' cnt' ⟨_, _, hsz' ▸ ranges_exact hr', hsz', fun i => ?_, fun i z => ?_, fun z => ?_⟩ hle htn.grown
  · by_cases e : i = k
    · subst e; rw [has_del_same]; simp
    · rw [has_del_other (by simpa using e), h2 i]; simp [e]
  · by_cases e : i = k
    · subst e; rw [atKey_del_same]; simp
    · rw [atKey_del_other (by simpa using e), h3 i]; simp [e]
  · have hsk : (Lit.int .i64 z).sameKey (.int .i64 k) = decide (z = k) := by
      by_cases e : z = k <;> simp [Lit.sameKey, e]
    show (left (.int .i64 z) && !(Lit.int .i64 z).sameKey (.int .i64 k)) = _
    rw [h4 z, hsk]
end
end Go.Proofs.YtjkneekfijibiabGreatDoor

namespace Go.Proofs.YtjkneekfijibiabGreatDoor
open Go.RowKit Go.Maps

theorem keyOf_text_inv {key : Value} {kl : Lit} (h : keyOf Tryz.prog 9 key = some kl) : ∃ x : List UInt8, key = .string ⟨x.toArray⟩ ∧ kl = .string x ∧ x.length ≤ maxLen := by
  cases key <;> simp [keyOf, Tryz.underlying9, mapKey] at h
  rename_i s
  exact ⟨s.data.toList, by simp, h.2.symm, by rw [Array.length_toList]; exact h.1⟩

/-- A loop over map g under way, its iterator at r: todo a: a is still to come. -/
def SRng (w : World) (g r s : Nat) (M : List UInt8 → Option Value) (todo : List UInt8 → Bool) (cnt : Nat) : Prop :=
  ∃ (D : DataW Value) (left : Lit → Bool), w.ranges Tryz.prog 9 self g r s D left cnt ∧ Maps.size D = s ∧ (∀ a, Maps.has D (.string a) = (M a).isSome) ∧ (∀ a z, D.atKey (.string a) (.held z) = .held ((M a).getD z)) ∧ ∀ a, left (.string a) = todo a

section
variable {w w' : World} {g r s : Nat} {M : List UInt8 → Option Value} {todo : List UInt8 → Bool} {cnt : Nat}
theorem SRng.map (h : SRng w g r s M todo cnt) : SMap w g s M := by
  obtain ⟨D, left, hr, h1, h2, h3, _⟩ := h
  exact ⟨D, hr.owns, h1, h2, h3⟩
theorem SRng.keep (h : SRng w g r s M todo cnt) (hg : w'.heap[g]? = w.heap[g]?) (hr : w'.heap[r]? = w.heap[r]?) : SRng w' g r s M todo cnt := by
  obtain ⟨D, left, ⟨es, clock, since, seen, c0, hb, F, hs, hD, hi, rest⟩, h1⟩ := h
  exact ⟨D, left, ⟨es, clock, since, seen, c0, hg.trans hb, F, hs, hD, hr.trans hi, rest⟩, h1⟩
theorem SRng.rlt (h : SRng w g r s M todo cnt) : r < w.heap.size := by obtain ⟨D, left, hr, _⟩ := h; exact hr.lt
theorem SRng.ne (h : SRng w g r s M todo cnt) : r ≠ g := by obtain ⟨D, left, hr, _⟩ := h; exact hr.ne
end

section
variable {ops : Array Oper} {rest : List Oper} {o : Oper} {a : Act} {w : World} {Q : Exit → Act → World → Prop}

/-- The loop begins. -/
theorem wpList_srange (hgd : o.guard = none) (m : Operand) (t : TypeId) (hop : o.op = Op.range t m) (e : TypeId) (ht : Tryz.prog.underlying t = some (.map 9 e)) (g n : Nat) (M : List UInt8 → Option Value) (hm : a.eval m = .map (some g)) (hown : SMap w g n M)
    (h : ∀ w', SRng w' g w.heap.size n M (fun x => (M x).isSome) n → w.grownBy w' none → w'.heap.size = w.heap.size + 1 → wpList Tryz.prog ops Q rest (a.put o.dst (.pointer (some ⟨w.heap.size, 0, none⟩))) w') : wpList Tryz.prog ops Q (o :: rest) a w := by
  obtain ⟨D, hD, h1, h2, h3⟩ := hown
  refine wpList_range_own w hgd m t hop 9 e keyedText ht self g n D hm hD (fun w' hr hg hs => h w' ⟨D, _, by rw [h1] at hr; exact hr, h1, h2, h3, fun x => h2 x⟩ hg hs)

/-- Its step: nothing is left, or an entry comes. -/
theorem wpList_snext (hgd : o.guard = none) (it : Operand) (hop : o.op = Op.next it false) (g r n : Nat) (M : List UInt8 → Option Value) (todo : List UInt8 → Bool) (cnt : Nat) (hit : a.eval it = .pointer (some ⟨r, 0, none⟩)) (hr : SRng w g r n M todo cnt)
    (hDone : (∀ x, todo x = false) → wpList Tryz.prog ops Q rest (a.put o.dst (.tuple #[.bool false])) w)
    (hMore : ∀ (x : List UInt8) (v : Value) (w' : World) (cnt' : Nat), x.length ≤ maxLen → todo x = true → M x = some v → SRng w' g r n M (fun z => todo z && !decide (z = x)) cnt' → cnt' < cnt → w.grownBy w' (some r) → w'.heap.size = w.heap.size →
      (Instr.entry (.pointer (some ⟨r, 0, none⟩))).run Tryz.prog w' = .ok (.tuple #[.string ⟨x.toArray⟩, v]) w' → wpList Tryz.prog ops Q rest (a.put o.dst (.tuple #[.bool true, .string ⟨x.toArray⟩, v])) w') : wpList Tryz.prog ops Q (o :: rest) a w := by
  obtain ⟨D, left, hrg, h1, h2, h3, h4⟩ := hr
  refine wpList_next_ranges w hgd it hop 9 keyedText self (fun x : List UInt8 => Value.string ⟨x.toArray⟩) (fun v : Value => v) (fun key kl hkey => by obtain ⟨x, rfl, _⟩ := keyOf_text_inv hkey; exact ⟨x, rfl⟩) (fun v y _ => ⟨v, rfl⟩) g r n D left cnt hit hrg (fun _ hl => hDone (fun x => by rw [← h4]; exact hl _)) ?_
  intro x v kl y w' cnt' hkey hlk hv hat hrg' hlt hg hs hen
  obtain ⟨x', ex, rfl, hwx⟩ := keyOf_text_inv hkey
  obtain rfl : x = x' := by simpa using ex
  have hy : y = (.held v, []) := by simp only [self, Option.some.injEq] at hv; exact hv.symm
  have hM : M x = some v := by
    have e1 := (h3 x (.bool true)).symm.trans (hat (.held (.bool true)))
    have e2 := (h3 x (.bool false)).symm.trans (hat (.held (.bool false)))
    rw [hy] at e1 e2
    simp only [DataW.held.injEq] at e1 e2
    cases e : M x with
    | none => rw [e] at e1 e2; simp only [Option.getD_none] at e1 e2; rw [← e1] at e2; cases e2
    | some u => rw [e] at e1; simp only [Option.getD_some] at e1; rw [e1]
  refine hMore x v w' cnt' hwx (by rw [← h4]; exact hlk) hM ⟨D, _, hrg', h1, h2, h3, fun z => ?_⟩ hlt hg hs hen
  have hsk : (Lit.string z).sameKey (.string x) = decide (z = x) := by
    by_cases e : z = x <;> simp [Lit.sameKey, e]
  show (left (.string z) && !(Lit.string z).sameKey (.string x)) = _
  rw [h4 z, hsk]
end
end Go.Proofs.YtjkneekfijibiabGreatDoor

namespace Go.Proofs.YtjkneekfijibiabGreatDoor
open Go.RowKit Go.Maps

/-- Counts, as a map holds them. -/
def cm (c : Int → Nat) (n : Int) : Option Value := if c n = 0 then none else some (.int .i64 (c n : Int))
theorem cm_get (c : Int → Nat) (n : Int) : (cm c n).getD (.int .i64 0) = .int .i64 (c n : Int) := by
  unfold cm; by_cases h : c n = 0 <;> simp [h]
theorem cm_put (c : Int → Nat) (n : Int) : (fun i => if i = n then some (Value.int .i64 ((c n : Int) + 1)) else cm c i) = cm (fun i => if i = n then c n + 1 else c i) := by
  funext i; unfold cm; by_cases e : i = n <;> simp [e]

section
variable {w w' : World} {r gN s : Nat} {T : Wd} {G : Int → Nat}

/-- Fewer nodes. -/
theorem RTr.sub {s' : Nat} {T' : Wd} (h : RTr w r gN s T G) (hs : ∀ k nd, T' k = some nd → T k = some nd) (hg : w.grownBy w' (some gN)) (pm : PMap w' gN s' (fun k => (T' k).map (ndv G k))) : RTr w' r gN s' T' G := by
  have hk : ∀ i, i < w.heap.size → i ≠ gN → w'.heap[i]? = w.heap[i]? := fun i hi hne => hg.block i hi (fun e => hne (Option.some.inj e))
  exact ⟨(hk r (h.lt (.inl rfl)) h.rne).trans h.head, pm, fun k C e => (h.dirs k C (hs k _ e)).keep (hk _ (h.dirs k C (hs k _ e)).lt (h.sep k C (hs k _ e))), fun k C e => h.sep k C (hs k _ e), fun k k' C C' e e' => h.inj k k' C C' (hs k _ e) (hs k' _ e')⟩

/-- What was counted so far: of the nodes that are no longer to come. -/
def Cnt (T : Wd) (todo : Int → Bool) (c : Int → Nat) : Prop := ∀ n, c n ≠ 0 ↔ n = 0 ∨ ∃ k C x, T k = some (.dir C) ∧ todo k = false ∧ C.lookup x = some n
/-- And of one more, of the names that are no longer to come. -/
def Cnt1 (T : Wd) (todo : Int → Bool) (C : List (Nm × Int)) (left : Nm → Bool) (c : Int → Nat) : Prop := ∀ n, c n ≠ 0 ↔ (n = 0 ∨ ∃ k C x, T k = some (.dir C) ∧ todo k = false ∧ C.lookup x = some n) ∨ ∃ x, left x = false ∧ C.lookup x = some n
theorem Cnt.start {todo : Int → Bool} {c : Int → Nat} {C : List (Nm × Int)} (h : Cnt T todo c) : Cnt1 T todo C (fun x => ((C.lookup x).map (Value.int .i64 ·)).isSome) c := fun n => by
  rw [h n]
  constructor
  · exact .inl
  · rintro (e | ⟨x, hx, e⟩)
    · exact e
    · simp [e] at hx
theorem Cnt1.stop {todo : Int → Bool} {c : Int → Nat} {C : List (Nm × Int)} {left : Nm → Bool} {k : Int} (h : Cnt1 T todo C left c) (hk : T k = some (.dir C)) (hl : ∀ x, left x = false) : Cnt T (fun z => todo z && !decide (z = k)) c := fun n => by
  rw [h n]
  constructor
  · rintro ((e | ⟨k', C', x, e1, e2, e3⟩) | ⟨x, _, e⟩)
    · exact .inl e
    · exact .inr ⟨k', C', x, e1, by simp [e2], e3⟩
    · exact .inr ⟨k, C, x, hk, by simp, e⟩
  · rintro (e | ⟨k', C', x, e1, e2, e3⟩)
    · exact .inl (.inl e)
    · by_cases ek : k' = k
      · subst ek; rw [hk] at e1; cases e1; exact .inr ⟨x, hl x, e3⟩
      · exact .inl (.inr ⟨k', C', x, e1, by simpa [ek] using e2, e3⟩)
theorem Cnt.file {todo : Int → Bool} {c : Int → Nat} {k : Int} {b : List UInt8} {x : Nat} (h : Cnt T todo c) (hk : T k = some (.file b x)) : Cnt T (fun z => todo z && !decide (z = k)) c := fun n => by
  rw [h n]
  constructor
  · rintro (e | ⟨k', C', x, e1, e2, e3⟩)
    · exact .inl e
    · exact .inr ⟨k', C', x, e1, by simp [e2], e3⟩
  · rintro (e | ⟨k', C', x, e1, e2, e3⟩)
    · exact .inl e
    · by_cases ek : k' = k
      · subst ek; rw [hk] at e1; cases e1
      · exact .inr ⟨k', C', x, e1, by simpa [ek] using e2, e3⟩
theorem Cnt1.step {todo : Int → Bool} {c : Int → Nat} {C : List (Nm × Int)} {left : Nm → Bool} {x : Nm} {m : Int} (h : Cnt1 T todo C left c) (hx : C.lookup x = some m) : Cnt1 T todo C (fun z => left z && !decide (z = x)) (fun i => if i = m then c m + 1 else c i) := fun n => by
  by_cases en : n = m
  · subst en
    simp only [if_true]
    constructor
    · intro _; exact .inr ⟨x, by simp, hx⟩
    · intro _; omega
  · simp only [en, if_false]
    rw [h n]
    constructor
    · rintro (e | ⟨y, hy, e⟩)
      · exact .inl e
      · exact .inr ⟨y, by simp [hy], e⟩
    · rintro (e | ⟨y, hy, e⟩)
      · exact .inl e
      · by_cases ey : y = x
        · subst ey; rw [hx] at e; exact absurd (Option.some.inj e).symm en
        · exact .inr ⟨y, by simpa [ey] using hy, e⟩
theorem Cnt.led {todo : Int → Bool} {c : Int → Nat} (h : Cnt T todo c) (hl : ∀ x, todo x = false) (n : Int) : c n ≠ 0 ↔ Led T n := by
  rw [h n]; unfold Led
  constructor
  · rintro (e | ⟨k, C, x, e1, _, e3⟩)
    · exact .inl e
    · exact .inr ⟨k, C, x, e1, e3⟩
  · rintro (e | ⟨k, C, x, e1, e3⟩)
    · exact .inl e
    · exact .inr ⟨k, C, x, e1, hl k, e3⟩
end
end Go.Proofs.YtjkneekfijibiabGreatDoor

/- A loop over a map that is keyed by texts: which keys are still to come. -/
import Derived.Test.YtjkneekfijibiabGreatDoorSKeys
import Derived.Maps.RangeWalk
import Derived.Test.YtjkneekfijibiabGreatDoorUTree
import Derived.Sort.KeysCollected
import Derived.Maps.Views
namespace Go.Proofs.YtjkneekfijibiabGreatDoor
open Go.RowKit Go.Maps

theorem keyOf_text_inv {key : Value} {kl : Lit} (h : keyOf Tryz.prog 9 key = some kl) : ∃ x : List UInt8, key = .string ⟨x.toArray⟩ ∧ kl = .string x ∧ x.length ≤ maxLen := by
  cases key <;> simp [keyOf, Tryz.underlying9, mapKey] at h
  rename_i s
  exact ⟨s.data.toList, by simp, h.2.symm, by rw [Array.length_toList]; exact h.1⟩

/-- A loop over map g under way, its iterator at r: todo a: a is still to come. -/
def SRng (w : World) (g r s : Nat) (M : List UInt8 → Option Value) (todo : List UInt8 → Bool) (cnt : Nat) : Prop :=
  ∃ (D : DataW Value) (left : Lit → Bool), w.ranges Tryz.prog 9 self g r s D left cnt ∧ Maps.size D = s ∧ (∀ a, Maps.has D (.string a) = (M a).isSome) ∧ (∀ a z, D.atKey (.string a) (.held z) = .held ((M a).getD z)) ∧ ∀ a, left (.string a) = todo a

section
variable {w w' : World} {g r s : Nat} {M : List UInt8 → Option Value} {todo : List UInt8 → Bool} {cnt : Nat}
theorem SRng.map (h : SRng w g r s M todo cnt) : SMap w g s M := by
  obtain ⟨D, left, hr, h1, h2, h3, _⟩ := h
  exact ⟨D, hr.owns, h1, h2, h3⟩
theorem SRng.keep (h : SRng w g r s M todo cnt) (hg : w'.heap[g]? = w.heap[g]?) (hr : w'.heap[r]? = w.heap[r]?) : SRng w' g r s M todo cnt := by
  obtain ⟨D, left, ⟨es, clock, since, seen, c0, hb, F, hs, hD, hi, rest⟩, h1⟩ := h
  exact ⟨D, left, ⟨es, clock, since, seen, c0, hg.trans hb, F, hs, hD, hr.trans hi, rest⟩, h1⟩
theorem SRng.rlt (h : SRng w g r s M todo cnt) : r < w.heap.size := by obtain ⟨D, left, hr, _⟩ := h; exact hr.lt
theorem SRng.ne (h : SRng w g r s M todo cnt) : r ≠ g := by obtain ⟨D, left, hr, _⟩ := h; exact hr.ne
end

section
variable {ops : Array Oper} {rest : List Oper} {o : Oper} {a : Act} {w : World} {Q : Exit → Act → World → Prop}

/-- The loop begins. -/
theorem wpList_srange (hgd : o.guard = none) (m : Operand) (t : TypeId) (hop : o.op = Op.range t m) (e : TypeId) (ht : Tryz.prog.underlying t = some (.map 9 e)) (g n : Nat) (M : List UInt8 → Option Value) (hm : a.eval m = .map (some g)) (hown : SMap w g n M)
    (h : ∀ w', SRng w' g w.heap.size n M (fun x => (M x).isSome) n → w.grownBy w' none → w'.heap.size = w.heap.size + 1 → wpList Tryz.prog ops Q rest (a.put o.dst (.pointer (some ⟨w.heap.size, 0, none⟩))) w') : wpList Tryz.prog ops Q (o :: rest) a w := by
  obtain ⟨D, hD, h1, h2, h3⟩ := hown
  refine wpList_range_own w hgd m t hop 9 e keyedText ht self g n D hm hD (fun w' hr hg hs => h w' ⟨D, _, by rw [h1] at hr; exact hr, h1, h2, h3, fun x => h2 x⟩ hg hs)

/-- Its step: nothing is left, or an entry comes. -/
theorem wpList_snext (hgd : o.guard = none) (it : Operand) (hop : o.op = Op.next it false) (g r n : Nat) (M : List UInt8 → Option Value) (todo : List UInt8 → Bool) (cnt : Nat) (hit : a.eval it = .pointer (some ⟨r, 0, none⟩)) (hr : SRng w g r n M todo cnt)
    (hDone : (∀ x, todo x = false) → wpList Tryz.prog ops Q rest (a.put o.dst (.tuple #[.bool false])) w)
    (hMore : ∀ (x : List UInt8) (v : Value) (w' : World) (cnt' : Nat), x.length ≤ maxLen → todo x = true → M x = some v → SRng w' g r n M (fun z => todo z && !decide (z = x)) cnt' → cnt' < cnt → w.grownBy w' (some r) → w'.heap.size = w.heap.size →
      (Instr.entry (.pointer (some ⟨r, 0, none⟩))).run Tryz.prog w' = .ok (.tuple #[.string ⟨x.toArray⟩, v]) w' → wpList Tryz.prog ops Q rest (a.put o.dst (.tuple #[.bool true, .string ⟨x.toArray⟩, v])) w') : wpList Tryz.prog ops Q (o :: rest) a w := by
  obtain ⟨D, left, hrg, h1, h2, h3, h4⟩ := hr
  refine wpList_next_ranges w hgd it hop 9 keyedText self (fun x : List UInt8 => Value.string ⟨x.toArray⟩) (fun v : Value => v) (fun key kl hkey => by obtain ⟨x, rfl, _⟩ := keyOf_text_inv hkey; exact ⟨x, rfl⟩) (fun v y _ => ⟨v, rfl⟩) g r n D left cnt hit hrg (fun _ hl => hDone (fun x => by rw [← h4]; exact hl _)) ?_
  intro x v kl y w' cnt' hkey hlk hv hat hrg' hlt hg hs hen
  obtain ⟨x', ex, rfl, hwx⟩ := keyOf_text_inv hkey
  obtain rfl : x = x' := by simpa using ex
  have hy : y = (.held v, []) := by simp only [self, Option.some.injEq] at hv; exact hv.symm
  have hM : M x = some v := by
    have e1 := (h3 x (.bool true)).symm.trans (hat (.held (.bool true)))
    have e2 := (h3 x (.bool false)).symm.trans (hat (.held (.bool false)))
    rw [hy] at e1 e2
    simp only [DataW.held.injEq] at e1 e2
    cases e : M x with
    | none => rw [e] at e1 e2; simp only [Option.getD_none] at e1 e2; rw [← e1] at e2; cases e2
    | some u => rw [e] at e1; simp only [Option.getD_some] at e1; rw [e1]
  refine hMore x v w' cnt' hwx (by rw [← h4]; exact hlk) hM ⟨D, _, hrg', h1, h2, h3, fun z => ?_⟩ hlt hg hs hen
  have hsk : (Lit.string z).sameKey (.string x) = decide (z = x) := by
    by_cases e : z = x <;> simp [Lit.sameKey, e]
  show (left (.string z) && !(Lit.string z).sameKey (.string x)) = _
  rw [h4 z, hsk]
end
end Go.Proofs.YtjkneekfijibiabGreatDoor

namespace Go.Proofs.YtjkneekfijibiabGreatDoor
open Go.RowKit Go.Maps

theorem SMap.data {w : World} {g s : Nat} {M : List UInt8 → Option Value} (m : SMap w g s M) : ∃ D : DataW Value, w.ownsMap Tryz.prog 9 self g s D ∧ Maps.size D = s ∧ (strKeys D).Nodup ∧ (strKeys D).length = s ∧ ∀ x, x ∈ strKeys D ↔ (M x).isSome = true := by
  obtain ⟨D, hown, hs, hS, _⟩ := m
  refine ⟨D, hown, hs, ?_⟩
  obtain ⟨es, hD, hpw, _⟩ := hown.entries keyedText
  obtain ⟨es', hD', hko⟩ := hown.keysOf
  obtain rfl : es = es' := by rw [hD] at hD'; simpa using hD'
  have hk : ∀ p ∈ es, ∃ x, p.1 = .string x := fun p hp => by
    obtain ⟨v, hv⟩ := hko p hp
    obtain ⟨x, _, hx, _⟩ := keyOf_text_inv hv
    exact ⟨x, hx⟩
  have hnd : (es.map fun p => strOf p.1).Nodup := by
    refine List.pairwise_map.2 (hpw.imp_of_mem fun {p q} hp hq hne e => hne ?_)
    obtain ⟨a, ha⟩ := hk p hp
    obtain ⟨d, hd⟩ := hk q hq
    rw [ha, hd] at e ⊢
    exact congrArg _ e
  subst hD
  refine ⟨hnd, by rw [← hs]; simp [strKeys, Maps.size], fun x => ?_⟩
  rw [← hS x, has_eq, List.any_eq_true]
  show x ∈ es.map (fun p => strOf p.1) ↔ _
  rw [List.mem_map]
  constructor
  · rintro ⟨p, hp, rfl⟩
    obtain ⟨a, ha⟩ := hk p hp
    exact ⟨p, hp, by rw [ha]; simp [Lit.sameKey, strOf]⟩
  · rintro ⟨p, hp, hq⟩
    obtain ⟨a, ha⟩ := hk p hp
    rw [ha] at hq
    exact ⟨p, hp, by rw [ha]; simpa [Lit.sameKey, strOf] using hq⟩

theorem ltr (a b c : Nm) (h1 : decide (a ≤ b) = true) (h2 : decide (b ≤ c) = true) : decide (a ≤ c) = true := by
  simp only [decide_eq_true_eq] at *; exact List.le_trans h1 h2
theorem ltl (a b : Nm) : (decide (a ≤ b) || decide (b ≤ a)) = true := by
  simp only [Bool.or_eq_true, decide_eq_true_eq]; exact List.le_total a b
/-- Two lists in order that have the same, are the same. -/
theorem order_one : ∀ {a b : List Nm}, a.Pairwise (fun x y => decide (x ≤ y) = true) → b.Pairwise (fun x y => decide (x ≤ y) = true) → a.Perm b → a = b
  | [], b, _, _, hp => (List.nil_perm.1 hp).symm
  | x :: a, b, ha, hb, hp => by
    cases b with
    | nil => exact absurd hp.length_eq (by simp)
    | cons y b =>
      have hxy : x = y := by
        have hx : x ∈ y :: b := hp.mem_iff.1 List.mem_cons_self
        have hy : y ∈ x :: a := hp.mem_iff.2 List.mem_cons_self
        rcases List.mem_cons.1 hx with e | hx
        · exact e
        · rcases List.mem_cons.1 hy with e | hy
          · exact e.symm
          · have h1 := (List.pairwise_cons.1 ha).1 y hy
            have h2 := (List.pairwise_cons.1 hb).1 x hx
            simp only [decide_eq_true_eq] at h1 h2
            exact List.le_antisymm h1 h2
      subst hxy
      rw [order_one (List.pairwise_cons.1 ha).2 (List.pairwise_cons.1 hb).2 (List.perm_cons x |>.1 hp)]

/-- A directory's names, in order. -/
def listT (C : List (Nm × Int)) : List Nm := inOrder (C.map (·.1))
theorem listT_one {C : List (Nm × Int)} (hn : (C.map (·.1)).Nodup) {L : List Nm} (hL : L.Nodup) (hm : ∀ x, x ∈ L ↔ (C.lookup x).isSome = true) : inOrder L = listT C := by
  have hp : L.Perm (C.map (·.1)) := (List.perm_ext_iff_of_nodup hL hn).2 (fun x => by
    rw [hm x]
    constructor
    · intro h
      obtain ⟨n, e⟩ := Option.isSome_iff_exists.1 h
      exact List.mem_map.2 ⟨(x, n), lookup_mem e, rfl⟩
    · intro h
      obtain ⟨⟨y, n⟩, hy, rfl⟩ := List.mem_map.1 h
      rw [mem_lookup hn hy]; rfl)
  exact order_one (List.pairwise_mergeSort ltr ltl L) (List.pairwise_mergeSort ltr ltl _) ((List.mergeSort_perm L _).trans (hp.trans (List.mergeSort_perm _ _).symm))
theorem listT_mem {C : List (Nm × Int)} {x : Nm} : x ∈ listT C ↔ x ∈ C.map (·.1) := (List.mergeSort_perm _ _).mem_iff
theorem listT_len (C : List (Nm × Int)) : (listT C).length = C.length := by unfold listT inOrder; rw [List.length_mergeSort, List.length_map]
theorem listT_nodup {C : List (Nm × Int)} (h : (C.map (·.1)).Nodup) : (listT C).Nodup := (List.mergeSort_perm _ _).nodup_iff.2 h
end Go.Proofs.YtjkneekfijibiabGreatDoor

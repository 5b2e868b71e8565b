/- Package tree: a new node, by its Go text: what it wants. -/
import Derived.Test.YtpibokijbidgdabDoorURename
namespace Go.Proofs.YtpibokijbidgdabDoor
open Go.RowKit Go.Maps

section
variable {w w' : World} {r gN s : Nat} {T : Wd} {Z : Int → Nat} {B G : Int → Nat} {V : Int → Value} {O : Nat → Prop}

/-- A node more. -/
theorem PTr.new (h : PTr w r gN s T Z B G V O) {k : Int} {b g z : Nat} {nd : Nd} (hk : T k = none) (hg : w.grownBy w' (some gN)) (pm : PMap w' gN (s + 1) (fun i => if i = k then some (wp b) else (T i).map (fun _ => wp (B i))))
    (hnode : w.heap[b]? = some (.cells (ncells (fun _ => g) (fun _ => .slice none 0 0) (fun _ => z) k nd) 142)) (hbO : ¬ O b) (hnd : (nd = .dir [] ∧ SMap w g 0 (fun _ => none) ∧ ¬ O g) ∨ nd = .file [] 0) :
    PTr w' r gN (s + 1) (setT T k nd) (fun i => if i = k then z else Z i) (fun i => if i = k then b else B i) (fun i => if i = k then g else G i) (fun i => if i = k then .slice none 0 0 else V i) (fun i => O i ∨ i = b ∨ (i = g ∧ nd = .dir [])) := by
  obtain ⟨es, cl, hm⟩ := h.map.isMap
  have hkp : ∀ i, i < w.heap.size → i ≠ gN → w'.heap[i]? = w.heap[i]? := fun i hi hne => hg.block i hi (fun e => hne (Option.some.inj e))
  have hbl : b < w.heap.size := (Array.getElem?_eq_some_iff.1 hnode).1
  have hbN : b ≠ gN := fun e => hbO (by rw [e]; exact h.ownN)
  have hne : ∀ i nd', T i = some nd' → i ≠ k := fun i nd' e e1 => by rw [e1, hk] at e; cases e
  have hold : ∀ i nd', setT T k nd i = some nd' → (i = k ∧ nd' = nd) ∨ (i ≠ k ∧ T i = some nd') := fun i nd' e => by
    by_cases e1 : i = k
    · subst e1; rw [setT_same] at e; cases e; exact .inl ⟨rfl, rfl⟩
    · rw [setT_other _ e1] at e; exact .inr ⟨e1, e⟩
  have hsm : ∀ i, (setT T k nd i).isSome = true → i = k ∨ (i ≠ k ∧ (T i).isSome = true) := fun i e => by
    by_cases e1 : i = k
    · exact .inl e1
    · rw [setT_other _ e1] at e; exact .inr ⟨e1, e⟩
  refine ⟨(hkp r (h.lt _ h.ownR) (fun e => by rw [← e, h.head] at hm; cases hm)).trans h.head, ?_, fun i nd' e => ?_, fun i C e => ?_, fun i c x e => ?_, fun i C e => ?_, fun i i' C C' e e' hG => ?_, fun i i' e e' hB => ?_, .inl h.ownR, .inl h.ownN, fun i e => ?_, fun i C e => ?_, fun i c x j e hj => ?_, fun i hi => ?_⟩
  · have e : (fun i => if i = k then some (wp b) else (T i).map (fun _ => wp (B i))) = fun i => (setT T k nd i).map (fun _ => wp (if i = k then b else B i)) := by
      funext i
      by_cases e1 : i = k
      · subst e1; rw [setT_same, if_pos rfl]; simp
      · rw [setT_other _ e1, if_neg e1]; simp [e1]
    rw [e] at pm
    exact pm
  · rcases hold i nd' e with ⟨rfl, rfl⟩ | ⟨e1, e⟩
    · simp only [if_true]
      have e2 : ncells (fun j => if j = i then g else G j) (fun j => if j = i then .slice none 0 0 else V j) (fun j => if j = i then z else Z j) i nd' = ncells (fun _ => g) (fun _ => .slice none 0 0) (fun _ => z) i nd' := by cases nd' <;> simp [ncells]
      rw [e2]
      exact (hkp b hbl hbN).trans hnode
    · simp only [if_neg e1]
      have e2 : ncells (fun j => if j = k then g else G j) (fun j => if j = k then .slice none 0 0 else V j) (fun j => if j = k then z else Z j) i nd' = ncells G V Z i nd' := by cases nd' <;> simp [ncells, e1]
      rw [e2]
      exact (hkp _ (h.lt _ (h.ownB i (by rw [e]; rfl))) (fun e3 => by rw [← e3, h.node i nd' e] at hm; cases hm)).trans (h.node i nd' e)
  · rcases hold i _ e with ⟨rfl, e9⟩ | ⟨e1, e⟩
    · simp only [if_true]
      rcases hnd with ⟨e8, hS, hgO⟩ | e8
      · rw [e8] at e9; cases e9
        exact hS.keep (hkp g hS.lt (fun e7 => hgO (by rw [e7]; exact h.ownN)))
      · rw [e8] at e9; cases e9
    · simp only [if_neg e1]
      exact (h.dirs i C e).keep (hkp _ (h.dirs i C e).lt (h.sep i C e))
  · rcases hold i _ e with ⟨rfl, e9⟩ | ⟨e1, e⟩
    · simp only [if_true]
      rcases hnd with ⟨e8, _⟩ | e8
      · rw [e8] at e9; cases e9
      · rw [e8] at e9; cases e9; exact .inl ⟨rfl, rfl⟩
    · simp only [if_neg e1]
      exact (h.data i c x e).grown hg (fun y hy => by rw [map_no_cell hm] at hy; cases hy)
  · rcases hold i _ e with ⟨rfl, e9⟩ | ⟨e1, e⟩
    · simp only [if_true]
      rcases hnd with ⟨_, _, hgO⟩ | e8
      · exact fun e7 => hgO (by rw [e7]; exact h.ownN)
      · rw [e8] at e9; cases e9
    · simp only [if_neg e1]
      exact h.sep i C e
  · have hg2 : ∀ j D, j ≠ k → T j = some (.dir D) → nd = .dir [] → G j ≠ g := fun j D _ hj e8 e7 => by
      rcases hnd with ⟨_, _, hgO⟩ | e9
      · exact hgO (by rw [← e7]; exact h.ownG j D hj)
      · rw [e9] at e8; cases e8
    have hdn : ∀ D, Nd.dir D = nd → nd = .dir [] := fun D e9 => by
      rcases hnd with ⟨e8, _⟩ | e8
      · exact e8
      · rw [e8] at e9; cases e9
    rcases hold i _ e with ⟨e1, e9⟩ | ⟨e1, e⟩
    · rcases hold i' _ e' with ⟨e1', e9'⟩ | ⟨e1', e'⟩
      · rw [e1, e1']
      · rw [if_pos e1, if_neg e1'] at hG
        exact absurd hG.symm (hg2 i' C' e1' e' (hdn C e9))
    · rcases hold i' _ e' with ⟨e1', e9'⟩ | ⟨e1', e'⟩
      · rw [if_neg e1, if_pos e1'] at hG
        exact absurd hG (hg2 i C e1 e (hdn C' e9'))
      · rw [if_neg e1, if_neg e1'] at hG
        exact h.inj i i' C C' e e' hG
  · rcases hsm i e with e1 | ⟨e1, e⟩
    · rcases hsm i' e' with e1' | ⟨e1', e'⟩
      · rw [e1, e1']
      · simp only [if_pos e1, if_neg e1'] at hB
        exact absurd (by rw [hB]; exact h.ownB i' e') hbO
    · rcases hsm i' e' with e1' | ⟨e1', e'⟩
      · simp only [if_neg e1, if_pos e1'] at hB
        exact absurd (by rw [← hB]; exact h.ownB i e) hbO
      · simp only [if_neg e1, if_neg e1'] at hB
        exact h.binj i i' e e' hB
  · rcases hsm i e with e1 | ⟨e1, e⟩
    · simp only [if_pos e1]; exact .inr (.inl trivial)
    · simp only [if_neg e1]; exact .inl (h.ownB i e)
  · rcases hold i _ e with ⟨e1, e9⟩ | ⟨e1, e⟩
    · simp only [if_pos e1]
      rcases hnd with ⟨e8, _⟩ | e8
      · exact .inr (.inr ⟨trivial, e8⟩)
      · rw [e8] at e9; cases e9
    · simp only [if_neg e1]; exact .inl (h.ownG i C e)
  · rcases hold i _ e with ⟨e1, _⟩ | ⟨e1, e⟩
    · simp only [if_pos e1] at hj; cases hj
    · simp only [if_neg e1] at hj; exact .inl (h.ownD i c x j e hj)
  · rcases hi with hi | rfl | ⟨rfl, e8⟩
    · exact Nat.lt_of_lt_of_le (h.lt i hi) hg.size
    · exact Nat.lt_of_lt_of_le hbl hg.size
    · rcases hnd with ⟨_, hS, _⟩ | e9
      · exact Nat.lt_of_lt_of_le hS.lt hg.size
      · rw [e9] at e8; cases e8

theorem cnt_none (hT : TrOk T) {k : Int} (hk : T k = none) (h0 : k ≠ 0) : cntT T k = 0 := by
  by_cases e : cntT T k = 0
  · exact e
  · rcases (led_cnt hT k).2 (.inr e) with e1 | ⟨d, C, sx, hd, hl⟩
    · exact absurd e1 h0
    · have := hT.child d C sx k hd hl
      rw [hk] at this; cases this
theorem newNd_cnt (dir : Bool) (k : Int) : cnt1 (some (newNd dir)) k = 0 := by cases dir <;> rfl
theorem make_turn (hT : TrLv T) {d k : Int} {nm : Nm} {C : List (Nm × Int)} (dir : Bool) (hd : T d = some (.dir C)) (hl : C.lookup nm = none) (hnm : isName nm = true) (hk : T k = none) (h0 : 0 ≤ k) (h1 : k < 64) :
    d ≠ k ∧ setT T k (newNd dir) d = some (.dir C) ∧ (∀ i, cntT (addT (setT T k (newNd dir)) d nm k) i = if i = k then 1 else cntT T i) ∧ TrLv (addT (setT T k (newNd dir)) d nm k) := by
  have hdk : d ≠ k := by rintro rfl; rw [hk] at hd; cases hd
  have hk0 : k ≠ 0 := by rintro rfl; obtain ⟨D, e⟩ := hT.root; rw [e] at hk; cases hk
  have hd' : setT T k (newNd dir) d = some (.dir C) := by rw [setT_other _ hdk]; exact hd
  have hok := hT.toTrOk.new hk h0 h1 dir
  have hcs := cnt_set_none (x := newNd dir) hk (newNd_cnt dir)
  have hc : ∀ i, cntT (addT (setT T k (newNd dir)) d nm k) i = if i = k then 1 else cntT T i := fun i => by
    rw [cnt_add hok hd', hcs]
    by_cases e : i = k
    · rw [if_pos e, if_pos e, e, cnt_none hT.toTrOk hk hk0]
    · rw [if_neg e, if_neg e, Nat.add_zero]
  refine ⟨hdk, hd', hc, ?_⟩
  refine { toTrOk := hok.add hd' hl hnm (by rw [setT_same]; rfl), nr := by rw [hc, if_neg (Ne.symm hk0)]; exact hT.nr, lv := fun i nd e => ?_ }
  rw [hc]
  by_cases e1 : i = k
  · rw [if_pos e1]; exact .inr (.inl (by decide))
  · rw [if_neg e1]
    rw [addT_eq hd'] at e
    by_cases e2 : i = d
    · subst e2
      rw [setT_same] at e; cases e
      rcases hT.lv i _ hd with e3 | e3 | e3
      · exact .inl e3
      · exact .inr (.inl e3)
      · exact absurd rfl e3
    · rw [setT_other _ e2, setT_other _ e1] at e; exact hT.lv i nd e
end
end Go.Proofs.YtpibokijbidgdabDoor

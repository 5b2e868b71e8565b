/- Package desc in memory: what is open, by keys; a table beside it; what turns it. -/
import Derived.Test.YtcfhanoekniaaaaGreatDoorQTab
import Derived.Test.YtcfhanoekniaaaaGreatDoorUHold
import Derived.Test.YtcfhanoekniaaaaGreatDoorTubes3
import Derived.Deep.RegionHeld3
namespace Go.Proofs.YtcfhanoekniaaaaGreatDoor
open Go.RowKit Go.Maps

/-- What a block of the program's is. -/
inductive Tag
  | head
  | mp
  | ent (d : Int)
  | pip (p : Int)
  | tree
/-- Where things lie: the tree, the map, which ENTRY a key has, each ENTRY's block, each pipe's. -/
structure QG where
  r : Nat
  gO : Nat
  K : Int → Option Int
  B : Int → Nat
  Q : Int → Nat
  kap : Nat → Option Tag
def pv (g : QG) (e : En) : Value := if e.kind = 1 then .pointer none else wp (g.Q e.pipe)
abbrev ecells (g : QG) (e : En) (c : Int) : Array Value := #[.int .i64 e.kind, .int .i64 e.prot, .int .i64 c, .int .i64 e.node, .int .i64 e.pos, pv g e]
structure QF (w : World) (f : Nat) (D : DS) (g : QG) (n : Nat) : Prop where
  head : w.heap[f]? = some (.cells #[wp g.r, .map (some g.gO)] 209)
  tree : ∃ O, PT w g.r D.T O ∧ ∀ i, O i → g.kap i = some .tree
  map : PMap w g.gO n (fun k => (g.K k).map (fun d => wp (g.B d)))
  ent : ∀ d e, D.E d = some e → ∃ c, D.R d = some c ∧ w.heap[g.B d]? = some (.cells (ecells g e c) 238) ∧ g.kap (g.B d) = some (.ent d)
  key : ∀ k d, g.K k = some d → (D.E d).isSome = true ∧ 0 < k ∧ k < 100000
  has : ∀ d, (D.E d).isSome = true → ∃ k, g.K k = some d
  inj : ∀ k k' d, g.K k = some d → g.K k' = some d → k = k'
  pipe : ∀ p x, D.P p = some x → Tb w (g.Q p) x.2.1 x.2.2 x.1 ∧ g.kap (g.Q p) = some (.pip p)
  tf : g.kap f = some .head
  tm : g.kap g.gO = some .mp
  lt : ∀ i, (g.kap i).isSome = true → i < w.heap.size
/-- A table: keys in memory, ENTRIES. -/
structure QTb (w : World) (b : Nat) (g : QG) (M N : Ns) : Prop where
  tab : QT w b M
  off : g.kap b = none
  len : N.length = 8
  rel : ∀ i (h : i < M.length) (h' : i < N.length), N[i].2 = M[i].2 ∧ ((M[i].1 = 0 ∧ N[i].1 = 0) ∨ (0 < N[i].1 ∧ g.K M[i].1 = some N[i].1))
/-- What stays of where things lie. -/
structure Ext (w : World) (D' : DS) (g g' : QG) : Prop where
  kap : ∀ i, i < w.heap.size → g'.kap i = g.kap i
  key : ∀ k d, g.K k = some d → (D'.E d).isSome = true → g'.K k = some d
  r : g'.r = g.r
/-- What a call leaves. -/
structure QGo (w w' : World) (f : Nat) (D' : DS) (g : QG) (b : Nat) (N' : Ns) : Prop where
  ex : ∃ g' n' M', QF w' f D' g' n' ∧ QTb w' b g' M' N' ∧ Ext w D' g g'
  wt : Wt (fun i => (g.kap i).isSome = true ∨ i = b) w w'

theorem tag_ne {κ : Nat → Option Tag} {i j : Nat} {s t : Tag} (hi : κ i = some s) (hj : κ j = some t) (h : s ≠ t) : i ≠ j := fun e => h (by rw [e] at hi; exact Option.some.inj (hi.symm.trans hj))
section
variable {w w' w2 : World} {f b n : Nat} {D D' : DS} {g g' : QG} {M N N' : Ns} {d k : Int} {e : En}
theorem Ext.refl (w : World) (D : DS) (g : QG) : Ext w D g g := ⟨fun _ _ => rfl, fun _ _ h _ => h, rfl⟩
theorem QF.k0 (h : QF w f D g n) : g.K 0 = none := by
  cases e : g.K 0 with
  | none => rfl
  | some d => have := (h.key 0 d e).2.1; omega
theorem QF.keep (h : QF w f D g n) (hk : ∀ i, (g.kap i).isSome = true → w'.heap[i]? = w.heap[i]?) (hs : w.heap.size ≤ w'.heap.size) : QF w' f D g n := by
  have ht : ∀ {i t}, g.kap i = some t → w'.heap[i]? = w.heap[i]? := fun {i t} e => hk i (by rw [e]; rfl)
  obtain ⟨O, p, hO⟩ := h.tree
  refine ⟨(ht h.tf).trans h.head, ⟨O, p.keep (fun i hi => ht (hO i hi)) hs, hO⟩, h.map.keep (ht h.tm), fun d e he => ?_, h.key, h.has, h.inj, fun p x hp => ?_, h.tf, h.tm, fun i hi => Nat.lt_of_lt_of_le (h.lt i hi) hs⟩
  · obtain ⟨c, h1, h2, h3⟩ := h.ent d e he
    exact ⟨c, h1, (ht h3).trans h2, h3⟩
  · obtain ⟨h1, h2⟩ := h.pipe p x hp
    exact ⟨h1.keep (ht h2), h2⟩
theorem QF.below (h : QF w f D g n) (hb : Below w.heap.size w w') : QF w' f D g n := h.keep (fun i hi => hb.block i (h.lt i hi)) hb.size
theorem QTb.keep (h : QTb w b g M N) (hk : w'.heap[b]? = w.heap[b]?) : QTb w' b g M N := ⟨h.tab.keep hk, h.off, h.len, h.rel⟩
theorem QTb.below (h : QTb w b g M N) (hb : Below w.heap.size w w') : QTb w' b g M N := h.keep (hb.block b h.tab.lt)
/-- Another table stays. -/
theorem QTb.other (h : QTb w b g M N) (hx : Ext w D' g g') (hk : w'.heap[b]? = w.heap[b]?) (hE : ∀ i (hi : i < N.length), 0 < N[i].1 → (D'.E N[i].1).isSome = true) : QTb w' b g' M N := by
  refine ⟨h.tab.keep hk, (hx.kap b h.tab.lt).trans h.off, h.len, fun i h1 h2 => ?_⟩
  obtain ⟨a, c⟩ := h.rel i h1 h2
  refine ⟨a, ?_⟩
  rcases c with c | ⟨c1, c2⟩
  · exact .inl c
  · exact .inr ⟨c1, hx.key _ _ c2 (hE i h2 c1)⟩
theorem QF.cells (h : QF w f D g n) : w.cell? ⟨f, 0, none⟩ = some (wp g.r) ∧ w.cell? ⟨f, 1, none⟩ = some (.map (some g.gO)) :=
  ⟨by rw [cell_of_row _ _ _ _ _ _ h.head]; rfl, by rw [cell_of_row _ _ _ _ _ _ h.head]; rfl⟩
theorem QF.ecell (h : QF w f D g n) (he : D.E d = some e) {c : Int} (hc : D.R d = some c) : w.cell? ⟨g.B d, 0, none⟩ = some (.int .i64 e.kind) ∧ w.cell? ⟨g.B d, 1, none⟩ = some (.int .i64 e.prot) ∧ w.cell? ⟨g.B d, 2, none⟩ = some (.int .i64 c) ∧ w.cell? ⟨g.B d, 3, none⟩ = some (.int .i64 e.node) ∧ w.cell? ⟨g.B d, 4, none⟩ = some (.int .i64 e.pos) ∧ w.cell? ⟨g.B d, 5, none⟩ = some (pv g e) ∧ ∀ o, w.frozen? ⟨g.B d, o, none⟩ = false := by
  obtain ⟨c', h1, h2, _⟩ := h.ent d e he
  rw [hc] at h1
  obtain rfl := Option.some.inj h1
  refine ⟨?_, ?_, ?_, ?_, ?_, ?_, fun o => by simp [World.frozen?, h2]⟩ <;> (rw [cell_of_row _ _ _ _ _ _ h2]; rfl)
theorem zero_ent (w : World) : (zeroValue 232).run Tryz.prog w = .ok (.pointer none) w := by kernel_rfl
/-- What the map holds at a key. -/
def gv (g : QG) (k : Int) : Value := match g.K k with
  | some d => wp (g.B d)
  | none => .pointer none
theorem gv_some (h : g.K k = some d) : gv g k = wp (g.B d) := by unfold gv; rw [h]
theorem gv_none (h : g.K k = none) : gv g k = .pointer none := by unfold gv; rw [h]
theorem QF.look (h : QF w f D g n) {k : Int} (h0 : 0 ≤ k) (h1 : k < 100000) : (Instr.lookup 207 (.map (some g.gO)) (.int .i64 k) false).run Tryz.prog w = .ok (gv g k) w := by
  rw [h.map.look Tryz.underlying207 (zero_ent _) k (wf_few h0 (by omega))]
  unfold gv
  cases g.K k <;> rfl
/-- An ENTRY's cells turned. -/
theorem QF.cell (h : QF w f D g n) (he : D.E d = some e) (e' : En) (c' : Int) (hw : w'.heap[g.B d]? = some (.cells (ecells g e' c') 238)) (hg : w.grownBy w' (some (g.B d))) :
    QF w' f { D with E := fun i => if i = d then some e' else D.E i, R := fun i => if i = d then some c' else D.R i } g n := by
  obtain ⟨c, h1, h2, h3⟩ := h.ent d e he
  have hk : ∀ {i t}, g.kap i = some t → t ≠ .ent d → w'.heap[i]? = w.heap[i]? := fun {i t} ei ht => hg.block i (h.lt i (by rw [ei]; rfl)) (fun x => tag_ne ei h3 ht (Option.some.inj x))
  obtain ⟨O, p, hO⟩ := h.tree
  have hs : ∀ x, (if x = d then some e' else D.E x).isSome = (D.E x).isSome := fun x => by
    by_cases ex : x = d
    · rw [if_pos ex, ex, he]; rfl
    · rw [if_neg ex]
  refine ⟨(hk h.tf (by simp)).trans h.head, ⟨O, p.keep (fun i hi => hk (hO i hi) (by simp)) hg.size, hO⟩, h.map.keep (hk h.tm (by simp)), fun x ex hx => ?_, fun k x hx => ?_, fun x hx => h.has x (by rw [← hs x]; exact hx), h.inj, fun p x hp => ?_, h.tf, h.tm, fun i hi => Nat.lt_of_lt_of_le (h.lt i hi) hg.size⟩
  · have hx' : (if x = d then some e' else D.E x) = some ex := hx
    by_cases e1 : x = d
    · subst e1
      rw [if_pos rfl] at hx'
      obtain rfl := Option.some.inj hx'
      exact ⟨c', if_pos rfl, hw, h3⟩
    · rw [if_neg e1] at hx'
      obtain ⟨c1, a1, a2, a3⟩ := h.ent x ex hx'
      exact ⟨c1, (if_neg e1).trans a1, (hk a3 (fun q => e1 (by injection q))).trans a2, a3⟩
  · obtain ⟨a, c⟩ := h.key k x hx
    exact ⟨by show (if x = d then some e' else D.E x).isSome = true; rw [hs]; exact a, c⟩
  · obtain ⟨a1, a2⟩ := h.pipe p x hp
    exact ⟨a1.keep (hk a2 (by simp)), a2⟩
theorem QF.putR (h : QF w f D g n) (he : D.E d = some e) (c' : Int) (hw : w'.heap[g.B d]? = some (.cells (ecells g e c') 238)) (hg : w.grownBy w' (some (g.B d))) :
    QF w' f { D with R := fun i => if i = d then some c' else D.R i } g n := by
  have := h.cell he e c' hw hg
  have hE : (fun i => if i = d then some e else D.E i) = D.E := by
    funext i
    by_cases ei : i = d
    · rw [if_pos ei, ei, he]
    · rw [if_neg ei]
  rw [hE] at this
  exact this
theorem QF.putE (h : QF w f D g n) (he : D.E d = some e) {c : Int} (hc : D.R d = some c) (e' : En) (hw : w'.heap[g.B d]? = some (.cells (ecells g e' c) 238)) (hg : w.grownBy w' (some (g.B d))) :
    QF w' f { D with E := fun i => if i = d then some e' else D.E i } g n := by
  have := h.cell he e' c hw hg
  have hE : (fun i => if i = d then some c else D.R i) = D.R := by
    funext i
    by_cases ei : i = d
    · rw [if_pos ei, ei, hc]
    · rw [if_neg ei]
  rw [hE] at this
  exact this
/-- A table's number turned. -/
theorem QT.put (h : QT w b M) {i : Nat} (hi : i < 8) (x : Int × Bool) (hx : 0 ≤ x.1 ∧ x.1 < 100000 ∧ (x.1 = 0 → x.2 = false)) : QT ((w.setCell ⟨b, i * 2, none⟩ (.int .i64 x.1)).setCell ⟨b, i * 2 + 1, none⟩ (.bool x.2)) b (M.set i x) := by
  refine ⟨?_, by rw [List.length_set]; exact h.len, fun y hy => ?_⟩
  · have h1 := heap_cell_same w b (i * 2) (.int .i64 x.1) _ _ _ h.blk
    have h2 := heap_cell_same _ b (i * 2 + 1) (.bool x.2) _ _ _ h1
    rw [h2, ← nv_put M i x (by rw [h.len]; exact hi), Nat.mul_comm]
    simp
  · rcases List.mem_or_eq_of_mem_set hy with h1 | h1
    · exact h.pos y h1
    · rw [h1]; exact hx
theorem QT.mark (h : QT w b M) {i : Nat} (hi : i < 8) (c : Bool) (hc : (M[i]'(by rw [h.len]; exact hi)).1 ≠ 0) : QT (w.setCell ⟨b, i * 2 + 1, none⟩ (.bool c)) b (M.set i ((M[i]'(by rw [h.len]; exact hi)).1, c)) := by
  have hiL : i < M.length := by rw [h.len]; exact hi
  refine ⟨?_, by rw [List.length_set]; exact h.len, fun y hy => ?_⟩
  · have h2 := heap_cell_same w b (i * 2 + 1) (.bool c) _ _ _ h.blk
    rw [h2, ← nv_put M i (M[i].1, c) hiL, Nat.mul_comm]
    have e : (nv M).set (2 * i) (.int .i64 M[i].1) = nv M := by
      obtain ⟨e1, _⟩ := nv_at M i hiL
      obtain ⟨hl, he⟩ := List.getElem?_eq_some_iff.1 e1
      rw [← he, List.set_getElem_self]
    simp [e]
  · rcases List.mem_or_eq_of_mem_set hy with h1 | h1
    · exact h.pos y h1
    · rw [h1]; exact ⟨(h.nn hiL).1, (h.nn hiL).2.1, fun e => absurd e hc⟩
/-- The relation behind one number's turn. -/
theorem QTb.set (h : QTb w b g M N) {i : Nat} (x y : Int × Bool) (hT : QT w' b (M.set i x)) (hxy : y.2 = x.2 ∧ ((x.1 = 0 ∧ y.1 = 0) ∨ (0 < y.1 ∧ g.K x.1 = some y.1))) : QTb w' b g (M.set i x) (N.set i y) := by
  refine ⟨hT, h.off, by rw [List.length_set]; exact h.len, fun j h1 h2 => ?_⟩
  rw [List.length_set] at h1 h2
  by_cases e : i = j
  · subst e
    simp only [List.getElem_set_self]
    exact hxy
  · rw [List.getElem_set_ne e, List.getElem_set_ne e]
    exact h.rel j h1 h2
end
end Go.Proofs.YtcfhanoekniaaaaGreatDoor

namespace Go.Proofs.YtcfhanoekniaaaaGreatDoor
open Go.RowKit Go.Maps

section
variable {w w' w2 : World} {f b n : Nat} {D D' : DS} {g g' : QG} {M N N' : Ns} {d k : Int} {e : En}
/-- An ENTRY goes. -/
theorem QF.gone (h : QF w f D g n) (hk : g.K k = some d) {n' : Nat} (pm : PMap w' g.gO n' (fun i => if i = k then none else (g.K i).map (fun d => wp (g.B d)))) (hg : w.grownBy w' (some g.gO)) :
    QF w' f { D with E := fun i => if i = d then none else D.E i, R := fun i => if i = d then none else D.R i } { g with K := fun i => if i = k then none else g.K i } n' := by
  have hh : ∀ {i t}, g.kap i = some t → t ≠ .mp → w'.heap[i]? = w.heap[i]? := fun {i t} ei ht => hg.block i (h.lt i (by rw [ei]; rfl)) (fun x => tag_ne ei h.tm ht (Option.some.inj x))
  obtain ⟨O, p, hO⟩ := h.tree
  have hpm : PMap w' g.gO n' (fun i => (if i = k then none else g.K i).map (fun d => wp (g.B d))) := by
    have e2 : (fun i => (if i = k then none else g.K i).map (fun d => wp (g.B d))) = fun i => if i = k then none else (g.K i).map (fun d => wp (g.B d)) := by
      funext i; split <;> rfl
    rw [e2]; exact pm
  refine ⟨(hh h.tf (by simp)).trans h.head, ⟨O, p.keep (fun i hi => hh (hO i hi) (by simp)) hg.size, hO⟩, hpm, fun x ex hx => ?_, fun i x hx => ?_, fun x hx => ?_, fun i j x hi hj => ?_, fun p x hp => ?_, h.tf, h.tm, fun i hi => Nat.lt_of_lt_of_le (h.lt i hi) hg.size⟩
  · have hx' : (if x = d then none else D.E x) = some ex := hx
    by_cases e1 : x = d
    · rw [if_pos e1] at hx'; cases hx'
    · rw [if_neg e1] at hx'
      obtain ⟨c1, a1, a2, a3⟩ := h.ent x ex hx'
      exact ⟨c1, (if_neg e1).trans a1, (hh a3 (by simp)).trans a2, a3⟩
  · have hx' : (if i = k then none else g.K i) = some x := hx
    by_cases e1 : i = k
    · rw [if_pos e1] at hx'; cases hx'
    · rw [if_neg e1] at hx'
      obtain ⟨a, c⟩ := h.key i x hx'
      refine ⟨?_, c⟩
      show (if x = d then none else D.E x).isSome = true
      rw [if_neg (fun e9 => e1 (h.inj i k d (by rw [← e9]; exact hx') hk))]
      exact a
  · have hx' : (if x = d then none else D.E x).isSome = true := hx
    by_cases e1 : x = d
    · rw [if_pos e1] at hx'; cases hx'
    · rw [if_neg e1] at hx'
      obtain ⟨i, hi⟩ := h.has x hx'
      refine ⟨i, ?_⟩
      show (if i = k then none else g.K i) = some x
      rw [if_neg (fun e9 => e1 (by rw [e9, hk] at hi; exact (Option.some.inj hi).symm))]
      exact hi
  · have hi' : (if i = k then none else g.K i) = some x := hi
    have hj' : (if j = k then none else g.K j) = some x := hj
    by_cases e1 : i = k
    · rw [if_pos e1] at hi'; cases hi'
    · by_cases e2 : j = k
      · rw [if_pos e2] at hj'; cases hj'
      · rw [if_neg e1] at hi'
        rw [if_neg e2] at hj'
        exact h.inj i j x hi' hj'
  · obtain ⟨a1, a2⟩ := h.pipe p x hp
    exact ⟨a1.keep (hh a2 (by simp)), a2⟩
/-- The tree turns. -/
theorem QF.turn (h : QF w f D g n) {O O' : Nat → Prop} {T' : Wd} (hO : ∀ i, O i → g.kap i = some .tree) (p : PT w' g.r T' O') (st : Stp w w' O O') :
    ∃ g', QF w' f { D with T := T' } g' n ∧ (∀ i, i < w.heap.size → g'.kap i = g.kap i) ∧ g'.K = g.K ∧ g'.r = g.r ∧ g'.B = g.B := by
  classical
  have hh : ∀ {i t}, g.kap i = some t → t ≠ .tree → w'.heap[i]? = w.heap[i]? := fun {i t} ei ht => st.wt.block i (h.lt i (by rw [ei]; rfl)) (fun o => tag_ne ei (hO i o) ht rfl)
  have hlt : ∀ {i t}, g.kap i = some t → (if i < w.heap.size then g.kap i else if O' i then some Tag.tree else none) = some t := fun {i t} ei => by
    rw [if_pos (h.lt i (by rw [ei]; rfl))]; exact ei
  refine ⟨{ g with kap := fun i => if i < w.heap.size then g.kap i else if O' i then some .tree else none }, ⟨(hh h.tf (by simp)).trans h.head, ⟨O', p, fun i hi => ?_⟩, h.map.keep (hh h.tm (by simp)), fun x ex hx => ?_, h.key, h.has, h.inj, fun p x hp => ?_, hlt h.tf, hlt h.tm, fun i hi => ?_⟩, fun i hi => if_pos hi, rfl, rfl, rfl⟩
  · show (if i < w.heap.size then g.kap i else if O' i then some Tag.tree else none) = some Tag.tree
    rcases st.own i hi with o | o
    · exact hlt (hO i o)
    · rw [if_neg (by omega), if_pos hi]
  · obtain ⟨c1, a1, a2, a3⟩ := h.ent x ex hx
    exact ⟨c1, a1, (hh a3 (by simp)).trans a2, hlt a3⟩
  · obtain ⟨a1, a2⟩ := h.pipe p x hp
    exact ⟨a1.keep (hh a2 (by simp)), hlt a2⟩
  · have hi' : (if i < w.heap.size then g.kap i else if O' i then some Tag.tree else none).isSome = true := hi
    by_cases e1 : i < w.heap.size
    · exact Nat.lt_of_lt_of_le e1 st.wt.size
    · rw [if_neg e1] at hi'
      by_cases e2 : O' i
      · exact p.lt i e2
      · rw [if_neg e2] at hi'; cases hi'
/-- A pipe turns. -/
theorem QF.piped (h : QF w f D g n) {p : Int} {x : Pi} (hp : D.P p = some x) {x' : Pi} (ht : Tb w' (g.Q p) x'.2.1 x'.2.2 x'.1) (hg : w.grownBy w' (some (g.Q p))) :
    QF w' f { D with P := fun i => if i = p then some x' else D.P i } g n := by
  obtain ⟨h1, h2⟩ := h.pipe p x hp
  have hh : ∀ {i t}, g.kap i = some t → t ≠ .pip p → w'.heap[i]? = w.heap[i]? := fun {i t} ei ht => hg.block i (h.lt i (by rw [ei]; rfl)) (fun x => tag_ne ei h2 ht (Option.some.inj x))
  obtain ⟨O, q, hO⟩ := h.tree
  refine ⟨(hh h.tf (by simp)).trans h.head, ⟨O, q.keep (fun i hi => hh (hO i hi) (by simp)) hg.size, hO⟩, h.map.keep (hh h.tm (by simp)), fun y ey hy => ?_, h.key, h.has, h.inj, fun q y hq => ?_, h.tf, h.tm, fun i hi => Nat.lt_of_lt_of_le (h.lt i hi) hg.size⟩
  · obtain ⟨c1, a1, a2, a3⟩ := h.ent y ey hy
    exact ⟨c1, a1, (hh a3 (by simp)).trans a2, a3⟩
  · have hq' : (if q = p then some x' else D.P q) = some y := hq
    by_cases e1 : q = p
    · subst e1
      rw [if_pos rfl] at hq'
      obtain rfl := Option.some.inj hq'
      exact ⟨ht, h2⟩
    · rw [if_neg e1] at hq'
      obtain ⟨a1, a2⟩ := h.pipe q y hq'
      exact ⟨a1.keep (hh a2 (fun z => e1 (by injection z))), a2⟩
/-- A new pipe. -/
theorem QF.newPipe (h : QF w f D g n) {q : Nat} {p : Int} (hq : w.heap.size ≤ q) (hq' : q < w'.heap.size) (hb : Below w.heap.size w w') (hp : D.P p = none) (hE : ∀ d e, D.E d = some e → e.pipe ≠ p ∨ e.kind = 1) {x : Pi} (ht : Tb w' q x.2.1 x.2.2 x.1) (z : Int) :
    ∃ g', QF w' f { D with P := fun i => if i = p then some x else D.P i, nx := z } g' n ∧ (∀ i, i < w.heap.size → g'.kap i = g.kap i) ∧ g'.K = g.K ∧ g'.r = g.r ∧ g'.Q p = q := by
  have h' := h.below hb
  have hlt : ∀ {i t}, g.kap i = some t → (if i = q then some (Tag.pip p) else g.kap i) = some t := fun {i t} ei => by
    have := h.lt i (by rw [ei]; rfl)
    rw [if_neg (by omega)]; exact ei
  obtain ⟨O, o1, hO⟩ := h'.tree
  refine ⟨{ g with Q := fun i => if i = p then q else g.Q i, kap := fun i => if i = q then some (.pip p) else g.kap i }, ⟨h'.head, ⟨O, o1, fun i hi => hlt (hO i hi)⟩, h'.map, fun y ey hy => ?_, h.key, h.has, h.inj, fun i y hi => ?_, hlt h.tf, hlt h.tm, fun i hi => ?_⟩, fun i hi => if_neg (by omega), rfl, rfl, if_pos rfl⟩
  · obtain ⟨c1, a1, a2, a3⟩ := h'.ent y ey hy
    refine ⟨c1, a1, ?_, hlt a3⟩
    have hpv : pv { g with Q := fun i => if i = p then q else g.Q i, kap := fun i => if i = q then some (.pip p) else g.kap i } ey = pv g ey := by
      unfold pv
      rcases hE y ey hy with e1 | e1
      · simp only [if_neg e1]
      · rw [if_pos e1, if_pos e1]
    show w'.heap[g.B y]? = _
    rw [a2, ecells, ecells, hpv]
  · have hi' : (if i = p then some x else D.P i) = some y := hi
    by_cases e1 : i = p
    · subst e1
      rw [if_pos rfl] at hi'
      obtain rfl := Option.some.inj hi'
      have eq : (if i = i then q else g.Q i) = q := if_pos rfl
      show Tb w' (if i = i then q else g.Q i) x.2.1 x.2.2 x.1 ∧ (if (if i = i then q else g.Q i) = q then some (Tag.pip i) else g.kap (if i = i then q else g.Q i)) = some (Tag.pip i)
      rw [eq, if_pos rfl]
      exact ⟨ht, rfl⟩
    · rw [if_neg e1] at hi'
      obtain ⟨a1, a2⟩ := h'.pipe i y hi'
      show Tb w' (if i = p then q else g.Q i) y.2.1 y.2.2 y.1 ∧ (if (if i = p then q else g.Q i) = q then some (Tag.pip p) else g.kap (if i = p then q else g.Q i)) = some (Tag.pip i)
      rw [if_neg e1]
      exact ⟨a1, hlt a2⟩
  · have hi' : (if i = q then some (Tag.pip p) else g.kap i).isSome = true := hi
    by_cases e1 : i = q
    · omega
    · rw [if_neg e1] at hi'
      exact h'.lt i hi'
/-- A new ENTRY: nobody has it yet. -/
def newE (D : DS) (e : En) : DS := { D with E := fun i => if i = D.nx + 1 then some e else D.E i, R := fun i => if i = D.nx + 1 then some 0 else D.R i, nx := D.nx + 1 }
theorem QF.newEnt (h : QF w f D g n) {q : Nat} (hq : w.heap.size ≤ q) (hb : Below w.heap.size w w') (hE : D.E (D.nx + 1) = none) (hk : g.K k = none) (hk0 : 0 < k) (hk1 : k < 100000) (hw : w'.heap[q]? = some (.cells (ecells g e 0) 238)) (pm : PMap w2 g.gO (n + 1) (fun i => if i = k then some (wp q) else (g.K i).map (fun d => wp (g.B d)))) (hg : w'.grownBy w2 (some g.gO)) :
    ∃ g', QF w2 f (newE D e) g' (n + 1) ∧ (∀ i, i < w.heap.size → g'.kap i = g.kap i) ∧ (g'.K = fun i => if i = k then some (D.nx + 1) else g.K i) ∧ g'.r = g.r ∧ g'.B (D.nx + 1) = q ∧ g'.gO = g.gO ∧ g'.Q = g.Q := by
  have h' := h.below hb
  have hql : q < w'.heap.size := (Array.getElem?_eq_some_iff.1 hw).1
  have hlt : ∀ {i t}, g.kap i = some t → (if i = q then some (Tag.ent (D.nx + 1)) else g.kap i) = some t := fun {i t} ei => by
    have := h.lt i (by rw [ei]; rfl)
    rw [if_neg (by omega)]; exact ei
  have hh : ∀ {i t}, g.kap i = some t → t ≠ .mp → w2.heap[i]? = w'.heap[i]? := fun {i t} ei ht => hg.block i (h'.lt i (by rw [ei]; rfl)) (fun x => tag_ne ei h.tm ht (Option.some.inj x))
  have hqm : q ≠ g.gO := fun e => by have := h.lt g.gO (by rw [h.tm]; rfl); omega
  obtain ⟨O, o1, hO⟩ := h'.tree
  have hKE : ∀ i x, g.K i = some x → x ≠ D.nx + 1 := fun i x hx e => by
    have := (h.key i x hx).1
    rw [e, hE] at this; cases this
  have hpm : PMap w2 g.gO (n + 1) (fun i => (if i = k then some (D.nx + 1) else g.K i).map (fun d => wp (if d = D.nx + 1 then q else g.B d))) := by
    have e2 : (fun i => (if i = k then some (D.nx + 1) else g.K i).map (fun d => wp (if d = D.nx + 1 then q else g.B d))) = fun i => if i = k then some (wp q) else (g.K i).map (fun d => wp (g.B d)) := by
      funext i
      by_cases ei : i = k
      · rw [if_pos ei, if_pos ei]; simp
      · rw [if_neg ei, if_neg ei]
        cases hK : g.K i with
        | none => rfl
        | some x => simp [hKE i x hK]
    rw [e2]; exact pm
  refine ⟨{ g with K := fun i => if i = k then some (D.nx + 1) else g.K i, B := fun d => if d = D.nx + 1 then q else g.B d, kap := fun i => if i = q then some (.ent (D.nx + 1)) else g.kap i }, ⟨(hh h.tf (by simp)).trans h'.head, ⟨O, o1.keep (fun i hi => hh (hO i hi) (by simp)) hg.size, fun i hi => hlt (hO i hi)⟩, hpm, fun y ey hy => ?_, fun i y hi => ?_, fun y hy => ?_, fun i j y hi hj => ?_, fun p x hp => ?_, hlt h.tf, hlt h.tm, fun i hi => ?_⟩, fun i hi => if_neg (by omega), rfl, rfl, if_pos rfl, rfl, rfl⟩
  · have hy' : (if y = D.nx + 1 then some e else D.E y) = some ey := hy
    by_cases e1 : y = D.nx + 1
    · rw [if_pos e1] at hy'
      obtain rfl := Option.some.inj hy'
      refine ⟨0, if_pos e1, ?_, ?_⟩
      · show w2.heap[if y = D.nx + 1 then q else g.B y]? = _
        rw [if_pos e1, hg.block q hql (fun x => hqm (Option.some.inj x)), hw]
        rfl
      · show (if (if y = D.nx + 1 then q else g.B y) = q then some (Tag.ent (D.nx + 1)) else g.kap (if y = D.nx + 1 then q else g.B y)) = some (Tag.ent y)
        rw [if_pos e1, if_pos rfl, e1]
    · rw [if_neg e1] at hy'
      obtain ⟨c1, a1, a2, a3⟩ := h'.ent y ey hy'
      refine ⟨c1, (if_neg e1).trans a1, ?_, ?_⟩
      · show w2.heap[if y = D.nx + 1 then q else g.B y]? = _
        rw [if_neg e1, hh a3 (by simp), a2]
        rfl
      · show (if (if y = D.nx + 1 then q else g.B y) = q then some (Tag.ent (D.nx + 1)) else g.kap (if y = D.nx + 1 then q else g.B y)) = some (Tag.ent y)
        rw [if_neg e1]
        exact hlt a3
  · have hi' : (if i = k then some (D.nx + 1) else g.K i) = some y := hi
    show (if y = D.nx + 1 then some e else D.E y).isSome = true ∧ 0 < i ∧ i < 100000
    by_cases e1 : i = k
    · rw [if_pos e1] at hi'
      obtain rfl := Option.some.inj hi'
      rw [if_pos rfl, e1]
      exact ⟨rfl, hk0, hk1⟩
    · rw [if_neg e1] at hi'
      rw [if_neg (hKE i y hi')]
      exact h.key i y hi'
  · have hy' : (if y = D.nx + 1 then some e else D.E y).isSome = true := hy
    by_cases e1 : y = D.nx + 1
    · exact ⟨k, by show (if k = k then some (D.nx + 1) else g.K k) = some y; rw [if_pos rfl, e1]⟩
    · rw [if_neg e1] at hy'
      obtain ⟨i, hi⟩ := h.has y hy'
      refine ⟨i, ?_⟩
      show (if i = k then some (D.nx + 1) else g.K i) = some y
      rw [if_neg (fun e9 => by rw [e9, hk] at hi; cases hi)]
      exact hi
  · have hi' : (if i = k then some (D.nx + 1) else g.K i) = some y := hi
    have hj' : (if j = k then some (D.nx + 1) else g.K j) = some y := hj
    by_cases e1 : i = k
    · by_cases e2 : j = k
      · rw [e1, e2]
      · rw [if_pos e1] at hi'
        rw [if_neg e2] at hj'
        exact absurd (Option.some.inj hi').symm (hKE j y hj')
    · by_cases e2 : j = k
      · rw [if_neg e1] at hi'
        rw [if_pos e2] at hj'
        exact absurd (Option.some.inj hj').symm (hKE i y hi')
      · rw [if_neg e1] at hi'
        rw [if_neg e2] at hj'
        exact h.inj i j y hi' hj'
  · obtain ⟨a1, a2⟩ := h'.pipe p x hp
    exact ⟨a1.keep (hh a2 (by simp)), hlt a2⟩
  · have hi' : (if i = q then some (Tag.ent (D.nx + 1)) else g.kap i).isSome = true := hi
    by_cases e1 : i = q
    · have := hg.size; omega
    · rw [if_neg e1] at hi'
      exact Nat.lt_of_lt_of_le (h'.lt i hi') hg.size
end
end Go.Proofs.YtcfhanoekniaaaaGreatDoor

namespace Go.Proofs.YtcfhanoekniaaaaGreatDoor
open Go.RowKit Go.Maps

theorem alike_ns : ∀ {M N : Ns}, M.length = N.length → (∀ i (h : i < M.length) (h' : i < N.length), (0 < M[i].1 ↔ 0 < N[i].1) ∧ (M[i].1 = 0 ↔ N[i].1 = 0)) → usedN M = usedN N ∧ leastN M = leastN N
  | [], [], _, _ => ⟨rfl, rfl⟩
  | [], _ :: _, h, _ => by simp at h
  | _ :: _, [], h, _ => by simp at h
  | x :: M, y :: N, h, k => by
    obtain ⟨h1, h2⟩ := alike_ns (M := M) (N := N) (by simpa using h) (fun i hi hi' => k (i + 1) (by simpa using hi) (by simpa using hi'))
    obtain ⟨k1, k2⟩ := k 0 (by simp) (by simp)
    simp only [List.getElem_cons_zero] at k1 k2
    constructor
    · unfold usedN at h1 ⊢
      by_cases e : 0 < x.1
      · rw [List.filter_cons_of_pos (by simpa using e), List.filter_cons_of_pos (by simpa using k1.1 e), List.length_cons, List.length_cons, h1]
      · rw [List.filter_cons_of_neg (by simpa using e), List.filter_cons_of_neg (by simpa using fun z => e (k1.2 z)), h1]
    · rw [leastN, leastN, h2]
      by_cases e : x.1 = 0
      · rw [if_pos e, if_pos (k2.1 e)]
      · rw [if_neg e, if_neg (fun z => e (k2.2 z))]
section
variable {w w' w2 : World} {f b n : Nat} {D D' : DS} {g g' : QG} {M N N' : Ns} {d k : Int} {e : En}
theorem QTb.pos (t : QTb w b g M N) (h : QF w f D g n) (i : Nat) (h1 : i < M.length) (h2 : i < N.length) : (0 < M[i].1 ↔ 0 < N[i].1) ∧ (M[i].1 = 0 ↔ N[i].1 = 0) := by
  rcases (t.rel i h1 h2).2 with ⟨a, c⟩ | ⟨a, c⟩
  · rw [a, c]; simp
  · have := (h.key _ _ c).2.1
    omega
theorem QTb.nnAt (t : QTb w b g M N) (i : Nat) (hi : i < N.length) : 0 ≤ N[i].1 := by
  rcases (t.rel i (by rw [t.tab.len]; have := t.len; omega) hi).2 with ⟨_, c⟩ | ⟨c, _⟩
  · omega
  · omega
theorem QTb.eqs (t : QTb w b g M N) (h : QF w f D g n) : usedN M = usedN N ∧ leastN M = leastN N := alike_ns (t.tab.len.trans t.len.symm) (t.pos h)
theorem QTb.hasEq (t : QTb w b g M N) (h : QF w f D g n) (x : Int) : hasN M x = hasN N x := by
  by_cases hx : 0 ≤ x ∧ x ≤ 7
  · obtain ⟨i, rfl⟩ : ∃ i : Nat, x = i := ⟨x.toNat, by omega⟩
    have h1 : i < M.length := by have := t.tab.len; omega
    have h2 : i < N.length := by have := t.len; omega
    have hp := (t.pos h i h1 h2).1
    unfold hasN
    rw [getD_in h1, getD_in h2]
    by_cases e : 0 < M[i].1
    · simp [e, hp.1 e]
    · simp [e, show ¬ 0 < N[i].1 from fun z => e (hp.2 z)]
  · unfold hasN
    have hb : (decide (0 ≤ x) && decide (x ≤ 7)) = false := by
      simp only [Bool.and_eq_false_iff, decide_eq_false_iff_not]; omega
    rw [hb]; rfl
theorem QTb.keyOf (t : QTb w b g M N) {i : Nat} (h1 : i < M.length) (h2 : i < N.length) (h0 : 0 < N[i].1) : g.K M[i].1 = some N[i].1 := by
  rcases (t.rel i h1 h2).2 with ⟨a, c⟩ | ⟨a, c⟩
  · omega
  · exact c
theorem QTb.used_ok (t : QTb w b g M N) (h : QF w f D g n) : Calls Tryz.prog 118 #[wp b] w fun e w' => e = .returned (.int .i64 (usedN N : Int)) ∧ Below w.heap.size w w' := by
  rw [← (t.eqs h).1]; exact t.tab.used_ok
theorem fil_ne (b : Nat) (w : World) : (binOp BinOp.eql 96 (wp b) (.pointer none)).run Tryz.prog w = .ok (.bool false) w := by kernel_rfl
theorem ent_ne (b : Nat) (w : World) : (binOp BinOp.eql 232 (wp b) (.pointer none)).run Tryz.prog w = .ok (.bool false) w := by kernel_rfl
theorem ent_nil (w : World) : (binOp BinOp.eql 232 (.pointer none) (.pointer none)).run Tryz.prog w = .ok (.bool true) w := by kernel_rfl

theorem num_field (X : Int) (Y : Bool) (w : World) : (Instr.field 213 (.agg #[.int .i64 X, .bool Y]) 0).run Tryz.prog w = .ok (.int .i64 X) w := by kernel_rfl
theorem num_mark (X : Int) (Y : Bool) (w : World) : (Instr.field 213 (.agg #[.int .i64 X, .bool Y]) 1).run Tryz.prog w = .ok (.bool Y) w := by kernel_rfl
set_option maxRecDepth 100000 in
set_option maxHeartbeats 2000000 in
theorem QF.find_gen (h : QF w f D g n) (t : QT w b M) (x : Int) (v : Value) (hv : gv g (atM M x).1 = v) (hat : 0 ≤ (atM M x).1 ∧ (atM M x).1 < 100000) (z : Bool) (hz : (∃ q, v = wp q ∧ z = false) ∨ (v = .pointer none ∧ z = true)) :
    Calls Tryz.prog 141 #[wp f, wp b, .int .i64 x] w fun e w' => e = .returned (.tuple (if z = true then #[.pointer none, uer 7] else #[v, .nilIface])) ∧ Below w.heap.size w w' := by
  have hA : ∀ V, Below w.heap.size w V → Calls Tryz.prog 217 #[wp b, .int .i64 x] V fun e w' => e = .returned (nuv (atM M x)) ∧ Below w.heap.size w w' ∧ w'.cell? ⟨f, 1, none⟩ = some (.map (some g.gO)) ∧ (Instr.lookup 207 (.map (some g.gO)) (.int .i64 (atM M x).1) false).run Tryz.prog w' = .ok v w' := fun V hV => by
    refine ((t.below hV).at_ok x).mono ?_
    rintro e w1 ⟨rfl, b1⟩
    have b2 := hV.trans (b1.mono hV.size)
    refine ⟨rfl, b2, (h.below b2).cells.2, ?_⟩
    rw [(h.below b2).look hat.1 hat.2, hv]
  have c1 := h.cells.2
  have h9 := fil_ne f
  generalize atM M x = y at *
  obtain ⟨X, Y⟩ := y
  simp only [nuv] at hA
  have hfl := num_field X Y
  have HZ : Aside ((∃ q, v = wp q ∧ z = false) ∨ (v = .pointer none ∧ z = true)) := hz
  have hen := ent_ne
  have hel := ent_nil
  clear h t hv hat hz
  go_enter Tryz.func141, Tryz.ntmps141
  go_upto_region 3 with fail
  go_region_held3 (fun w' => w'.cell? ⟨f, 1, none⟩ = some (.map (some g.gO))) (first | exact c1 | exact c2) (first
    | (go_at_call 217; refine (hA _ ⟨by rfl, by rfl, by rfl, by exact Nat.le_refl _, fun _ _ => by rfl⟩).mono ?_; rintro e w2 ⟨rfl, b2, c2, hlk⟩))
  all_goals
    rcases HZ.out with ⟨q, rfl, rfl⟩ | ⟨rfl, rfl⟩
    · clear HZ
      go_wp2_with fail
      go_ret2
      exact ⟨rfl, b2⟩
    · clear HZ
      go_wp2_with fail
      go_ret2
      exact ⟨rfl, b2⟩
theorem QF.find_yes (h : QF w f D g n) (t : QTb w b g M N) {i : Nat} (hi : i < 8) (hiL : i < N.length) (h0 : 0 < N[i].1) :
    Calls Tryz.prog 141 #[wp f, wp b, .int .i64 (i : Int)] w fun e w' => e = .returned (.tuple #[wp (g.B N[i].1), .nilIface]) ∧ Below w.heap.size w w' := by
  have hM : i < M.length := by have := t.tab.len; omega
  have hk := t.keyOf hM hiL h0
  have hat := atM_in t.tab.len hi
  exact h.find_gen t.tab i _ (by rw [hat, gv_some hk]) (by rw [hat]; exact ⟨(t.tab.nn hM).1, (t.tab.nn hM).2.1⟩) false (.inl ⟨_, rfl, rfl⟩)
theorem QF.find_no (h : QF w f D g n) (t : QTb w b g M N) (x : Int) (hx : hasN N x = false) :
    Calls Tryz.prog 141 #[wp f, wp b, .int .i64 x] w fun e w' => e = .returned (.tuple #[.pointer none, uer 7]) ∧ Below w.heap.size w w' := by
  have h1 := hasM t.tab.len (fun x hx => (t.tab.pos x hx).1) x
  rw [t.hasEq h x, hx] at h1
  have h2 : (atM M x).1 = 0 := by
    by_cases e : (atM M x).1 = 0
    · exact e
    · simp [e] at h1
  exact h.find_gen t.tab x _ (by rw [h2, gv_none h.k0]) (by rw [h2]; omega) true (.inr ⟨rfl, rfl⟩)
end
end Go.Proofs.YtcfhanoekniaaaaGreatDoor

namespace Go.Proofs.YtcfhanoekniaaaaGreatDoor
open Go.RowKit Go.Maps

section
variable {w w' w2 : World} {f b n : Nat} {D D' : DS} {g g' : QG} {M N N' : Ns} {d k : Int} {e : En}
set_option maxHeartbeats 1000000 in
theorem least1_ok (w : World) (X : Int) (Y : Bool) : Calls Tryz.prog 324 #[.agg #[.int .i64 X, .bool Y]] w fun e w' => e = .returned (.bool (X == 0)) ∧ Below w.heap.size w w' := by
  have bA : Below w.heap.size w (w.alloc (.cells #[.int .i64 X, .bool Y] 213)) := (Below.refl _ w).alloc (Nat.le_refl _) _
  obtain ⟨c0, c1⟩ := new_pair w (.int .i64 X) (.bool Y) 213
  go_enter Tryz.func324, Tryz.ntmps324
  go_wp2_with (go_at_call 218; refine (isFree_ok _ X Y).mono ?_; rintro e w2 ⟨rfl, b2⟩)
  go_ret
  exact ⟨rfl, bA.trans (b2.mono bA.size)⟩

set_option maxRecDepth 100000 in
set_option maxHeartbeats 2000000 in
theorem QT.index_ok (h : QT w b M) : Calls Tryz.prog 323 #[.slice (some ⟨b, 0, none⟩) 8 8, .func (.func 324) #[] #[]] w fun e w' => e = .returned (.int .i64 (leastN M)) ∧ Below w.heap.size w w' := by
  have HL : Aside (M.length = 8) := h.len
  go_enter Tryz.func323, Tryz.ntmps323
  go_wp2_with fail
  go_loopg [5, 8] 8 (fun g _ s8 wx => ∃ i : Nat, Aside (i + g = 8) ∧ s8 = .int .i64 (i : Int) ∧ Aside (∀ j (hj : j < M.length), j < i → M[j].1 ≠ 0) ∧ Below w.heap.size w wx)
  case atStart => exact ⟨0, rfl, rfl, (fun j _ hj => by omega), Below.refl _ _⟩
  case round =>
    obtain ⟨i, HI, rfl, HN, hb⟩ := hrel
    have hi9 : i ≤ 8 := by have := HI.out; omega
    have hi9' : (i : Int) ≤ 8 := by omega
    by_cases hlt : (i : Int) < 8
    · have hiL : i < M.length := by have := HL.out; omega
      obtain ⟨c0, c1⟩ := (h.below hb).at (i := i) (by omega)
      have HX0 : Aside (M[i].1 = 0 → leastN M = i) := fun e => least_at hiL (fun j hj => HN.out j (by omega) hj) e
      have HX1 : Aside (M[i].1 ≠ 0 → ∀ j (hj : j < M.length), j < i + 1 → M[j].1 ≠ 0) := fun e j hj hji => by
        by_cases e2 : j = i
        · subst e2; exact e
        · exact HN.out j hj (by omega)
      generalize M[i].1 = X at *
      generalize M[i].2 = Y at *
      have hsz := hb.size
      clear h hiL
      by_cases hX : X = 0
      · have E9 : Aside (leastN M = i) := HX0.out hX
        subst hX
        go_wp2_with (go_at_call 324; refine (least1_ok _ 0 Y).mono ?_; rintro e w2 ⟨rfl, b2⟩)
        go_ret
        exact ⟨by rw [E9.out]; rfl, hb.trans (b2.mono hsz)⟩
      · have hX' : (X == 0) = false := by simpa using hX
        clear hX
        go_wp2_with (go_at_call 324; refine (least1_ok _ X Y).mono ?_; rintro e w2 ⟨rfl, b2⟩)
        go_roundg (7 - i)
        case measure => have := HI.out; omega
        case rel => exact ⟨i + 1, (show i + 1 + (7 - i) = 8 by omega), by rfl, HX1.out (by simpa using hX'), hb.trans (b2.mono hsz)⟩
    · have e9 : leastN M = -1 := least_none (fun x hx => by
        obtain ⟨j, hj, rfl⟩ := List.getElem_of_mem hx
        exact HN.out j hj (by have := HL.out; omega))
      have E9 : Aside (leastN M = -1) := e9
      clear e9
      go_wp2_with fail
      go_ret
      exact ⟨by rw [E9.out]; rfl, hb⟩
set_option maxRecDepth 100000 in
set_option maxHeartbeats 2000000 in
theorem QT.least_ok (h : QT w b M) : Calls Tryz.prog 278 #[wp b] w fun e w' => e = .returned (.tuple #[.int .i64 (leastN M), .bool (decide (0 ≤ leastN M))]) ∧ Below w.heap.size w w' := by
  have hI := h.index_ok
  generalize leastN M = L at *
  clear h
  go_enter Tryz.func278, Tryz.ntmps278
  go_wp2_with (go_at_call 323; refine hI.mono ?_; rintro e w2 ⟨rfl, b2⟩)
  go_ret2
  exact ⟨rfl, b2⟩
theorem QTb.least_ok (t : QTb w b g M N) (h : QF w f D g n) : Calls Tryz.prog 278 #[wp b] w fun e w' => e = .returned (.tuple #[.int .i64 (leastN N), .bool (decide (0 ≤ leastN N))]) ∧ Below w.heap.size w w' := by
  rw [← (t.eqs h).2]; exact t.tab.least_ok

set_option maxRecDepth 100000 in
set_option maxHeartbeats 2000000 in
theorem QF.open_ok (h : QF w f D g n) : Calls Tryz.prog 65 #[wp f] w fun e w' => e = .returned (.int .i64 (n : Int)) ∧ w' = w := by
  have c1 := h.cells.2
  have h9 := fil_ne f
  have hl := h.map
  go_enter Tryz.func65, Tryz.ntmps65
  go_wp2_with (refine wpList_klen rfl _ 207 rfl 232 Tryz.underlying207 g.gO _ _ rfl hl ?_)
  go_ret
  exact ⟨rfl, rfl⟩
theorem map_ne (g : Nat) (w : World) : (binOp BinOp.eql 207 (.map (some g)) (.map none)).run Tryz.prog w = .ok (.bool false) w := by kernel_rfl
set_option maxRecDepth 100000 in
set_option maxHeartbeats 4000000 in
theorem QF.room_ok (h : QF w f D g n) (t : QTb w b g M N) (x : Nat) (hx : x ≤ 2) (hn : n < 1000) : Calls Tryz.prog 135 #[wp f, wp b, .int .i64 (x : Int)] w fun e w' => e = .returned (.bool (decide (usedN N + x ≤ 8) && decide (n + x ≤ 40))) ∧ Below w.heap.size w w' := by
  have hU := t.used_ok h
  have hul := used_le N
  rw [t.len] at hul
  have c1 := h.cells.2
  have h8 := tab_ne b
  have h9 := fil_ne f
  have h7 := map_ne g.gO
  have hO : ∀ V, Below w.heap.size w V → Calls Tryz.prog 65 #[wp f] V fun e w' => e = .returned (.int .i64 (n : Int)) ∧ w' = V := fun V hV => (h.below hV).open_ok
  generalize usedN N = U at *
  have hU8 : (U : Int) ≤ 8 := by omega
  have hx8 : (x : Int) ≤ 2 := by omega
  have hn8 : (n : Int) < 1000 := by omega
  by_cases hu : U + x ≤ 8
  · have e1 : decide (U + x ≤ 8) = true := by simpa using hu
    have e2 : (U : Int) + (x : Int) ≤ 8 := by omega
    have E3 : Aside (decide ((n : Int) + (x : Int) ≤ 40) = decide (n + x ≤ 40)) := by
      show decide ((n : Int) + (x : Int) ≤ 40) = decide (n + x ≤ 40)
      by_cases hh : n + x ≤ 40
      · rw [decide_eq_true hh, decide_eq_true (by omega)]
      · rw [decide_eq_false hh, decide_eq_false (by omega)]
    rw [e1, Bool.true_and]
    rw [← E3.out]
    clear h t hul hu e1 E3
    go_enter Tryz.func135, Tryz.ntmps135
    go_wp2_with (first
      | (go_at_call 118; refine hU.mono ?_; rintro e w1 ⟨rfl, b1⟩)
      | (go_at_call 65; refine (hO _ b1).mono ?_; rintro e w2 ⟨rfl, hw2⟩; subst w2))
    go_ret
    exact ⟨rfl, b1⟩
  · have e1 : decide (U + x ≤ 8) = false := by simpa using hu
    have e2 : ¬ ((U : Int) + (x : Int) ≤ 8) := by omega
    rw [e1, Bool.false_and]
    clear h t hul hu e1
    go_enter Tryz.func135, Tryz.ntmps135
    go_wp2_with (go_at_call 118; refine hU.mono ?_; rintro e w1 ⟨rfl, b1⟩)
    go_ret
    exact ⟨rfl, b1⟩
theorem QF.isFile_ok (h : QF w f D g n) (he : D.E d = some e) : Calls Tryz.prog 145 #[wp (g.B d)] w fun x w' => x = .returned (.bool (e.kind == 1)) ∧ w' = w := by
  obtain ⟨c, h1, _⟩ := h.ent d e he
  obtain ⟨c0, _⟩ := h.ecell he h1
  go_enter Tryz.func145, Tryz.ntmps145
  go_wp2_with fail
  go_ret
  exact ⟨rfl, rfl⟩
end
end Go.Proofs.YtcfhanoekniaaaaGreatDoor

/- Package desc in memory: what is open, by keys; a table beside it; what turns it. -/
import Derived.Test.YtjkneekfijibiabGreatDoorQTab
import Derived.Test.YtjkneekfijibiabGreatDoorUHold
import Derived.Test.YtjkneekfijibiabGreatDoorTubes3
namespace Go.Proofs.YtjkneekfijibiabGreatDoor
open Go.RowKit Go.Maps

/-- What a block of the program's is. -/
inductive Tag
  | head
  | mp
  | ent (d : Int)
  | pip (p : Int)
  | tree
/-- Where things lie: the tree, the map, which ENTRY a key has, each ENTRY's block, each pipe's. -/
structure QG where
  r : Nat
  gO : Nat
  K : Int → Option Int
  B : Int → Nat
  Q : Int → Nat
  kap : Nat → Option Tag
def pv (g : QG) (e : En) : Value := if e.kind = 1 then .pointer none else wp (g.Q e.pipe)
abbrev ecells (g : QG) (e : En) (c : Int) : Array Value := #[.int .i64 e.kind, .int .i64 e.prot, .int .i64 c, .int .i64 e.node, .int .i64 e.pos, pv g e]
structure QF (w : World) (f : Nat) (D : DS) (g : QG) (n : Nat) : Prop where
  head : w.heap[f]? = some (.cells #[wp g.r, .map (some g.gO)] 144)
  tree : ∃ O, PT w g.r D.T O ∧ ∀ i, O i → g.kap i = some .tree
  map : PMap w g.gO n (fun k => (g.K k).map (fun d => wp (g.B d)))
  ent : ∀ d e, D.E d = some e → ∃ c, D.R d = some c ∧ w.heap[g.B d]? = some (.cells (ecells g e c) 180) ∧ g.kap (g.B d) = some (.ent d)
  key : ∀ k d, g.K k = some d → (D.E d).isSome = true ∧ 0 < k ∧ k < 100000
  has : ∀ d, (D.E d).isSome = true → ∃ k, g.K k = some d
  inj : ∀ k k' d, g.K k = some d → g.K k' = some d → k = k'
  pipe : ∀ p x, D.P p = some x → Tb w (g.Q p) x.2.1 x.2.2 x.1 ∧ g.kap (g.Q p) = some (.pip p)
  tf : g.kap f = some .head
  tm : g.kap g.gO = some .mp
  lt : ∀ i, (g.kap i).isSome = true → i < w.heap.size
/-- A table: keys in memory, ENTRIES. -/
structure QTb (w : World) (b : Nat) (g : QG) (M N : Ns) : Prop where
  tab : QT w b M
  off : g.kap b = none
  len : N.length = 8
  rel : ∀ i (h : i < M.length) (h' : i < N.length), N[i].2 = M[i].2 ∧ ((M[i].1 = 0 ∧ N[i].1 = 0) ∨ (0 < N[i].1 ∧ g.K M[i].1 = some N[i].1))
/-- What stays of where things lie. -/
structure Ext (w : World) (D' : DS) (g g' : QG) : Prop where
  kap : ∀ i, i < w.heap.size → g'.kap i = g.kap i
  key : ∀ k d, g.K k = some d → (D'.E d).isSome = true → g'.K k = some d
  r : g'.r = g.r
/-- What a call leaves. -/
structure QGo (w w' : World) (f : Nat) (D' : DS) (g : QG) (b : Nat) (N' : Ns) : Prop where
  ex : ∃ g' n' M', QF w' f D' g' n' ∧ QTb w' b g' M' N' ∧ Ext w D' g g'
  wt : Wt (fun i => (g.kap i).isSome = true ∨ i = b) w w'

theorem tag_ne {κ : Nat → Option Tag} {i j : Nat} {s t : Tag} (hi : κ i = some s) (hj : κ j = some t) (h : s ≠ t) : i ≠ j := fun e => h (by rw [e] at hi; exact Option.some.inj (hi.symm.trans hj))
theorem tag_off {κ : Nat → Option Tag} {i j : Nat} {s : Tag} (hi : κ i = some s) (hj : κ j = none) : i ≠ j := fun e => by rw [e, hj] at hi; cases hi
section
variable {w w' w2 : World} {f b n : Nat} {D D' : DS} {g g' : QG} {M N N' : Ns} {d k : Int} {e : En}
theorem Ext.refl (w : World) (D : DS) (g : QG) : Ext w D g g := ⟨fun _ _ => rfl, fun _ _ h _ => h, rfl⟩
theorem QF.k0 (h : QF w f D g n) : g.K 0 = none := by
  cases e : g.K 0 with
  | none => rfl
  | some d => have := (h.key 0 d e).2.1; omega
theorem QF.keep (h : QF w f D g n) (hk : ∀ i, (g.kap i).isSome = true → w'.heap[i]? = w.heap[i]?) (hs : w.heap.size ≤ w'.heap.size) : QF w' f D g n := by
  have ht : ∀ {i t}, g.kap i = some t → w'.heap[i]? = w.heap[i]? := fun {i t} e => hk i (by rw [e]; rfl)
  obtain ⟨O, p, hO⟩ := h.tree
  refine ⟨(ht h.tf).trans h.head, ⟨O, p.keep (fun i hi => ht (hO i hi)) hs, hO⟩, h.map.keep (ht h.tm), fun d e he => ?_, h.key, h.has, h.inj, fun p x hp => ?_, h.tf, h.tm, fun i hi => Nat.lt_of_lt_of_le (h.lt i hi) hs⟩
  · obtain ⟨c, h1, h2, h3⟩ := h.ent d e he
    exact ⟨c, h1, (ht h3).trans h2, h3⟩
  · obtain ⟨h1, h2⟩ := h.pipe p x hp
    exact ⟨h1.keep (ht h2), h2⟩
theorem QF.below (h : QF w f D g n) (hb : Below w.heap.size w w') : QF w' f D g n := h.keep (fun i hi => hb.block i (h.lt i hi)) hb.size
theorem QTb.keep (h : QTb w b g M N) (hk : w'.heap[b]? = w.heap[b]?) : QTb w' b g M N := ⟨h.tab.keep hk, h.off, h.len, h.rel⟩
theorem QTb.below (h : QTb w b g M N) (hb : Below w.heap.size w w') : QTb w' b g M N := h.keep (hb.block b h.tab.lt)
/-- Another table stays. -/
theorem QTb.other (h : QTb w b g M N) (hx : Ext w D' g g') (hk : w'.heap[b]? = w.heap[b]?) (hE : ∀ i (hi : i < N.length), 0 < N[i].1 → (D'.E N[i].1).isSome = true) : QTb w' b g' M N := by
  refine ⟨h.tab.keep hk, (hx.kap b h.tab.lt).trans h.off, h.len, fun i h1 h2 => ?_⟩
  obtain ⟨a, c⟩ := h.rel i h1 h2
  refine ⟨a, ?_⟩
  rcases c with c | ⟨c1, c2⟩
  · exact .inl c
  · exact .inr ⟨c1, hx.key _ _ c2 (hE i h2 c1)⟩
theorem QF.cells (h : QF w f D g n) : w.cell? ⟨f, 0, none⟩ = some (wp g.r) ∧ w.cell? ⟨f, 1, none⟩ = some (.map (some g.gO)) :=
  ⟨by rw [cell_of_row _ _ _ _ _ _ h.head]; rfl, by rw [cell_of_row _ _ _ _ _ _ h.head]; rfl⟩
theorem QF.ecell (h : QF w f D g n) (he : D.E d = some e) {c : Int} (hc : D.R d = some c) : w.cell? ⟨g.B d, 0, none⟩ = some (.int .i64 e.kind) ∧ w.cell? ⟨g.B d, 1, none⟩ = some (.int .i64 e.prot) ∧ w.cell? ⟨g.B d, 2, none⟩ = some (.int .i64 c) ∧ w.cell? ⟨g.B d, 3, none⟩ = some (.int .i64 e.node) ∧ w.cell? ⟨g.B d, 4, none⟩ = some (.int .i64 e.pos) ∧ w.cell? ⟨g.B d, 5, none⟩ = some (pv g e) ∧ ∀ o, w.frozen? ⟨g.B d, o, none⟩ = false := by
  obtain ⟨c', h1, h2, _⟩ := h.ent d e he
  rw [hc] at h1
  obtain rfl := Option.some.inj h1
  refine ⟨?_, ?_, ?_, ?_, ?_, ?_, fun o => by simp [World.frozen?, h2]⟩ <;> (rw [cell_of_row _ _ _ _ _ _ h2]; rfl)
theorem zero_ent (w : World) : (zeroValue 149).run Tryz.prog w = .ok (.pointer none) w := by kernel_rfl
/-- What the map holds at a key. -/
def gv (g : QG) (k : Int) : Value := match g.K k with
  | some d => wp (g.B d)
  | none => .pointer none
theorem gv_some (h : g.K k = some d) : gv g k = wp (g.B d) := by unfold gv; rw [h]
theorem gv_none (h : g.K k = none) : gv g k = .pointer none := by unfold gv; rw [h]
theorem QF.look (h : QF w f D g n) {k : Int} (h0 : 0 ≤ k) (h1 : k < 100000) : (Instr.lookup 142 (.map (some g.gO)) (.int .i64 k) false).run Tryz.prog w = .ok (gv g k) w := by
  rw [h.map.look Tryz.underlying142 (zero_ent _) k (wf_few h0 (by omega))]
  unfold gv
  cases g.K k <;> rfl
/-- An ENTRY's cells turned. -/
theorem QF.cell (h : QF w f D g n) (he : D.E d = some e) (e' : En) (c' : Int) (hw : w'.heap[g.B d]? = some (.cells (ecells g e' c') 180)) (hg : w.grownBy w' (some (g.B d))) :
    QF w' f { D with E := fun i => if i = d then some e' else D.E i, R := fun i => if i = d then some c' else D.R i } g n := by
  obtain ⟨c, h1, h2, h3⟩ := h.ent d e he
  have hk : ∀ {i t}, g.kap i = some t → t ≠ .ent d → w'.heap[i]? = w.heap[i]? := fun {i t} ei ht => hg.block i (h.lt i (by rw [ei]; rfl)) (fun x => tag_ne ei h3 ht (Option.some.inj x))
  obtain ⟨O, p, hO⟩ := h.tree
  have hs : ∀ x, (if x = d then some e' else D.E x).isSome = (D.E x).isSome := fun x => by
    by_cases ex : x = d
    · rw [if_pos ex, ex, he]; rfl
    · rw [if_neg ex]
  refine ⟨(hk h.tf (by simp)).trans h.head, ⟨O, p.keep (fun i hi => hk (hO i hi) (by simp)) hg.size, hO⟩, h.map.keep (hk h.tm (by simp)), fun x ex hx => ?_, fun k x hx => ?_, fun x hx => h.has x (by rw [← hs x]; exact hx), h.inj, fun p x hp => ?_, h.tf, h.tm, fun i hi => Nat.lt_of_lt_of_le (h.lt i hi) hg.size⟩
  · have hx' : (if x = d then some e' else D.E x) = some ex := hx
    by_cases e1 : x = d
    · subst e1
      rw [if_pos rfl] at hx'
      obtain rfl := Option.some.inj hx'
      exact ⟨c', if_pos rfl, hw, h3⟩
    · rw [if_neg e1] at hx'
      obtain ⟨c1, a1, a2, a3⟩ := h.ent x ex hx'
      exact ⟨c1, (if_neg e1).trans a1, (hk a3 (fun q => e1 (by injection q))).trans a2, a3⟩
  · obtain ⟨a, c⟩ := h.key k x hx
    exact ⟨by show (if x = d then some e' else D.E x).isSome = true; rw [hs]; exact a, c⟩
  · obtain ⟨a1, a2⟩ := h.pipe p x hp
    exact ⟨a1.keep (hk a2 (by simp)), a2⟩
theorem QF.putR (h : QF w f D g n) (he : D.E d = some e) (c' : Int) (hw : w'.heap[g.B d]? = some (.cells (ecells g e c') 180)) (hg : w.grownBy w' (some (g.B d))) :
    QF w' f { D with R := fun i => if i = d then some c' else D.R i } g n := by
  have := h.cell he e c' hw hg
  have hE : (fun i => if i = d then some e else D.E i) = D.E := by
    funext i
    by_cases ei : i = d
    · rw [if_pos ei, ei, he]
    · rw [if_neg ei]
  rw [hE] at this
  exact this
theorem QF.putE (h : QF w f D g n) (he : D.E d = some e) {c : Int} (hc : D.R d = some c) (e' : En) (hw : w'.heap[g.B d]? = some (.cells (ecells g e' c) 180)) (hg : w.grownBy w' (some (g.B d))) :
    QF w' f { D with E := fun i => if i = d then some e' else D.E i } g n := by
  have := h.cell he e' c hw hg
  have hE : (fun i => if i = d then some c else D.R i) = D.R := by
    funext i
    by_cases ei : i = d
    · rw [if_pos ei, ei, hc]
    · rw [if_neg ei]
  rw [hE] at this
  exact this
/-- A table's number turned. -/
theorem QT.put (h : QT w b M) {i : Nat} (hi : i < 8) (x : Int × Bool) (hx : 0 ≤ x.1 ∧ x.1 < 100000 ∧ (x.1 = 0 → x.2 = false)) : QT ((w.setCell ⟨b, i * 2, none⟩ (.int .i64 x.1)).setCell ⟨b, i * 2 + 1, none⟩ (.bool x.2)) b (M.set i x) := by
  refine ⟨?_, by rw [List.length_set]; exact h.len, fun y hy => ?_⟩
  · have h1 := heap_cell_same w b (i * 2) (.int .i64 x.1) _ _ _ h.blk
    have h2 := heap_cell_same _ b (i * 2 + 1) (.bool x.2) _ _ _ h1
    rw [h2, ← nv_put M i x (by rw [h.len]; exact hi), Nat.mul_comm]
    simp
  · rcases List.mem_or_eq_of_mem_set hy with h1 | h1
    · exact h.pos y h1
    · rw [h1]; exact hx
theorem QT.mark (h : QT w b M) {i : Nat} (hi : i < 8) (c : Bool) (hc : (M[i]'(by rw [h.len]; exact hi)).1 ≠ 0) : QT (w.setCell ⟨b, i * 2 + 1, none⟩ (.bool c)) b (M.set i ((M[i]'(by rw [h.len]; exact hi)).1, c)) := by
  have hiL : i < M.length := by rw [h.len]; exact hi
  refine ⟨?_, by rw [List.length_set]; exact h.len, fun y hy => ?_⟩
  · have h2 := heap_cell_same w b (i * 2 + 1) (.bool c) _ _ _ h.blk
    rw [h2, ← nv_put M i (M[i].1, c) hiL, Nat.mul_comm]
    have e : (nv M).set (2 * i) (.int .i64 M[i].1) = nv M := by
      obtain ⟨e1, _⟩ := nv_at M i hiL
      obtain ⟨hl, he⟩ := List.getElem?_eq_some_iff.1 e1
      rw [← he, List.set_getElem_self]
    simp [e]
  · rcases List.mem_or_eq_of_mem_set hy with h1 | h1
    · exact h.pos y h1
    · rw [h1]; exact ⟨(h.nn hiL).1, (h.nn hiL).2.1, fun e => absurd e hc⟩
/-- The relation behind one number's turn. -/
theorem QTb.set (h : QTb w b g M N) {i : Nat} (x y : Int × Bool) (hT : QT w' b (M.set i x)) (hxy : y.2 = x.2 ∧ ((x.1 = 0 ∧ y.1 = 0) ∨ (0 < y.1 ∧ g.K x.1 = some y.1))) : QTb w' b g (M.set i x) (N.set i y) := by
  refine ⟨hT, h.off, by rw [List.length_set]; exact h.len, fun j h1 h2 => ?_⟩
  rw [List.length_set] at h1 h2
  by_cases e : i = j
  · subst e
    simp only [List.getElem_set_self]
    exact hxy
  · rw [List.getElem_set_ne e, List.getElem_set_ne e]
    exact h.rel j h1 h2
end
end Go.Proofs.YtjkneekfijibiabGreatDoor

namespace Go.Proofs.YtjkneekfijibiabGreatDoor
open Go.RowKit Go.Maps

section
variable {w w' w2 : World} {f b n : Nat} {D D' : DS} {g g' : QG} {M N N' : Ns} {d k : Int} {e : En}
/-- An ENTRY goes. -/
theorem QF.gone (h : QF w f D g n) (hk : g.K k = some d) {n' : Nat} (pm : PMap w' g.gO n' (fun i => if i = k then none else (g.K i).map (fun d => wp (g.B d)))) (hg : w.grownBy w' (some g.gO)) :
    QF w' f { D with E := fun i => if i = d then none else D.E i, R := fun i => if i = d then none else D.R i } { g with K := fun i => if i = k then none else g.K i } n' := by
  have hh : ∀ {i t}, g.kap i = some t → t ≠ .mp → w'.heap[i]? = w.heap[i]? := fun {i t} ei ht => hg.block i (h.lt i (by rw [ei]; rfl)) (fun x => tag_ne ei h.tm ht (Option.some.inj x))
  obtain ⟨O, p, hO⟩ := h.tree
  have hpm : PMap w' g.gO n' (fun i => (if i = k then none else g.K i).map (fun d => wp (g.B d))) := by
    have e2 : (fun i => (if i = k then none else g.K i).map (fun d => wp (g.B d))) = fun i => if i = k then none else (g.K i).map (fun d => wp (g.B d)) := by
      funext i; split <;> rfl
    rw [e2]; exact pm
  refine ⟨(hh h.tf (by simp)).trans h.head, ⟨O, p.keep (fun i hi => hh (hO i hi) (by simp)) hg.size, hO⟩, hpm, fun x ex hx => ?_, fun i x hx => ?_, fun x hx => ?_, fun i j x hi hj => ?_, fun p x hp => ?_, h.tf, h.tm, fun i hi => Nat.lt_of_lt_of_le (h.lt i hi) hg.size⟩
  · have hx' : (if x = d then none else D.E x) = some ex := hx
    by_cases e1 : x = d
    · rw [if_pos e1] at hx'; cases hx'
    · rw [if_neg e1] at hx'
      obtain ⟨c1, a1, a2, a3⟩ := h.ent x ex hx'
      exact ⟨c1, (if_neg e1).trans a1, (hh a3 (by simp)).trans a2, a3⟩
  · have hx' : (if i = k then none else g.K i) = some x := hx
    by_cases e1 : i = k
    · rw [if_pos e1] at hx'; cases hx'
    · rw [if_neg e1] at hx'
      obtain ⟨a, c⟩ := h.key i x hx'
      refine ⟨?_, c⟩
      show (if x = d then none else D.E x).isSome = true
      rw [if_neg (fun e9 => e1 (h.inj i k d (by rw [← e9]; exact hx') hk))]
      exact a
  · have hx' : (if x = d then none else D.E x).isSome = true := hx
    by_cases e1 : x = d
    · rw [if_pos e1] at hx'; cases hx'
    · rw [if_neg e1] at hx'
      obtain ⟨i, hi⟩ := h.has x hx'
      refine ⟨i, ?_⟩
      show (if i = k then none else g.K i) = some x
      rw [if_neg (fun e9 => e1 (by rw [e9, hk] at hi; exact (Option.some.inj hi).symm))]
      exact hi
  · have hi' : (if i = k then none else g.K i) = some x := hi
    have hj' : (if j = k then none else g.K j) = some x := hj
    by_cases e1 : i = k
    · rw [if_pos e1] at hi'; cases hi'
    · by_cases e2 : j = k
      · rw [if_pos e2] at hj'; cases hj'
      · rw [if_neg e1] at hi'
        rw [if_neg e2] at hj'
        exact h.inj i j x hi' hj'
  · obtain ⟨a1, a2⟩ := h.pipe p x hp
    exact ⟨a1.keep (hh a2 (by simp)), a2⟩
/-- The tree turns. -/
theorem QF.turn (h : QF w f D g n) {O O' : Nat → Prop} {T' : Wd} (hO : ∀ i, O i → g.kap i = some .tree) (p : PT w' g.r T' O') (st : Stp w w' O O') :
    ∃ g', QF w' f { D with T := T' } g' n ∧ (∀ i, i < w.heap.size → g'.kap i = g.kap i) ∧ g'.K = g.K ∧ g'.r = g.r ∧ g'.B = g.B := by
  classical
  have hh : ∀ {i t}, g.kap i = some t → t ≠ .tree → w'.heap[i]? = w.heap[i]? := fun {i t} ei ht => st.wt.block i (h.lt i (by rw [ei]; rfl)) (fun o => tag_ne ei (hO i o) ht rfl)
  have hlt : ∀ {i t}, g.kap i = some t → (if i < w.heap.size then g.kap i else if O' i then some Tag.tree else none) = some t := fun {i t} ei => by
    rw [if_pos (h.lt i (by rw [ei]; rfl))]; exact ei
  refine ⟨{ g with kap := fun i => if i < w.heap.size then g.kap i else if O' i then some .tree else none }, ⟨(hh h.tf (by simp)).trans h.head, ⟨O', p, fun i hi => ?_⟩, h.map.keep (hh h.tm (by simp)), fun x ex hx => ?_, h.key, h.has, h.inj, fun p x hp => ?_, hlt h.tf, hlt h.tm, fun i hi => ?_⟩, fun i hi => if_pos hi, rfl, rfl, rfl⟩
  · show (if i < w.heap.size then g.kap i else if O' i then some Tag.tree else none) = some Tag.tree
    rcases st.own i hi with o | o
    · exact hlt (hO i o)
    · rw [if_neg (by omega), if_pos hi]
  · obtain ⟨c1, a1, a2, a3⟩ := h.ent x ex hx
    exact ⟨c1, a1, (hh a3 (by simp)).trans a2, hlt a3⟩
  · obtain ⟨a1, a2⟩ := h.pipe p x hp
    exact ⟨a1.keep (hh a2 (by simp)), hlt a2⟩
  · have hi' : (if i < w.heap.size then g.kap i else if O' i then some Tag.tree else none).isSome = true := hi
    by_cases e1 : i < w.heap.size
    · exact Nat.lt_of_lt_of_le e1 st.wt.size
    · rw [if_neg e1] at hi'
      by_cases e2 : O' i
      · exact p.lt i e2
      · rw [if_neg e2] at hi'; cases hi'
/-- A pipe turns. -/
theorem QF.piped (h : QF w f D g n) {p : Int} {x : Pi} (hp : D.P p = some x) {x' : Pi} (ht : Tb w' (g.Q p) x'.2.1 x'.2.2 x'.1) (hg : w.grownBy w' (some (g.Q p))) :
    QF w' f { D with P := fun i => if i = p then some x' else D.P i } g n := by
  obtain ⟨h1, h2⟩ := h.pipe p x hp
  have hh : ∀ {i t}, g.kap i = some t → t ≠ .pip p → w'.heap[i]? = w.heap[i]? := fun {i t} ei ht => hg.block i (h.lt i (by rw [ei]; rfl)) (fun x => tag_ne ei h2 ht (Option.some.inj x))
  obtain ⟨O, q, hO⟩ := h.tree
  refine ⟨(hh h.tf (by simp)).trans h.head, ⟨O, q.keep (fun i hi => hh (hO i hi) (by simp)) hg.size, hO⟩, h.map.keep (hh h.tm (by simp)), fun y ey hy => ?_, h.key, h.has, h.inj, fun q y hq => ?_, h.tf, h.tm, fun i hi => Nat.lt_of_lt_of_le (h.lt i hi) hg.size⟩
  · obtain ⟨c1, a1, a2, a3⟩ := h.ent y ey hy
    exact ⟨c1, a1, (hh a3 (by simp)).trans a2, a3⟩
  · have hq' : (if q = p then some x' else D.P q) = some y := hq
    by_cases e1 : q = p
    · subst e1
      rw [if_pos rfl] at hq'
      obtain rfl := Option.some.inj hq'
      exact ⟨ht, h2⟩
    · rw [if_neg e1] at hq'
      obtain ⟨a1, a2⟩ := h.pipe q y hq'
      exact ⟨a1.keep (hh a2 (fun z => e1 (by injection z))), a2⟩
/-- A new pipe. -/
theorem QF.newPipe (h : QF w f D g n) {q : Nat} {p : Int} (hq : w.heap.size ≤ q) (hq' : q < w'.heap.size) (hb : Below w.heap.size w w') (hp : D.P p = none) (hE : ∀ d e, D.E d = some e → e.pipe ≠ p ∨ e.kind = 1) {x : Pi} (ht : Tb w' q x.2.1 x.2.2 x.1) (z : Int) :
    ∃ g', QF w' f { D with P := fun i => if i = p then some x else D.P i, nx := z } g' n ∧ (∀ i, i < w.heap.size → g'.kap i = g.kap i) ∧ g'.K = g.K ∧ g'.r = g.r ∧ g'.Q p = q := by
  have h' := h.below hb
  have hlt : ∀ {i t}, g.kap i = some t → (if i = q then some (Tag.pip p) else g.kap i) = some t := fun {i t} ei => by
    have := h.lt i (by rw [ei]; rfl)
    rw [if_neg (by omega)]; exact ei
  obtain ⟨O, o1, hO⟩ := h'.tree
  refine ⟨{ g with Q := fun i => if i = p then q else g.Q i, kap := fun i => if i = q then some (.pip p) else g.kap i }, ⟨h'.head, ⟨O, o1, fun i hi => hlt (hO i hi)⟩, h'.map, fun y ey hy => ?_, h.key, h.has, h.inj, fun i y hi => ?_, hlt h.tf, hlt h.tm, fun i hi => ?_⟩, fun i hi => if_neg (by omega), rfl, rfl, if_pos rfl⟩
  · obtain ⟨c1, a1, a2, a3⟩ := h'.ent y ey hy
    refine ⟨c1, a1, ?_, hlt a3⟩
    have hpv : pv { g with Q := fun i => if i = p then q else g.Q i, kap := fun i => if i = q then some (.pip p) else g.kap i } ey = pv g ey := by
      unfold pv
      rcases hE y ey hy with e1 | e1
      · simp only [if_neg e1]
      · rw [if_pos e1, if_pos e1]
    show w'.heap[g.B y]? = _
    rw [a2, ecells, ecells, hpv]
  · have hi' : (if i = p then some x else D.P i) = some y := hi
    by_cases e1 : i = p
    · subst e1
      rw [if_pos rfl] at hi'
      obtain rfl := Option.some.inj hi'
      have eq : (if i = i then q else g.Q i) = q := if_pos rfl
      show Tb w' (if i = i then q else g.Q i) x.2.1 x.2.2 x.1 ∧ (if (if i = i then q else g.Q i) = q then some (Tag.pip i) else g.kap (if i = i then q else g.Q i)) = some (Tag.pip i)
      rw [eq, if_pos rfl]
      exact ⟨ht, rfl⟩
    · rw [if_neg e1] at hi'
      obtain ⟨a1, a2⟩ := h'.pipe i y hi'
      show Tb w' (if i = p then q else g.Q i) y.2.1 y.2.2 y.1 ∧ (if (if i = p then q else g.Q i) = q then some (Tag.pip p) else g.kap (if i = p then q else g.Q i)) = some (Tag.pip i)
      rw [if_neg e1]
      exact ⟨a1, hlt a2⟩
  · have hi' : (if i = q then some (Tag.pip p) else g.kap i).isSome = true := hi
    by_cases e1 : i = q
    · omega
    · rw [if_neg e1] at hi'
      exact h'.lt i hi'
/-- A new ENTRY: nobody has it yet. -/
def newE (D : DS) (e : En) : DS := { D with E := fun i => if i = D.nx + 1 then some e else D.E i, R := fun i => if i = D.nx + 1 then some 0 else D.R i, nx := D.nx + 1 }
theorem QF.newEnt (h : QF w f D g n) {q : Nat} (hq : w.heap.size ≤ q) (hb : Below w.heap.size w w') (hE : D.E (D.nx + 1) = none) (hk : g.K k = none) (hk0 : 0 < k) (hk1 : k < 100000) (hw : w'.heap[q]? = some (.cells (ecells g e 0) 180)) (pm : PMap w2 g.gO (n + 1) (fun i => if i = k then some (wp q) else (g.K i).map (fun d => wp (g.B d)))) (hg : w'.grownBy w2 (some g.gO)) :
    ∃ g', QF w2 f (newE D e) g' (n + 1) ∧ (∀ i, i < w.heap.size → g'.kap i = g.kap i) ∧ (g'.K = fun i => if i = k then some (D.nx + 1) else g.K i) ∧ g'.r = g.r ∧ g'.B (D.nx + 1) = q ∧ g'.gO = g.gO ∧ g'.Q = g.Q := by
  have h' := h.below hb
  have hql : q < w'.heap.size := (Array.getElem?_eq_some_iff.1 hw).1
  have hlt : ∀ {i t}, g.kap i = some t → (if i = q then some (Tag.ent (D.nx + 1)) else g.kap i) = some t := fun {i t} ei => by
    have := h.lt i (by rw [ei]; rfl)
    rw [if_neg (by omega)]; exact ei
  have hh : ∀ {i t}, g.kap i = some t → t ≠ .mp → w2.heap[i]? = w'.heap[i]? := fun {i t} ei ht => hg.block i (h'.lt i (by rw [ei]; rfl)) (fun x => tag_ne ei h.tm ht (Option.some.inj x))
  have hqm : q ≠ g.gO := fun e => by have := h.lt g.gO (by rw [h.tm]; rfl); omega
  obtain ⟨O, o1, hO⟩ := h'.tree
  have hKE : ∀ i x, g.K i = some x → x ≠ D.nx + 1 := fun i x hx e => by
    have := (h.key i x hx).1
    rw [e, hE] at this; cases this
  have hpm : PMap w2 g.gO (n + 1) (fun i => (if i = k then some (D.nx + 1) else g.K i).map (fun d => wp (if d = D.nx + 1 then q else g.B d))) := by
    have e2 : (fun i => (if i = k then some (D.nx + 1) else g.K i).map (fun d => wp (if d = D.nx + 1 then q else g.B d))) = fun i => if i = k then some (wp q) else (g.K i).map (fun d => wp (g.B d)) := by
      funext i
      by_cases ei : i = k
      · rw [if_pos ei, if_pos ei]; simp
      · rw [if_neg ei, if_neg ei]
        cases hK : g.K i with
        | none => rfl
        | some x => simp [hKE i x hK]
    rw [e2]; exact pm
  refine ⟨{ g with K := fun i => if i = k then some (D.nx + 1) else g.K i, B := fun d => if d = D.nx + 1 then q else g.B d, kap := fun i => if i = q then some (.ent (D.nx + 1)) else g.kap i }, ⟨(hh h.tf (by simp)).trans h'.head, ⟨O, o1.keep (fun i hi => hh (hO i hi) (by simp)) hg.size, fun i hi => hlt (hO i hi)⟩, hpm, fun y ey hy => ?_, fun i y hi => ?_, fun y hy => ?_, fun i j y hi hj => ?_, fun p x hp => ?_, hlt h.tf, hlt h.tm, fun i hi => ?_⟩, fun i hi => if_neg (by omega), rfl, rfl, if_pos rfl, rfl, rfl⟩
  · have hy' : (if y = D.nx + 1 then some e else D.E y) = some ey := hy
    by_cases e1 : y = D.nx + 1
    · rw [if_pos e1] at hy'
      obtain rfl := Option.some.inj hy'
      refine ⟨0, if_pos e1, ?_, ?_⟩
      · show w2.heap[if y = D.nx + 1 then q else g.B y]? = _
        rw [if_pos e1, hg.block q hql (fun x => hqm (Option.some.inj x)), hw]
        rfl
      · show (if (if y = D.nx + 1 then q else g.B y) = q then some (Tag.ent (D.nx + 1)) else g.kap (if y = D.nx + 1 then q else g.B y)) = some (Tag.ent y)
        rw [if_pos e1, if_pos rfl, e1]
    · rw [if_neg e1] at hy'
      obtain ⟨c1, a1, a2, a3⟩ := h'.ent y ey hy'
      refine ⟨c1, (if_neg e1).trans a1, ?_, ?_⟩
      · show w2.heap[if y = D.nx + 1 then q else g.B y]? = _
        rw [if_neg e1, hh a3 (by simp), a2]
        rfl
      · show (if (if y = D.nx + 1 then q else g.B y) = q then some (Tag.ent (D.nx + 1)) else g.kap (if y = D.nx + 1 then q else g.B y)) = some (Tag.ent y)
        rw [if_neg e1]
        exact hlt a3
  · have hi' : (if i = k then some (D.nx + 1) else g.K i) = some y := hi
    show (if y = D.nx + 1 then some e else D.E y).isSome = true ∧ 0 < i ∧ i < 100000
    by_cases e1 : i = k
    · rw [if_pos e1] at hi'
      obtain rfl := Option.some.inj hi'
      rw [if_pos rfl, e1]
      exact ⟨rfl, hk0, hk1⟩
    · rw [if_neg e1] at hi'
      rw [if_neg (hKE i y hi')]
      exact h.key i y hi'
  · have hy' : (if y = D.nx + 1 then some e else D.E y).isSome = true := hy
    by_cases e1 : y = D.nx + 1
    · exact ⟨k, by show (if k = k then some (D.nx + 1) else g.K k) = some y; rw [if_pos rfl, e1]⟩
    · rw [if_neg e1] at hy'
      obtain ⟨i, hi⟩ := h.has y hy'
      refine ⟨i, ?_⟩
      show (if i = k then some (D.nx + 1) else g.K i) = some y
      rw [if_neg (fun e9 => by rw [e9, hk] at hi; cases hi)]
      exact hi
  · have hi' : (if i = k then some (D.nx + 1) else g.K i) = some y := hi
    have hj' : (if j = k then some (D.nx + 1) else g.K j) = some y := hj
    by_cases e1 : i = k
    · by_cases e2 : j = k
      · rw [e1, e2]
      · rw [if_pos e1] at hi'
        rw [if_neg e2] at hj'
        exact absurd (Option.some.inj hi').symm (hKE j y hj')
    · by_cases e2 : j = k
      · rw [if_neg e1] at hi'
        rw [if_pos e2] at hj'
        exact absurd (Option.some.inj hj').symm (hKE i y hi')
      · rw [if_neg e1] at hi'
        rw [if_neg e2] at hj'
        exact h.inj i j y hi' hj'
  · obtain ⟨a1, a2⟩ := h'.pipe p x hp
    exact ⟨a1.keep (hh a2 (by simp)), hlt a2⟩
  · have hi' : (if i = q then some (Tag.ent (D.nx + 1)) else g.kap i).isSome = true := hi
    by_cases e1 : i = q
    · have := hg.size; omega
    · rw [if_neg e1] at hi'
      exact Nat.lt_of_lt_of_le (h'.lt i hi') hg.size
end
end Go.Proofs.YtjkneekfijibiabGreatDoor

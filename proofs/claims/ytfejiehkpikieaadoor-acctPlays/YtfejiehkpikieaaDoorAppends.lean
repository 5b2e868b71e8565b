/- The two appends that make the document's list of asks anew, inside a region that draws its order: what they leave as it was. -/
import Derived.Test.YtfejiehkpikieaaDoorAState
namespace Go.Proofs.YtfejiehkpikieaaDoor
open Go.RowKit

theorem ask_info : ∃ i, Tryd.prog.info? 93 = some i ∧ i.zero = some (.agg #[.int .i64 0, .int .i64 0]) ∧ i.size = 2 ∧ i.bytes = 16 :=
  info_parts (P := Tryd.prog) (e := 93) (z := .agg #[.int .i64 0, .int .i64 0]) (size := 2) (bytes := 16) (by kernel_rfl)

/-- A new row of none, beyond block x. -/
def Emp (x : Nat) (W : World) (g : Nat) : Prop := x < g ∧ W.heap[g]? = some (.cells #[] 93)
/-- A new row of one ask. -/
def Two (W : World) (g : Nat) (X Y : Int) : Prop := W.heap[g]? = some (.cells #[.int .i64 X, .int .i64 Y] 93)

section
variable {x g h : Nat} {W W' : World} {X Y c p : Int}

theorem blk_lt {o : Obj} (e : W.heap[g]? = some o) : g < W.heap.size := by
  by_cases hl : g < W.heap.size
  · exact hl
  · rw [Array.getElem?_eq_none (by omega)] at e; cases e

theorem Emp.new (hx : x < W.heap.size) (hg : W.heap.size = g) : Emp x (W.alloc (.cells #[] 93)) g := by
  subst hg
  refine ⟨hx, ?_⟩
  show (W.heap.push _)[W.heap.size]? = _
  rw [Array.getElem?_push, if_pos rfl]
theorem Emp.more (e : Emp x W g) (o : Obj) : Emp x (W.alloc o) g := ⟨e.1, (Below.heap_alloc _ _ _ (blk_lt e.2)).trans e.2⟩
theorem Emp.grown {r : Option Nat} (k : W.grownBy W' r) (hr : ∀ j, r = some j → j < x) (e : Emp x W g) : Emp x W' g :=
  ⟨e.1, (k.block g (blk_lt e.2) (fun h => by have := hr g h.symm; have := e.1; omega)).trans e.2⟩

theorem Two.new (hg : W.heap.size = g) : Two (W.alloc (.cells #[.int .i64 X, .int .i64 Y] 93)) g X Y := by
  subst hg
  show (W.heap.push _)[W.heap.size]? = _
  rw [Array.getElem?_push, if_pos rfl]
theorem Two.more (e : Two W g X Y) (o : Obj) : Two (W.alloc o) g X Y := (Below.heap_alloc _ _ _ (blk_lt e)).trans e
theorem Two.grown {r : Option Nat} (k : W.grownBy W' r) (hr : r ≠ some g) (e : Two W g X Y) : Two W' g X Y := (k.block g (blk_lt e) (fun h => hr h.symm)).trans e

/-- The first append: onto the row of none. -/
structure First (x : Nat) (W W' : World) (g : Nat) : Prop where
  emp : Emp x W g
  grow : W.grownBy W' (some g)

theorem First.two (f : First x W W' g) (e : Two W h X Y) : Two W' h X Y :=
  e.grown f.grow (fun k => by injection k with k; subst k; have := f.emp.2; unfold Two at e; rw [this] at e; simp at e)
theorem First.at (f : First x W W' g) (e : AtB W h c p) : AtB W' h c p := by
  refine (f.grow.block h (blk_lt e) (fun k => ?_)).trans e
  injection k with k; subst k; have := f.emp.2; unfold AtB at e; rw [this] at e; simp at e
theorem First.aa {w0 : World} {xs : Array Value} {U M U' M' : Nat → Int} (f : First x W W' g) (s : AA w0 x xs W U M U' M') : AA w0 x xs W' U M U' M' :=
  s.grow f.grow (fun j hj => by injection hj with hj; subst hj; exact f.emp.1)

/-- The second append: onto what the first one made. -/
structure Second (x : Nat) (W W' : World) (v : Value) (n : Nat) (xs : List Value) : Prop where
  own : W.ownsRow (x + 1) 93 2 v n xs
  grow : W.grownBy W' v.ownBlock

theorem Second.at {v : Value} {n : Nat} {ys : List Value} (f : Second x W W' v n ys) (e : AtB W h c p) : AtB W' h c p := by
  refine (f.grow.block h (blk_lt e) (fun k => ?_)).trans e
  rcases f.own.2 with ⟨rfl, _⟩ | ⟨g, cap, cur, rfl, _, hg, _⟩
  · cases k
  · injection k with k; subst k; unfold AtB at e; rw [e] at hg; simp at hg
theorem Second.aa {w0 : World} {xs : Array Value} {U M U' M' : Nat → Int} {v : Value} {n : Nat} {ys : List Value} (f : Second x W W' v n ys) (s : AA w0 x xs W U M U' M') : AA w0 x xs W' U M U' M' :=
  s.grow f.grow (fun j hj => by have := (f.own.lt j hj).1; omega)
end

theorem AA.drew {w0 W : World} {x : Nat} {xs : Array Value} {U M U' M' : Nat → Int} (s : AA w0 x xs W U M U' M') : AA w0 x xs W.drew U M U' M' := s.stay ⟨rfl, rfl, rfl, Nat.le_refl _, fun _ _ => rfl⟩
theorem Asks.drew {W : World} {ad : Option Addr} {len : Nat} {q : Nat → Want} (h : Asks W ad len q) : Asks W.drew ad len q := h.below ⟨rfl, rfl, rfl, Nat.le_refl _, fun _ _ => rfl⟩
theorem Emp.drew {x g : Nat} {W : World} (e : Emp x W g) : Emp x W.drew g := e
theorem Two.drew {g : Nat} {X Y : Int} {W : World} (e : Two W g X Y) : Two W.drew g X Y := e
theorem AtB.more {W : World} {x : Nat} {c p : Int} (h : AtB W x c p) (o : Obj) : AtB (W.alloc o) x c p := (Below.heap_alloc _ _ _ (blk_lt h)).trans h
theorem Asks.more {W : World} {ad : Option Addr} {len : Nat} {q : Nat → Want} (h : Asks W ad len q) (o : Obj) : Asks (W.alloc o) ad len q := h.below ((Below.refl _ _).alloc (Nat.le_refl _) o)
theorem AA.two {w0 W : World} {x : Nat} {a b c d : Value} {U M U' M' : Nat → Int} (s : AA w0 x #[a, b, c, d] W U M U' M') : W.cell? ⟨x, 1, none⟩ = some b ∧ W.cell? ⟨x, 2, none⟩ = some c := ⟨s.cell 1, s.cell 2⟩

theorem step_first {ops : Array Oper} {o : Oper} {a : Act} {W : World} {K : Act → World → Prop} {Q : Exit → Act → World → Prop} {E : Prop}
    (hg : o.guard = none) (s y : Operand) (hop : o.op = Op.call { callee := Callee.builtin Builtin.append, args := #[s, y], argTypes := #[84, 84] })
    (x g : Nat) (hs : a.eval s = .slice (some ⟨g, 0, none⟩) 0 0) (hE : Emp x W g)
    (oa : Option Addr) (m c : Nat) (L : List Want) (hx : a.eval y = .slice oa m c) (hl : L.length = m) (hm : m ≤ 1000) (hc : Source W oa m (pcl L))
    (hK : ∀ v' w', w'.ownsRow (x + 1) 93 2 v' m (pcl L) → First x W w' g → K (a.put o.dst v') w') :
    if Region.wanted o (yielded ops a.tmps) = true then Oper.wp Tryd.prog o a W K Q else E := by
  obtain ⟨i0, hi, hz0, hz1, hz2⟩ := ask_info
  have hlt := blk_lt hE.2
  have hxg := hE.1
  have own : W.ownsRow (x + 1) 93 2 (.slice (some ⟨g, 0, none⟩) 0 0) 0 [] :=
    ⟨rfl, .inr ⟨g, 0, #[], rfl, hE.1, hE.2, Nat.le_refl _, by decide, rfl, rfl⟩⟩
  refine step_append_from hg s y 84 hop (x + 1) 93 i0 (.agg #[.int .i64 0, .int .i64 0]) 2 16 Tryd.underlying84 hi hz0 hz1 hz2 rfl (by decide) _ 0 [] hs own oa m c (pcl L) hx (by rw [pcl_len, hl]) hc (pcl_one L) (by unfold maxLen; omega) (by omega) (by omega) ?_
  intro v' w' h1 h2 _
  rw [Nat.zero_add, List.nil_append] at h1
  exact hK v' w' h1 ⟨hE, h2⟩

theorem step_second {ops : Array Oper} {o : Oper} {a : Act} {W : World} {K : Act → World → Prop} {Q : Exit → Act → World → Prop} {E : Prop}
    (hg : o.guard = none) (s y : Operand) (hop : o.op = Op.call { callee := Callee.builtin Builtin.append, args := #[s, y], argTypes := #[84, 84] })
    (x : Nat) (v : Value) (m : Nat) (L : List Want) (hl : L.length = m) (hm : m ≤ 1000) (hs : a.eval s = v) (own : W.ownsRow (x + 1) 93 2 v m (pcl L))
    (g : Nat) (X Y : Int) (hx : a.eval y = .slice (some ⟨g, 0, none⟩) 1 1) (hT : Two W g X Y) (hxW : x < W.heap.size)
    (hK : ∀ v' w', PL w' (x + 1) 93 v' (L ++ [⟨X, Y⟩]) → Second x W w' v m (pcl L) → K (a.put o.dst v') w') :
    if Region.wanted o (yielded ops a.tmps) = true then Oper.wp Tryd.prog o a W K Q else E := by
  obtain ⟨i0, hi, hz0, hz1, hz2⟩ := ask_info
  have hsrc : Source W (some ⟨g, 0, none⟩) 1 (pcl [⟨X, Y⟩]) := by
    refine .inr ⟨_, rfl, fun j u hu => ?_⟩
    have hj : j < 2 := (List.getElem?_eq_some_iff.1 hu).1
    unfold Two at hT
    rw [Addr.add_lit, Nat.zero_add]
    match j, hj with
    | 0, _ => simp [pcl, pe] at hu; subst hu; simp [World.cell?, hT]
    | 1, _ => simp [pcl, pe] at hu; subst hu; simp [World.cell?, hT]
  refine step_append_from hg s y 84 hop (x + 1) 93 i0 (.agg #[.int .i64 0, .int .i64 0]) 2 16 Tryd.underlying84 hi hz0 hz1 hz2 rfl (by decide) v m (pcl L) hs own (some ⟨g, 0, none⟩) 1 1 (pcl [⟨X, Y⟩]) hx (by rw [pcl_len]; rfl) hsrc (pcl_one _) (by unfold maxLen; omega) (by omega) (by omega) ?_
  intro v' w' h1 h2 _
  refine hK v' w' ?_ ⟨own, h2⟩
  unfold PL
  rw [pcl_app, List.length_append, hl]
  exact h1
end Go.Proofs.YtfejiehkpikieaaDoor

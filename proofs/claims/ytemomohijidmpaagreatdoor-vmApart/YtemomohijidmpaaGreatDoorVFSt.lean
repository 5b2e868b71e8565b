/- Several spaces, and the list of them that the statement keeps. -/
import Derived.Test.YtemomohijidmpaaGreatDoorVPaged
import Derived.Test.YtemomohijidmpaaGreatDoorTell
import Derived.Maps.AppendAt
namespace Go.Proofs.YtemomohijidmpaaGreatDoor
open Go.RowKit Go.Shelf Go.Lib Go.Sort Go.Maps

theorem tell_any (c : Int) (w : World) (hg : w.cell? ⟨0, 0, none⟩ = some errT) : Calls Tryz.prog 27 #[errV c] w fun e w' => e = .returned (.int .i64 c) ∧ Below w.heap.size w w' := by
  by_cases h : c = 0
  · subst h
    refine (tell_nil w).mono ?_
    rintro e w' ⟨he, rfl⟩
    exact ⟨he, Below.refl _ _⟩
  · rw [errV, if_neg h]; exact tell_eno c w hg

/-- A number by a name. -/
theorem named (x : Nat) : ∃ y, x = y := ⟨x, rfl⟩

/-- The list of spaces. -/
def ptrs (cs : List Nat) : List Value := cs.map vp

structure FSt (w0 : World) (E : St) (w : World) (D : Nat → Nat → Int) (A : Nat → Prop) (L : List Sq) (v : Value) (cs : List Nat) : Prop where
  al : Al E w D A L
  bel : Below w0.heap.size w0 w
  off : ∀ i, i < w0.heap.size → ¬ aown E A L i
  row : w.ownsRow w0.heap.size 30 1 v cs.length (ptrs cs)
  offr : ∀ g, v.ownBlock = some g → ¬ aown E A L g

section
variable {w0 w w' : World} {E : St} {D D' : Nat → Nat → Int} {A : Nat → Prop} {L L' : List Sq} {v : Value} {cs : List Nat}

theorem row_keep (h : w.ownsRow w0.heap.size 30 1 v cs.length (ptrs cs)) (hk : ∀ g, v.ownBlock = some g → g < w.heap.size → w'.heap[g]? = w.heap[g]?) : w'.ownsRow w0.heap.size 30 1 v cs.length (ptrs cs) := by
  refine ⟨h.1, ?_⟩
  rcases h.2 with h0 | ⟨g, cap, cur, e, hN, hg, rest⟩
  · exact .inl h0
  · exact .inr ⟨g, cap, cur, e, hN, (hk g (by rw [e]; rfl) (lt_of_heap hg)).trans hg, rest⟩
theorem FSt.stay (s : FSt w0 E w D A L v cs) (hb : Below w.heap.size w w') : FSt w0 E w' D A L v cs :=
  ⟨s.al.below hb, s.bel.trans (hb.mono s.bel.size), s.off, row_keep s.row (fun g _ hg => hb.block g hg), s.offr⟩
theorem FSt.turn (s : FSt w0 E w D A L v cs) (t : ATurn E w A L w' D' L') : ∃ A', FSt w0 E w' D' A' L' v cs := by
  obtain ⟨A', a, f, sub⟩ := t
  have hsz := s.bel.size
  refine ⟨A', a, ⟨f.os.trans s.bel.os, f.tape.trans s.bel.tape, f.output.trans s.bel.output, Nat.le_trans hsz f.size, fun i hi => (f.block i (by omega) (s.off i hi)).trans (s.bel.block i hi)⟩, fun i hi ho => s.off i hi (sub i (by omega) ho), row_keep s.row (fun g hv hg => f.block g hg (s.offr g hv)), fun g hv ho => ?_⟩
  have hgl : g < w.heap.size := by
    rcases s.row.2 with ⟨rfl, _⟩ | ⟨g', cap, cur, e, hN, hg, _⟩
    · cases hv
    · rw [e] at hv; cases hv; exact lt_of_heap hg
  exact s.offr g hv (sub g hgl ho)

/-- The list, read. -/
theorem FSt.read (s : FSt w0 E w D A L v cs) (hp : 0 < cs.length) : ∃ g cap, v = .slice (some ⟨g, 0, none⟩) cs.length cap ∧ cs.length ≤ cap ∧ g < w.heap.size ∧ ∀ j (hj : j < cs.length), w.cell? ⟨g, j, none⟩ = some (vp cs[j]) := by
  rcases s.row.2 with ⟨_, h0⟩ | ⟨g, cap, cur, e, hN, hg, h1, h2, h3, h4⟩
  · omega
  · refine ⟨g, cap, e, h1, lt_of_heap hg, fun j hj => ?_⟩
    rw [cell_of_row w g j _ _ _ hg]
    have : cur.toList[j]? = (ptrs cs)[j]? := by
      rw [← h4, Nat.mul_one, List.getElem?_take, if_pos hj]
    rw [← Array.getElem?_toList, this]
    simp [ptrs, hj]
end

section
variable {w0 w w' : World} {E : St} {D : Nat → Nat → Int} {A : Nat → Prop} {L : List Sq} {v v' : Value} {cs : List Nat}
theorem Al.keep (h : Al E w D A L) (hk : ∀ i, aown E A L i → w'.heap[i]? = w.heap[i]?) (hb : w'.heap[E.b]? = w.heap[E.b]?) (hm : w'.heap[E.bm]? = w.heap[E.bm]?) (hc : ∀ i (hi : i < L.length), w'.heap[L[i].1]? = w.heap[L[i].1]?) : Al E w' D A L :=
  ⟨fun i hi => (h.sp i hi).keep (fun j hj => hk j (.inl hj)) hb hm (hc i hi) (hk _ (.inr ⟨L[i], List.getElem_mem hi, rfl⟩)), h.apart, h.pos⟩

/-- One more in the list. -/
theorem FSt.push (s : FSt w0 E w D A L v cs) (hp : 0 < cs.length) {c : Nat} (hg : w.grownBy w' v.ownBlock) (hr : w'.ownsRow w0.heap.size 30 1 v' (cs.length + 1) (ptrs cs ++ [vp c])) (hv : v'.ownBlock = v.ownBlock ∨ v'.ownBlock = some w.heap.size) : FSt w0 E w' D A L v' (cs ++ [c]) := by
  obtain ⟨g, cap, rfl, _, hgl, hc0⟩ := s.read hp
  obtain ⟨cur, hcur⟩ : ∃ cur, w.heap[g]? = some (.cells cur 30) := by
    rcases s.row.2 with ⟨_, h0⟩ | ⟨g', cap', cur, e, hN, hg', _⟩
    · omega
    · cases e; exact ⟨cur, hg'⟩
  have hk : ∀ i, i < w.heap.size → i ≠ g → w'.heap[i]? = w.heap[i]? := fun i hi hn => hg.block i hi (fun e => hn (Option.some.inj e))
  have hgo := s.offr g rfl
  have st := s.al.st
  have nb : E.b ≠ g := fun e => by
    have := st.head; rw [e, hcur] at this; simp at this
  have nm : E.bm ≠ g := fun e => by
    have h1 := st.mem.head; rw [e, hc0 0 hp] at h1; cases h1
  have nc : ∀ i (hi : i < L.length), L[i].1 ≠ g := fun i hi e => by
    have := (s.al.sp i hi).sp.head; rw [e, hcur] at this; simp at this
  refine ⟨s.al.keep (fun i hi => hk i (s.al.olt hi) (fun e => hgo (e ▸ hi))) (hk _ st.blt nb) (hk _ st.mlt nm) (fun i hi => hk _ (s.al.sp i hi).sp.lt (nc i hi)), ?_, s.off, ?_, fun g' hv' ho => ?_⟩
  · have hN : w0.heap.size ≤ g := by
      rcases s.row.2 with ⟨_, h0⟩ | ⟨g', cap', cur, e, hN, hg', _⟩
      · omega
      · cases e; exact hN
    exact ⟨hg.os.trans s.bel.os, hg.tape.trans s.bel.tape, hg.output.trans s.bel.output, Nat.le_trans s.bel.size hg.size, fun i hi => (hk i (Nat.lt_of_lt_of_le hi s.bel.size) (by omega)).trans (s.bel.block i hi)⟩
  · rw [List.length_append, ptrs, List.map_append]; exact hr
  · rcases hv with e | e
    · rw [hv'] at e; cases e; exact hgo ho
    · rw [hv'] at e; cases e; have := s.al.olt ho; omega
end

/-- How many pages have frames, all spaces together. -/
theorem res_all {E : St} {w : World} {D : Nat → Nat → Int} {A : Nat → Prop} {L : List Sq} (h : Al E w D A L) : used (totS L) E.n ≤ (L.map fun x => resP x.2.2).sum ∧ ∀ x ∈ L, resP x.2.2 ≤ used (totS L) E.n := by
  have hok : ∀ x ∈ L, PgOk E.n x.2.2 ∧ Dis x.2.2 := fun x hx => by
    obtain ⟨j, hj, rfl⟩ := List.mem_iff_getElem.1 hx
    exact ⟨(h.sp j hj).ok, (h.sp j hj).dis⟩
  constructor
  · have e : (L.map fun x => resP x.2.2).sum = sumTo (fun f => totS L f) 0 E.n := by
      clear h
      induction L with
      | nil => simp [totS]; rw [sumTo_zero]; intros; rfl
      | cons x r ih =>
        have h1 := ih (fun y hy => hok y (by simp [hy]))
        have h2 := res_sum (hok x (by simp)).1
        simp only [List.map_cons, List.sum_cons, h1, h2, totS]
        rw [← sumTo_add]
    rw [e, used_eq]
    refine sumTo_le' (fun i => ?_)
    split <;> omega
  · intro x hx
    rw [res_sum (hok x hx).1, used_eq]
    refine sumTo_le' (fun i => ?_)
    have h1 := (hok x hx).2 (i : Int) (by omega)
    obtain ⟨j, hj, rfl⟩ := List.mem_iff_getElem.1 hx
    have h2 := totS_at hj (i : Int)
    split <;> omega
end Go.Proofs.YtemomohijidmpaaGreatDoor

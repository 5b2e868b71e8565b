/- The program's tree and the document's, beside each other. -/
import Derived.Test.YtpibokijbidgdabGreatDoorXSm
import Derived.Test.YtpibokijbidgdabGreatDoorWList2
import Derived.Test.YtpibokijbidgdabGreatDoorWWrite2
import Derived.Test.YtpibokijbidgdabGreatDoorBare
namespace Go.Proofs.YtpibokijbidgdabGreatDoor
open Go.RowKit Go.Maps

theorem bareU (c : Int) (w : World) (hg : w.cell? ⟨0, 0, none⟩ = some errT) : Calls Tryz.prog 34 #[uev c, .int .i64 c] w fun e w' => e = .returned (.bool true) ∧ Below w.heap.size w w' := by
  by_cases h : c = 0
  · subst h; exact bare_nil w
  · rw [uev_ne h]; exact bare_eno c w hg

/-- The program's tree T, the document's T2, apart from each other; A: what is theirs. -/
structure BT (w : World) (r r2 : Nat) (T T2 : Wd) (A : Nat → Prop) (m : Int) : Prop where
  both : ∃ O gN s G, PT w r T O ∧ RTr w r2 gN s T2 G ∧ (∀ i, O i → ¬ town r2 gN T2 G i) ∧ (∀ i, O i → A i) ∧ ∀ i, town r2 gN T2 G i → A i
  lt : ∀ i, A i → i < w.heap.size
  ml : w.cell? ⟨2, 0, none⟩ = some (.int .i64 m)
  mn : ¬ A 2
  er : w.cell? ⟨0, 0, none⟩ = some errT
  en : ¬ A 0

section
variable {w w' : World} {r r2 : Nat} {T T2 T' : Wd} {A : Nat → Prop} {m : Int}

theorem Stp.cell_kept {A' : Nat → Prop} (st : Stp w w' A A') {b o : Nat} {v : Value} (h : w.cell? ⟨b, o, none⟩ = some v) (hA : ¬ A b) : w'.cell? ⟨b, o, none⟩ = some v ∧ ¬ A' b := by
  have hlt : b < w.heap.size := World.block_lt_of_cell? w _ h
  obtain ⟨h1, h2⟩ := st.apart (P := fun i => i = b) (fun i e => by subst e; exact ⟨hA, hlt⟩) b rfl
  exact ⟨by rw [World.cell?_of_block (w := w) (a := ⟨b, o, none⟩) (st.keep (P := fun i => i = b) (fun i e => by subst e; exact ⟨hA, hlt⟩) b rfl)]; exact h, h1⟩
theorem BT.keep {T1 T3 : Wd} {A' : Nat → Prop} (h : BT w r r2 T T2 A m) (st : Stp w w' A A') (hb : ∃ O gN s G, PT w' r T1 O ∧ RTr w' r2 gN s T3 G ∧ (∀ i, O i → ¬ town r2 gN T3 G i) ∧ (∀ i, O i → A' i) ∧ ∀ i, town r2 gN T3 G i → A' i) (hl : ∀ i, A' i → i < w'.heap.size) : BT w' r r2 T1 T3 A' m :=
  ⟨hb, hl, (st.cell_kept h.ml h.mn).1, (st.cell_kept h.ml h.mn).2, (st.cell_kept h.er h.en).1, (st.cell_kept h.er h.en).2⟩
theorem BT.below (h : BT w r r2 T T2 A m) (hb : Below w.heap.size w w') : BT w' r r2 T T2 A m := by
  obtain ⟨O, gN, s, G, h1, h2, h3, h4, h5⟩ := h.both
  exact h.keep (.below hb) ⟨O, gN, s, G, h1.below hb, h2.below hb, h3, h4, h5⟩ (fun i hi => Nat.lt_of_lt_of_le (h.lt i hi) hb.size)

/-- A call of the program's. -/
theorem BT.callP (h : BT w r r2 T T2 A m) {f : FuncId} {args : Array Value} {Q : Ending → Wd → Prop} (hc : ∀ O, PT w r T O → Calls Tryz.prog f args w fun e w' => ∃ T' O', Q e T' ∧ PT w' r T' O' ∧ Stp w w' O O') :
    Calls Tryz.prog f args w fun e w' => ∃ T' A', Q e T' ∧ BT w' r r2 T' T2 A' m ∧ Stp w w' A A' := by
  obtain ⟨O, gN, s, G, h1, h2, h3, h4, h5⟩ := h.both
  refine (hc O h1).mono ?_
  rintro e w' ⟨T', O', hq, p', st⟩
  have hst : Stp w w' A (fun i => A i ∨ (w.heap.size ≤ i ∧ i < w'.heap.size)) := ⟨st.wt.mono h4, fun i hi => by
    rcases hi with hi | hi
    · exact .inl hi
    · exact .inr hi.1⟩
  have htw : ∀ i, town r2 gN T2 G i → ¬ O i ∧ i < w.heap.size := fun i hi => ⟨fun ho => h3 i ho hi, h.lt i (h5 i hi)⟩
  refine ⟨T', _, hq, h.keep hst ⟨O', gN, s, G, p', h2.keep (fun i hi => st.keep htw i hi), fun i ho hi => (st.apart htw i hi).1 ho, fun i hi => ?_, fun i hi => .inl (h5 i hi)⟩ (fun i hi => ?_), hst⟩
  · rcases st.own i hi with e | e
    · exact .inl (h4 i e)
    · exact .inr ⟨e, p'.lt i hi⟩
  · rcases hi with hi | hi
    · exact Nat.lt_of_lt_of_le (h.lt i hi) st.wt.size
    · exact hi.2

/-- A call of the document's. -/
theorem BT.callR (h : BT w r r2 T T2 A m) {f : FuncId} {args : Array Value} {Q : Ending → Wd → Prop} (hc : ∀ gN s G, RTr w r2 gN s T2 G → Calls Tryz.prog f args w fun e w' => ∃ T' gN' s' G', Q e T' ∧ RTr w' r2 gN' s' T' G' ∧ Wt (town r2 gN T2 G) w w' ∧ ∀ i, town r2 gN' T' G' i → town r2 gN T2 G i ∨ w.heap.size ≤ i) :
    Calls Tryz.prog f args w fun e w' => ∃ T' A', Q e T' ∧ BT w' r r2 T T' A' m ∧ Stp w w' A A' := by
  obtain ⟨O, gN, s, G, h1, h2, h3, h4, h5⟩ := h.both
  refine (hc gN s G h2).mono ?_
  rintro e w' ⟨T', gN', s', G', hq, p', wt, ow⟩
  have hst : Stp w w' A (fun i => A i ∨ (w.heap.size ≤ i ∧ i < w'.heap.size)) := ⟨wt.mono h5, fun i hi => by
    rcases hi with hi | hi
    · exact .inl hi
    · exact .inr hi.1⟩
  refine ⟨T', _, hq, h.keep hst ⟨O, gN', s', G', h1.keep (fun i hi => wt.block i (h1.lt i hi) (h3 i hi)) wt.size, p', fun i ho hi => ?_, fun i hi => .inl (h4 i hi), fun i hi => ?_⟩ (fun i hi => ?_), hst⟩
  · rcases ow i hi with e | e
    · exact h3 i ho e
    · have := h1.lt i ho; omega
  · rcases ow i hi with e | e
    · exact .inl (h5 i e)
    · exact .inr ⟨e, p'.lt hi⟩
  · rcases hi with hi | hi
    · exact Nat.lt_of_lt_of_le (h.lt i hi) wt.size
    · exact hi.2
end

theorem RTr.num {w : World} {r gN s : Nat} {T : Wd} {G : Int → Nat} (h : RTr w r gN s T G) : IsNum T s := h.map.num (f := fun k => ndv G k)
end Go.Proofs.YtpibokijbidgdabGreatDoor

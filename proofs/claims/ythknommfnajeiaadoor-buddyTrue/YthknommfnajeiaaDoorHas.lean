/- slices.Contains of blocks, by the library's contract. -/
import Derived.Test.YthknommfnajeiaaDoorTaken
import Derived.Test.YthknommfnajeiaaDoorShelf3
namespace Go.Proofs.YthknommfnajeiaaDoor
open Go.RowKit Go.Shelf Go.Lib Go.Sort

theorem eql_blk : EqlAt Tryd.prog 62 (fun x : Int × Int => .agg (be x).toArray) (fun x y => x.1 == y.1 && x.2 == y.2) := by
  refine ⟨fun x y w => ?_, GuardAt.agg _ (by kernel_rfl)⟩
  have u3 := Tryd.underlying3
  have a3 := Tryd.isAgg3
  have z3 := Tryd.sizeOf3
  have hS : Tryd.prog.underlying 62 = some (.struct (Tryd.prog.fieldsOf 62)) := by kernel_rfl
  have hp : Tryd.prog.stoodInHeld 62 = false := by kernel_rfl
  simp only [be]
  rw [run_eql_struct, show (10000 : Nat) = 9999 + 1 from rfl, run_equalIn_agg w 9999 62 _ _ hS hp]
  simp only [Program.fieldsOf, Tryd.underlying62]
  go_simp
  by_cases h1 : x.fst = y.fst <;> by_cases h2 : x.snd = y.snd <;> simp [h1, h2]

/-- The cells of a list of blocks. -/
def Rd (w : World) (g : Nat) (L : List (Int × Int)) : Prop := ∀ j (hj : j < L.length), w.cell? ⟨g, j * 2, none⟩ = some (.int .i64 L[j].1) ∧ w.cell? ⟨g, j * 2 + 1, none⟩ = some (.int .i64 L[j].2)

theorem has_ok {w : World} {g cap : Nat} {L : List (Int × Int)} (h : Rd w g L) (hl : L.length ≤ 1000) (x : Int × Int) :
    Calls Tryd.prog 32 #[.slice (some ⟨g, 0, none⟩) L.length cap, .agg #[.int .i64 x.1, .int .i64 x.2]] w fun e w' => e = .returned (.bool (decide (x ∈ L))) ∧ Below w.heap.size w w' := by
  refine (AnyQ.slices_Contains Tryd.containsL 2 Tryd.isAgg62 Tryd.sizeOf62 be (fun _ => rfl) _ eql_blk g 0 L.length cap L x w (Nat.le_refl _) (by omega) ?_).mono ?_
  · intro j hj i v hv
    rw [show L[j]! = L[j] from getElem!_pos L j hj] at hv
    match i, hv with
    | 0, hv => cases hv; rw [Nat.zero_add, Nat.add_zero]; exact (h j hj).1
    | 1, hv => cases hv; rw [Nat.zero_add]; exact (h j hj).2
    | i + 2, hv => simp [be] at hv
  · rintro e w' ⟨rfl, hb⟩
    refine ⟨?_, hb⟩
    congr 2
    rw [List.take_length]
    apply Bool.eq_iff_iff.2
    simp only [List.any_eq_true, Bool.and_eq_true, beq_iff_eq, decide_eq_true_eq]
    constructor
    · rintro ⟨y, hy, h1, h2⟩
      have : x = y := Prod.ext h1 h2
      rw [this]; exact hy
    · intro hx; exact ⟨x, hx, rfl, rfl⟩

theorem BL.read {w : World} {N : Nat} {a : Option Addr} {c : Nat} {L : List (Int × Int)} (h : BL w N (.slice a L.length c) L) (hne : L ≠ []) : ∃ g, a = some ⟨g, 0, none⟩ ∧ N ≤ g ∧ g < w.heap.size ∧ Rd w g L := by
  obtain ⟨g, cap, hv, hN, hg, _, hr, _⟩ := h.at' hne
  cases hv
  exact ⟨g, rfl, hN, hg, hr⟩
theorem Rd.keep {w w' : World} {g : Nat} {L : List (Int × Int)} (h : Rd w g L) (hb : w'.heap[g]? = w.heap[g]?) : Rd w' g L := fun j hj => by
  rw [World.cell?_of_block (w := w) (a := ⟨g, j * 2, none⟩) hb, World.cell?_of_block (w := w) (a := ⟨g, j * 2 + 1, none⟩) hb]; exact h j hj
theorem BL.keep {w w' : World} {N : Nat} {v : Value} {L : List (Int × Int)} (h : BL w N v L) (hb : Below w.heap.size w w') : BL w' N v L := by
  refine ⟨h.1, ?_⟩
  rcases h.2 with h0 | ⟨g, cap, cur, e, hN, hg, rest⟩
  · exact .inl h0
  · exact .inr ⟨g, cap, cur, e, hN, (hb.block g (lt_of_heap hg)).trans hg, rest⟩
theorem Moves.keep {w w' : World} {ad : Option Addr} {len : Nat} {q : Nat → Bool × Int} (h : Moves w ad len q) (hb : Below w.heap.size w w') : Moves w' ad len q := by
  rcases h with h | ⟨blk, off, e, hl, hc⟩
  · exact .inl h
  · refine .inr ⟨blk, off, e, Nat.lt_of_lt_of_le hl hb.size, fun i hi => ?_⟩
    rw [World.cell?_of_block (w := w) (a := ⟨blk, off + i * 2, none⟩) (hb.block blk hl), World.cell?_of_block (w := w) (a := ⟨blk, off + i * 2 + 1, none⟩) (hb.block blk hl)]; exact hc i hi
theorem Below.of_fr {A : Nat → Prop} {w w' : World} (B : Nat) (hB : B ≤ w.heap.size) (h : Fr A w w') (hA : ∀ i, i < B → ¬ A i) : Below B w w' := ⟨h.os, h.tape, h.output, h.size, fun i hi => h.block i (by omega) (hA i hi)⟩
end Go.Proofs.YthknommfnajeiaaDoor

/- SlabCounts, by its Go text. -/
import Derived.Test.YthknommfnajeiaaDoorThere
import Derived.Test.YthknommfnajeiaaDoorSlabbed
import Derived.Test.YthknommfnajeiaaDoorBare
namespace Go.Proofs.YthknommfnajeiaaDoor
open Go.RowKit Go.Shelf Go.Lib Go.Sort Go.Maps

theorem zs_cells {w : World} {g : Nat} {L : List Int} (h : Rz w g L) : ∀ j, j < L.length → w.cell? ⟨g, 0 + j, none⟩ = some (.int .i64 (L.getD j 0)) := fun j hj => by
  rw [Nat.zero_add, h j hj]; simp [List.getD_eq_getElem?_getD, hj]

theorem has_int {w : World} {N : Nat} {v : Value} {L : List Int} (h : w.ownsRow N 3 1 v L.length (L.map encZ)) (hl : L.length ≤ 1000) {x : Int} (hx : x ∉ L) :
    Calls Tryd.prog 43 #[v, .int .i64 x] w fun e w' => e = .returned (.bool false) ∧ w' = w := by
  rcases zrow_read h with ⟨rfl, rfl⟩ | ⟨g, cap, rfl, _, _, _, _, hz⟩
  · exact Any.slices_Contains_int_empty Tryd.hasL none 0 x w
  · refine (Any.slices_Contains_int Tryd.hasL g 0 L.length cap L x w (Nat.le_refl _) (by omega) (zs_cells hz)).mono ?_
    rintro e w' ⟨rfl, rfl⟩
    refine ⟨?_, rfl⟩
    rw [List.take_length]
    have : L.contains x = false := by
      cases e : L.contains x with
      | false => rfl
      | true => exact absurd (List.contains_iff_mem.1 e) hx
    rw [this]

section
variable {w0 w w' : World} {c b per g n m : Nat} {v : Value} {L : List Int} {C : Int → Option Nat} {U : Nat → Bool} {T : Int → Option Nat} {A : Nat → Prop}

theorem SW.clone (S : SW w0 c b per g n w v L C U T m A) (hl : L.length ≤ 1000) (hne : L ≠ []) :
    Calls Tryd.prog 45 #[v] w fun e w' => ∃ v', e = .returned v' ∧ SW w0 c b per g n w' v' L C U T m A := by
  rcases zrow_read S.row with ⟨_, h⟩ | ⟨gb, cap, rfl, _, hgl, _, _, hz⟩
  · exact absurd h hne
  · refine (Any.slices_Clone_int Tryd.cloneL gb 0 L.length cap L w (Nat.le_refl _) (by omega) (zs_cells hz)).mono ?_
    rintro e w' ⟨v', he, hrow, _, hb⟩
    rw [List.take_length] at hrow
    refine ⟨v', he, S.relist ⟨hb.os, hb.tape, hb.output, hb.size, fun i hi _ => hb.block i hi⟩ ⟨hrow.1, ?_⟩ (fun i hi => .inr (World.ownsRow.lt hrow i hi).1)⟩
    rcases hrow.2 with h | ⟨g', cap', cur, e, hN, rest⟩
    · exact .inl h
    · exact .inr ⟨g', cap', cur, e, Nat.le_trans S.bel.size hN, rest⟩

theorem SW.delete (S : SW w0 c b per g n w v L C U T m A) (hl : L.length ≤ 1000) {i : Nat} (hi : i < L.length) :
    Calls Tryd.prog 44 #[v, .int .i64 i, .int .i64 ((i + 1 : Nat) : Int)] w fun e w' => ∃ v', e = .returned v' ∧ SW w0 c b per g n w' v' (L.take i ++ L.drop (i + 1)) C U T m A := by
  rcases S.row.2 with ⟨rfl, hz⟩ | ⟨gb, cap, cur, rfl, hN, hg, r1, r2, r3, r4⟩
  · omega
  · have hH : Holds encZ w gb 0 L.toArray := holds_of_block_i hg (by simpa using r4)
    have hmx : cap ≤ 9223372036854775807 := Nat.le_trans r2 (by decide)
    have hll : (L.take i ++ L.drop (i + 1)).length = L.length - 1 := by rw [List.length_append, List.length_take, List.length_drop]; omega
    refine (Any.slices_Delete_int Tryd.delL gb 0 cap i (i + 1) L w hH r1 hmx (by omega) (by omega)).mono ?_
    rintro e w' ⟨rfl, q, rfl⟩
    rw [show L.length - (i + 1 - i) = L.length - 1 by omega, show i + 1 - i = 1 by omega]
    have hh : (putRow (Value.int .i64) (Sort.ahead w q) gb 0 (L.take i ++ L.drop (i + 1) ++ List.replicate 1 0).toArray).heap[gb]? = some (.cells (putCells (Value.int .i64) 0 (L.take i ++ L.drop (i + 1) ++ List.replicate 1 0).toArray cur) 3) := heap_mapBlock_same (Sort.ahead w q) gb _ cur _ _ hg
    refine ⟨_, rfl, S.relist ⟨rfl, rfl, rfl, by simp [putRow, mapBlock, Sort.ahead], fun k hk hne => ?_⟩ ⟨by simp, .inr ⟨gb, cap, putCells encZ 0 (L.take i ++ L.drop (i + 1) ++ List.replicate 1 0).toArray cur, by rw [hll], hN, hh, by omega, r2, by simp [putCells, r3], ?_⟩⟩ (fun j hj => .inl hj)⟩
    · have : k ≠ gb := fun e => hne (by rw [e]; rfl)
      exact heap_mapBlock_other _ _ _ _ this
    · have h1 := take_putCells_i cur (L.take i ++ L.drop (i + 1) ++ List.replicate 1 0) (by simp only [List.length_append, List.length_replicate, List.length_take, List.length_drop]; omega)
      rw [Nat.mul_one]
      have h2 : (L.take i ++ L.drop (i + 1)).length ≤ (L.take i ++ L.drop (i + 1) ++ List.replicate 1 0).length := by simp
      have h3 : ∀ (X : List Value), X.take (L.take i ++ L.drop (i + 1)).length = (X.take (L.take i ++ L.drop (i + 1) ++ List.replicate 1 0).length).take (L.take i ++ L.drop (i + 1)).length := fun X => by
        rw [List.take_take, Nat.min_eq_left h2]
      rw [h3, h1, List.map_append, List.take_left' (by simp)]
end
end Go.Proofs.YthknommfnajeiaaDoor

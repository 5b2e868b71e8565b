/- Texts that come in, opened. -/
import Derived.Test.YtcfhanoekniaaaaGreatDoorUPath
import Derived.Test.YtcfhanoekniaaaaGreatDoorOpenIn
import Derived.Test.YtcfhanoekniaaaaGreatDoorZTalks2
import Derived.Test.YtcfhanoekniaaaaGreatDoorRows
import Derived.JoinedOf
import Derived.ProofKit
namespace Go.Proofs.YtcfhanoekniaaaaGreatDoor
open Go.ChangeShapes Go.WideShapes Go.ChangeAt Go.RowKit

set_option maxRecDepth 100000 in
/-- An array of texts, opened. -/
theorem open_texts {H : Type} {enc : TypeId × Value → H} {W : World} {fuel : Nat} {a : Option Addr} {len cap : Nat} {x : DataW H × List MemPlace}
    (h : DataW.trod enc Tryz.prog W 0 (fun _ => true) true fuel 22 [.slice a len cap] = some x) : ∃ q, Strs W a len q := by
  rcases Go.Deep.open_slice Tryz.underlying22 h with ⟨hcs, _⟩ | ⟨ad, l, c, m, k, D, Pl, hcs, _, hl, _, hm, _, hx⟩
  · simp at hcs
    exact ⟨fun _ => [], .inl hcs.2.1⟩
  · simp at hcs
    obtain ⟨rfl, rfl, rfl⟩ := hcs
    by_cases h0 : len = 0
    · exact ⟨fun _ => [], .inl h0⟩
    have hmc : m = cap := by simpa using hm
    have each : ∀ i, i < m → ∃ q : List UInt8, W.cell? ((ad.add i).add 0) = some (tx q) := by
      intro i hi
      obtain ⟨cs', c1, c2⟩ := hx i hi
      rw [show Tryz.prog.cellsOf 9 = 1 by kernel_rfl, Nat.mul_one] at c1
      obtain ⟨_, hlen, hcell⟩ := World.cells?_some c1
      match cs', hlen with
      | [v0], _ =>
        obtain ⟨s0, e0, _, _⟩ := DataW.trod_string Tryz.underlying9 c2
        simp at e0
        subst e0
        exact ⟨s0.data.toList, by have := hcell 0 (by omega); simpa [tx] using this⟩
    have first := each 0 (by omega)
    obtain ⟨q0, f0⟩ := first
    obtain ⟨blk, off, spot⟩ := ad
    have hspot : spot = none := by simpa [Addr.add] using World.cell?_spot f0
    subst hspot
    have hb : blk < W.heap.size := by simpa [Addr.add] using World.block_lt_of_cell? W _ f0
    have all : ∃ q : Nat → List UInt8, ∀ i, i < m → W.cell? (((⟨blk, off, none⟩ : Addr).add i).add 0) = some (tx (q i)) := by
      refine ⟨fun i => if hi : i < m then Classical.choose (each i hi) else [], fun i hi => ?_⟩
      simp only [hi, dif_pos]
      exact Classical.choose_spec (each i hi)
    obtain ⟨q, hq⟩ := all
    refine ⟨q, .inr ⟨blk, off, rfl, hb, fun i hi => ?_⟩⟩
    have := hq i (by omega)
    simp only [Addr.add_lit, Nat.add_zero] at this
    exact this
end Go.Proofs.YtcfhanoekniaaaaGreatDoor

namespace Go.Proofs.YtcfhanoekniaaaaGreatDoor
open Go.ChangeShapes Go.WideShapes Go.ChangeAt Go.RowKit

theorem handle_of_laid {W : World} (h : laidMetH Tryz.prog Rows.kernelTalksRow.laid W) : W.cell? ⟨0, 0, none⟩ = some errT := by
  have h' : laidMet Tryz.prog [] W ∧ handlesMet Tryz.prog [("errors.errorType", Rows.laid_errors_errorType)] W := h
  exact handle_of h'.2

/-- A world that meets the condition on the listed variable: the settled one, the variable's cell laid. -/
theorem laidWorld_met (os : Os) (args : Array Value) : laidMetH Tryz.prog Rows.kernelTalksRow.laid (({ World.holding Tryz.prog os ⟨#[], #[], []⟩ with heap := (World.holding Tryz.prog os ⟨#[], #[], []⟩).heap.modify 0 fun | .cells _ t frozen => .cells #[errT] t frozen | o => o } : World).forCall (fun _ _ => 0) ⟨#[], args, []⟩).memory :=
  laidMetH_of_parts (laidMet_nil _ _) (by kernel_rfl)

set_option maxRecDepth 100000 in
theorem talks_lifted (os : Os) (started : os.Started) (H : Type) (enc : TypeId × Value → H) :
    ReturnsInHanded {} Tryz.checked os 3 .any (fun w args => (Rows.kernelTalksSpec.pre enc Tryz.prog Tryz.f3 [] false w args ∧ laidMetH Tryz.prog Rows.kernelTalksRow.laid w) ∧ sizedMet enc Tryz.prog Tryz.f3 (OpenSpec.ofChange Rows.kernelTalksSpec) false w args)
      (Rows.kernelTalksSpec.post enc Tryz.prog Tryz.f3 false true false false) := by
  refine returns_and_shaped (C := Tryz.checked) (X := fun w _ => laidMetH Tryz.prog Rows.kernelTalksRow.laid w) (fun _ _ _ hh h => h.of_heap hh) ownNone started (by kernel_rfl) Tryz.func3
    (ChangeSpec.witness_at (enc := enc) (C := Tryz.checked) (os := os) (X := fun w _ => laidMetH Tryz.prog Rows.kernelTalksRow.laid w) false ({ World.holding Tryz.prog os ⟨#[], #[], []⟩ with heap := (World.holding Tryz.prog os ⟨#[], #[], []⟩).heap.modify 0 fun | .cells _ t frozen => .cells #[errT] t frozen | o => o } : World) #[.slice none 0 0, .slice none 0 0] 8 rfl (by kernel_rfl) (by kernel_rfl) (by kernel_rfl) (by kernel_rfl) (by kernel_rfl) (laidWorld_met os _)) ?_
  intro W base args ds gs before hval0 hW hL hsh
  have hval : ∀ (j : Nat) t v, Tryz.f3.params[j]? = some t → args[j]? = some v → Value.okWide Tryz.prog W .any base t v := hval0
  have hW' := hW
  obtain ⟨p, q, hA0, hV0, rfl, hfz, hnd⟩ := hW
  have hA : DataW.TrodAll enc Tryz.prog W 0 (fun _ => true) true Tryz.f3.params.toList args.toList ds p := hA0
  have hV : DataW.TrodVars enc Tryz.prog W (fun _ => true) [] gs q := hV0
  rw [Tryz.params3] at hA hval
  obtain ⟨v0, v1, d0, d1, p0, p1, rfl, rfl, rfl, h0, h1⟩ := trodAll_two hA
  obtain ⟨a0, len0, cap0, rfl⟩ := okWide_slice Tryz.underlying22 (hval 0 22 v0 rfl rfl)
  obtain ⟨a1, len, cap, rfl⟩ := okWide_slice Tryz.underlying23 (hval 1 23 v1 rfl rfl)
  have k0 := h0
  have k1 := h1
  have lt0 : ∀ x ∈ p0, x.block < W.heap.size := by obtain ⟨m, hm⟩ := k0; exact DataW.trod_lt m _ _ _ hm
  have lt1 : ∀ x ∈ p1, x.block < W.heap.size := by obtain ⟨m, hm⟩ := k1; exact DataW.trod_lt m _ _ _ hm
  obtain ⟨fuel0, hf0⟩ := h0
  obtain ⟨qi, hqi⟩ := open_texts (by simpa [Value.cells] using hf0)
  obtain ⟨fuel, hf⟩ := h1
  obtain ⟨qj, hqj⟩ := open_ints (by simpa [Value.cells] using hf)
  have hg := handle_of_laid hL
  obtain ⟨m, hm⟩ := maxLen_of hsh
  have hT : TabH false W := ⟨by have := World.block_lt_of_cell? W _ hm; simp only at this; omega, fun e => by cases e⟩
  obtain ⟨rfl, rfl⟩ : gs = [] ∧ q = [] := by
    cases gs with
    | nil => exact ⟨rfl, hV⟩
    | cons g r => exact absurd hV (by intro h; cases h)
  have key : Calls Tryz.prog 3 #[.slice a0 len0 cap0, .slice a1 len cap] W fun e w' => e = .returned (.bool true) ∧ Below W.heap.size W w' := by
    by_cases hl : 20 < len0 ∨ 20 < len
    · exact talks_long a0 a1 len0 cap0 len cap W hl
    · by_cases h0 : len = 0
      · subst h0
        exact talks_short0 a0 a1 len0 cap0 cap qi W (by omega) hqi m hm hg hT
      · exact talks_short1 a0 a1 len0 cap0 len cap qi qj W (by omega) (by omega) (by omega) hqi hqj m hm hg hT
  refine key.mono fun e W' ⟨he, bel⟩ => ?_
  subst he
  exact ⟨_, rfl, _, _, _, [], _, [], hW', trodAll_mk1 (shut_bool Tryz.underlying4 _), trodAll_mk2 (Below.trod laidOut (by kernel_rfl) (of_decide_eq_true (by kernel_rfl)) k0 bel lt0) (Below.trod laidOut (by kernel_rfl) (of_decide_eq_true (by kernel_rfl)) k1 bel lt1), rfl, bel.frame _, fun h => by cases h⟩
end Go.Proofs.YtcfhanoekniaaaaGreatDoor

namespace Go.Proofs.YtcfhanoekniaaaaGreatDoor
open Go.ChangeShapes Go.WideShapes Go.ChangeAt Go.RowKit

theorem fact_laid : laidOutB Tryz.prog = true := by kernel_rfl
theorem fact_maps : mapsRowed Tryz.prog = true := by kernel_rfl
theorem fact_stops : (Tryz.prog.stops == []) = true := by kernel_rfl
theorem fact_knobs : (Tryz.prog.stopKnobs == []) = true := by kernel_rfl
theorem fact_heard : Tryz.prog.stopsHeard = true := by kernel_rfl
theorem fact_enter : Tryz.prog.mayEnter = true := by kernel_rfl
theorem fact_lifts : Tryz.prog.liftsFinal = Rows.kernelTalksRow.lifted := by kernel_rfl
theorem fact_keys : Tryz.prog.plainKeys = Rows.kernelTalksRow.plainKeys := by kernel_rfl
theorem fact_make : (Tryz.prog.make == some Rows.kernelTalksRow.make) = true := by kernel_rfl
end Go.Proofs.YtcfhanoekniaaaaGreatDoor

namespace Go.Proofs.YtcfhanoekniaaaaGreatDoor
open Go.ChangeShapes Go.WideShapes Go.ChangeAt Go.RowKit

theorem talks_cl : Tryz.prog.closure 3 = [3, 11, 12, 46, 130, 131, 233, 291, 329, 281, 213, 292, 330, 289, 331, 293, 332, 333, 357, 381, 47, 132, 48, 49, 133, 120, 148, 50, 14, 51, 55, 137, 112, 162, 138, 56, 139, 237, 238, 296, 140, 141, 217, 239, 45, 126, 127, 230, 231, 232, 215, 128, 129, 216, 283, 326, 125, 134, 234, 294, 17, 62, 152, 153, 154, 155, 243, 244, 245, 42, 121, 220, 221, 222, 284, 327, 285, 287, 328, 286, 223, 288, 123, 111, 211, 280, 210, 279, 325, 272, 316, 352, 353, 315, 344, 345, 376, 346, 377, 378, 347, 379, 380, 394, 348, 349, 350, 351, 117, 122, 224, 225, 228, 290, 227, 226, 64, 158, 248, 212, 282, 249, 159, 114, 250, 218, 142, 240, 297, 145, 334, 242, 298, 312, 335, 295, 44, 124, 229, 39, 119, 219, 20, 13, 53, 54, 135, 118, 65, 136, 235, 236, 278, 323, 324, 52, 15, 57, 58, 116, 143, 16, 60, 59, 144, 146, 241, 147, 61, 149, 150, 164, 151, 18, 19, 63, 156, 246, 247, 157, 21] := by kernel_rfl
theorem talks_place : Rows.kernelTalksRow.inPlace = Tryz.prog.inPlace 3 := by unfold Program.inPlace; rw [talks_cl]; kernel_rfl
theorem talks_unf : Rows.kernelTalksRow.unfollowed = Tryz.prog.unfollowed 3 := by unfold Program.unfollowed; rw [talks_cl]; kernel_rfl
theorem talks_rec : Rows.kernelTalksRow.recurses = Tryz.prog.recurses 3 := by unfold Program.recurses; rw [← talks_unf]; kernel_rfl
theorem talks_vars : Rows.kernelTalksRow.named = Tryz.prog.varsNamed 3 := by unfold Program.varsNamed; rw [talks_cl]; kernel_rfl
theorem talks_closed : joinedFacts Tryz.prog 3 Tryz.f3 Rows.kernelTalksSpec Rows.kernelTalksRow = true := by
  simp only [joinedFacts, Bool.and_eq_true]
  and_intros
  · kernel_rfl
  · exact fact_laid
  · exact fact_maps
  · kernel_rfl
  · kernel_rfl
  · kernel_rfl
  · exact fact_stops
  · kernel_rfl
  · exact fact_knobs
  · exact beq_iff_eq.2 talks_place
  · exact beq_iff_eq.2 talks_unf
  · exact beq_iff_eq.2 talks_rec
  · exact beq_iff_eq.2 talks_vars
  · kernel_rfl
  · kernel_rfl
  · kernel_rfl
  · kernel_rfl
  · kernel_rfl
  · kernel_rfl
  · kernel_rfl
  · kernel_rfl
  · kernel_rfl
  · exact beq_iff_eq.2 fact_keys.symm
  · kernel_rfl
  · exact fact_heard
  · exact fact_enter
  · exact beq_iff_eq.2 fact_lifts.symm
  · exact fact_make
  · kernel_rfl
  · kernel_rfl
  · kernel_rfl
  · kernel_rfl
end Go.Proofs.YtcfhanoekniaaaaGreatDoor

namespace Go.Proofs.YtcfhanoekniaaaaGreatDoor
open Go.ChangeShapes Go.WideShapes Go.ChangeAt Go.RowKit

theorem talks_over : Rows.KernelTalksSaid :=
  OpenClaim.holds_of_wide 3 Tryz.f3 rfl rfl rfl rfl rfl rfl rfl ⟨rfl, rfl, rfl, rfl, rfl⟩ rfl rfl rfl rfl rfl (by kernel_rfl) Tryz.func3 talks_closed
    (of_decide_eq_true (by kernel_rfl)) (by unfold Func.isWrapper; rw [if_neg (of_decide_eq_false (by kernel_rfl))]; exact ⟨rfl, rfl⟩)
    (fun os started H enc _ => talks_lifted os started H enc)
end Go.Proofs.YtcfhanoekniaaaaGreatDoor

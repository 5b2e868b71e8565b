/- The seat's own facts, each by itself: what every row asks of the program. -/
import Derived.Test.YtcfhanoekniaaaaGreatDoorRows
import Derived.JoinedOf
import Derived.ProofKit
import Derived.Test.YtcfhanoekniaaaaGreatDoorZTalksOwn0
namespace Go.Proofs.YtcfhanoekniaaaaGreatDoor
open Go.ChangeShapes Go.WideShapes Go.ChangeAt Go.RowKit

theorem fact_laid : laidOutB Tryz.prog = true := by kernel_rfl
theorem fact_maps : mapsRowed Tryz.prog = true := by kernel_rfl
theorem fact_stops : (Tryz.prog.stops == []) = true := by kernel_rfl
theorem fact_knobs : (Tryz.prog.stopKnobs == []) = true := by kernel_rfl
theorem fact_heard : Tryz.prog.stopsHeard = true := by kernel_rfl
theorem fact_enter : Tryz.prog.mayEnter = true := by kernel_rfl
theorem fact_lifts : Tryz.prog.liftsFinal = Rows.kernelTalksRow.lifted := by kernel_rfl
theorem fact_keys : Tryz.prog.plainKeys = Rows.kernelTalksRow.plainKeys := by kernel_rfl
theorem fact_make : (Tryz.prog.make == some Rows.kernelTalksRow.make) = true := by kernel_rfl
end Go.Proofs.YtcfhanoekniaaaaGreatDoor

namespace Go.Proofs.YtcfhanoekniaaaaGreatDoor
open Go.ChangeShapes Go.WideShapes Go.ChangeAt Go.RowKit

theorem talks_cl : Tryz.prog.closure 3 = [3, 11, 12, 46, 130, 131, 233, 291, 329, 281, 213, 292, 330, 289, 331, 293, 332, 333, 357, 381, 47, 132, 48, 49, 133, 120, 148, 50, 14, 51, 55, 137, 112, 162, 138, 56, 139, 237, 238, 296, 140, 141, 217, 239, 45, 126, 127, 230, 231, 232, 215, 128, 129, 216, 283, 326, 125, 134, 234, 294, 17, 62, 152, 153, 154, 155, 243, 244, 245, 42, 121, 220, 221, 222, 284, 327, 285, 287, 328, 286, 223, 288, 123, 111, 211, 280, 210, 279, 325, 272, 316, 352, 353, 315, 344, 345, 376, 346, 377, 378, 347, 379, 380, 394, 348, 349, 350, 351, 117, 122, 224, 225, 228, 290, 227, 226, 64, 158, 248, 212, 282, 249, 159, 114, 250, 218, 142, 240, 297, 145, 334, 242, 298, 312, 335, 295, 44, 124, 229, 39, 119, 219, 20, 13, 53, 54, 135, 118, 65, 136, 235, 236, 278, 323, 324, 52, 15, 57, 58, 116, 143, 16, 60, 59, 144, 146, 241, 147, 61, 149, 150, 164, 151, 18, 19, 63, 156, 246, 247, 157, 21] := by kernel_rfl
theorem talks_place : Rows.kernelTalksRow.inPlace = Tryz.prog.inPlace 3 := by unfold Program.inPlace; rw [talks_cl]; kernel_rfl
theorem talks_unf : Rows.kernelTalksRow.unfollowed = Tryz.prog.unfollowed 3 := by unfold Program.unfollowed; rw [talks_cl]; kernel_rfl
theorem talks_rec : Rows.kernelTalksRow.recurses = Tryz.prog.recurses 3 := by unfold Program.recurses; rw [← talks_unf]; kernel_rfl
theorem talks_vars : Rows.kernelTalksRow.named = Tryz.prog.varsNamed 3 := by unfold Program.varsNamed; rw [talks_cl]; kernel_rfl
theorem talks_closed : joinedFacts Tryz.prog 3 Tryz.f3 Rows.kernelTalksSpec Rows.kernelTalksRow = true := by
  simp only [joinedFacts, Bool.and_eq_true]
  and_intros
  · kernel_rfl
  · exact fact_laid
  · exact fact_maps
  · kernel_rfl
  · kernel_rfl
  · kernel_rfl
  · exact fact_stops
  · kernel_rfl
  · exact fact_knobs
  · exact beq_iff_eq.2 talks_place
  · exact beq_iff_eq.2 talks_unf
  · exact beq_iff_eq.2 talks_rec
  · exact beq_iff_eq.2 talks_vars
  · kernel_rfl
  · kernel_rfl
  · kernel_rfl
  · kernel_rfl
  · kernel_rfl
  · kernel_rfl
  · kernel_rfl
  · kernel_rfl
  · kernel_rfl
  · exact beq_iff_eq.2 fact_keys.symm
  · kernel_rfl
  · exact fact_heard
  · exact fact_enter
  · exact beq_iff_eq.2 fact_lifts.symm
  · exact fact_make
  · kernel_rfl
  · kernel_rfl
  · kernel_rfl
  · kernel_rfl
end Go.Proofs.YtcfhanoekniaaaaGreatDoor

namespace Go.Proofs.YtcfhanoekniaaaaGreatDoor
open Go.ChangeShapes Go.WideShapes Go.ChangeAt Go.RowKit

theorem talks_over : Rows.KernelTalksSaid :=
  OpenClaim.holds_of_wide 3 Tryz.f3 rfl rfl rfl rfl rfl rfl rfl ⟨rfl, rfl, rfl, rfl, rfl⟩ rfl rfl rfl rfl rfl (by kernel_rfl) Tryz.func3 talks_closed
    (of_decide_eq_true (by kernel_rfl)) (by unfold Func.isWrapper; rw [if_neg (of_decide_eq_false (by kernel_rfl))]; exact ⟨rfl, rfl⟩)
    (fun os started H enc _ => talks_lifted os started H enc)
end Go.Proofs.YtcfhanoekniaaaaGreatDoor

/- KernelTalks is true for every two lists: what the one says the other one hears, in order, in whatever pieces; who reads too early is told so, and when the one has ended the other one is told that nothing more will come; the one package variable on its road, errors.errorType, starts as the program's text lays it. -/
import Derived.Test.YtcfhanoekniaaaaGreatDoorZTalksOwn1
import Derived.Test.YtcfhanoekniaaaaGreatDoorZFactsG
namespace Go.Proofs.YtcfhanoekniaaaaGreatDoor
open Go.ChangeShapes Go.WideShapes Go.ChangeAt Go.RowKit

theorem kernelTalks_holds : Rows.KernelTalksCardSaid :=
  Claim7.holds_tied_plain_at .later [] [.handle] true Rows.kernelTalksCard.stood.harness true
    talks_over (fun _ h => by cases h) (by kernel_rfl) (fun _ h => by cases h) kernelTalks_row_tie rfl ⟨rfl, rfl⟩ (by kernel_rfl) rfl
    (fun f fn hf hfn => by
      obtain rfl : f = 3 := Option.some.inj ((show Tryz.prog.funcNamed Rows.kernelTalksRow.func = some 3 by kernel_rfl).symm.trans hf) |>.symm
      obtain rfl : fn = Tryz.f3 := (Option.some.inj (Tryz.func3.symm.trans hfn)).symm
      exact ⟨fact_looks.symm, fun j t ht => by
        rw [Tryz.params3] at ht
        have h3 : t = 22 ∨ t = 23 := by
          rcases j with _ | _ | j
          · left; simpa using ht.symm
          · right; simpa using ht.symm
          · simp at ht
        rcases h3 with rfl | rfl
        · exact (show Tryz.prog.wantsStandIn 22 = false by kernel_rfl)
        · exact (show Tryz.prog.wantsStandIn 23 = false by kernel_rfl)⟩)
    (none_by fact_goes _ rfl)
#print axioms kernelTalks_holds
end Go.Proofs.YtcfhanoekniaaaaGreatDoor

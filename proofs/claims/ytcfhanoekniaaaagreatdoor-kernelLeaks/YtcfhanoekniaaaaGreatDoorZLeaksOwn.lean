/- KernelLeaks is true for everything that comes in: whatever is asked, when all others end, are waited for, and 1 gives up its pages and numbers, all frames are free, nothing is open, and nobody is there but 1; the variables of the library's on its road, and errors.errorType, start as the program's text lays them. -/
import Derived.Test.YtcfhanoekniaaaaGreatDoorZLeaksOwn0
import Derived.Test.YtcfhanoekniaaaaGreatDoorZLeaksFact
import Derived.Test.YtcfhanoekniaaaaGreatDoorZFactsG
namespace Go.Proofs.YtcfhanoekniaaaaGreatDoor
open Go.ChangeShapes Go.WideShapes Go.ChangeAt Go.RowKit
theorem leaks_over:Rows.KernelLeaksSaid:=
 OpenClaim.holds_of_wide 6 Tryz.f6 rfl rfl rfl rfl rfl rfl rfl ⟨rfl,rfl,rfl,rfl,rfl⟩ rfl rfl rfl rfl rfl (by kernel_rfl) Tryz.func6 leaks_closed
  (of_decide_eq_true (by kernel_rfl)) (by unfold Func.isWrapper;rw [if_neg (of_decide_eq_false (by kernel_rfl))];exact ⟨rfl,rfl⟩)
  (fun os started H enc _=>leaks_lifted os started H enc)
theorem kernelLeaks_holds:Rows.KernelLeaksCardSaid:=
 Claim7.holds_tied_plain_at .later [] [.data,.data,.data,.handle,.pinned] true Rows.kernelLeaksCard.stood.harness true
  leaks_over (fun _ h=>by cases h) (by kernel_rfl) (fun _ h=>by cases h) kernelLeaks_row_tie rfl ⟨rfl,rfl⟩ (by kernel_rfl) rfl
  (fun f fn hf hfn=>by
    obtain rfl:f=6:=Option.some.inj ((show Tryz.prog.funcNamed Rows.kernelLeaksRow.func=some 6 by kernel_rfl).symm.trans hf) |>.symm
    obtain rfl:fn=Tryz.f6:=(Option.some.inj (Tryz.func6.symm.trans hfn)).symm
    exact ⟨fact_looks.symm,fun j t ht=>by
     rw [Tryz.params6] at ht
     have h3:t=3∨t=66:=by
      rcases j with _|_|j
      ·left;simpa using ht.symm
      ·right;simpa using ht.symm
      ·simp at ht
     rcases h3 with rfl|rfl
     ·exact (show Tryz.prog.wantsStandIn 3=false by kernel_rfl)
     ·exact (show Tryz.prog.wantsStandIn 66=false by kernel_rfl)⟩)
  (none_by fact_goes _ rfl)
#print axioms kernelLeaks_holds
end Go.Proofs.YtcfhanoekniaaaaGreatDoor

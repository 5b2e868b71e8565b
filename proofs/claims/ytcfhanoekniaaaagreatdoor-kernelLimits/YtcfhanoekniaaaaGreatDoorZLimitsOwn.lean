/- KernelLimits is true for everything that comes in: as long as nobody may have less than before, no process has more pages, or numbers, than it may, and what it forks may have as much; the variables of the library's on its road, and errors.errorType, start as the program's text lays them. -/
import Derived.Test.YtcfhanoekniaaaaGreatDoorZLimitsOwn0
import Derived.Test.YtcfhanoekniaaaaGreatDoorZLimitsFact
import Derived.Test.YtcfhanoekniaaaaGreatDoorZFactsG
namespace Go.Proofs.YtcfhanoekniaaaaGreatDoor
open Go.ChangeShapes Go.WideShapes Go.ChangeAt Go.RowKit
theorem limits_over:Rows.KernelLimitsSaid:=
 OpenClaim.holds_of_wide 9 Tryz.f9 rfl rfl rfl rfl rfl rfl rfl ⟨rfl,rfl,rfl,rfl,rfl⟩ rfl rfl rfl rfl rfl (by kernel_rfl) Tryz.func9 limits_closed
  (of_decide_eq_true (by kernel_rfl)) (by unfold Func.isWrapper;rw [if_neg (of_decide_eq_false (by kernel_rfl))];exact ⟨rfl,rfl⟩)
  (fun os started H enc _=>limits_lifted os started H enc)
theorem kernelLimits_holds:Rows.KernelLimitsCardSaid:=
 Claim7.holds_tied_plain_at .later [] [.data,.data,.data,.handle,.pinned] true Rows.kernelLimitsCard.stood.harness true
  limits_over (fun _ h=>by cases h) (by kernel_rfl) (fun _ h=>by cases h) kernelLimits_row_tie rfl ⟨rfl,rfl⟩ (by kernel_rfl) rfl
  (fun f fn hf hfn=>by
    obtain rfl:f=9:=Option.some.inj ((show Tryz.prog.funcNamed Rows.kernelLimitsRow.func=some 9 by kernel_rfl).symm.trans hf) |>.symm
    obtain rfl:fn=Tryz.f9:=(Option.some.inj (Tryz.func9.symm.trans hfn)).symm
    exact ⟨fact_looks.symm,fun j t ht=>by
     rw [Tryz.params9] at ht
     have h3:t=3∨t=66:=by
      rcases j with _|_|_|j
      ·left;simpa using ht.symm
      ·left;simpa using ht.symm
      ·right;simpa using ht.symm
      ·simp at ht
     rcases h3 with rfl|rfl
     ·exact (show Tryz.prog.wantsStandIn 3=false by kernel_rfl)
     ·exact (show Tryz.prog.wantsStandIn 66=false by kernel_rfl)⟩)
  (none_by fact_goes _ rfl)
#print axioms kernelLimits_holds
end Go.Proofs.YtcfhanoekniaaaaGreatDoor

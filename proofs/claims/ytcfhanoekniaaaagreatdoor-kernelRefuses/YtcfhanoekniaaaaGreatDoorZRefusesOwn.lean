/- KernelRefuses is true for everything that comes in: whatever is asked, by whomever, what is told an error of leaves all that is seen as it was, but that somebody went for want of memory; the variables of the library's on its road, and errors.errorType, start as the program's text lays them. -/
import Derived.Test.YtcfhanoekniaaaaGreatDoorZRefusesOwn0
import Derived.Test.YtcfhanoekniaaaaGreatDoorZRefusesFact
import Derived.Test.YtcfhanoekniaaaaGreatDoorZFactsG
namespace Go.Proofs.YtcfhanoekniaaaaGreatDoor
open Go.ChangeShapes Go.WideShapes Go.ChangeAt Go.RowKit
theorem refuses_over:Rows.KernelRefusesSaid:=
 OpenClaim.holds_of_wide 5 Tryz.f5 rfl rfl rfl rfl rfl rfl rfl ⟨rfl,rfl,rfl,rfl,rfl⟩ rfl rfl rfl rfl rfl (by kernel_rfl) Tryz.func5 refuses_closed
  (of_decide_eq_true (by kernel_rfl)) (by unfold Func.isWrapper;rw [if_neg (of_decide_eq_false (by kernel_rfl))];exact ⟨rfl,rfl⟩)
  (fun os started H enc _=>refuses_lifted os started H enc)
theorem kernelRefuses_holds:Rows.KernelRefusesCardSaid:=
 Claim7.holds_tied_plain_at .later [] [.data,.data,.data,.data,.handle,.pinned] true Rows.kernelRefusesCard.stood.harness true
  refuses_over (fun _ h=>by cases h) (by kernel_rfl) (fun _ h=>by cases h) kernelRefuses_row_tie rfl ⟨rfl,rfl⟩ (by kernel_rfl) rfl
  (fun f fn hf hfn=>by
    obtain rfl:f=5:=Option.some.inj ((show Tryz.prog.funcNamed Rows.kernelRefusesRow.func=some 5 by kernel_rfl).symm.trans hf) |>.symm
    obtain rfl:fn=Tryz.f5:=(Option.some.inj (Tryz.func5.symm.trans hfn)).symm
    exact ⟨fact_looks.symm,fun j t ht=>by
     rw [Tryz.params5] at ht
     have h3:t=3∨t=66:=by
      rcases j with _|_|j
      ·left;simpa using ht.symm
      ·right;simpa using ht.symm
      ·simp at ht
     rcases h3 with rfl|rfl
     ·exact (show Tryz.prog.wantsStandIn 3=false by kernel_rfl)
     ·exact (show Tryz.prog.wantsStandIn 66=false by kernel_rfl)⟩)
  (none_by fact_goes _ rfl)
#print axioms kernelRefuses_holds
end Go.Proofs.YtcfhanoekniaaaaGreatDoor

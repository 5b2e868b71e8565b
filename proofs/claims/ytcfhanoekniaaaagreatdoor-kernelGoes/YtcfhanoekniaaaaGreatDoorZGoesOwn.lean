/- KernelGoes is true for everything that comes in: a store that is allowed is done, or nobody is left that could go, or it went itself; who went is dead, with its code, and had weight; and 1 never goes; the variables of the library's on its road, and errors.errorType, start as the program's text lays them. -/
import Derived.Test.YtcfhanoekniaaaaGreatDoorZGoesOwn0
import Derived.Test.YtcfhanoekniaaaaGreatDoorZGoesFact
import Derived.Test.YtcfhanoekniaaaaGreatDoorZFactsG
namespace Go.Proofs.YtcfhanoekniaaaaGreatDoor
open Go.ChangeShapes Go.WideShapes Go.ChangeAt Go.RowKit
theorem goes_over:Rows.KernelGoesSaid:=
 OpenClaim.holds_of_wide 10 Tryz.f10 rfl rfl rfl rfl rfl rfl rfl ⟨rfl,rfl,rfl,rfl,rfl⟩ rfl rfl rfl rfl rfl (by kernel_rfl) Tryz.func10 goes_closed
  (of_decide_eq_true (by kernel_rfl)) (by unfold Func.isWrapper;rw [if_neg (of_decide_eq_false (by kernel_rfl))];exact ⟨rfl,rfl⟩)
  (fun os started H enc _=>goes_lifted os started H enc)
theorem kernelGoes_holds:Rows.KernelGoesCardSaid:=
 Claim7.holds_tied_plain_at .later [] [.data,.data,.data,.handle,.pinned] true Rows.kernelGoesCard.stood.harness true
  goes_over (fun _ h=>by cases h) (by kernel_rfl) (fun _ h=>by cases h) kernelGoes_row_tie rfl ⟨rfl,rfl⟩ (by kernel_rfl) rfl
  (fun f fn hf hfn=>by
    obtain rfl:f=10:=Option.some.inj ((show Tryz.prog.funcNamed Rows.kernelGoesRow.func=some 10 by kernel_rfl).symm.trans hf) |>.symm
    obtain rfl:fn=Tryz.f10:=(Option.some.inj (Tryz.func10.symm.trans hfn)).symm
    exact ⟨fact_looks.symm,fun j t ht=>by
     rw [Tryz.params10] at ht
     have h3:t=3∨t=66:=by
      rcases j with _|_|_|_|_|_|j
      ·left;simpa using ht.symm
      ·right;simpa using ht.symm
      ·left;simpa using ht.symm
      ·left;simpa using ht.symm
      ·left;simpa using ht.symm
      ·left;simpa using ht.symm
      ·simp at ht
     rcases h3 with rfl|rfl
     ·exact (show Tryz.prog.wantsStandIn 3=false by kernel_rfl)
     ·exact (show Tryz.prog.wantsStandIn 66=false by kernel_rfl)⟩)
  (none_by fact_goes _ rfl)
#print axioms kernelGoes_holds
end Go.Proofs.YtcfhanoekniaaaaGreatDoor

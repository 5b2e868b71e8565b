/- KernelApart is true for everything that comes in: whatever a process asks of its pages, and of numbers, all others' pages, words, and numbers are as they were, unless somebody goes for want of memory; the variables of the library's on its road, and errors.errorType, start as the program's text lays them. -/
import Derived.Test.YtcfhanoekniaaaaGreatDoorZApartOwn0
import Derived.Test.YtcfhanoekniaaaaGreatDoorZApartFact
import Derived.Test.YtcfhanoekniaaaaGreatDoorZFactsG
namespace Go.Proofs.YtcfhanoekniaaaaGreatDoor
open Go.ChangeShapes Go.WideShapes Go.ChangeAt Go.RowKit
theorem Gs:Rows.KernelApartSaid:=
 OpenClaim.holds_of_wide 7 Tryz.f7 rfl rfl rfl rfl rfl rfl rfl ⟨rfl,rfl,rfl,rfl,rfl⟩ rfl rfl rfl rfl rfl (by kernel_rfl) Tryz.func7 Ch
  (of_decide_eq_true (by kernel_rfl)) (by unfold Func.isWrapper;rw [if_neg (of_decide_eq_false (by kernel_rfl))];exact ⟨rfl,rfl⟩)
  (fun os started H enc _=>Cf os started H enc)
theorem kernelApart_holds:Rows.KernelApartCardSaid:=
 Claim7.holds_tied_plain_at .later [] [.data,.data,.data,.data,.handle,.pinned] true Rows.kernelApartCard.stood.harness true
  Gs (fun _ h=>by cases h) (by kernel_rfl) (fun _ h=>by cases h) kernelApart_row_tie rfl ⟨rfl,rfl⟩ (by kernel_rfl) rfl
  (fun f fn hf hfn=>by
    obtain rfl:f=7:=Option.some.inj ((show Tryz.prog.funcNamed Rows.kernelApartRow.func=some 7 by kernel_rfl).symm.trans hf) |>.symm
    obtain rfl:fn=Tryz.f7:=(Option.some.inj (Tryz.func7.symm.trans hfn)).symm
    exact ⟨Gb.symm,fun j t ht=>by
     rw [Tryz.params7] at ht
     have h3:t=3∨t=66:=by
      rcases j with _|_|_|_|j
      ·left;simpa using ht.symm
      ·right;simpa using ht.symm
      ·right;simpa using ht.symm
      ·left;simpa using ht.symm
      ·simp at ht
     rcases h3 with rfl|rfl
     ·exact (show Tryz.prog.wantsStandIn 3=false by kernel_rfl)
     ·exact (show Tryz.prog.wantsStandIn 66=false by kernel_rfl)⟩)
  (Ra KR _ rfl)
#print axioms kernelApart_holds
end Go.Proofs.YtcfhanoekniaaaaGreatDoor

/- KernelRounds is true for everything that comes in: one that is forked, does with its pages and numbers whatever it likes, ends, and is waited for, leaves all that is seen as it was, unless somebody goes for want of memory; the variables of the library's on its road, and errors.errorType, start as the program's text lays them. -/
import Derived.Test.YtcfhanoekniaaaaGreatDoorZRoundsOwn0
import Derived.Test.YtcfhanoekniaaaaGreatDoorZRoundsFact
import Derived.Test.YtcfhanoekniaaaaGreatDoorZFactsG
namespace Go.Proofs.YtcfhanoekniaaaaGreatDoor
open Go.ChangeShapes Go.WideShapes Go.ChangeAt Go.RowKit
theorem EC:Rows.KernelRoundsSaid:=
 OpenClaim.holds_of_wide 8 Tryz.f8 rfl rfl rfl rfl rfl rfl rfl ⟨rfl,rfl,rfl,rfl,rfl⟩ rfl rfl rfl rfl rfl (by kernel_rfl) Tryz.func8 yR
  (of_decide_eq_true (by kernel_rfl)) (by unfold Func.isWrapper;rw [if_neg (of_decide_eq_false (by kernel_rfl))];exact ⟨rfl,rfl⟩)
  (fun os started H enc _=>yP os started H enc)
theorem kernelRounds_holds:Rows.KernelRoundsCardSaid:=
 Claim7.holds_tied_plain_at .later [] [.data,.data,.data,.data,.handle,.pinned] true Rows.kernelRoundsCard.stood.harness true
  EC (fun _ h=>by cases h) (by kernel_rfl) (fun _ h=>by cases h) kernelRounds_row_tie rfl ⟨rfl,rfl⟩ (by kernel_rfl) rfl
  (fun f fn hf hfn=>by
    obtain rfl:f=8:=Option.some.inj ((show Tryz.prog.funcNamed Rows.kernelRoundsRow.func=some 8 by kernel_rfl).symm.trans hf) |>.symm
    obtain rfl:fn=Tryz.f8:=(Option.some.inj (Tryz.func8.symm.trans hfn)).symm
    exact ⟨GA.symm,fun j t ht=>by
     rw [Tryz.params8] at ht
     have h3:t=3∨t=66:=by
      rcases j with _|_|_|_|j
      ·left;simpa using ht.symm
      ·right;simpa using ht.symm
      ·left;simpa using ht.symm
      ·right;simpa using ht.symm
      ·simp at ht
     rcases h3 with rfl|rfl
     ·exact (show Tryz.prog.wantsStandIn 3=false by kernel_rfl)
     ·exact (show Tryz.prog.wantsStandIn 66=false by kernel_rfl)⟩)
  (RI Lr _ rfl)
#print axioms kernelRounds_holds
end Go.Proofs.YtcfhanoekniaaaaGreatDoor

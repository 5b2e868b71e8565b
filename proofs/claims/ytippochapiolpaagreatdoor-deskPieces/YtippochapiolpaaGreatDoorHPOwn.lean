/- DeskPieces is true for every two texts: what the desk is told of a text's first lines is how it answers all of it; and nine lines are answered as the document says; the variables of the library's on its road start as the program's text lays them. -/
import Derived.Test.YtippochapiolpaaGreatDoorHPOwn0
import Derived.Test.YtippochapiolpaaGreatDoorHPFact
namespace Go.Proofs.YtippochapiolpaaGreatDoor
open Go.ChangeShapes Go.WideShapes Go.ChangeAt Go.RowKit
theorem Ii:Rows.DeskPiecesSaid:=
 OpenClaim.holds_of_wide 3 Tryz.f3 rfl rfl rfl rfl rfl rfl rfl ⟨rfl,rfl,rfl,rfl,rfl⟩ rfl rfl rfl rfl rfl (by kernel_rfl) Tryz.func3 Bw
  (of_decide_eq_true (by kernel_rfl)) (by unfold Func.isWrapper;rw[if_neg (of_decide_eq_false (by kernel_rfl))];exact⟨rfl,rfl⟩)
  (fun c a H b _=>Bu c a H b)
theorem deskPieces_holds:Rows.DeskPiecesCardSaid:=
 Claim7.holds_tied_plain_at .later [] [.data,.data,.data,.data,.handle,.sentinel,.sentinel,.pinned] true Rows.deskPiecesCard.stood.harness true
  Ii (fun _ h=>by cases h) (by kernel_rfl) (fun _ h=>by cases h) deskPieces_row_tie rfl ⟨rfl,rfl⟩ (by kernel_rfl) rfl
  (fun f e c b=>by
    obtain rfl:f=3:=Option.some.inj ((show Tryz.prog.funcNamed Rows.deskPiecesRow.func=some 3 by kernel_rfl).symm.trans c) |>.symm;obtain rfl:e=Tryz.f3:=(Option.some.inj (Tryz.func3.symm.trans b)).symm;exact⟨KJ.symm,fun j t a=>by
     rw[Tryz.params3] at a;have d:t=9:=by
      rcases j with _|_|j
      ·simpa using a.symm
      ·simpa using a.symm
      ·simp at a
     subst d;exact(show Tryz.prog.wantsStandIn 9=false by kernel_rfl)⟩)
  (Xc PY _ rfl)
#print axioms deskPieces_holds
end Go.Proofs.YtippochapiolpaaGreatDoor

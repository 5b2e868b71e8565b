/- Ours. -/
import Derived.Test.YtippochapiolpaaGreatDoorRows
import Derived.ProofKit
namespace Go.Proofs.YtippochapiolpaaGreatDoor
open Go.Proofs.Tryz(f3 prog)
open Go.ChangeShapes Go.WideShapes Go.ChangeAt Go.RowKit
theorem PW:laidOutB prog=true:=by kernel_rfl
theorem PU:mapsRowed prog=true:=by kernel_rfl
theorem KI:(prog.stops==[])=true:=by kernel_rfl
theorem KO:(prog.stopKnobs==[])=true:=by kernel_rfl
theorem KP:prog.stopsHeard=true:=by kernel_rfl
theorem KQ:prog.mayEnter=true:=by kernel_rfl
theorem KL:prog.liftsFinal=Rows.deskPiecesRow.lifted:=by kernel_rfl
theorem PX:prog.plainKeys=Rows.deskPiecesRow.plainKeys:=by kernel_rfl
theorem PV:(prog.make==some Rows.deskPiecesRow.make)=true:=by kernel_rfl
theorem wF:prog.closure 3=[3,4,5,14,34,79,80,81,82,134,135,136,13,33,78,130,131,203,202,204,132,133,205,206,284,285,15,11,25,74,9,12,6,16,35,36,83,137,208,207,270,138,209,286,210,139,211,212,287,323,17,37,18,19,38,39,84,20,7,21,40,86,140,213,87,141,88,142,85,77,41,89,127,143,144,214,145,215,216,42,43,44,90,146,218,290,217,288,324,289,326,350,325,342,343,364,344,365,366,345,367,368,373,346,347,348,349,91,147,196,22,45,92,46,93,148,219,220,225,294,254,328,234,237,268,329,340,149,222,221,291,327,47,94,151,152,223,292,293,224,150,48,95,153,155,156,157,154,49,96,158,226,295,330,159,50,97,129,200,227,281,269,318,282,201,283,51,98,160,228,161,229,296,297,331,230,52,99,162,231,232,199,198,53,100,163,54,101,55,102,164,233,298,332,351,313,23,72,121,122,189,123,190,274,319,275,276,277,320,333,299,334,352,235,300,335,353,336,354,236,301,279,56,103,165,239,304,238,302,337,303,338,355,361,372,356,369,357,358,370,371,374,359,360,362,363,104,166,240,305,57,105,167,241,242,306,339,307,58,106,168,169,243,244,245,170,171,59,107,172,60,108,173,246,61,109,174,175,247,248,249,308,250,251,62,110,176,177,252,309,63,111,178,64,112,179,253,255,310,311,312,256,113,65,114,180,257,258,259,66,115,181,67,116,182,260,261,314,341,315,316,262,184,183,263,264,267,317,266,265,68,117,185,69,118,70,119,186,271,71,120,188,187,272,273,8,24,73,124,10,26,27,28,29,75,125,191,278,321,322,126,192,193,194,280,195,30,31,76,128,197,32]:=by kernel_rfl
theorem ES:Rows.deskPiecesRow.inPlace=prog.inPlace 3:=by unfold Program.inPlace;rw[wF];kernel_rfl
theorem Ah:Rows.deskPiecesRow.unfollowed=prog.unfollowed 3:=by unfold Program.unfollowed;rw[wF];kernel_rfl
theorem Kb:Rows.deskPiecesRow.recurses=prog.recurses 3:=by unfold Program.recurses;rw[<-Ah];kernel_rfl
theorem Ih:Rows.deskPiecesRow.named=prog.varsNamed 3:=by unfold Program.varsNamed;rw[wF];kernel_rfl
theorem Bw:joinedFacts prog 3 f3 Rows.deskPiecesSpec Rows.deskPiecesRow=true:=by
 simp only[joinedFacts,Bool.and_eq_true];and_intros
 ·kernel_rfl
 ·exact PW
 ·exact PU
 ·kernel_rfl
 ·kernel_rfl
 ·kernel_rfl
 ·exact KI
 ·kernel_rfl
 ·exact KO
 ·exact beq_iff_eq.2 ES
 ·exact beq_iff_eq.2 Ah
 ·exact beq_iff_eq.2 Kb
 ·exact beq_iff_eq.2 Ih
 ·kernel_rfl
 ·kernel_rfl
 ·kernel_rfl
 ·kernel_rfl
 ·kernel_rfl
 ·kernel_rfl
 ·kernel_rfl
 ·kernel_rfl
 ·kernel_rfl
 ·exact beq_iff_eq.2 PX.symm
 ·kernel_rfl
 ·exact KP
 ·exact KQ
 ·exact beq_iff_eq.2 KL.symm
 ·exact PV
 ·kernel_rfl
 ·kernel_rfl
 ·kernel_rfl
 ·kernel_rfl
end Go.Proofs.YtippochapiolpaaGreatDoor

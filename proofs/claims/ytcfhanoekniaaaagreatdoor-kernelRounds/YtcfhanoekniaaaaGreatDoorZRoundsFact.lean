/- The seat's own facts, each by itself: what every row asks of the program. -/
import Derived.Test.YtcfhanoekniaaaaGreatDoorRows
import Derived.JoinedOf
import Derived.ProofKit
namespace Go.Proofs.YtcfhanoekniaaaaGreatDoor
open Go.ChangeShapes Go.WideShapes Go.ChangeAt Go.RowKit
theorem Lm:laidOutB Tryz.prog=true:=by kernel_rfl
theorem Li:mapsRowed Tryz.prog=true:=by kernel_rfl
theorem Gz:(Tryz.prog.stops == [])=true:=by kernel_rfl
theorem GG:(Tryz.prog.stopKnobs == [])=true:=by kernel_rfl
theorem GH:Tryz.prog.stopsHeard=true:=by kernel_rfl
theorem GI:Tryz.prog.mayEnter=true:=by kernel_rfl
theorem GD:Tryz.prog.liftsFinal=Rows.kernelTalksRow.lifted:=by kernel_rfl
theorem Lp:Tryz.prog.plainKeys=Rows.kernelTalksRow.plainKeys:=by kernel_rfl
theorem Lj:(Tryz.prog.make == some Rows.kernelTalksRow.make)=true:=by kernel_rfl
theorem um:Tryz.prog.closure 8=[8,31,11,12,46,130,131,233,291,329,281,213,292,330,289,331,293,332,333,357,381,47,132,48,49,133,120,148,50,14,51,55,137,112,162,138,56,139,237,238,296,140,141,217,239,45,126,127,230,231,232,215,128,129,216,283,326,125,134,234,294,17,62,152,153,154,155,243,244,245,42,121,220,221,222,284,327,285,287,328,286,223,288,123,111,211,280,210,279,325,272,316,352,353,315,344,345,376,346,377,378,347,379,380,394,348,349,350,351,117,122,224,225,228,290,227,226,64,158,248,212,282,249,159,114,250,218,142,240,297,145,334,242,298,312,335,295,44,124,229,39,119,219,20,18,33,37,115,58,116,143,118,36,113,214,95,107,202,203,275,135,65,276,307,338,368,389,304,369,390,400,396,401,384,398,402,406,403,404,405,407,370,339,197,371,391,322,306,308,340,372,392,373,393,309,341,374,277,236,278,323,324,52,13,53,54,136,235,108,204,205,109,206,207,208,209,57,15,16,60,59,144,146,241,147,61,149,150,164,151,19,63,156,246,247,157,110,41,92,26,75,163,251,299,300,191,267,193,269,310,311,194,270,263,96,188,189,265,94,34,32,105,198,273,317,318,354,355,319,320,356,21,102,38,35,106,200,199,274,321,201,40]:=by kernel_rfl
theorem Cm:Rows.kernelRoundsRow.inPlace=Tryz.prog.inPlace 8:=by unfold Program.inPlace;rw [um];kernel_rfl
theorem xM:Rows.kernelRoundsRow.unfollowed=Tryz.prog.unfollowed 8:=by unfold Program.unfollowed;rw [um];kernel_rfl
theorem F5:Rows.kernelRoundsRow.recurses=Tryz.prog.recurses 8:=by unfold Program.recurses;rw [←xM];kernel_rfl
theorem EB:Rows.kernelRoundsRow.named=Tryz.prog.varsNamed 8:=by unfold Program.varsNamed;rw [um];kernel_rfl
theorem yR:joinedFacts Tryz.prog 8 Tryz.f8 Rows.kernelRoundsSpec Rows.kernelRoundsRow=true:=by
 simp only [joinedFacts,Bool.and_eq_true]
 and_intros
 ·kernel_rfl
 ·exact Lm
 ·exact Li
 ·kernel_rfl
 ·kernel_rfl
 ·kernel_rfl
 ·exact Gz
 ·kernel_rfl
 ·exact GG
 ·exact beq_iff_eq.2 Cm
 ·exact beq_iff_eq.2 xM
 ·exact beq_iff_eq.2 F5
 ·exact beq_iff_eq.2 EB
 ·kernel_rfl
 ·kernel_rfl
 ·kernel_rfl
 ·kernel_rfl
 ·kernel_rfl
 ·kernel_rfl
 ·kernel_rfl
 ·kernel_rfl
 ·kernel_rfl
 ·exact beq_iff_eq.2 Lp.symm
 ·kernel_rfl
 ·exact GH
 ·exact GI
 ·exact beq_iff_eq.2 GD.symm
 ·exact Lj
 ·kernel_rfl
 ·kernel_rfl
 ·kernel_rfl
 ·kernel_rfl
end Go.Proofs.YtcfhanoekniaaaaGreatDoor

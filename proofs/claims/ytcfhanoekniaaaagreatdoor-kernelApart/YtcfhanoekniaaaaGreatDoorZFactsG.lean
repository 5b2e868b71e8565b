/- The seat's own facts: nothing starts a goroutine; a look at the heads of types. -/
import Derived.Test.YtcfhanoekniaaaaGreatDoorRows
import Derived.JoinedOf
import Derived.ProofKit
import GoSem.ClaimGoes
import GoSem.ClaimSevenParts
namespace Go.Proofs.YtcfhanoekniaaaaGreatDoor
open Go.ChangeShapes Go.WideShapes Go.ChangeAt Go.RowKit
theorem Gb:Tryz.prog.looks []=true:=by kernel_rfl
theorem KR:Tryz.prog.funcs.any Func.goes=false:=by kernel_rfl
theorem J5 {P:Program}(h:P.funcs.any Func.goes=false) (f:FuncId):P.goes f=false:=by
 have hn:∀g:FuncId,((P.funcs[g]?).any Func.goes)=false:=fun g=>by
  cases e:P.funcs[g]? with
  |none=>rfl
  |some fn=>
   show Func.goes fn=false
   obtain ⟨hi,rfl⟩:=Array.getElem?_eq_some_iff.1 e
   rw [Array.any_eq_false] at h
   exact Bool.eq_false_iff.2 (h g hi)
 unfold Program.goes
 rw [h,Bool.and_false,Bool.or_false]
 exact List.any_eq_false.2 fun g _=>by rw [hn g];exact Bool.false_ne_true
theorem Ra {P:Program}(hg:P.funcs.any Func.goes=false) (c:OpenClaim) (h:c.start=.entering):false=c.goesBy P:=by
 unfold OpenClaim.goesBy Program.goesAt Program.goesFrom
 rw [h]
 cases P.funcNamed c.func with
 |none=>rfl
 |some f=>
  show false=(P.goes f || false)
  rw [J5 hg f];rfl
end Go.Proofs.YtcfhanoekniaaaaGreatDoor

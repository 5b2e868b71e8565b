/- Ours. -/
import Derived.Test.YtippochapiolpaaGreatDoorPool
import Derived.WalkLawsBesides
import Derived.Deep.DeepCutAuto
import Derived.Deep.CutBlock
import Derived.ProofKit
import GoSem.ClaimGoes
import GoSem.ClaimSevenParts
set_option maxHeartbeats 1000000
set_option maxRecDepth 100000
namespace Go.Proofs.YtippochapiolpaaGreatDoor
section
open Go.RowKit
abbrev pp(b:Nat):Value:=.pointer (some ⟨b,0,none⟩)
theorem mf{w:World}{b g:Nat}{O:Nat->Option Nat}{V:Nat->Value}{F:Nat->List Int}(p:Pl w b g O V F)(o:Nat)(v:o<=6):Calls Tryz.prog 341 #[pp b,.int .i64 o] w fun e s=>∃k:Nat,e=.returned (.int .i64 k)/\s=w/\o<=k/\k<=7/\(∀j,o<=j->j<k->F j=[])/\(k<=6->F k≠[]):=by
 go_enter Tryz.func341,Tryz.ntmps341
 go_wp2_with fail
 go_loopg [1] (7-o) (fun m i wr=>∃k:Nat,k+m=7/\i=.int .i64 k/\wr=w/\o<=k/\(∀j,o<=j->j<k->F j=[]))
 case atStart=>exact⟨o,by omega,rfl,rfl,Nat.le_refl _,fun j l d=>by omega⟩
 case round=>
  obtain⟨k,z,rfl,rfl,l,d⟩:=hrel;by_cases A:(k:Int)<=6
  ·have r:k<7:=by omega
   have q:=p.cell r;obtain⟨a,c,t,y,x⟩:=(p.row k r).isSlice;rw[t] at q;by_cases hF:F k=[]
   ·have n:(F k).length=0:=by rw[hF];rfl
    rw[n] at q;go_wp2_with fail
    go_roundg (7-(k+1))
    case measure=>omega
    case rel=>exact⟨k+1,by omega,by go_num,rfl,by omega,fun j u B=>by
     by_cases e:j=k
     ·rw[e,hF]
     ·exact d j u (by omega)⟩
   ·have n:(((F k).length:Int)==0)=false:=by
     have:(F k).length≠0:=by simpa using hF
     simp;omega
    go_wp2_with fail
    go_ret;exact⟨k,rfl,rfl,l,by omega,d,fun _=>hF⟩
  ·have f:k=7:=by omega
   subst f;go_wp2_with fail
   go_ret;exact⟨7,rfl,rfl,l,by omega,d,fun h=>by omega⟩
end
section
open Go.ChangeShapes Go.WideShapes Go.ChangeAt Go.RowKit
theorem KJ:Tryz.prog.looks []=true:=by kernel_rfl
theorem PY:Tryz.prog.funcs.any Func.goes=false:=by kernel_rfl
theorem OX{P:Program}(h:P.funcs.any Func.goes=false)(f:FuncId):P.goes f=false:=by
 have a:∀g:FuncId,((P.funcs[g]?).any Func.goes)=false:=fun g=>by
  cases e:P.funcs[g]? with
  |none=>rfl
  |some fn=>
   show Func.goes fn=false;obtain⟨b,rfl⟩:=Array.getElem?_eq_some_iff.1 e;rw[Array.any_eq_false] at h;exact Bool.eq_false_iff.2 (h g b)
 unfold Program.goes;rw[h,Bool.and_false,Bool.or_false];exact List.any_eq_false.2 fun g _=>by rw[a g];exact Bool.false_ne_true
theorem Xc{P:Program}(a:P.funcs.any Func.goes=false)(c:OpenClaim)(h:c.start=.entering):false=c.goesBy P:=by
 unfold OpenClaim.goesBy Program.goesAt Program.goesFrom;rw[h];cases P.funcNamed c.func with
 |none=>rfl
 |some f=>
  show false=(P.goes f || false);rw[OX a f];rfl
end
end Go.Proofs.YtippochapiolpaaGreatDoor

/- What least, Left of package buddy do to a world, each by its Go text. -/
import Derived.Test.YtippochapiolpaaGreatDoorPool
import Derived.WalkLawsBesides
import Derived.Outline
import Derived.Deep.DeepCutAuto
import Derived.Deep.CutBlock
import Derived.Test.YtippochapiolpaaGreatDoorRows
import Derived.JoinedOf
import Derived.ProofKit
import GoSem.ClaimGoes
import GoSem.ClaimSevenParts
set_option maxHeartbeats 1000000
set_option maxRecDepth 100000
namespace Go.Proofs.YtippochapiolpaaGreatDoor
open Go.RowKit
abbrev pp (b:Nat):Value:=.pointer (some ⟨b,0,none⟩)
theorem mf {w:World}{b g:Nat}{O:Nat→Option Nat}{V:Nat→Value}{F:Nat→List Int}(p:Pl w b g O V F) (o:Nat) (ho:o≤6) :
 Calls Tryz.prog 341 #[pp b,.int .i64 o] w fun e w'=>∃k:Nat,e=.returned (.int .i64 k)∧w'=w∧o≤k∧k≤7∧(∀j,o≤j→j<k→F j=[])∧(k≤6→F k≠[]):=by
 go_enter Tryz.func341,Tryz.ntmps341
 go_wp2_with fail
 go_loopg [1] (7-o) (fun m i wr=>∃k:Nat,k+m=7∧i=.int .i64 k∧wr=w∧o≤k∧(∀j,o≤j→j<k→F j=[]))
 case atStart=>exact ⟨o,by omega,rfl,rfl,Nat.le_refl _,fun j h1 h2=>by omega⟩
 case round=>
  obtain ⟨k,hk,rfl,rfl,h1,h2⟩:=hrel
  by_cases h7:(k:Int)≤6
  ·have YM:k<7:=by omega
   have hc:=p.cell YM
   obtain ⟨a,c,hv,hl,hm⟩:=(p.row k YM).isSlice
   rw [hv] at hc
   by_cases hF:F k=[]
   ·have hz:(F k).length=0:=by rw [hF];rfl
    rw [hz] at hc
    go_wp2_with fail
    go_roundg (7-(k+1))
    case measure=>omega
    case rel=>exact ⟨k+1,by omega,by go_num,rfl,by omega,fun j a1 a2=>by
     by_cases e:j=k
     ·rw [e,hF]
     ·exact h2 j a1 (by omega)⟩
   ·have hz:(((F k).length:Int) == 0)=false:=by
     have:(F k).length≠0:=by simpa using hF
     simp;omega
    go_wp2_with fail
    go_ret
    exact ⟨k,rfl,rfl,h1,by omega,h2,fun _=>hF⟩
  ·have h7':k=7:=by omega
   subst h7'
   go_wp2_with fail
   go_ret
   exact ⟨7,rfl,rfl,h1,by omega,h2,fun h=>by omega⟩
end Go.Proofs.YtippochapiolpaaGreatDoor
namespace Go.Proofs.YtippochapiolpaaGreatDoor
open Go.ChangeShapes Go.WideShapes Go.ChangeAt Go.RowKit
theorem KJ:Tryz.prog.looks []=true:=by kernel_rfl
theorem PZ:Tryz.prog.funcs.any Func.goes=false:=by kernel_rfl
theorem OY {P:Program}(h:P.funcs.any Func.goes=false) (f:FuncId):P.goes f=false:=by
 have hn:∀g:FuncId,((P.funcs[g]?).any Func.goes)=false:=fun g=>by
  cases e:P.funcs[g]? with
  |none=>rfl
  |some fn=>
   show Func.goes fn=false
   obtain ⟨hi,rfl⟩:=Array.getElem?_eq_some_iff.1 e
   rw [Array.any_eq_false] at h
   exact Bool.eq_false_iff.2 (h g hi)
 unfold Program.goes
 rw [h,Bool.and_false,Bool.or_false]
 exact List.any_eq_false.2 fun g _=>by rw [hn g];exact Bool.false_ne_true
theorem Xh {P:Program}(hg:P.funcs.any Func.goes=false) (c:OpenClaim) (h:c.start=.entering):false=c.goesBy P:=by
 unfold OpenClaim.goesBy Program.goesAt Program.goesFrom
 rw [h]
 cases P.funcNamed c.func with
 |none=>rfl
 |some f=>
  show false=(P.goes f || false)
  rw [OY hg f];rfl
end Go.Proofs.YtippochapiolpaaGreatDoor

/- What least, Left of package buddy do to a world, each by its Go text. -/
import Derived.Test.YtcfhanoekniaaaaGreatDoorPool
import Derived.WalkLawsBesides
import Derived.Outline
import Derived.Deep.DeepCutAuto
import Derived.Deep.CutBlock
set_option maxHeartbeats 1000000
set_option maxRecDepth 100000
namespace Go.Proofs.YtcfhanoekniaaaaGreatDoor
open Go.RowKit
abbrev pp (b:Nat):Value:=.pointer (some ⟨b,0,none⟩)
theorem j6 {w:World}{b g:Nat}{O:Nat→Option Nat}{V:Nat→Value}{F:Nat→List Int}(p:Pl w b g O V F) (o:Nat) (ho:o≤6) :
 Calls Tryz.prog 327 #[pp b,.int .i64 o] w fun e w'=>∃k:Nat,e=.returned (.int .i64 k)∧w'=w∧o≤k∧k≤7∧(∀j,o≤j→j<k→F j=[])∧(k≤6→F k≠[]):=by
 go_enter Tryz.func327,Tryz.ntmps327
 go_wp2_with fail
 go_loopg [1] (7-o) (fun m i wr=>∃k:Nat,k+m=7∧i=.int .i64 k∧wr=w∧o≤k∧(∀j,o≤j→j<k→F j=[]))
 case atStart=>exact ⟨o,by omega,rfl,rfl,Nat.le_refl _,fun j h1 h2=>by omega⟩
 case round=>
  obtain ⟨k,hk,rfl,rfl,h1,h2⟩:=hrel
  by_cases h7:(k:Int)≤6
  ·have SG:k<7:=by omega
   have hc:=p.cell SG
   obtain ⟨a,c,hv,hl,hm⟩:=(p.row k SG).isSlice
   rw [hv] at hc
   by_cases hF:F k=[]
   ·have hz:(F k).length=0:=by rw [hF];rfl
    rw [hz] at hc
    go_wp2_with fail
    go_roundg (7-(k+1))
    case measure=>omega
    case rel=>exact ⟨k+1,by omega,by go_num,rfl,by omega,fun j a1 a2=>by
     by_cases e:j=k
     ·rw [e,hF]
     ·exact h2 j a1 (by omega)⟩
   ·have hz:(((F k).length:Int) == 0)=false:=by
     have:(F k).length≠0:=by simpa using hF
     simp;omega
    go_wp2_with fail
    go_ret
    exact ⟨k,rfl,rfl,h1,by omega,h2,fun _=>hF⟩
  ·have h7':k=7:=by omega
   subst h7'
   go_wp2_with fail
   go_ret
   exact ⟨7,rfl,rfl,h1,by omega,h2,fun h=>by omega⟩
end Go.Proofs.YtcfhanoekniaaaaGreatDoor

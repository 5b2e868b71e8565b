/- Package tree: what a name is, by its Go text; the library's SplitSeq, and the rounds of a range over it. -/
import Derived.Test.YtippochapiolpaaGreatDoorWood
import Derived.Test.YtippochapiolpaaGreatDoorRows
import Derived.WalkLawsBesides
import Derived.Outline
import Derived.Deep.LoopGhost
import Derived.Deep.DeepCutAuto
import Derived.Deep.Light
import Derived.WalkSmall
import Derived.RangeFuncNested
import Derived.RangeFuncBound
import Derived.RangeFuncCalls
import Derived.RangeFuncLeaves
import Derived.Shelf.Abstract
import Derived.OwnWalkIn
import Derived.TacticsInMore
import Derived.LoopNIn
import Derived.LoopIn
set_option maxHeartbeats 1000000
namespace Go.Proofs.YtippochapiolpaaGreatDoor
open Go.RowKit
theorem Pv (z:List UInt8) (hz:z.length<100000) (w:World):Calls Tryz.prog 333 #[tx z] w fun e w'=>e=.returned (.bool (isName z))∧w'=w:=by
 have afH:isName z=(decide ((1:Int)≤(z.length:Int)) && decide ((z.length:Int)≤12) && !(z == [46]) && !(z == [46,46])):=by
  unfold isName
  congr 3
  ·exact decide_eq_decide.2 (by omega)
  ·exact decide_eq_decide.2 (by omega)
 rw [afH]
 by_cases h1:(1:Int)≤(z.length:Int)
 ·by_cases h2:(z.length:Int)≤12
  ·cases h3:(z == [46]) with
   |true=>
    simp only [h1,h2,decide_true]
    go_enter Tryz.func333,Tryz.ntmps333
    go_wp2_with fail
    go_ret
    exact ⟨rfl,rfl⟩
   |false=>
    cases h4:(z == [46,46]) with
    |true=>
     simp only [h1,h2,decide_true]
     go_enter Tryz.func333,Tryz.ntmps333
     go_wp2_with fail
     go_ret
     exact ⟨rfl,rfl⟩
    |false=>
     simp only [h1,h2,decide_true]
     go_enter Tryz.func333,Tryz.ntmps333
     go_wp2_with fail
     go_ret
     exact ⟨rfl,rfl⟩
  ·simp only [h1,h2,decide_true,decide_false,Bool.and_false,Bool.false_and]
   go_enter Tryz.func333,Tryz.ntmps333
   go_wp2_with fail
   go_ret
   exact ⟨rfl,rfl⟩
 ·simp only [h1,decide_false,Bool.false_and]
  go_enter Tryz.func333,Tryz.ntmps333
  go_wp2_with fail
  go_ret
  exact ⟨rfl,rfl⟩
theorem Hu (z:List UInt8) (w:World):Calls Tryz.prog 23 #[tx z,.string ⟨#[47]⟩] w fun e w'=>
 e=.returned (.func (.func 121) #[] #[.pointer (some ⟨w.heap.size+1,0,none⟩),.pointer (some ⟨w.heap.size,0,none⟩),.pointer (some ⟨w.heap.size+2,0,none⟩)])∧
 w'=((w.alloc (.cells #[tx z] 9)).alloc (.cells #[.string ⟨#[47]⟩] 9)).alloc (.cells #[.int .i64 0] 3):=by
 go_enter Tryz.func23,Tryz.ntmps23
 go_wp2_with go_in
 go_ret
 exact ⟨rfl,rfl⟩
end Go.Proofs.YtippochapiolpaaGreatDoor

/- Ours. -/
import Derived.Test.YtippochapiolpaaGreatDoorWood
import Derived.Test.YtippochapiolpaaGreatDoorRows
import Derived.WalkLawsBesides
import Derived.Deep.DeepCutAuto
import Derived.Deep.Light
import Derived.RangeFuncNested
import Derived.RangeFuncBound
import Derived.Shelf.Abstract
import Derived.OwnWalkIn
import Derived.TacticsInMore
import Derived.LoopNIn
import Derived.LoopIn
set_option maxHeartbeats 1000000
namespace Go.Proofs.YtippochapiolpaaGreatDoor
open Go.Proofs.Tryz(func333 ntmps333 prog)
open Go.RowKit
theorem Pt(z:List UInt8)(f:z.length<100000)(w:World):Calls prog 333 #[tx z] w fun e d=>e=.returned (.bool (isName z))/\d=w:=by
 have c:isName z=(decide ((1:Int)<=(z.length:Int))&&decide ((z.length:Int)<=12) && !(z==[46]) && !(z==[46,46])):=by
  unfold isName;congr 3
  ·exact decide_eq_decide.2 (by omega)
  ·exact decide_eq_decide.2 (by omega)
 rw[c];by_cases a:(1:Int)<=(z.length:Int)
 ·by_cases b:(z.length:Int)<=12
  ·cases h3:(z==[46]) with
   |true=>
    simp only[a,b,decide_true];go_enter func333,ntmps333
    go_wp2_with fail
    go_ret;exact⟨rfl,rfl⟩
   |false=>
    cases h4:(z==[46,46]) with
    |true=>
     simp only[a,b,decide_true];go_enter func333,ntmps333
     go_wp2_with fail
     go_ret;exact⟨rfl,rfl⟩
    |false=>
     simp only[a,b,decide_true];go_enter func333,ntmps333
     go_wp2_with fail
     go_ret;exact⟨rfl,rfl⟩
  ·simp only[a,b,decide_true,decide_false,Bool.and_false,Bool.false_and];go_enter func333,ntmps333
   go_wp2_with fail
   go_ret;exact⟨rfl,rfl⟩
 ·simp only[a,decide_false,Bool.false_and];go_enter func333,ntmps333
  go_wp2_with fail
  go_ret;exact⟨rfl,rfl⟩
theorem Hu(z:List UInt8)(w:World):Calls prog 23 #[tx z,.string ⟨#[47]⟩] w fun e a=>
 e=.returned (.func (.func 121) #[] #[.pointer (some ⟨w.heap.size+1,0,none⟩),.pointer (some ⟨w.heap.size,0,none⟩),.pointer (some ⟨w.heap.size+2,0,none⟩)])/\
 a=((w.alloc (.cells #[tx z] 9)).alloc (.cells #[.string ⟨#[47]⟩] 9)).alloc (.cells #[.int .i64 0] 3):=by
 go_enter Tryz.func23,Tryz.ntmps23
 go_wp2_with go_in
 go_ret;exact⟨rfl,rfl⟩
end Go.Proofs.YtippochapiolpaaGreatDoor

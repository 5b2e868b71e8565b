/- A text's lines, one after the other: the library's SplitSeq at a line feed, by its Go text; rounds that turn memory. -/
import Derived.Test.YtippochapiolpaaGreatDoorUPath
import Derived.Test.YtippochapiolpaaGreatDoorHNew
import Derived.Test.YtippochapiolpaaGreatDoorShelfH
set_option maxHeartbeats 2000000
set_option maxRecDepth 100000
namespace Go.Proofs.YtippochapiolpaaGreatDoor
open Go.RowKit Go.Shelf
attribute [local go_sem] Oper.semAt_some
theorem Uu (z:az) (W:World):Calls Tryz.prog 123 #[tx z,.string ⟨#[10]⟩] W fun e w'=>e=.returned (.int .i64 (Lib.indexByte z 10))∧w'=W:=
 Any.strings_Index_one Tryz.indexSL ⟨z.toArray⟩ 10 W
theorem Hw (z:az) (w:World):Calls Tryz.prog 23 #[tx z,.string ⟨#[10]⟩] w fun e w'=>
 e=.returned (.func (.func 121) #[] #[.pointer (some ⟨w.heap.size+1,0,none⟩),.pointer (some ⟨w.heap.size,0,none⟩),.pointer (some ⟨w.heap.size+2,0,none⟩)])∧
 w'=((w.alloc (.cells #[tx z] 9)).alloc (.cells #[.string ⟨#[10]⟩] 9)).alloc (.cells #[.int .i64 0] 3):=by
 go_enter Tryz.func23,Tryz.ntmps23
 go_wp2_with go_in
 go_ret
 exact ⟨rfl,rfl⟩
def abC (L:Nat) (bz rd:Obj) (R:Ending→World→Prop):Exit→Act→World→Prop
 |.normal,_,W3=>W3.heap[L]? = some bz∧R (.returned (.bool true)) (W3.putObj L rd)
 |_,_,_=>False
theorem Sn {P:Program}{L m D:Nat}{fn:FuncId}{tm:Array Value}{ps:Array Tmp}{assign body:Code}{rc:LoopState→Option Code→Loop}{W:World}{args:Array Value}{R:Ending→World→Prop}
 (hrc:∀st pe,rc st pe={ state:=st,pending:=pe,fn:=fn,tmps:=tm,params:=ps,assign:=assign,body:=body,defers:=D }) (hl:W.heap[L]? = some (.loop (rc .ready none))) (hs:args.size=ps.size)
 (h:assign.wpIn (Fence.wide.inRound L) m P (Exit.then (fun a1 w1=>w1=W∧body.wpIn (Fence.wide.inRound L) m P (abC L (.loop (rc .busy none)) (.loop (rc .ready none)) R) a1 (W.putObj L (.loop (rc .busy none)))) (fun _ _ _=>False))
   { tmps:=(ps.zip args).foldl (fun t (p,v)=>t.setIfInBounds p v) tm,defers:=[] } W):YieldAt Fence.wide m P L args W R:=by
 rw [hrc] at hl
 refine ⟨_,_,_,_,run_yield hl hs,roundIn_of_wpIn trivial (wpIn_mono h ?_)⟩
 rintro e a1 w1 h1
 cases e<;>try exact h1
 obtain ⟨rfl,hb⟩:=h1
 refine ⟨_,run_beginRound hl rfl,?_⟩
 rw [hrc,hrc] at hb
 refine wpIn_mono hb ?_
 rintro e a3 W3 h3
 cases e<;>try exact h3.elim
 obtain ⟨hk,hR⟩:=h3
 exact ⟨_,_,run_endRound none hk,hR⟩
theorem XH (l Bs Bp Bv:Nat) (z0:az) (hz:z0.length<100000) (W1:World) (J:List az→World→Prop)
 (hc:∀pre W,J pre W→W.cell? ⟨Bp,0,none⟩=some (.string ⟨#[10]⟩)∧W.cell? ⟨Bv,0,none⟩=some (.int .i64 0)) (hs:∀pre W u,J pre W→J pre (W.setCell ⟨Bs,0,none⟩ u)) (h0:J [] W1) (c2:W1.heap[Bs]? = some (.cells #[tx z0] 9))
 (hY:∀pre x t W,bL z0=pre ++ x :: t→J pre W→YieldAt Fence.wide 2 Tryz.prog l #[tx x] W fun e W'=>e=.returned (.bool true)∧J (pre ++ [x]) W'∧W'.heap[Bs]? = W.heap[Bs]?) :
 CallsIn Fence.wide 3 Tryz.prog 121 #[.func (.yield l) #[] #[],.pointer (some ⟨Bp,0,none⟩),.pointer (some ⟨Bs,0,none⟩),.pointer (some ⟨Bv,0,none⟩)] W1 fun e W'=>(∃v,e=.returned v)∧J (bL z0) W':=by
 have hf:Fence.wide.fn 123:=trivial
 have HC:Aside _:=hc
 have HS:Aside _:=hs
 have HY:Aside _:=hY
 obtain ⟨c1,c3⟩:=hc _ _ h0
 clear hc hs hY
 refine callsIn_of_wp Tryz.func121 rfl trivial ?_ rfl
 simp only [Tryz.ntmps121,List.size_toArray,List.length_cons,List.length_nil,Nat.reduceAdd,Nat.reduceSub,Array.replicate_succ,Array.replicate_zero,List.push_toArray,List.append_toArray,List.nil_append,List.cons_append]
 gi_wp2
 gi_loopg [7] z0.length (fun mm _ wr=>∃(pre:List az) (rest:az),wr.heap[Bs]? = some (.cells #[tx rest] 9)∧J pre wr∧bL z0=pre ++ bL rest∧rest.length≤z0.length∧mm=rest.length)
 case atStart=>exact ⟨[],z0,c2,h0,rfl,Nat.le_refl _,rfl⟩
 case round=>
  clear c1 c2 c3 h0
  obtain ⟨pre,rest,hbx,hJ,hp,hle,hmm⟩:=hrel
  obtain ⟨d1,d3⟩:=HC.out _ _ hJ
  obtain ⟨d2,d2f⟩:=fQ hbx
  have hIx:=callsIn_wide (n:=2) |>.2 (Uu rest wr)
  by_cases hm:Lib.indexByte rest 10=-1
  ·rw [hm] at hIx
   rw [Km hm] at hp
   obtain ⟨fn,tmps,assign,body,hy,hR⟩:=HY.out pre rest [] wr hp hJ
   clear hm
   gi_wp2_with (gi_at_call 123;refine hIx.mono ?_;rintro e w' ⟨rfl,hw'⟩;subst w')
   refine hR.mono ?_
   rintro e W3 ⟨rfl,hJ3,hB3⟩
   gi_wp2
   go_end0
   exact ⟨⟨_,rfl⟩,by rw [hp];exact hJ3⟩
  ·have hge:=Lib.indexByte_ge rest 10
   obtain ⟨i,hi⟩:∃i:Nat,Lib.indexByte rest 10=i:=⟨(Lib.indexByte rest 10).toNat,by omega⟩
   rw [hi] at hIx
   obtain ⟨hil,he⟩:=Pe hi
   rw [he] at hp
   have s1:=DZ rest i (by omega)
   have s2:=uE rest (i+1) (by omega)
   have hng:¬(i:Int)<0:=by omega
   obtain ⟨fn,tmps,assign,body,hy,hR⟩:=HY.out pre (rest.take i) _ wr hp hJ
   gi_wp2_with (gi_at_call 123;refine hIx.mono ?_;rintro e w' ⟨rfl,hw'⟩;subst w')
   refine hR.mono ?_
   rintro e W3 ⟨rfl,hJ3,hB3⟩
   obtain ⟨d1,d3⟩:=HC.out _ _ hJ3
   have acN:=hB3.trans hbx
   obtain ⟨d2,d2f⟩:=fQ acN
   gi_wp2
   gi_roundg (rest.length-(i+1))
   case measure=>omega
   case rel=>
    have hex:(⟨rest.toArray⟩:ByteArray).extract (i+1) rest.length=⟨(rest.drop (i+1)).toArray⟩:=by
     apply ByteArray.ext
     simp only [ByteArray.data_extract,List.extract_toArray,List.extract]
     rw [List.take_of_length_le (by simp)]
    rw [hex]
    exact ⟨pre ++ [rest.take i],rest.drop (i+1),yA _ acN,HS.out _ _ _ hJ3,by rw [hp];simp,by simp;omega,by simp⟩
end Go.Proofs.YtippochapiolpaaGreatDoor

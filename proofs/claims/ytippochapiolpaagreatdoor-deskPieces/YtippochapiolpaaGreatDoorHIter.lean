/- Ours. -/
import Derived.Test.YtippochapiolpaaGreatDoorUPath
import Derived.Test.YtippochapiolpaaGreatDoorHNew
set_option maxHeartbeats 2000000
set_option maxRecDepth 100000
namespace Go.Proofs.YtippochapiolpaaGreatDoor
open Go.RowKit Go.Shelf
attribute [local go_sem] Oper.semAt_some
theorem Ut(z:az)(W:World):Calls Tryz.prog 123 #[tx z,.string ⟨#[10]⟩] W fun e a=>e=.returned (.int .i64 (Lib.indexByte z 10))/\a=W:=
 Any.strings_Index_one Tryz.indexSL ⟨z.toArray⟩ 10 W
theorem Hw(z:az)(w:World):Calls Tryz.prog 23 #[tx z,.string ⟨#[10]⟩] w fun e a=>
 e=.returned (.func (.func 121) #[] #[.pointer (some ⟨w.heap.size+1,0,none⟩),.pointer (some ⟨w.heap.size,0,none⟩),.pointer (some ⟨w.heap.size+2,0,none⟩)])/\
 a=((w.alloc (.cells #[tx z] 9)).alloc (.cells #[.string ⟨#[10]⟩] 9)).alloc (.cells #[.int .i64 0] 3):=by
 go_enter Tryz.func23,Tryz.ntmps23
 go_wp2_with go_in
 go_ret;exact⟨rfl,rfl⟩
def abn(L:Nat)(bz rd:Obj)(R:Ending->World->Prop):Exit->Act->World->Prop
 |.normal,_,W3=>W3.heap[L]? = some bz/\R (.returned (.bool true)) (W3.putObj L rd)
 |_,_,_=>False
theorem Sl{P:Program}{L m D:Nat}{fn:FuncId}{i:Array Value}{ps:Array Tmp}{a b:Code}{d:LoopState->Option Code->Loop}{W:World}{args:Array Value}{R:Ending->World->Prop}
 (c:∀st j,d st j={ state:=st,pending:=j,fn:=fn,tmps:=i,params:=ps,assign:=a,body:=b,defers:=D }) (f:W.heap[L]? = some (.loop (d .ready none))) (q:args.size=ps.size)
 (h:a.wpIn (Fence.wide.inRound L) m P (Exit.then (fun o g=>g=W/\b.wpIn (Fence.wide.inRound L) m P (abn L (.loop (d .busy none)) (.loop (d .ready none)) R) o (W.putObj L (.loop (d .busy none)))) (fun _ _ _=>False))
   { tmps:=(ps.zip args).foldl (fun t (p,v)=>t.setIfInBounds p v) i,defers:=[] } W):YieldAt Fence.wide m P L args W R:=by
 rw[c] at f;refine⟨_,_,_,_,run_yield f q,roundIn_of_wpIn trivial (wpIn_mono h ?_)⟩;rintro e o g n;cases e<;>try exact n
 obtain⟨rfl,k⟩:=n;refine⟨_,run_beginRound f rfl,?_⟩;rw[c,c] at k;refine wpIn_mono k ?_;rintro e u w l;cases e<;>try exact l.elim
 obtain⟨r,s⟩:=l;exact⟨_,_,run_endRound none r,s⟩
theorem XC(l h N M:Nat)(f:az)(hz:f.length<100000)(E:World)(J:List az->World->Prop)
 (z:∀pre W,J pre W->W.cell? ⟨N,0,none⟩=some (.string ⟨#[10]⟩)/\W.cell? ⟨M,0,none⟩=some (.int .i64 0)) (F:∀pre W u,J pre W->J pre (W.setCell ⟨h,0,none⟩ u)) (C:J [] E) (I:E.heap[h]? = some (.cells #[tx f] 9))
 (H:∀pre x t W,bL f=pre++x::t->J pre W->YieldAt Fence.wide 2 Tryz.prog l #[tx x] W fun e q=>e=.returned (.bool true)/\J (pre++[x]) q/\q.heap[h]? = W.heap[h]?) :
 CallsIn Fence.wide 3 Tryz.prog 121 #[.func (.yield l) #[] #[],.pointer (some ⟨N,0,none⟩),.pointer (some ⟨h,0,none⟩),.pointer (some ⟨M,0,none⟩)] E fun e q=>(∃v,e=.returned v)/\J (bL f) q:=by
 have hf:Fence.wide.fn 123:=trivial;have L:Aside _:=z;have HS:Aside _:=F;have K:Aside _:=H;obtain⟨c1,c3⟩:=z _ _ C;clear z F H;refine callsIn_of_wp Tryz.func121 rfl trivial ?_ rfl;simp only[Tryz.ntmps121,List.size_toArray,List.length_cons,List.length_nil,Nat.reduceAdd,Nat.reduceSub,Array.replicate_succ,Array.replicate_zero,List.push_toArray,List.append_toArray,List.nil_append,List.cons_append];gi_wp2
 gi_loopg [7] f.length (fun O _ wr=>∃(pre:List az) (a:az),wr.heap[h]? = some (.cells #[tx a] 9)/\J pre wr/\bL f=pre++bL a/\a.length<=f.length/\O=a.length)
 case atStart=>exact⟨[],f,I,C,rfl,Nat.le_refl _,rfl⟩
 case round=>
  clear c1 I c3 C;obtain⟨pre,a,k,B,g,S,R⟩:=hrel;obtain⟨d1,Y⟩:=L.out _ _ B;obtain⟨Z,D⟩:=fM k;have c:=callsIn_wide (n:=2) |>.2 (Ut a wr);by_cases w:Lib.indexByte a 10=-1
  ·rw[w] at c;rw[Km w] at g;obtain⟨X,j,d,o,P,A⟩:=K.out pre a [] wr g B;clear w;gi_wp2_with (gi_at_call 123;refine c.mono ?_;rintro e r ⟨rfl,s⟩;subst r)
   refine A.mono ?_;rintro e W3 ⟨rfl,b,m⟩;gi_wp2
   go_end0
   exact⟨⟨_,rfl⟩,by rw[g];exact b⟩
  ·have U:=Lib.indexByte_ge a 10;obtain⟨i,G⟩:∃i:Nat,Lib.indexByte a 10=i:=⟨(Lib.indexByte a 10).toNat,by omega⟩;rw[G] at c;obtain⟨T,V⟩:=Pd G;rw[V] at g;have s1:=DZ a i (by omega);have s2:=uE a (i+1) (by omega);have Q:¬(i:Int)<0:=by omega
   obtain⟨X,j,d,o,P,A⟩:=K.out pre (a.take i) _ wr g B;gi_wp2_with (gi_at_call 123;refine c.mono ?_;rintro e r ⟨rfl,s⟩;subst r)
   refine A.mono ?_;rintro e W3 ⟨rfl,b,m⟩;obtain⟨d1,Y⟩:=L.out _ _ b;have p:=m.trans k;obtain⟨Z,D⟩:=fM p;gi_wp2
   gi_roundg (a.length-(i+1))
   case measure=>omega
   case rel=>
    have y:(⟨a.toArray⟩:ByteArray).extract (i+1) a.length=⟨(a.drop (i+1)).toArray⟩:=by
     apply ByteArray.ext
     simp only[ByteArray.data_extract,List.extract_toArray,List.extract];rw[List.take_of_length_le (by simp)]
    rw[y];exact⟨pre++[a.take i],a.drop (i+1),yA _ p,HS.out _ _ _ b,by rw[g];simp,by simp;omega,by simp⟩
end Go.Proofs.YtippochapiolpaaGreatDoor

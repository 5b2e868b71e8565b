/- Ours. -/
import Derived.Test.YtippochapiolpaaGreatDoorHEach
import Derived.Test.YtippochapiolpaaGreatDoorOApp
set_option maxHeartbeats 4000000
set_option maxRecDepth 100000
namespace Go.Proofs.YtippochapiolpaaGreatDoor
open Go.Proofs.Tryz(prog)
open List(length_append length_cons length_nil)
open Go.RowKit
def xS(n:Nat):UInt8:=if n<10 then (48+n).toUInt8 else (87+n).toUInt8
def iQ(c:UInt8):List UInt8:=if 32<c.toNat/\c.toNat<=126/\c.toNat≠37 then [c] else [37,xS (c.toNat / 16),xS (c.toNat % 16)]
def qx(s:List UInt8):List UInt8:=[34]++s.flatMap iQ++[34]
theorem JX(c:UInt8):(iQ c).length<=3:=by unfold iQ;split<;>simp
theorem wD(s:List UInt8):(s.flatMap iQ).length<=3*s.length:=by
 induction s with
 |nil=>simp
 |cons c s ih=>have:=JX c;simp only[List.flatMap_cons,length_append,length_cons];omega
theorem IE(w:World)(a:List UInt8)(t:TypeId):∀j u,(Lib.byteCells a)[j]? = some u->(w.alloc (.cells (Lib.byteCells a).toArray t)).cell? ((⟨w.heap.size,0,none⟩:Addr).add j)=some u:=by
 intro j u b;have h:(w.alloc (.cells (Lib.byteCells a).toArray t)).heap[w.heap.size]? = some (.cells (Lib.byteCells a).toArray t):=by show (w.heap.push _)[w.heap.size]? = _;rw[Array.getElem?_push,if_pos rfl]
 rw[show (⟨w.heap.size,0,none⟩:Addr).add j=⟨w.heap.size,j,none⟩ by simp[Addr.add_lit],cell_of_row _ _ _ _ _ _ h,<-b];simp
theorem wU{w:World}{n0:Nat}{v:Value}{l:List UInt8}(d:w.ownsRow n0 5 1 v l.length (Lib.byteCells l))(t:n0<=w.heap.size)(c:List UInt8)(C:l.length+c.length<=1000000):∃g b i,(∀r,(Builtin.append_ #[34,34] r #[v,.slice (some ⟨w.heap.size,0,none⟩) c.length c.length]).run prog (w.alloc (.cells (Lib.byteCells c).toArray 5))=.ok (.slice g (l++c).length b) i)/\i.ownsRow n0 5 1 (.slice g (l++c).length b) (l++c).length (Lib.byteCells (l++c))/\Below n0 w i:=by
 obtain⟨s,y,n,m,j⟩:=info_parts (P:=prog) (e:=5) (z:=.int .u8 0) (size:=1) (bytes:=1) (by kernel_rfl);obtain⟨q,p,h,a,f,_⟩:=run_append_own_at (P:=prog) (w.alloc (.cells (Lib.byteCells c).toArray 5)) n0 34 34 5 s (.int .u8 0) 1 1 Tryz.underlying34 y n m j rfl (by decide) v l.length (Lib.byteCells l) (d.alloc _) ⟨w.heap.size,0,none⟩ c.length c.length (Lib.byteCells c) (by rw[Lib.byteCells_length];omega) (IE _ _ _) (Lib.strCells_oneCell ⟨c.toArray⟩) (by unfold maxLen;omega) (by omega) (by simp;omega);rw[<-Lib.byteCells_append,<-length_append] at a;obtain⟨g,b,rfl⟩:∃g b,q=.slice g (l++c).length b:=by
  rcases a.2 with⟨o,A⟩|⟨x,b,B,o,_⟩
  ·exact⟨none,0,by rw[o,A]⟩
  ·exact⟨_,_,o⟩
 refine⟨g,b,p,fun _=>h,a,?_⟩;refine((Below.refl _ w).alloc t _).grown f (by simp;omega) (fun k u=>?_);exact(d.lt k u).1
theorem Tk{w:World}{n0:Nat}{v:Value}{l:List UInt8}(a:w.ownsRow n0 5 1 v l.length (Lib.byteCells l))(f:0<l.length):(convert 34 9 v).run prog w=.ok (tx l) w:=by
 rcases a.2 with⟨_,e⟩|⟨g,b,d,rfl,_⟩
 ·omega
 ·exact run_convert_bytes_back (P:=prog) w 34 9 5 ⟨g,0,none⟩ b l Tryz.underlying34 Tryz.underlying5 Tryz.underlying9 (fun j c=>a.cells (g:=g) rfl j _ (by simp[Lib.byteCells,c]))
def X6:ByteArray:={ data:=#[48,49,50,51,52,53,54,55,56,57,97,98,99,100,101,102] }
theorem UL:∀n:Fin 16,X6[n.val]'(Nat.lt_of_lt_of_le n.isLt (by decide))=xS n.val:=by decide
theorem xJ(n:Nat)(a:n<16)(w:World):(Instr.index 9 (.string { data:=#[48,49,50,51,52,53,54,55,56,57,97,98,99,100,101,102] }) (.int .u8 (n:Int))).run prog w=.ok (.int .u8 ((xS n).toNat:Int)) w:=by
 have h:=UL ⟨n,a⟩
 go_simp
 rw[dif_pos (by omega)];exact congrArg (fun x:UInt8=>Result.ok (Value.int .u8 (x.toNat:Int)) w) h
theorem Ub:∀n:Fin 256,bits BinOp.and .u8 ((n.val:Nat):Int) 15=((n.val % 16:Nat):Int):=by decide
theorem Ta(w:World)(s:List UInt8)(o:s.length<=100000):Calls prog 113 #[tx s] w fun e K=>e=.returned (tx (qx s))/\Below w.heap.size w K:=by
 obtain⟨i0,hi,Q,O,N⟩:=info_parts (P:=prog) (e:=5) (z:=.int .u8 0) (size:=1) (bytes:=1) (by kernel_rfl);go_enter Tryz.func113,Tryz.ntmps113
 go_upto_region 2 with fail
 have J:Below w.heap.size w (w.alloc (.cells #[.int .u8 34] 5)):=(Below.refl _ _).alloc (Nat.le_refl _) _;have D:(w.alloc (.cells #[.int .u8 34] 5)).ownsRow w.heap.size 5 1 (.slice (some ⟨w.heap.size,0,none⟩) 1 1) 1 (Lib.byteCells [34]):=
  ⟨rfl,.inr ⟨w.heap.size,1,#[.int .u8 34],rfl,Nat.le_refl _,by show (w.heap.push _)[w.heap.size]? = _;rw[Array.getElem?_push,if_pos rfl],Nat.le_refl _,by unfold maxLen;omega,rfl,rfl⟩⟩
 obtain⟨F,A⟩:∃F,Value.slice (some ⟨w.heap.size,0,none⟩) 1 1=F:=⟨_,rfl⟩;rw[A] at D ⊢;generalize w.alloc (.cells #[.int .u8 34] 5)=wA at *;obtain⟨b,V⟩:∃b,w.heap.size=b:=⟨_,rfl⟩;rw[V] at D J;go_wp2_with fail
 go_loopg [3,9] s.length (fun M s3 s9 wr=>∃i:Nat,i+M=s.length/\s9=.int .i64 (i:Int)/\wr.ownsRow b 5 1 s3 ([34]++(s.take i).flatMap iQ).length (Lib.byteCells ([34]++(s.take i).flatMap iQ))/\Below b w wr)
 case atStart=>exact⟨0,by omega,rfl,D,J⟩
 case round=>
  obtain⟨i,T,rfl,f,q⟩:=hrel;by_cases S:(i:Int)<(s.length:Int)
  ·have v:i<s.length:=by omega
   have r:(s.take (i+1)).flatMap iQ=(s.take i).flatMap iQ++iQ s[i]:=by
    rw[List.take_succ_eq_append_getElem v,List.flatMap_append];simp
   have u:=wD (s.take i);rw[List.length_take] at u;have B:([34]++(s.take i).flatMap iQ).length<=300001:=by rw[length_append];simp only[length_cons,length_nil];omega
   have y:Aside _:=r;clear r;go_upto_region 6 with fail
   have j:∀h,({ data:=s.toArray }:ByteArray)[i]'h=s[i]:=fun _=>rfl;rw[j];clear j;generalize s[i]=c at *;have hx:=c.toNat_lt;go_cut [24] (fun s24 wc=>s24=.bool (decide (32<c.toNat/\c.toNat<=126/\c.toNat≠37))/\wc=wr)
   case first=>
    generalize c.toNat=x at *;by_cases I:32<x
    ·by_cases H:x<=126
     ·by_cases G:x=37
      ·subst G;go_wp2_with fail
       go_meet
       case rel=>exact⟨by simp,rfl⟩
      ·have h4:((x:Int) != 37)=true:=by simp;omega
       go_wp2_with fail
       go_meet
       case rel=>exact⟨by simp[I,H,G],rfl⟩
     ·go_wp2_with fail
      go_meet
      case rel=>exact⟨by simp[H],rfl⟩
    ·go_wp2_with fail
     go_meet
     case rel=>exact⟨by simp[I],rfl⟩
   case rest=>
    obtain⟨rfl,R⟩:=hcut;subst wc;by_cases p:32<c.toNat/\c.toNat<=126/\c.toNat≠37
    ·have o:iQ c=[c]:=if_pos p;rw[o] at y;rw[decide_eq_true p];clear p o;obtain⟨C,k,m,a,d,g⟩:=wU f (by have:=q.size;omega) [c] (by rw[List.length_singleton];omega);rw[List.append_assoc,<-y.out] at d a;obtain⟨n,l⟩:∃n,([34]++(s.take (i+1)).flatMap iQ).length=n:=⟨_,rfl⟩;rw[l] at d a;have E:Aside _:=l;clear l;go_wp2_with (at_builtin;refine gZ rfl _ _ 34 34 rfl _ _ _ m rfl rfl a ?_)
     go_roundg (gk-1)
     case measure=>omega
     case rel=>exact⟨i+1,by omega,by go_num,by rw[E.out];exact d,q.trans g⟩
    ·have o:iQ c=[37,xS (c.toNat / 16),xS (c.toNat % 16)]:=if_neg p;rw[o] at y;rw[decide_eq_false p];clear p o;obtain⟨C,k,m,a,d,g⟩:=wU (w:=wr.drew) f (by have:=q.size;show b<=wr.heap.size;omega) [37,xS (c.toNat / 16),xS (c.toNat % 16)] (by simp only[length_cons,length_nil];omega);rw[List.append_assoc,<-y.out] at d a;obtain⟨n,l⟩:∃n,([34]++(s.take (i+1)).flatMap iQ).length=n:=⟨_,rfl⟩;rw[l] at d a;have E:Aside _:=l;clear l;have t:∀L,(Builtin.append_ #[34,34] L #[u3,.slice (some ⟨wr.heap.size,0,none⟩) 3 3]).run prog (wr.alloc (.cells #[.int .u8 37,.int .u8 ((xS (c.toNat / 16)).toNat:Int),.int .u8 ((xS (c.toNat % 16)).toNat:Int)] 5)).drew=.ok (.slice C n k) m:=a;have HR:Aside _:=t;clear a t;have Y:∀w,(Instr.index 9 (.string { data:=#[48,49,50,51,52,53,54,55,56,57,97,98,99,100,101,102] }) (.int .u8 ((c.toNat:Int) / 16))).run prog w=.ok (.int .u8 ((xS (c.toNat / 16)).toNat:Int)) w:=fun w=>by
      have:=xJ (c.toNat / 16) (by omega) w;rwa[show ((c.toNat / 16:Nat):Int)=(c.toNat:Int) / 16 by omega] at this
     have X:∀w,(Instr.index 9 (.string { data:=#[48,49,50,51,52,53,54,55,56,57,97,98,99,100,101,102] }) (.int .u8 ((c.toNat:Int) % 16))).run prog w=.ok (.int .u8 ((xS (c.toNat % 16)).toNat:Int)) w:=fun w=>by
      have:=xJ (c.toNat % 16) (by omega) w;rwa[show ((c.toNat % 16:Nat):Int)=(c.toNat:Int) % 16 by omega] at this
     have W:bits BinOp.and .u8 (c.toNat:Int) 15=(c.toNat:Int) % 16:=Ub ⟨c.toNat,by omega⟩;go_upto_region 8 with fail
     go_region_held3 (fun _=>True) (trivial) (first
      |(refine pW rfl (.tmp 29) (.tmp 36) 34 rfl _ _ _ m rfl rfl (HR.out _) ?_))
     all_goals
      clear Y X W;go_wp2_with fail
      go_roundg (gk-1)
      case measure=>omega
      case rel=>exact⟨i+1,by omega,by go_num,by rw[E.out];exact d,q.trans ⟨g.os,g.tape,g.output,g.size,g.block⟩⟩
  ·have v:i=s.length:=by omega
   rw[v,List.take_length] at f;clear v;have B:=wD s;obtain⟨C,k,m,a,d,g⟩:=wU f (by have:=q.size;omega) [34] (by simp only[length_append,length_cons,length_nil];omega);have U:=Tk d (by simp);have Z:Aside (qx s=[34]++s.flatMap iQ++[34]):=rfl;generalize [34]++s.flatMap iQ++[34]=l9 at *;go_wp2_with (at_builtin;refine gZ rfl _ _ 34 34 rfl _ _ _ m rfl rfl a ?_)
   go_ret;rw[Z.out];exact⟨rfl,q.trans g⟩
end Go.Proofs.YtippochapiolpaaGreatDoor

/- Ours. -/
import Derived.Test.YtippochapiolpaaGreatDoorZLed
import Derived.Test.YtippochapiolpaaGreatDoorDRw
import Derived.Test.YtippochapiolpaaGreatDoorPool
set_option maxHeartbeats 4000000
set_option maxRecDepth 100000
namespace Go.Proofs.YtippochapiolpaaGreatDoor
open Go.Proofs.Tryz(prog)
open Nat(le_refl)
open Go.RowKit
section
variable {w w':World}{b s t:Nat}{U M:Nat→Int}{a:Int}
theorem Hd.Df(h:Hd w b s t U M a)(O:Fit U)(y:Fit M)(F:Option Addr)(c cap:Nat)(q:Nat->Want)(H:acO w F c q)(E:0<c)(hl:c<=1000):Calls prog 291 #[lq b,.slice F c cap] w fun e r=>
  (uw U M q c/\e=.returned .nilIface/\Hd r b s t (upon U q c) M a/\w.grownBy r (some b))\/
  ∃p,p<c/\uw U M q p/\fault U M q p≠0/\∃x,e=.returned (atv x)/\w.heap.size<=x/\AtB r x (fault U M q p) p/\Below w.heap.size w r:=by
 have I:((c:Int)==0)=false:=by simp;omega
 have K:(c:Int)<=1000:=by omega
 have u0:w.cell? ⟨b,2,none⟩=some (.int .i64 (U 0)):=h.has 0 (by omega);have u1:w.cell? ⟨b,3,none⟩=some (.int .i64 (U 1)):=h.has 1 (by omega);have u2:w.cell? ⟨b,4,none⟩=some (.int .i64 (U 2)):=h.has 2 (by omega);have m0:w.cell? ⟨b,5,none⟩=some (.int .i64 (M 0)):=h.may 0 (by omega);have m1:w.cell? ⟨b,6,none⟩=some (.int .i64 (M 1)):=h.may 1 (by omega);have m2:w.cell? ⟨b,7,none⟩=some (.int .i64 (M 2)):=h.may 2 (by omega);go_enter Tryz.func291,Tryz.ntmps291
 go_wp2_with fail
 have W:oV (w.alloc (.cells #[.int .i64 (U 0),.int .i64 (U 1),.int .i64 (U 2),.int .i64 (M 0),.int .i64 (M 1),.int .i64 (M 2)] 119)) w.heap.size U M:=MG w U M 119;have Y:Below w.heap.size w (w.alloc (.cells #[.int .i64 (U 0),.int .i64 (U 1),.int .i64 (U 2),.int .i64 (M 0),.int .i64 (M 1),.int .i64 (M 2)] 119)):=(Below.refl _ _).alloc (le_refl _) _;go_loopg [22] c (fun k s22 wr=>∃j:Nat,j+k=c/\s22=.int .i64 j/\uw U M q j/\oV wr w.heap.size (upon U q j) M/\Below w.heap.size w wr)
 case atStart=>exact⟨0,by omega,rfl,fun _ h=>absurd h (Nat.not_lt_zero _),W,Y⟩
 case round=>
  obtain⟨j,hj,rfl,hF,L,B⟩:=hrel;by_cases J:(j:Int)<(c:Int)
  ·rcases H with h0|⟨g,f,rfl,o,v⟩
   ·exfalso;omega
   obtain⟨S,R⟩:=v j (by omega);have d0:wr.cell? ⟨g,f+j*2,none⟩=some (.int .i64 (q j).kind):=by rw[B.cell (p:=⟨g,f+j*2,none⟩) o];exact S
   have d1:wr.cell? ⟨g,f+j*2+1,none⟩=some (.int .i64 (q j).n):=by rw[B.cell (p:=⟨g,f+j*2+1,none⟩) o];exact R
   have l:=uw.fit O y hF;have G:=L.more (.cells #[.int .i64 (q j).kind,.int .i64 (q j).n] 328);have D:Below w.heap.size w (wr.alloc (.cells #[.int .i64 (q j).kind,.int .i64 (q j).n] 328)):=B.alloc (by have:=B.size;omega) _;have u:=kU hF;by_cases n:fault U M q j=0
   ·have z:=zh G l y _ _ n;go_wp2_with fail
    refine z.mono ?_;rintro e m ⟨rfl,V,Q⟩;go_wp2_with fail
    go_roundg (gk-1)
    case measure=>omega
    case rel=>exact⟨j+1,by omega,by go_num,u.out.next n,V,jG D Q (le_refl _)⟩
   ·have z:=zi G l y _ _ n;go_wp2_with fail
    refine z.mono ?_;rintro e m ⟨rfl,T⟩;have C:Below w.heap.size w m:=D.trans (T.mono D.size);have hc:(why (upon U q j) M (q j).kind (q j).n != 0)=true:=by simpa[fault] using n
    have X:=kU n;go_wp2_with fail
    go_ret;refine .inr ⟨j,by omega,u.out,X.out,m.heap.size,rfl,C.size,?_,C.alloc C.size _⟩;show (m.heap.push _)[m.heap.size]? = _;rw[Array.getElem?_push,if_pos rfl];rfl
  ·obtain rfl:j=c:=by omega
   have t0:=L.has 0 (by omega);have t1:=L.has 1 (by omega);have t2:=L.has 2 (by omega);have t3:wr.cell? ⟨w.heap.size,3,none⟩=some (.int .i64 (M 0)):=L.may 0 (by omega);have t4:wr.cell? ⟨w.heap.size,4,none⟩=some (.int .i64 (M 1)):=L.may 1 (by omega);have Z:wr.cell? ⟨w.heap.size,5,none⟩=some (.int .i64 (M 2)):=L.may 2 (by omega);have d:Hd wr b s t U M a:=h.below B;have s0:wr.cell? ⟨b,2,none⟩=some (.int .i64 (U 0)):=d.has 0 (by omega);have s1:wr.cell? ⟨b,3,none⟩=some (.int .i64 (U 1)):=d.has 1 (by omega);have s2:wr.cell? ⟨b,4,none⟩=some (.int .i64 (U 2)):=d.has 2 (by omega);have s3:wr.cell? ⟨b,5,none⟩=some (.int .i64 (M 0)):=d.may 0 (by omega);have s4:wr.cell? ⟨b,6,none⟩=some (.int .i64 (M 1)):=d.may 1 (by omega);have s5:wr.cell? ⟨b,7,none⟩=some (.int .i64 (M 2)):=d.may 2 (by omega);have f0:=d.free 2;have f1:=d.free 3;have f2:=d.free 4;have f3:=d.free 5;have f4:=d.free 6;have f5:=d.free 7;have A:=kU (d.M9 (upon U q j) M);have P:=kU (aP (show w.grownBy wr (some b) from⟨B.os,B.tape,B.output,B.size,fun i N _=>B.block i N⟩) (CU wr b (.int .i64 (upon U q j 0)) (.int .i64 (upon U q j 1)) (.int .i64 (upon U q j 2)) (.int .i64 (M 0)) (.int .i64 (M 1)) (.int .i64 (M 2))));have u:=kU hF;clear d L B h hF;go_wp2_with fail
   go_ret;exact .inl ⟨u.out,rfl,A.out,P.out⟩
def QA(U M:Nat->Int)(k n:Int):Nat->Int:=if why U M k n=0 then after U k n else U
theorem iy{x:Option Nat}(h:Below w.heap.size w w'):w.grownBy w' x:=⟨h.os,h.tape,h.output,h.size,fun i a _=>h.block i a⟩
theorem Hd.DV(h:Hd w b s t U M a)(D:Fit U)(F:Fit M)(k n:Int)(z:w.cell? ⟨0,0,none⟩=some iA)(_hgb:0≠b):Calls prog 221 #[wp b,.int .i64 k,.int .i64 n] w fun e c=>e=.returned (aI (why U M k n))/\Hd c b s t (QA U M k n) M a/\w.grownBy c (some b):=by
 have r:∀V f,Below w.heap.size w V->V.cell? ⟨w.heap.size,0,none⟩=some (.int .i64 k)->V.cell? ⟨w.heap.size,1,none⟩=some (.int .i64 n)->Calls prog 291 #[lq b,.slice (some ⟨w.heap.size,0,none⟩) 1 f] V fun e c=>
  (why U M k n=0/\e=.returned .nilIface/\Hd c b s t (QA U M k n) M a/\w.grownBy c (some b))\/
  (why U M k n≠0/\∃x,e=.returned (atv x)/\Calls prog 14 #[atv x] c fun e m=>e=.returned (.int .i64 (why U M k n))/\Hd m b s t (QA U M k n) M a/\w.grownBy m (some b)):=fun V f o q v=>by
  refine((h.below o).Df D F _ 1 f (fun _=>⟨k,n⟩) (.inr ⟨w.heap.size,0,rfl,World.block_lt_of_cell? V _ q,fun i S=>?_⟩) (by omega) (by omega)).mono ?_
  ·have:i=0:=by omega
   subst this;exact⟨q,v⟩
  ·rintro e c (⟨hF,rfl,J,g⟩|⟨p,R,hF,B,x,rfl,Q,u,C⟩)
   ·have j:why U M k n=0:=hF 0 (by omega);refine .inl ⟨j,rfl,?_,aP (iy o) g⟩;unfold QA;rw[if_pos j];exact J
   ·have:p=0:=by omega
    subst this;have l:why U M k n≠0:=B;have d:Below w.heap.size w c:=o.trans (C.mono o.size);refine .inr ⟨l,x,rfl,(V7 x _ _ c u.is ?_).mono ?_⟩
    ·rw[d.cell (p:=⟨0,0,none⟩) (World.block_lt_of_cell? w _ z)];exact z
    ·rintro e m ⟨rfl,N⟩;have A:=d.trans (N.mono d.size);refine⟨rfl,?_,iy A⟩;unfold QA;rw[if_neg l];exact h.below A
 have O:Aside _:=r;go_enter Tryz.func221,Tryz.ntmps221
 go_wp2_with fail
 have u:Below w.heap.size w (w.alloc (.cells #[.int .i64 k,.int .i64 n] 328)):=(Below.refl _ w).alloc (le_refl _) _;obtain⟨q,v⟩:=zD w (.int .i64 k) (.int .i64 n) 328;have G:=O.out _ 1 u q v;refine G.mono ?_;rintro e P (⟨j,rfl,I,L⟩|⟨j,x,rfl,E⟩)
 ·have y:Aside (why U M k n=0):=j;go_wp2_with fail
  go_ret;exact⟨by rw[y.out];rfl,I,L⟩
 ·have y:Aside (why U M k n≠0):=j;go_wp2_with (go_at_call 14;refine E.mono ?_;rintro e m ⟨rfl,H,K⟩)
  go_ret;exact⟨by rw[ax y.out];rfl,H,K⟩
end
section
variable {w w':World}{b s t:Nat}{U M:Nat→Int}{a:Int}
theorem Hd.qG(h:Hd w b s t U M a)(hU:Fit U)(hM:Fit M)(Y:w.cell? ⟨0,0,none⟩=some iA)(X:0≠b)(k n:Int){fn:Nat}{lb:Array Value}(ef:∀v w,(callFunc fn v).run prog w=.ok (.enter fn v) w){R:Int->World->Prop}
 (E:why U M k n≠0->∀V,Hd V b s t U M a->w.grownBy V (some b)->R (why U M k n) V)
 (H:why U M k n=0->∀V,Hd V b s t (after U k n) M a->w.grownBy V (some b)->Calls prog fn lb V fun y d=>∃c,y=.returned (aI c)/\(c=0->R 0 d)/\(c≠0->Hd d b s t (after U k n) M a/\(∀i,w.heap.size<=i->i<V.heap.size->d.heap[i]? = V.heap[i]?)/\∀Q,Hd Q b s t U M a->d.grownBy Q (some b)->R c Q)) :
 Calls prog 150 #[wp b,.int .i64 k,.int .i64 n,.func (.func fn) #[] lb] w fun y o=>∃c,y=.returned (aI c)/\R c o:=by
 have hbl:=h.lt;have u0:w.cell? ⟨b,2,none⟩=some (.int .i64 (U 0)):=h.has 0 (by omega);have u1:w.cell? ⟨b,3,none⟩=some (.int .i64 (U 1)):=h.has 1 (by omega);have u2:w.cell? ⟨b,4,none⟩=some (.int .i64 (U 2)):=h.has 2 (by omega);have m0:w.cell? ⟨b,5,none⟩=some (.int .i64 (M 0)):=h.may 0 (by omega);have m1:w.cell? ⟨b,6,none⟩=some (.int .i64 (M 1)):=h.may 1 (by omega);have m2:w.cell? ⟨b,7,none⟩=some (.int .i64 (M 2)):=h.may 2 (by omega);have HN:Aside _:=E;have HD:Aside _:=H;clear E H;go_enter Tryz.func150,Tryz.ntmps150
 go_upto_region 2 with fail
 have N:Below w.heap.size w (w.alloc (.cells (six U M) 119)):=(Below.refl _ w).alloc (le_refl _) _;have D:(w.alloc (.cells (six U M) 119)).heap[w.heap.size]? = some (.cells (six U M) 119):=by
  show (w.heap.push _)[w.heap.size]? = _;rw[Array.getElem?_push,if_pos rfl]
 have hAt:∀V,w.grownBy V (some b)->w.heap.size<=V.heap.size:=fun V g=>g.size;have G:(w.alloc (.cells (six U M) 119)).cell? ⟨0,0,none⟩=some iA:=by rw[N.cell (p:=⟨0,0,none⟩) (World.block_lt_of_cell? w _ Y)];exact Y
 have L:=(h.below N).DV hU hM k n G X;have x:=lt_of_heap D;obtain⟨W,Z⟩:∃W,w.alloc (.cells (six U M) 119)=W:=⟨_,rfl⟩;obtain⟨z,hz⟩:∃z,w.heap.size=z:=⟨_,rfl⟩;have S:b≠z:=by omega
 rw[Z] at N D L x;rw[hz] at D x;have BA:Aside _:=N;have HX:Aside _:=D;have HZ:Aside _:=hz;clear N D G Y h hU u0 u1 u2 m0 m1 m2 hM hAt;show Code.wp _ _ _ _ (w.alloc (.cells (six U M) 119));rw[Z];clear Z;by_cases q:why U M k n=0
 ·have r:Calls prog 221 #[wp b,.int .i64 k,.int .i64 n] W fun e o=>e=.returned .nilIface/\Aside (Hd o b s t (after U k n) M a/\W.grownBy o (some b)):=by
   refine L.mono ?_;rintro e o ⟨rfl,l,u⟩;unfold QA at l;rw[if_pos q] at l;exact⟨by rw[q];rfl,l,u⟩
  have hD:=HD.out q;have P:Aside _:=hD;clear L HD HN q hD;go_upto_region 5 with (go_at_call 221;refine r.mono ?_;rintro e C ⟨rfl,T⟩)
  obtain⟨l,u⟩:=T.out;have gg:w.grownBy C (some b):=aP (iy BA.out) u;have A:C.heap[z]? = some (.cells (six U M) 119):=(u.block z x (fun e=>S (Option.some.inj e).symm)).trans HX.out;have m:=P.out C l gg;have O:Aside _:=A;have afm:z<C.heap.size:=lt_of_heap A;clear r P A l u gg BA HX;go_upto_region 6 with (go_at_fn fn;refine m.mono ?_;rintro y d ⟨c,rfl,J,I⟩)
  have Zy:Aside _:=J;have QN:Aside _:=I;clear J I m;by_cases B:c=0
  ·have K:=Zy.out B;have HR0:Aside _:=K;clear Zy QN K;subst B;rw[aB];go_wp2_with fail
   go_ret;exact⟨0,rfl,HR0.out⟩
  ·obtain⟨j,F,hR⟩:=QN.out B;have f:d.heap[z]? = some (.cells (six U M) 119):=(F z (by rw[<-HZ.out];exact le_refl _) afm).trans O.out;have t0:d.cell? ⟨z,0,none⟩=some (.int .i64 (U 0)):=by rw[cell_of_row d z 0 _ _ _ f];rfl
   have t1:d.cell? ⟨z,1,none⟩=some (.int .i64 (U 1)):=by rw[cell_of_row d z 1 _ _ _ f];rfl
   have t2:d.cell? ⟨z,2,none⟩=some (.int .i64 (U 2)):=by rw[cell_of_row d z 2 _ _ _ f];rfl
   have t3:d.cell? ⟨z,3,none⟩=some (.int .i64 (M 0)):=by rw[cell_of_row d z 3 _ _ _ f];rfl
   have t4:d.cell? ⟨z,4,none⟩=some (.int .i64 (M 1)):=by rw[cell_of_row d z 4 _ _ _ f];rfl
   have t5:d.cell? ⟨z,5,none⟩=some (.int .i64 (M 2)):=by rw[cell_of_row d z 5 _ _ _ f];rfl
   have s0:d.cell? ⟨b,2,none⟩=some (.int .i64 (after U k n 0)):=j.has 0 (by omega);have s1:d.cell? ⟨b,3,none⟩=some (.int .i64 (after U k n 1)):=j.has 1 (by omega);have s2:d.cell? ⟨b,4,none⟩=some (.int .i64 (after U k n 2)):=j.has 2 (by omega);have s3:d.cell? ⟨b,5,none⟩=some (.int .i64 (M 0)):=j.may 0 (by omega);have s4:d.cell? ⟨b,6,none⟩=some (.int .i64 (M 1)):=j.may 1 (by omega);have s5:d.cell? ⟨b,7,none⟩=some (.int .i64 (M 2)):=j.may 2 (by omega);have f0:=j.free 2;have f1:=j.free 3;have f2:=j.free 4;have f3:=j.free 5;have f4:=j.free 6;have f5:=j.free 7;have fin:=kU (hR _ (j.M9 U M) (CU d b (.int .i64 (U 0)) (.int .i64 (U 1)) (.int .i64 (U 2)) (.int .i64 (M 0)) (.int .i64 (M 1)) (.int .i64 (M 2))));have HCN:Aside (c≠0):=B;rw[ax B];clear f j F hR Zy QN B O;go_wp2_with fail
   go_ret;exact⟨c,by rw[ax HCN.out];rfl,fin.out⟩
 ·have r:Calls prog 221 #[wp b,.int .i64 k,.int .i64 n] W fun e o=>e=.returned (eF (why U M k n))/\Aside (Hd o b s t U M a/\W.grownBy o (some b)):=by
   refine L.mono ?_;rintro e o ⟨rfl,l,u⟩;unfold QA at l;rw[if_neg q] at l;exact⟨by rw[ax q],l,u⟩
  have hN:=HN.out q;have Zw:Aside _:=hN;have HW:Aside _:=q;clear L HD HN q hN;go_wp2_with (go_at_call 221;refine r.mono ?_;rintro e C ⟨rfl,T⟩)
  go_ret;obtain⟨l,u⟩:=T.out;exact⟨_,by rw[ax HW.out];rfl,Zw.out _ l (aP (iy BA.out) u)⟩
theorem Aj(b:Nat)(k n:Int){s r:Nat}{H G:Array Value}(L:∀a w,(callFunc s a).run prog w=.ok (.enter s a) w)(K:∀a w,(callFunc r a).run prog w=.ok (.enter r a) w){R:Int->World->Prop}
 (i:Calls prog s H w fun y x=>∃c,y=.returned (aI c)/\(c≠0->R c x)/\(c=0->∃d,Calls prog 221 #[wp b,.int .i64 k,.int .i64 n] x fun y u=>y=.returned (aI d)/\(d=0->R 0 u)/\(d≠0->Calls prog r G u fun y F=>∃v,y=.returned v/\R d F))) :
 Calls prog 154 #[wp b,.int .i64 k,.int .i64 n,.func (.func s) #[] H,.func (.func r) #[] G] w fun y I=>∃c,y=.returned (aI c)/\R c I:=by
 go_enter Tryz.func154,Tryz.ntmps154
 go_upto_region 2 with (go_at_fn s;refine i.mono ?_;rintro y x ⟨c,rfl,o,p⟩)
 have B:Aside _:=o;have A:Aside _:=p;clear i o p;by_cases h:c=0
 ·obtain⟨d,m⟩:=A.out h;clear B A;subst h;rw[aB];go_upto_region 5 with (go_at_call 221;refine m.mono ?_;rintro y u ⟨rfl,l,j⟩)
  have e:Aside _:=j;have f:Aside _:=l;clear m j l;by_cases g:d=0
  ·have q:=f.out g;have C:Aside _:=q;clear f e q;subst g;rw[aB];go_wp2_with fail
   go_ret;exact⟨0,rfl,C.out⟩
  ·have z:=e.out g;have D:Aside (d≠0):=g;rw[ax g];clear f e g;go_wp2_with (go_at_fn r;refine z.mono ?_;rintro y F ⟨v,rfl,t⟩)
   go_ret;exact⟨d,by rw[ax D.out];rfl,t⟩
 ·have t:=B.out h;have J:Aside _:=t;have E:Aside (c≠0):=h;rw[ax h];clear B A h t;go_wp2_with fail
  go_ret;exact⟨c,by rw[ax E.out];rfl,J.out⟩
def QQ(U:Nat->Int)(x y:Int):Nat->Int:=fun k=>if k=0 then x else if k=1 then y else U k
theorem nL{V:World}{b:Nat}(a:V.heap=w.heap)(e:V.os=w.os)(d:V.tape=w.tape)(c:V.output=w.output):w.grownBy V (some b):=⟨e,d,c,by rw[a];exact le_refl _,fun i _ _=>by rw[a]⟩
theorem Hd.xM(_h:Hd w b s t U M a)(m:Fit U)(n:Fit M)(i:w.cell? ⟨0,0,none⟩=some iA)(c:0≠b)(k:Nat)(r:k<3){x:Int}(q:0<=x/\x<=U k)(V:World)(l:w.grownBy V (some b))(o:Hd V b s t U M a):Calls prog 221 #[wp b,.int .i64 (k:Int),.int .i64 (x-U k)] V fun y f=>y=.returned .nilIface/\Hd f b s t (put U k x) M a/\w.grownBy f (some b):=by
 have j:=m k;have h:why U M (k:Int) (x-U k)=0:=by
  unfold why;simp only[Int.toNat_natCast];rw[if_neg (by omega),if_neg (by omega),if_neg (by omega),if_neg (by omega)]
 have g:V.cell? ⟨0,0,none⟩=some iA:=by
  rw[World.cell?_of_block (w:=w) (a:=⟨0,0,none⟩) (l.block _ (World.block_lt_of_cell? w _ i) (fun e=>c (Option.some.inj e)))];exact i
 refine(o.DV m n k (x-U k) g c).mono ?_;rintro y f ⟨rfl,d,p⟩;unfold QA at d;rw[if_pos h] at d;refine⟨by rw[h];rfl,?_,aP l p⟩;unfold after at d;rw[Int.toNat_natCast,show U k+(x-U k)=x by omega] at d;exact d
theorem Hd.settle(h:Hd w b s t U M a)(q:Fit U)(H:Fit M)(B:w.cell? ⟨0,0,none⟩=some iA)(g:0≠b){x y:Int}(E:0<=x/\x<=U 0)(S:0<=y/\y<=U 1)
 (W:∀V,w.grownBy V (some b)->Calls prog 143 #[wp s] V fun e c=>e=.returned (.int .i64 x)/\c=V)
 (T:∀V,w.grownBy V (some b)->Calls prog 145 #[wp t] V fun e c=>e=.returned (.int .i64 y)/\Below V.heap.size V c) :
 Calls prog 149 #[wp b] w fun e c=>e=.returned (.tuple #[])/\Hd c b s t (QQ U x y) M a/\w.grownBy c (some b):=by
 have u0:=q 0;have u1:=q 1;have hw0:IntKind.i64.wrap (x-U 0)=x-U 0:=by rw[IntKind.wrap_i64];omega
 have hw1:IntKind.i64.wrap (y-U 1)=y-U 1:=by rw[IntKind.wrap_i64];omega
 have l:=fun V (i:w.grownBy V (some b)) (j:Hd V b s t U M a)=>j.used 0 (by omega) (by omega);have o:∀V,w.grownBy V (some b)->Hd V b s t U M a->Calls prog 221 #[wp b,.int .i64 (0:Int),.int .i64 (x-U 0)] V fun y c=>y=.returned .nilIface/\Hd c b s t (put U 0 x) M a/\w.grownBy c (some b):=fun V i j=>h.xM q H B g 0 (by omega) E V i j;have p:Fit (put U 0 x):=q.put 0 x E.1 (by omega);have f:put (put U 0 x) 1 y=QQ U x y:=by
  funext k;unfold put QQ;by_cases m:k=1
  ·subst m;simp
  ·rw[if_neg m,if_neg m]
 have c0:w.cell? ⟨b,0,none⟩=some (wp s):=h.at 0;have J:Aside (Hd w b s t U M a):=h;have K:Aside _:=f;have n:∀V,w.grownBy V (some b)->Hd V b s t (put U 0 x) M a->Calls prog 221 #[wp b,.int .i64 (1:Int),.int .i64 (y-U 1)] V fun P c=>P=.returned .nilIface/\Hd c b s t (QQ U x y) M a/\w.grownBy c (some b):=fun V i j=>by
  have G:V.cell? ⟨0,0,none⟩=some iA:=by
   rw[World.cell?_of_block (w:=w) (a:=⟨0,0,none⟩) (i.block _ (World.block_lt_of_cell? w _ B) (fun e=>g (Option.some.inj e)))];exact B
  have:=j.xM p H G g 1 (by omega) (x:=y) (by rw[oO _ _ _ _ (by omega)];exact S) V (nL rfl rfl rfl rfl) j;rw[oO _ _ _ _ (by omega)] at this;refine this.mono ?_;rintro P c ⟨rfl,a1,a2⟩;rw[f] at a1;exact⟨rfl,a1,aP i a2⟩
 have L:=fun V (i:w.grownBy V (some b)) (j:Hd V b s t (put U 0 x) M a)=>j.used 1 (by omega) (by omega);have m:put U 0 x (1:Int).toNat=U 1:=oO _ _ _ _ (by decide);rw[m] at L;have e0:U (0:Int).toNat=U 0:=rfl;rw[e0] at l;generalize put U 0 x=U2 at *;generalize U 0=q0 at *;generalize U 1=q1 at *;have QN:Aside _:=n;have N:Aside _:=L;have HT:Aside _:=T;clear n L f K u0 u1 q H B g E S p m e0 T;go_enter Tryz.func149,Tryz.ntmps149
 go_upto_region 0 with fail
 go_region_held3 (fun c=>c.cell? ⟨b,0,none⟩=some (wp s)) (first|exact c0|exact d0) (first
  |(go_at_call 143;refine(W _ (nL (by rfl) (by rfl) (by rfl) (by rfl))).mono ?_;rintro e D ⟨rfl,F⟩;subst D)
  |(go_at_call 222;refine(l _ (nL (by rfl) (by rfl) (by rfl) (by rfl)) (J.out.keep (by rfl))).mono ?_;rintro e D ⟨rfl,F⟩;subst D)
  |(go_at_call 221;refine(o _ (nL (by rfl) (by rfl) (by rfl) (by rfl)) (J.out.keep (by rfl))).mono ?_;rintro e d ⟨rfl,C,g2⟩;have d0:d.cell? ⟨b,0,none⟩=some (wp s):=C.at 0))
 all_goals
  clear c0 W l o J;have H2:Aside (Hd d b s t U2 M a):=C;have G2:Aside (w.grownBy d (some b)):=g2;have d1:d.cell? ⟨b,1,none⟩=some (wp t):=C.at 1;clear C g2;go_upto_region 1 with fail
  have r:∀V:World,V.heap=d.heap->V.os=d.os->V.tape=d.tape->V.output=d.output->Calls prog 145 #[wp t] V fun e c=>e=.returned (.int .i64 y)/\Hd c b s t U2 M a/\w.grownBy c (some b):=fun V R v2 v3 v4=>by
   have Y:w.grownBy V (some b):=nK G2.out R v2 v3 v4;refine(HT.out V Y).mono ?_;rintro e Q ⟨rfl,b3⟩;have i:Hd V b s t U2 M a:=H2.out.keep (by rw[R]);exact⟨rfl,i.below b3,aP Y (iy b3)⟩
  have O:Aside _:=r;have v:w.grownBy d.drew (some b):=nK G2.out rfl rfl rfl rfl;have u:Hd d.drew b s t U2 M a:=H2.out.keep rfl;have A:Aside (w.grownBy d.drew (some b)):=v;have z:Aside (Hd d.drew b s t U2 M a):=u;clear r HT v u;go_region_held3 (fun c=>c.cell? ⟨b,1,none⟩=some (wp t)) (first|exact d1|exact d3) (first
   |(go_at_call 145;refine(O.out _ (by rfl) (by rfl) (by rfl) (by rfl)).mono ?_;rintro e Q ⟨rfl,I,Z⟩;have d3:Q.cell? ⟨b,1,none⟩=some (wp t):=I.at 1)
   |(go_at_call 222;refine(N.out _ ?_ ?_).mono ?_;(first|exact Z|exact A.out);(first|exact I|exact z.out);rintro e w4 ⟨rfl,hw4⟩;subst w4)
   |(go_at_call 221;refine(QN.out _ ?_ ?_).mono ?_;(first|exact Z|exact A.out);(first|exact I|exact z.out);rintro e w5 ⟨rfl,X,g5⟩;have d3:w5.cell? ⟨b,1,none⟩=some (wp t):=X.at 1))
  all_goals
   go_wp2_with fail
   go_end0
   exact⟨rfl,X,g5⟩
end
end Go.Proofs.YtippochapiolpaaGreatDoor

/- Ours. -/
import Derived.Test.YtippochapiolpaaGreatDoorAdd
import Derived.Test.YtippochapiolpaaGreatDoorAtV
import Derived.Deep.DeepCutAuto
import Derived.Deep.Light
set_option maxHeartbeats 2000000
set_option maxRecDepth 100000
namespace Go.Proofs.YtippochapiolpaaGreatDoor
open Go.RowKit
def AtB(w:World)(x:Nat)(c p:Int):Prop:=w.heap[x]? = some (.cells #[.int .i64 c,.int .i64 p] 354)
theorem AtB.is{w:World}{x:Nat}{c p:Int}(h:AtB w x c p):Nt w x c p:=by
 unfold AtB at h;exact⟨by simp[World.cell?,h],by simp[World.cell?,h]⟩
def acO(w:World)(ad:Option Addr)(len:Nat)(q:Nat->Want):Prop:=
 len=0\/∃blk off,ad=some ⟨blk,off,none⟩/\blk<w.heap.size/\∀i,i<len->
  w.cell? ⟨blk,off+i*2,none⟩=some (.int .i64 (q i).kind)/\w.cell? ⟨blk,off+i*2+1,none⟩=some (.int .i64 (q i).n)
theorem jG{w0 w w':World}{t:Nat}(h:Below w0.heap.size w0 w)(g:w.grownBy w' (some t))(b:w0.heap.size<=t):Below w0.heap.size w0 w':=
 ⟨g.os.trans h.os,g.tape.trans h.tape,g.output.trans h.output,Nat.le_trans h.size g.size,fun i a=>(g.block i (Nat.lt_of_lt_of_le a h.size) (fun e=>by cases e;omega)).trans (h.block i a)⟩
def six(U M:Nat->Int):Array Value:=#[.int .i64 (U 0),.int .i64 (U 1),.int .i64 (U 2),.int .i64 (M 0),.int .i64 (M 1),.int .i64 (M 2)]
theorem MG(w:World)(U M:Nat->Int)(t:TypeId):oV (w.alloc (.cells (six U M) t)) w.heap.size U M:=by
 refine⟨fun k a=>?_,fun k a=>?_,fun k _=>?_⟩
 ·match k,a with
  |0,_|1,_|2,_=>simp[six]
 ·match k,a with
  |0,_|1,_|2,_=>simp[six]
 ·simp
theorem oV.like{w:World}{b:Nat}{U M U' c:Nat->Int}(l:oV w b U M)(h:∀k,k<3->U k=U' k)(d:∀k,k<3->M k=c k):oV w b U' c:=
 ⟨fun k a=>by rw[<-h k a];exact l.has k a,fun k a=>by rw[<-d k a];exact l.may k a,l.live⟩
theorem Pj{w:World}{b:Nat}{c d:Nat->Int}(l:oV w b c d)(U M:Nat->Int):oV ((((((w.setCell ⟨b,0,none⟩ (.int .i64 (U 0))).setCell ⟨b,1,none⟩ (.int .i64 (U 1))).setCell ⟨b,2,none⟩ (.int .i64 (U 2))).setCell ⟨b,3,none⟩ (.int .i64 (M 0))).setCell ⟨b,4,none⟩ (.int .i64 (M 1))).setCell ⟨b,5,none⟩ (.int .i64 (M 2))) b U M:=by
 have h:=(((((l.yu 0 (by omega) (U 0)).yu 1 (by omega) (U 1)).yu 2 (by omega) (U 2)).uM 0 (by omega) (M 0)).uM 1 (by omega) (M 1)).uM 2 (by omega) (M 2);refine oV.like h (fun k a=>?_) (fun k a=>?_)
 ·match k,a with
  |0,_|1,_|2,_=>simp[put]
 ·match k,a with
  |0,_|1,_|2,_=>simp[put]
theorem Iw(w:World)(b:Nat)(g f e d c a:Value):w.grownBy ((((((w.setCell ⟨b,0,none⟩ g).setCell ⟨b,1,none⟩ f).setCell ⟨b,2,none⟩ e).setCell ⟨b,3,none⟩ d).setCell ⟨b,4,none⟩ c).setCell ⟨b,5,none⟩ a) (some b):=
 aP (aP (aP (aP (aP (cu _ _ _ _) (cu _ _ _ _)) (cu _ _ _ _)) (cu _ _ _ _)) (cu _ _ _ _)) (cu _ _ _ _)
theorem zi{w:World}{b:Nat}{U M:Nat->Int}(l:oV w b U M)(g:Fit U)(j:Fit M)(k n:Int)(h:why U M k n≠0):Calls Tryz.prog 327 #[lp b,ask k n] w fun e i=>e=.returned (.int .i64 (why U M k n))/\Below w.heap.size w i:=by
 rcases ZZ h with⟨a,e⟩|⟨a,c,e⟩|⟨a,c,f,d,e⟩|⟨a,c,f,d,e⟩|⟨a,c,f,d,m,e⟩
 ·rw[e];exact Yt w b k n a
 ·rw[e];exact Qt w b k n a c
 ·rw[e];exact Qu l g j k n a.1 a.2 c.1 c.2 f d
 ·rw[e];exact Qs l g k n a.1 a.2 c.1 c.2 f d
 ·have:=(g k.toNat).1;exfalso;omega
theorem Df{w:World}{b:Nat}{U M:Nat->Int}(l:oV w b U M)(K:Fit U)(u:Fit M)(D:Option Addr)(a cap:Nat)(q:Nat->Want)(F:acO w D a q)(C:0<a)(hl:a<=1000):Calls Tryz.prog 291 #[lp b,.slice D a cap] w fun e r=>
  (uw U M q a/\e=.returned .nilIface/\oV r b (upon U q a) M/\w.grownBy r (some b))\/
  ∃p,p<a/\uw U M q p/\fault U M q p≠0/\∃x,e=.returned (atv x)/\w.heap.size<=x/\AtB r x (fault U M q p) p/\Below w.heap.size w r:=by
 have G:((a:Int)==0)=false:=by simp;omega
 have I:(a:Int)<=1000:=by omega
 have u0:=l.has 0 (by omega);have u1:=l.has 1 (by omega);have u2:=l.has 2 (by omega);have m0:w.cell? ⟨b,3,none⟩=some (.int .i64 (M 0)):=l.may 0 (by omega);have m1:w.cell? ⟨b,4,none⟩=some (.int .i64 (M 1)):=l.may 1 (by omega);have m2:w.cell? ⟨b,5,none⟩=some (.int .i64 (M 2)):=l.may 2 (by omega);go_enter Tryz.func291,Tryz.ntmps291
 go_wp2_with fail
 have T:oV (w.alloc (.cells #[.int .i64 (U 0),.int .i64 (U 1),.int .i64 (U 2),.int .i64 (M 0),.int .i64 (M 1),.int .i64 (M 2)] 119)) w.heap.size U M:=MG w U M 119;have W:Below w.heap.size w (w.alloc (.cells #[.int .i64 (U 0),.int .i64 (U 1),.int .i64 (U 2),.int .i64 (M 0),.int .i64 (M 1),.int .i64 (M 2)] 119)):=(Below.refl _ _).alloc (Nat.le_refl _) _;go_loopg [22] a (fun k s22 wr=>∃j:Nat,j+k=a/\s22=.int .i64 j/\uw U M q j/\oV wr w.heap.size (upon U q j) M/\Below w.heap.size w wr)
 case atStart=>exact⟨0,by omega,rfl,fun _ h=>absurd h (Nat.not_lt_zero _),T,W⟩
 case round=>
  obtain⟨j,hj,rfl,hF,L,B⟩:=hrel;by_cases H:(j:Int)<(a:Int)
  ·rcases F with h0|⟨f,d,rfl,o,t⟩
   ·exfalso;omega
   obtain⟨Q,P⟩:=t j (by omega);have d0:wr.cell? ⟨f,d+j*2,none⟩=some (.int .i64 (q j).kind):=by rw[B.cell (p:=⟨f,d+j*2,none⟩) o];exact Q
   have d1:wr.cell? ⟨f,d+j*2+1,none⟩=some (.int .i64 (q j).n):=by rw[B.cell (p:=⟨f,d+j*2+1,none⟩) o];exact P
   have g:=uw.fit K u hF;have E:=L.more (.cells #[.int .i64 (q j).kind,.int .i64 (q j).n] 328);have A:Below w.heap.size w (wr.alloc (.cells #[.int .i64 (q j).kind,.int .i64 (q j).n] 328)):=B.alloc (by have:=B.size;omega) _;have s:=kU hF;by_cases n:fault U M q j=0
   ·have v:=zh E g u _ _ n;go_wp2_with fail
    refine v.mono ?_;rintro e m ⟨rfl,S,O⟩;go_wp2_with fail
    go_roundg (gk-1)
    case measure=>omega
    case rel=>exact⟨j+1,by omega,by go_num,s.out.next n,S,jG A O (Nat.le_refl _)⟩
   ·have v:=zi E g u _ _ n;go_wp2_with fail
    refine v.mono ?_;rintro e m ⟨rfl,R⟩;have z:Below w.heap.size w m:=A.trans (R.mono A.size);have hc:(why (upon U q j) M (q j).kind (q j).n != 0)=true:=by simpa[fault] using n
    have V:=kU n;go_wp2_with fail
    go_ret;refine .inr ⟨j,by omega,s.out,V.out,m.heap.size,rfl,z.size,?_,z.alloc z.size _⟩;show (m.heap.push _)[m.heap.size]? = _;rw[Array.getElem?_push,if_pos rfl];rfl
  ·obtain rfl:j=a:=by omega
   have t0:=L.has 0 (by omega);have t1:=L.has 1 (by omega);have t2:=L.has 2 (by omega);have Z:wr.cell? ⟨w.heap.size,3,none⟩=some (.int .i64 (M 0)):=L.may 0 (by omega);have Y:wr.cell? ⟨w.heap.size,4,none⟩=some (.int .i64 (M 1)):=L.may 1 (by omega);have X:wr.cell? ⟨w.heap.size,5,none⟩=some (.int .i64 (M 2)):=L.may 2 (by omega);have c:oV wr b U M:=l.keep (B.block b l.lt);have s0:=c.has 0 (by omega);have s1:=c.has 1 (by omega);have s2:=c.has 2 (by omega);have s3:wr.cell? ⟨b,3,none⟩=some (.int .i64 (M 0)):=c.may 0 (by omega);have s4:wr.cell? ⟨b,4,none⟩=some (.int .i64 (M 1)):=c.may 1 (by omega);have s5:wr.cell? ⟨b,5,none⟩=some (.int .i64 (M 2)):=c.may 2 (by omega);have f0:=c.live 0 (by omega);have f1:=c.live 1 (by omega);have f2:=c.live 2 (by omega);have f3:=c.live 3 (by omega);have f4:=c.live 4 (by omega);have f5:=c.live 5 (by omega);have y:=kU (Pj c (upon U q j) M);have N:=kU (aP (show w.grownBy wr (some b) from⟨B.os,B.tape,B.output,B.size,fun i J _=>B.block i J⟩) (Iw wr b (.int .i64 (upon U q j 0)) (.int .i64 (upon U q j 1)) (.int .i64 (upon U q j 2)) (.int .i64 (M 0)) (.int .i64 (M 1)) (.int .i64 (M 2))));have s:=kU hF;clear c L B l hF;go_wp2_with fail
   go_ret;exact .inl ⟨s.out,rfl,y.out,N.out⟩
end Go.Proofs.YtippochapiolpaaGreatDoor

/- Ours. -/
import Derived.Test.YtippochapiolpaaGreatDoorZFactsG
import Derived.Test.YtippochapiolpaaGreatDoorShelf1
set_option maxHeartbeats 4000000
set_option maxRecDepth 100000
namespace Go.Proofs.YtippochapiolpaaGreatDoor
open Go.Proofs.Tryz(func314 ntmps314 prog underlying97)
open List(getD_eq_getElem?_getD map_cons map_map mem_cons mem_cons_self mem_map pairwise_cons range sum_cons)
open Go.World(cell? cell?_of_block frozen? shape?)
open Nat(add_mul le_refl le_trans mul_assoc zero_add)
open Go.RowKit.Below(heap_alloc)
section
def cat(F:Nat->List Int):Nat->List (Int×Int)
 |0=>[]
 |k+1=>cat F k++(F k).map fun b=>(b,(k:Int))
def lf(F:Nat->List Int):Nat->Nat
 |0=>0
 |k+1=>lf F k+(F k).length*2^k
def toInt(x:Nat×Nat):Int×Int:=((x.1:Int),(x.2:Int))
theorem JE(U:Nat->Bool):∀(m f:Nat),cnt U f m<=m
 |0,_=>le_refl _
 |m+1,f=>by have:=JE U m (f+1);rw[cnt];split<;>omega
theorem MF(F:Nat->List Int):∀(k m:Nat),k<=m->lf F k<=lf F m
 |k,0,h=>by rw[show k=0 by omega];exact le_refl _
 |k,m+1,h=>by
  by_cases e:k=m+1
  ·rw[e];exact le_refl _
  ·have:=MF F k m (by omega);rw[lf];omega
theorem R4(F:Nat->List Int){k m:Nat}(h:k<m):lf F k+(F k).length*2^k<=lf F m:=MF F (k+1) m h
theorem R5(F:Nat->List Int){k m:Nat}(h:k<m):(F k).length<=lf F m:=by
 have:=R4 F h;have a:=Nat.two_pow_pos k;have:=Nat.le_mul_of_pos_right (F k).length a;omega
theorem Eo(F:Nat->List Int)(x:Int×Int):∀k,x∈cat F k↔∃j,j<k/\x.2=(j:Int)/\x.1∈F j
 |0=>by simp[cat]
 |k+1=>by
  rw[cat,List.mem_append,Eo F x k,mem_map];constructor
  ·rintro (⟨j,d,c,a⟩|⟨b,d,rfl⟩)
   ·exact⟨j,by omega,c,a⟩
   ·exact⟨k,by omega,rfl,d⟩
  ·rintro ⟨j,d,c,a⟩;by_cases e:j=k
   ·subst e;exact .inr ⟨x.1,a,by rw[<-c]⟩
   ·exact .inl ⟨j,by omega,c,a⟩
theorem Dj{F:Nat->List Int}{U:Nat->Bool}(c:Can F U):∀k,k<=7->(cat F k).Nodup
 |0,_=>by simp[cat]
 |k+1,h=>by
  rw[cat,List.nodup_append];refine⟨Dj c k (by omega),?_,fun a f b d e=>?_⟩
  ·have:=(c k (by omega)).1;rw[List.Nodup,List.pairwise_map];exact this.imp (fun h e=>by cases e;omega)
  ·subst e;obtain⟨j,i,g,_⟩:=(Eo F a k).1 f;obtain⟨x,_,rfl⟩:=mem_map.1 d;have:(k:Int)=j:=g;omega
theorem Ir{F:Nat->List Int}{U:Nat->Bool}(c:Can F U)(x:Int×Int):x∈cat F 7↔∃j q:Nat,x=toInt (q*2^j,j)/\ug U j q:=by
 rw[Eo];constructor
 ·rintro ⟨j,f,e,d⟩;obtain⟨q,b,a⟩:=((c j f).2 _).1 d;exact⟨j,q,Prod.ext b e,a⟩
 ·rintro ⟨j,q,rfl,a⟩;exact⟨j,by have:=a.1;omega,rfl,((c j (by have:=a.1;omega)).2 _).2 ⟨q,rfl,a⟩⟩
theorem Ba{U:Nat->Bool}{n:Nat}(c:∀f,U f=true->f<n)(x:Int×Int):x∈(blocks U n).map toInt↔∃j q:Nat,x=toInt (q*2^j,j)/\ug U j q:=by
 rw[mem_map];constructor
 ·rintro ⟨⟨b,k⟩,h,rfl⟩;obtain⟨q,rfl,a⟩:=(tZ c b k).1 h;exact⟨k,q,rfl,a⟩
 ·rintro ⟨j,q,rfl,a⟩;exact⟨_,(tZ c _ _).2 ⟨q,rfl,a⟩,rfl⟩
theorem Ab:∀(l m:List (Int×Int)),l.Pairwise (fun x y=>x.1<y.1)->m.Pairwise (fun x y=>x.1<y.1)->(∀x,x∈l↔x∈m)->l=m
 | [],[],_,_,_=>rfl
 | [],b::m,_,_,h=>absurd ((h b).2 mem_cons_self) (by simp)
 |a::l,[],_,_,h=>absurd ((h a).1 mem_cons_self) (by simp)
 |a::l,b::m,hl,hm,h=>by
  rw[pairwise_cons] at hl hm;have e:a=b:=by
   rcases mem_cons.1 ((h a).1 mem_cons_self) with e|e
   ·exact e
   ·rcases mem_cons.1 ((h b).2 mem_cons_self) with d | d
    ·exact d.symm
    ·have:=hm.1 a e;have:=hl.1 b d;omega
  subst e;congr 1
  refine Ab l m hl.2 hm.2 fun x=>?_;constructor
  ·intro c;rcases mem_cons.1 ((h x).1 (List.mem_cons_of_mem _ c)) with e|e
   ·have:=hl.1 x c;rw[e] at this;omega
   ·exact e
  ·intro c;rcases mem_cons.1 ((h x).2 (List.mem_cons_of_mem _ c)) with e|e
   ·have:=hm.1 x c;rw[e] at this;omega
   ·exact e
theorem free_eq{F:Nat->List Int}{U:Nat->Bool}{n:Nat}(c:Can F U)(l:∀f,U f=true->f<n)(d:List (Int×Int))(i:d.Perm (cat F 7))(r:d.Pairwise (fun x y=>x.1<=y.1)):d=(blocks U n).map toInt:=by
 have g:∀x,x∈d↔∃j q:Nat,x=toInt (q*2^j,j)/\ug U j q:=fun x=>(i.mem_iff).trans (Ir c x);have s:d.Nodup:=i.nodup_iff.2 (Dj c 7 (le_refl _));refine Ab _ _ ?_ ?_ (fun x=>(g x).trans (Ba l x).symm)
 ·refine(r.and s).imp_of_mem ?_;rintro x y p o ⟨z,t⟩;obtain⟨j,q,rfl,b⟩:=(g x).1 p;obtain⟨k,m,rfl,a⟩:=(g y).1 o;by_cases e:(toInt (q*2^j,j)).1=(toInt (m*2^k,k)).1
  ·exfalso;have w:q*2^j=m*2^k:=Int.ofNat.inj e;obtain⟨v,u⟩:=yY b a (bG j q) (by rw[w];exact bG k m);subst v u;exact t rfl
  ·omega
 ·rw[List.pairwise_map];exact(BC l).imp (fun h=>by simp only[toInt];omega)
theorem LZ(F:Nat->List Int):∀k,((cat F k).map fun x=>2^x.2.toNat).sum=lf F k
 |0=>rfl
 |k+1=>by
  rw[cat,List.map_append,List.sum_append,LZ F k,lf,map_map];congr 1
  generalize F k=l;induction l with
  |nil=>simp
  |cons a l ih=>simp only[map_cons,sum_cons,ih,Function.comp,List.length_cons,Int.toNat_natCast];rw[add_mul];omega
theorem YZ{F:Nat->List Int}{U:Nat->Bool}{n:Nat}(c:Can F U)(g:∀f,U f=true->f<n):lf F 7=cnt U 0 n:=by
 have d:=List.mergeSort_perm (cat F 7) (fun x y=>decide (x.1<=y.1));have i:=List.pairwise_mergeSort (le:=fun x y:Int×Int=>decide (x.1<=y.1)) (fun a b c k j=>by simp at *;omega) (fun a b=>by simp;omega) (cat F 7);have e:=free_eq c g _ d (i.imp (fun h=>by simpa using h));rw[<-LZ,<- (d.map fun x=>2^x.2.toNat).sum_nat,e,<-xO g,size,map_map];rfl
theorem Rj{F:Nat->List Int}{U:Nat->Bool}{n:Nat}(c:Can F U)(a:∀f,U f=true->f<n):lf F 7<=n:=by
 rw[YZ c a];exact JE U n 0
def Yx(z:Int)(k f:Nat):Prop:=z<=f/\(f:Int)<z+(2^k:Nat)
theorem rz{q k f:Nat}:Yx ((q*2^k:Nat):Int) k f↔f / 2^k=q:=by
 rw[lW,Yx];omega
structure BInv (n:Nat) (U:Nat->Bool) (T:Int->Option Nat):Prop where
 bound:∀f,U f=true->f<n
 tk:∀z k,T z=some k->k<=6/\∃q:Nat,z=((q*2^k:Nat):Int)/\∀f,f / 2^k=q->f<n/\U f=false
 dj:∀z k z' k' f,T z=some k->T z'=some k'->Yx z k f->Yx z' k' f->z=z'
 cover:∀f,f<n->U f=false->∃z k,T z=some k/\Yx z k f
theorem XD(n:Nat):BInv n (fun f=>decide (f<n)) (fun _=>none):=
 ⟨fun f h=>by simpa using h,fun z k h=>(by cases h),fun z k b c f h=>(by cases h),fun f d a=>(by simp at a;omega)⟩
theorem BInv.take{n:Nat}{U:Nat->Bool}{T:Int->Option Nat}(h:BInv n U T){k q:Nat}(y:k<=6)(v:blk U k q):BInv n (cut U k q) (fun z=>if z=((q*2^k:Nat):Int) then some k else T z):=by
 have g:∀z j f,T z=some j->Yx z j f->U f=false:=by
  intro z j f c b;obtain⟨_,r,rfl,m⟩:=h.tk z j c;exact(m f (rz.1 b)).2
 have i:∀f,Yx ((q*2^k:Nat):Int) k f->U f=true:=fun f b=>v f (rz.1 b);refine⟨fun f b=>h.bound f (dw.1 b).1,fun z j c=>?_,fun z j t w f c d b l=>?_,fun f b x=>?_⟩
 ·by_cases e:z=((q*2^k:Nat):Int)
  ·rw[if_pos e] at c;cases c
   exact⟨y,q,e,fun f b=>⟨h.bound f (v f b),by simp[cut,b]⟩⟩
  ·rw[if_neg e] at c;obtain⟨B,r,m,s⟩:=h.tk z j c;exact⟨B,r,m,fun f b=>⟨(s f b).1,by simp[cut,(s f b).2]⟩⟩
 ·by_cases e:z=((q*2^k:Nat):Int)<;>by_cases p:t=((q*2^k:Nat):Int)
  ·rw[e,p]
  ·rw[if_pos e] at c;rw[if_neg p] at d;cases c;subst e
   have a:=i f b;rw[g t w f d l] at a;cases a
  ·rw[if_neg e] at c;rw[if_pos p] at d;cases d;subst p
   have a:=i f l;rw[g z j f c b] at a;cases a
  ·rw[if_neg e] at c;rw[if_neg p] at d;exact h.dj z j t w f c d b l
 ·by_cases o:f / 2^k=q
  ·exact⟨_,k,by rw[if_pos rfl],rz.2 o⟩
  ·have A:U f=false:=by
    cases e:U f with
    |false=>rfl
    |true=>have:=dw.2 ⟨e,o⟩;rw[x] at this;cases this
   obtain⟨z,j,c,u⟩:=h.cover f b A;refine⟨z,j,?_,u⟩;rw[if_neg];exact c;rintro rfl;have a:=v _ (bG k q);obtain⟨_,r,m,s⟩:=h.tk _ j c;have e:q*2^k=r*2^j:=Int.ofNat.inj m;rw[(s (q*2^k) (by rw[e];exact bG j r)).2] at a;cases a
theorem BInv.give{n:Nat}{U:Nat->Bool}{T:Int->Option Nat}(h:BInv n U T){k q:Nat}(p:T ((q*2^k:Nat):Int)=some k):BInv n (join U k q) (fun z=>if z=((q*2^k:Nat):Int) then none else T z):=by
 obtain⟨D,r,x,B⟩:=h.tk _ k p;have e:=oK x;subst e;refine⟨fun f d=>?_,fun z j b=>?_,fun z j v w f b m d t=>?_,fun f d l=>?_⟩
 ·rcases lI.1 d with a|a
  ·exact h.bound f a
  ·exact(B f a).1
 ·by_cases e:z=((q*2^k:Nat):Int)
  ·rw[if_pos e] at b;cases b
  ·rw[if_neg e] at b;obtain⟨C,s,rfl,u⟩:=h.tk z j b;refine⟨C,s,rfl,fun f d=>⟨(u f d).1,?_⟩⟩;cases c:join U k q f with
   |false=>rfl
   |true=>
    exfalso;rcases lI.1 c with a|a
    ·rw[(u f d).2] at a;cases a
    ·exact e (h.dj _ _ _ _ f b p (rz.2 d) (rz.2 a))
 ·have:∀y i,(if y=((q*2^k:Nat):Int) then none else T y)=some i->T y=some i:=by
   intro y i o;split at o;cases o;exact o
  exact h.dj z j v w f (this _ _ b) (this _ _ m) d t
 ·have A:U f=false:=by
   cases c:U f with
   |false=>rfl
   |true=>rw[lI.2 (.inl c)] at l;cases l
  obtain⟨z,j,b,g⟩:=h.cover f d A;refine⟨z,j,?_,g⟩;rw[if_neg];exact b;rintro rfl;rw[p] at b;cases b
  rw[lI.2 (.inr (rz.1 g))] at l;cases l
def ZT(U:Nat->Bool)(o b k:Nat):Prop:=(∃q,b=q*2^k/\ug U k q)/\o<=k/\∀j r,ug U j r->o<=j->k<j\/(k=j/\b<=r*2^j)
theorem zR{F:Nat->List Int}{U:Nat->Bool}(c:Can F U){o k:Nat}{z:Int}{l:List Int}(b:o<=k)(u:k<=6)(t:∀j,o<=j->j<k->F j=[])(i:F k=z::l):∃q,z=((q*2^k:Nat):Int)/\ug U k q/\ZT U o (q*2^k) k:=by
 have m:=c k (by omega);obtain⟨q,h,f⟩:=(m.2 z).1 (by rw[i];exact mem_cons_self);refine⟨q,h,f,⟨q,rfl,f⟩,b,fun j r d n=>?_⟩;have a:=((c j (by have:=d.1;omega)).2 _).2 ⟨r,rfl,d⟩;by_cases s:j<k
 ·rw[t j n s] at a;cases a
 ·by_cases p:j=k
  ·subst p;refine .inr ⟨rfl,?_⟩;have g:=m.1;rw[i] at g a;rcases mem_cons.1 a with e|e
   ·have:=h.symm.trans e.symm;have:=oK this;subst this;exact le_refl _
   ·have:=(pairwise_cons.1 g).1 _ e;omega
  ·exact .inl (by omega)
theorem U1{U:Nat->Bool}{k q o:Nat}(h:blk U k q)(a:o<=k):blk U o (q*2^(k-o))/\q*2^(k-o)*2^o=q*2^k:=by
 have e:q*2^(k-o)*2^o=q*2^k:=by rw[mul_assoc,<-Nat.pow_add,Nat.sub_add_cancel a]
 refine⟨fun f b=>h f ?_,e⟩;rw[sS b a,bG]
end
section
open Go.RowKit
def val(C:Int->Option Nat)(f:Int):Nat:=(C f).getD 0
def jo(C:Int->Option Nat)(f:Int)(m:Nat):Int->Option Nat:=fun x=>if x=f then some m else C x
theorem LJ(C:Int->Option Nat)(f:Int)(m:Nat)(x:Int):val (jo C f m) x=if x=f then m else val C x:=by
 unfold val jo;split<;>simp
def Ks(C:Int->Option Nat)(ks:List Int):Prop:=ks.Pairwise (· < ·)/\∀x,x∈ks↔(C x).isSome=true
def sumTo(g:Nat->Nat):Nat->Nat->Nat
 |_,0=>0
 |a,m+1=>g a+sumTo g (a+1) m
theorem sumTo_congr{g h:Nat->Nat}:∀(m a:Nat),(∀i,a<=i->i<a+m->g i=h i)->sumTo g a m=sumTo h a m
 |0,_,_=>rfl
 |m+1,a,e=>by rw[sumTo,sumTo,e a (by omega) (by omega),sumTo_congr m (a+1) (fun i c b=>e i (by omega) (by omega))]
theorem gB{g h:Nat->Nat}{f d:Nat}(c:h f=g f+d)(b:∀i,i≠f->h i=g i):∀(m a:Nat),a<=f->f<a+m->sumTo h a m=sumTo g a m+d
 |0,a,j,h2=>by omega
 |m+1,a,j,h2=>by
  rw[sumTo,sumTo];by_cases e:a=f
  ·subst e;rw[c,sumTo_congr (g:=h) (h:=g) m (a+1) (fun i j _=>b i (by omega))];omega
  ·rw[b a e,gB c b m (a+1) (by omega) (by omega)];omega
theorem mq{g:Nat->Nat}:∀(m a:Nat),(∀i,a<=i->i<a+m->g i=0)->sumTo g a m=0
 |0,_,_=>rfl
 |m+1,a,e=>by rw[sumTo,e a (by omega) (by omega),mq m (a+1) (fun i c b=>e i (by omega) (by omega))]
theorem sumTo_le{g h:Nat->Nat}:∀(m a:Nat),(∀i,a<=i->i<a+m->g i<=h i)->sumTo g a m<=sumTo h a m
 |0,_,_=>le_refl _
 |m+1,a,e=>by
  rw[sumTo,sumTo];have:=e a (by omega) (by omega);have:=sumTo_le m (a+1) (fun i c b=>e i (by omega) (by omega));omega
theorem N7(g:Nat->Nat)(d:Nat):∀(m a:Nat),sumTo (fun i=>g i*d) a m=sumTo g a m*d
 |0,_=>by simp[sumTo]
 |m+1,a=>by rw[sumTo,sumTo,N7 g d m (a+1),add_mul]
theorem wC(U:Nat->Bool):∀(m a:Nat),sumTo (fun i=>if U i then 1 else 0) a m=cnt U a m
 |0,_=>rfl
 |m+1,a=>by rw[sumTo,cnt,wC U m (a+1)]
theorem zx(h:Int->Nat):∀(m a:Nat) (c:List Int),c.Pairwise (· < ·)->(∀x∈c,(a:Int)<=x/\x<(a:Int)+m)->(c.map h).sum=sumTo (fun f=>if (f:Int)∈c then h f else 0) a m
 |0,a,c,_,hb=>by
  cases c with
  |nil=>rfl
  |cons x r=>have:=hb x (by simp);omega
 |m+1,a,[],_,_=>by rw[mq];rfl;intros;rfl
 |m+1,a,x::r,hp,hb=>by
  have o:=hb x (by simp);obtain⟨j,l⟩:=pairwise_cons.1 hp;by_cases e:x=(a:Int)
  ·have d:=zx h m (a+1) r l (fun y b=>by have:=j y b;have:=hb y (by simp[b]);omega);rw[map_cons,sum_cons,d,sumTo,if_pos (by simp[e]),e];congr 1
   refine sumTo_congr m (a+1) (fun i p _=>?_);have:¬(i:Int)=(a:Int):=by omega
   simp[this]
  ·have d:=zx h m (a+1) (x::r) hp (fun y b=>by
    have:=hb y b;rcases mem_cons.1 b with rfl|b
    ·omega
    ·have:=j y b;omega)
   have k:¬(a:Int)∈x::r:=by
    intro g;rcases mem_cons.1 g with n | g
    ·exact e n.symm
    ·have:=j _ g;omega
   rw[d,sumTo,if_neg k,zero_add]
def num(C:Int->Option Nat)(n:Nat):Nat:=sumTo (fun f=>if (C f).isSome then 1 else 0) 0 n
def Within(C:Int->Option Nat)(n:Nat):Prop:=∀x,(C x).isSome=true->0<=x/\x<(n:Int)
theorem TN{C:Int->Option Nat}{b:List Int}{n:Nat}(c:Ks C b)(g:Within C n):b.length=num C n:=by
 have h:=zx (fun _=>1) n 0 b c.1 (fun x f=>by have:=g x ((c.2 x).1 f);simp;omega);have e:(b.map (fun _=>1)).sum=b.length:=by
  clear h c;induction b with
  |nil=>rfl
  |cons a l ih=>simp[ih];omega
 rw[<-e,h,num];refine sumTo_congr _ _ (fun i _ _=>?_);by_cases d:(C i).isSome=true
 ·rw[if_pos ((c.2 _).2 d),if_pos d]
 ·rw[if_neg (fun j=>d ((c.2 _).1 j)),if_neg d]
theorem xG{C:Int->Option Nat}{n:Nat}{f:Int}{m:Nat}(h:(C f).isSome=true):num (jo C f m) n=num C n:=by
 refine sumTo_congr _ _ (fun i _ _=>?_);simp only[jo];split
 ·rename_i e;rw[e,h];rfl
 ·rfl
theorem Ik{C:Int->Option Nat}{n:Nat}{f:Nat}{m:Nat}(b:f<n)(h:C f=none):num (jo C f m) n=num C n+1:=by
 refine gB (f:=f) ?_ (fun i a=>?_) n 0 (by omega) (by omega)
 ·simp[jo,h]
 ·have:¬(i:Int)=(f:Int):=by omega
  simp[jo,this]
theorem Within.put{C:Int->Option Nat}{n:Nat}(h:Within C n){f:Int}{m:Nat}(c:0<=f)(b:f<(n:Int)):Within (jo C f m) n:=fun x a=>by
 unfold jo at a;split at a
 ·rename_i e;subst e;exact⟨c,b⟩
 ·exact h x a
theorem vU(C:Int->Option Nat)(n:Nat):num C n<=n:=by
 have:=wC (fun f=>(C f).isSome) n 0;rw[num,this];exact JE _ _ _
def ZQ(C T:Int->Option Nat):Prop:=∀x,T x=(C x).map (fun _=>0)
theorem GG{n:Nat}{U:Nat->Bool}{C T:Int->Option Nat}(b:BInv n U T)(h:ZQ C T):num C n+cnt U 0 n=n:=by
 have i:∀f,f<n->(U f=true↔(C (f:Int)).isSome=false):=by
  intro f s;constructor
  ·intro j;cases e:C (f:Int) with
   |none=>rfl
   |some k=>
    have t:T (f:Int)=some 0:=by rw[h,e];rfl
    obtain⟨_,q,p,o⟩:=b.tk _ _ t;have:f=q:=by simp at p;omega
    have:=(o f (by rw[Nat.pow_zero,Nat.div_one];exact this)).2;rw[j] at this;cases this
  ·intro u;cases j:U f with
   |true=>rfl
   |false=>
    obtain⟨z,k,c,d⟩:=b.cover f s j;have r:k=0/\(C z).isSome=true:=by
     rw[h z] at c;cases e:C z with
     |none=>rw[e] at c;cases c
     |some v=>rw[e] at c;cases c;exact⟨rfl,rfl⟩
    obtain⟨rfl,g⟩:=r;unfold Yx at d;have:z=(f:Int):=by simp at d;omega
    rw[this,u] at g;cases g
 rw[num,wC (fun f=>(C f).isSome)];have:∀m a,a+m<=n->cnt (fun f:Nat=>(C f).isSome) a m+cnt U a m=m:=by
  intro m;induction m with
  |zero=>intro a _;rfl
  |succ m ih=>
   intro a w;have x:=ih (a+1) (by omega);have l:=i a (by omega);rw[cnt,cnt];cases e1:U a with
   |true=>rw[l.1 e1];simp;omega
   |false=>
    have:(C (a:Int)).isSome=true:=by
     cases e2:(C (a:Int)).isSome with
     |true=>rfl
     |false=>rw[l.2 e2] at e1;cases e1
    rw[this];simp;omega
 exact this n 0 (by omega)
theorem PH{n:Nat}{U:Nat->Bool}(a:∀f,U f=true->f<n)(h:∀j r,ug U j r->j<0):cnt U 0 n=0:=by
 rw[<-xO a];cases e:blocks U n with
 |nil=>rfl
 |cons x l=>
  obtain⟨q,_,b⟩:=(tZ a x.1 x.2).1 (by rw[e];simp);exact absurd (h _ _ b) (by omega)
abbrev PM:=Int->Option (Int×Int)
def aR(P:PM)(a:Int):Int:=match P a with|some p=>p.2|none=>-1
def dC(P:PM)(a:Int)(p:Int×Int):PM:=fun x=>if x=a then some p else P x
def mV(P:PM)(a:Int):PM:=fun x=>if x=a then none else P x
def sh(P:PM)(f:Int):Nat:=sumTo (fun a=>if aR P a=f then 1 else 0) 0 64
def bX(P:PM):Nat:=sumTo (fun a=>if (P a).isSome then 1 else 0) 0 64
def gL(P:PM):Nat:=sumTo (fun a=>if aR P a=-1 then 0 else 1) 0 64
structure lN (n:Nat) (P:PM):Prop where
 key:∀a,(P a).isSome=true->0<=a/\a<64
 af:∀a p,P a=some p->1<=p.1/\p.1<=3
 frame:∀a,aR P a=-1\/(0<=aR P a/\aR P a<(n:Int))
theorem oG{P:PM}{a:Int}(h:P a=none):aR P a=-1:=by unfold aR;rw[h]
theorem mh{P:PM}{a:Int}{p:Int×Int}(h:P a=some p):aR P a=p.2:=by unfold aR;rw[h]
theorem yx(P:PM)(a:Int)(p:Int×Int)(x:Int):aR (dC P a p) x=if x=a then p.2 else aR P x:=by
 unfold aR dC;split<;>rename_i h<;>split at h<;>simp_all
theorem Ev(P:PM)(a:Int)(x:Int):aR (mV P a) x=if x=a then -1 else aR P x:=by
 unfold aR mV;split<;>rename_i h<;>split at h<;>simp_all
theorem XK{P:PM}{a:Int}(h:aR P a≠-1):∃p,P a=some p/\p.2=aR P a:=by
 cases e:P a with
 |none=>exact absurd (oG e) h
 |some p=>exact⟨p,rfl,(mh e).symm⟩
theorem N8{g h:Nat->Nat}{m a:Nat}(e:∀i,g i<=h i):sumTo g a m<=sumTo h a m:=sumTo_le m a (fun i _ _=>e i)
theorem SQ{g:Nat->Nat}{m j:Nat}(b:j<m):g j<=sumTo g 0 m:=by
 have h:=gB (g:=fun i=>if i=j then 0 else g i) (h:=g) (f:=j) (d:=g j) (by simp) (fun i a=>by simp[a]) m 0 (by omega) (by omega);omega
theorem iw{g:Nat->Nat}{d:Nat}:∀(m a:Nat),(∀i,g i<=d)->sumTo g a m<=m*d
 |0,_,_=>by simp[sumTo]
 |m+1,a,e=>by rw[sumTo];have:=e a;have:=iw m (a+1) e;rw[Nat.succ_mul];omega
section
variable {n:Nat}{P:PM}{a:Int}
theorem yT(j:0<=a)(e:a<64)(p:Int×Int)(f:Int):sh (dC P a p) f+(if aR P a=f then 1 else 0)=sh P f+(if p.2=f then 1 else 0):=by
 have c:((a.toNat:Nat):Int)=a:=by omega
 have l:=gB (g:=fun i:Nat=>if i=a.toNat then 0 else if aR P i=f then 1 else 0) (h:=fun i:Nat=>if aR P i=f then 1 else 0) (f:=a.toNat) (d:=if aR P a=f then 1 else 0) (by simp[c]) (fun i b=>by simp[b]) 64 0 (by omega) (by omega);have k:=gB (g:=fun i:Nat=>if i=a.toNat then 0 else if aR P i=f then 1 else 0) (h:=fun i:Nat=>if aR (dC P a p) i=f then 1 else 0) (f:=a.toNat) (d:=if p.2=f then 1 else 0) (by simp[c,yx]) (fun i b=>by
  have:¬(i:Int)=a:=by omega
  simp[b,yx,this]) 64 0 (by omega) (by omega)
 unfold sh;omega
theorem RH(k:0<=a)(j:a<64){f:Int}(e:0<=f):sh (mV P a) f+(if aR P a=f then 1 else 0)=sh P f:=by
 have b:((a.toNat:Nat):Int)=a:=by omega
 refine(gB (g:=fun i:Nat=>if aR (mV P a) i=f then 1 else 0) (h:=fun i:Nat=>if aR P i=f then 1 else 0) (f:=a.toNat) (d:=if aR P a=f then 1 else 0) ?_ (fun i c=>?_) 64 0 (by omega) (by omega)).symm
 ·have:¬(-1:Int)=f:=by omega
  simp[b,Ev,this]
 ·have:¬(i:Int)=a:=by omega
  simp[Ev,this]
theorem yU(h:lN n P)(c:aR P a≠-1):1<=sh P (aR P a):=by
 obtain⟨p,b,_⟩:=XK c;have e:=h.key a (by rw[b];rfl);have:=SQ (g:=fun i:Nat=>if aR P i=aR P a then 1 else 0) (m:=64) (j:=a.toNat) (by omega);have d:((a.toNat:Nat):Int)=a:=by omega
 simp only[d,if_true] at this;exact this
theorem yg{f:Int}(_hf:0<=f)(h:∀a,aR P a≠f):sh P f=0:=mq _ _ (fun i _ _=>by simp[h i])
theorem Wi{f:Int}(h:sh P f=0)(b:lN n P)(c:f≠-1)(a:Int):aR P a≠f:=by
 intro e;have:=yU (a:=a) b (by rw[e];exact c);rw[e] at this;omega
theorem pM{p:Int×Int}(h:(P a).isSome=true):bX (dC P a p)=bX P:=sumTo_congr _ _ (fun i _ _=>by
 unfold dC;by_cases e:(i:Int)=a
 ·simp[e,h]
 ·simp[e])
theorem vG{p:Int×Int}(e:0<=a)(d:a<64)(h:P a=none):bX (dC P a p)=bX P+1:=by
 have b:((a.toNat:Nat):Int)=a:=by omega
 refine gB (f:=a.toNat) ?_ (fun i c=>?_) 64 0 (by omega) (by omega)
 ·simp[dC,b,h]
 ·have:¬(i:Int)=a:=by omega
  simp[dC,this]
theorem zH(g:0<=a)(e:a<64)(h:(P a).isSome=true):bX (mV P a)+1=bX P:=by
 have b:((a.toNat:Nat):Int)=a:=by omega
 refine(gB (f:=a.toNat) (d:=1) ?_ (fun i c=>?_) 64 0 (by omega) (by omega)).symm
 ·simp[mV,b,h]
 ·have:¬(i:Int)=a:=by omega
  simp[mV,this]
theorem ry(P:PM):bX P<=64:=by
 have:=iw (g:=fun a:Nat=>if (P a).isSome then 1 else 0) (d:=1) 64 0 (fun i=>by split<;>omega);unfold bX;omega
theorem Wv(P:PM):gL P<=64:=by
 have:=iw (g:=fun a:Nat=>if aR P a=-1 then 0 else 1) (d:=1) 64 0 (fun i=>by split<;>omega);unfold gL;omega
theorem rG:bX (fun _=>none)=0:=mq _ _ (fun _ _ _=>rfl)
theorem qD{f:Int}(b:0<=f):sh (fun _=>none) f=0:=yg b (fun a=>by show (-1:Int)≠f;omega)
end
section
variable {n:Nat}{P:PM}{a:Int}
theorem lN.none(n:Nat):lN n (fun _=>none):=⟨fun a h=>(by cases h),fun a p h=>(by cases h),fun a=>.inl rfl⟩
theorem lN.put(h:lN n P)(i:0<=a)(g:a<64){p:Int×Int}(d:1<=p.1/\p.1<=3)(f:p.2=-1\/(0<=p.2/\p.2<(n:Int))):lN n (dC P a p):=by
 refine⟨fun x c=>?_,fun x q b=>?_,fun x=>?_⟩
 ·unfold dC at c;split at c
  ·rename_i e;rw[e];exact⟨i,g⟩
  ·exact h.key x c
 ·unfold dC at b;split at b
  ·cases b;exact d
  ·exact h.af x q b
 ·rw[yx];split
  ·exact f
  ·exact h.frame x
theorem lN.del(h:lN n P):lN n (mV P a):=by
 refine⟨fun x b=>?_,fun x q c=>?_,fun x=>?_⟩
 ·unfold mV at b;split at b
  ·cases b
  ·exact h.key x b
 ·unfold mV at c;split at c
  ·cases c
  ·exact h.af x q c
 ·rw[Ev];split
  ·exact .inl rfl
  ·exact h.frame x
def QO(P:PM):Prop:=∀f,0<=f->sh P f<=1
theorem QO.none:QO (fun _=>none):=fun f a=>by rw[qD a];omega
theorem QO.del(h:QO P)(d:0<=a)(c:a<64):QO (mV P a):=fun f b=>by
 have:=RH (P:=P) d c b;have:=h f b;omega
theorem QO.put(h:QO P)(i:0<=a)(g:a<64){p:Int×Int}(b:p.2=-1\/sh P p.2=0\/aR P a=p.2):QO (dC P a p):=fun f d=>by
 have c:=yT (P:=P) i g p f;have j:=h f d;by_cases e:p.2=f
 ·subst e;rcases b with b|b|b
  ·omega
  ·rw[b] at c;simp at c;omega
  ·rw[if_pos b] at c;simp at c;omega
 ·rw[if_neg e] at c;omega
end
end
section
open Go.RowKit Go.Shelf Go.Lib Go.Sort
abbrev ic(x:Int):Value:=.int .i64 x
theorem aaS:OneCell ic:=fun _=>rfl
theorem Cm(W:World)(y:Nat)(z u:Int)(h:W.cell? ⟨y,0,none⟩=some (.int .i64 z)):Calls prog 208 #[.int .i64 u,.pointer (some ⟨y,0,none⟩)] W fun e a=>e=.returned (.bool (u==z))/\∃q,a=W.drewN q:=by
 go_enter Tryz.func208,Tryz.ntmps208
 go_wp2;go_ret;exact⟨rfl,0,rfl⟩
theorem Pz{W:World}{s:Nat}{c:Array Value}{xs:List Int}(b:W.heap[s]? = some (.cells c 3))(e:∀j,j<xs.length->c[j]? = some (.int .i64 (xs.getD j 0))):Holds ic W s 0 xs.toArray:=by
 intro j d;have a:j<xs.length:=by simpa using d
 refine⟨?_,by simp[frozen?,b]⟩;rw[cell_of_row W s _ _ _ _ b,zero_add,e j a];simp[ic,a,getD_eq_getElem?_getD]
theorem Ws{W:World}{s:Nat}{c:Array Value}{n:Nat}(q:Nat)(ys:List Int)(e:W.heap[s]? = some (.cells c 3))(f:ys.length=n)(h:n<=c.size):∃d,(putRow ic (Sort.ahead W q) s 0 ys.toArray).heap[s]? = some (.cells d 3)/\d.size=c.size/\∀j,j<n->d[j]? = some (.int .i64 (ys.getD j 0)):=by
 refine⟨putCells ic 0 ys.toArray c,mO (Sort.ahead W q) s _ c _ _ e,by simp[putCells],fun j g=>?_⟩;have b:j<ys.length:=by omega
 have a:j<c.size:=by omega
 simp[putCells,b,a,ic,getD_eq_getElem?_getD]
theorem X7{W:World}{o:Option Nat}{v:Value}{xs:List Int}(t:kF W o v xs)(y:Nat)(z:Int)(g:W.cell? ⟨y,0,none⟩=some (.int .i64 z))(l:o≠some y):Calls prog 207 #[v,.func (.func 208) #[] #[.pointer (some ⟨y,0,none⟩)]] W fun e d=>∃a c,e=.returned (.slice a (xs.filter fun x=>!(x==z)).length c)/\kF d o (.slice a (xs.filter fun x=>!(x==z)).length c) (xs.filter fun x=>!(x==z))/\Fr (fun i=>o=some i) W d:=by
 cases o with
 |none=>
  obtain⟨rfl,rfl⟩:=t;have D:=AnyE.slices_IndexFunc_empty Tryz.indexL none 0 (.func (.func 208) #[] #[.pointer (some ⟨y,0,none⟩)]) W;go_enter Tryz.func207,Tryz.ntmps207
  go_wp2_with (go_at_call 270;refine D.mono ?_;rintro e d ⟨rfl,rfl⟩)
  go_ret;exact⟨none,0,rfl,⟨rfl,rfl⟩,Fr.refl _ _⟩
 |some s=>
  obtain⟨c,A,rfl,u,O,F⟩:=t;have f:y≠s:=fun e=>l (by rw[e]);have b:y<W.heap.size:=World.block_lt_of_cell? W _ g;have E:=Pz A F;have B:PredAt prog 208 #[.pointer (some ⟨y,0,none⟩)] ic (fun x=>x==z) W:=by
   intro L x m;exact Cm L y z x (by rw[m.cell (p:=⟨y,0,none⟩) b];exact g)
  have k:PredOver prog 208 #[.pointer (some ⟨y,0,none⟩)] ic (fun x=>x==z) s 0 xs.toArray.size W:=by
   intro n r J x _;refine Cm _ y z x ?_;have m:(sortWorld ic W s 0 n J r).heap[y]? = W.heap[y]? := by
    show (W.heap.modify s _++r)[y]? = _;rw[Array.getElem?_append_left (by simpa using b),Array.getElem?_modify,if_neg (fun e=>f e.symm)]
   rw[cell?_of_block (w:=W) (a:=⟨y,0,none⟩) m];exact g
  have M:c.size<=9223372036854775807:=by have:maxLen<=9223372036854775807:=by decide
                                         omega
  have h:=AnyE.slices_DeleteFunc Tryz.deleteL ic aaS (fun x=>x==z) 208 #[.pointer (some ⟨y,0,none⟩)] (fun _ _=>by kernel_rfl) 0 (fun _=>by kernel_rfl) s 0 c.size xs.toArray W B k E (by simp;omega) (by simpa using u);simp only[List.size_toArray] at h;refine h.mono ?_;rintro e d ⟨rfl,q,rfl⟩;refine⟨_,_,rfl,?_,?_⟩
  ·have N:(xs.filter fun x=>!(x==z)).length<=xs.length:=List.length_filter_le _ _;obtain⟨K,I,H,G⟩:=Ws (n:=xs.length) q ((xs.filter fun x=>!(x==z))++List.replicate (xs.length-(xs.filter fun x=>!(x==z)).length) 0) A (by simp;omega) u;refine⟨K,I,by rw[H],by omega,by omega,fun j C=>?_⟩;rw[G j (by omega),getD_eq_getElem?_getD,List.getElem?_append_left C,<-getD_eq_getElem?_getD]
  ·exact(Fr.drewN _ W q).mapBlock s _ (fun _=>rfl)
theorem Uy(l:List Int)(z:Int):((l.filter fun x=>!(x==z)).length<l.length)↔z∈l:=by
 induction l with
 |nil=>simp
 |cons a l ih=>
  have:=List.length_filter_le (fun x=>!(x==z)) l;by_cases e:a=z
  ·subst e;simp;omega
  ·have c:(a==z)=false:=by simpa using e
   have b:¬z=a:=fun h=>e h.symm;simp[c,b,ih]
theorem zX{w:World}{b g:Nat}{O:Nat->Option Nat}{V:Nat->Value}{F:Nat->List Int}(p:Pl w b g O V F)(z:Int)(k:Nat)(o:k<7):Calls prog 137 #[pp b,.int .i64 z,.int .i64 k] w fun e d=>∃l,e=.returned (.bool (decide (z∈F k)))/\Pl d b g O l (nQ F k ((F k).filter fun x=>!(x==z)))/\Fr (own b O) w d:=by
 have t:=lt_of_heap p.head;have A:=p.cell o;have v:=p.row k o;obtain⟨L,K,T,hl,hm⟩:=v.isSlice;rw[T] at A v;have I:O k≠some w.heap.size:=by
  intro e;obtain⟨f,J⟩:=p.gD o e;have:=lt_of_heap J;omega
 have Y:(k:Int)<7:=by omega
 have X:b≠w.heap.size:=by omega
 -- the world with the number that the closure holds
 have r:∀W:World,W.heap=(w.alloc (.cells #[.int .i64 z] 3)).heap->Calls prog 207 #[.slice L (F k).length K,.func (.func 208) #[] #[.pointer (some ⟨w.heap.size,0,none⟩)]] W fun e d=>∃a c,e=.returned (.slice a ((F k).filter fun x=>!(x==z)).length c)/\kF d (O k) (.slice a ((F k).filter fun x=>!(x==z)).length c) ((F k).filter fun x=>!(x==z))/\Fr (fun i=>O k=some i) W d/\d.cell? ⟨b,k,none⟩=some (.slice L (F k).length K)/\d.frozen? ⟨b,k,none⟩=false:=by
  intro W q;have H:W.heap[b]? = w.heap[b]? := by rw[q];exact heap_alloc _ _ _ t
  refine(X7 (xs:=F k) ?_ w.heap.size z ?_ I).mono ?_;rotate_left 2
  ·rintro e d ⟨a,c,he,n,y⟩;have Q:d.heap[b]? = w.heap[b]? := (y.block b (by rw[q];simp;omega) (fun e=>p.VD o e rfl)).trans H;exact⟨a,c,he,n,y,by rw[cell?_of_block (w:=w) (a:=⟨b,k,none⟩) Q];exact A,by rw[World.frozen?_of_block (w:=w) (a:=⟨b,k,none⟩) Q];exact p.free k⟩
  ·exact v.keep (fun s U=>by rw[q];exact heap_alloc _ _ _ (by obtain⟨f,J⟩:=p.gD o U;exact lt_of_heap J))
  ·rw[cell?_of_block (w:=w.alloc (.cells #[.int .i64 z] 3)) (by rw[q])];simp
 have E:(w.alloc (.cells #[.int .i64 z] 3)).cell? ⟨b,k,none⟩=some (.slice L (F k).length K):=by
  rw[cell?_of_block (w:=w) (a:=⟨b,k,none⟩) (heap_alloc _ _ _ t)];exact A
 -- what the store makes of it
 have u:∀(W d:World) (m:Option Addr) (f:Nat),W.heap=(w.alloc (.cells #[.int .i64 z] 3)).heap->W.os=w.os->W.tape=w.tape->W.output=w.output->kF d (O k) (.slice m ((F k).filter fun x=>!(x==z)).length f) ((F k).filter fun x=>!(x==z))->Fr (fun i=>O k=some i) W d->
  (∃l a2 c2,Pl (d.setCell ⟨b,k,none⟩ (.slice m ((F k).filter fun x=>!(x==z)).length f)) b g O l (nQ F k ((F k).filter fun x=>!(x==z)))/\Fr (own b O) w (d.setCell ⟨b,k,none⟩ (.slice m ((F k).filter fun x=>!(x==z)).length f))/\l k=.slice a2 ((F k).filter fun x=>!(x==z)).length c2):=by
  intro W d m f q h1 h2 h3 n y;have D:Fr (fun i=>O k=some i) w d:=(show Fr (fun i=>O k=some i) w W from⟨h1,h2,h3,by rw[q];simp,fun i Z _=>by rw[q];exact heap_alloc _ _ _ Z⟩).trans y (fun _ _ h=>h);obtain⟨N,R,t3⟩:=p.turn o (O k) _ _ D (.inl rfl) n;have e:(fun j=>if j=k then O k else O j)=O:=by funext j;split<;>simp_all
  rw[e] at N;exact⟨_,m,f,N,R,by simp[QR]⟩
 clear v;go_enter Tryz.func137,Tryz.ntmps137
 go_upto_region 2 with fail
 go_cut [] (fun M=>∃l m f,Pl M b g O l (nQ F k ((F k).filter fun x=>!(x==z)))/\Fr (own b O) w M/\l k=.slice m ((F k).filter fun x=>!(x==z)).length f)
 case first=>
  go_region_with (go_at_call 207;refine(r _ (by rfl)).mono ?_;rintro e w1 ⟨a1,c1,rfl,B,C,hc1,S⟩)
  all_goals
   go_wp2_with fail
   go_meet
   case rel=>exact u _ _ _ _ (by rfl) (by rfl) (by rfl) (by rfl) B C
 case rest=>
  obtain⟨l,m,f,P,f',hV⟩:=hcut;have G:=P.cell o;rw[hV] at G;clear r u E A;go_wp2_with fail
  go_ret;exact⟨l,by simp only[<-Uy (F k) z];simp,P,f'⟩
theorem row_of{w:World}{s:Nat}{c:Array Value}{ys:List Int}(h:w.heap[s]? = some (.cells c 3))(e:ys.length<=c.size)(d:c.size<=maxLen)(b:∀j,j<ys.length->w.cell? ⟨s,j,none⟩=some (.int .i64 (ys.getD j 0))):kF w (some s) (.slice (some ⟨s,0,none⟩) ys.length c.size) ys:=
 ⟨c,h,rfl,e,d,fun j a=>by rw[<-cell_of_row w s j _ _ _ h];exact b j a⟩
theorem j3(l:List Int)(x:Int):(ins l x).length=l.length+1:=by
 have:=List.countP_le_length (p:=(· < x)) (l:=l);simp[ins];omega
theorem DT(l:List Int)(x:Int)(j:Nat):(ins l x).getD j 0=if j<l.countP (· < x) then l.getD j 0 else if j=l.countP (· < x) then x else l.getD (j-1) 0:=by
 have b:=List.countP_le_length (p:=(· < x)) (l:=l);unfold ins;generalize l.countP (· < x)=i at *;rw[getD_eq_getElem?_getD];by_cases a:j<i
 ·rw[if_pos a,List.getElem?_append_left (by simp;omega),List.getElem?_take,if_pos a,getD_eq_getElem?_getD]
 ·rw[if_neg a,List.getElem?_append_right (by simp;omega)];by_cases c:j=i
  ·subst c;simp[Nat.min_eq_left b]
  ·rw[if_neg c];have e:j-(l.take i).length=(j-1-i)+1:=by simp[Nat.min_eq_left b];omega
   rw[e,List.getElem?_cons_succ,List.getElem?_drop,getD_eq_getElem?_getD];congr 2;omega
theorem Dg(l:List Int)(j:Nat)(v:Value)(h:(l.map ic)[j]? = some v):j<l.length/\v=.int .i64 (l.getD j 0):=by
 rw[List.getElem?_map] at h;cases e:l[j]? with
 |none=>rw[e] at h;cases h
 |some a=>
  rw[e] at h;have b:=(List.getElem?_eq_some_iff.1 e).1;refine⟨b,?_⟩;simp[getD_eq_getElem?_getD,e];simpa using h.symm
theorem Mw(l:List Int)(j:Nat)(h:j<l.length):(l.map ic)[j]? = some (.int .i64 (l.getD j 0)):=by
 simp[h,getD_eq_getElem?_getD,ic]
theorem Mv(l:List Int):∀v∈l.map ic,v.oneCell'=true:=by
 intro v b;obtain⟨a,_,rfl⟩:=mem_map.1 b;rfl
theorem one_one(x:Int):∀v∈[ic x],v.oneCell'=true:=by
 intro v a;rw[List.mem_singleton] at a;subst a;rfl
theorem FK{w:World}{s o:Nat}{a:List Value}(b:∀q,q<a.length->(w.cell? ⟨s,o+q,none⟩).isSome=true)(j:Nat)(c:o<=j)(d:j<o+a.length):(w.setCells s o a).cell? ⟨s,j,none⟩=a[j-o]? := by
 have:=World.cell?_setCells_in s a o w b (j-o) (by omega);rw[Nat.add_sub_cancel' c] at this;rw[this,List.getElem?_eq_getElem (by omega)]
theorem qy{w:World}{s o:Nat}{a:List Value}(j:Nat)(h:j<o\/o+a.length<=j):(w.setCells s o a).cell? ⟨s,j,none⟩=w.cell? ⟨s,j,none⟩:=
 World.cell?_setCells_out s a o w ⟨s,j,none⟩ (fun _ _=>h)
theorem XE{W:World}{o:Option Nat}{v:Value}{xs:List Int}(R:kF W o v xs)(y:Nat)(x:Int)(Z:W.heap[y]? = some (.cells #[.int .i64 x] 3))(hne:o≠some y)(hl:xs.length<=256):Calls prog 139 #[v,.int .i64 (xs.countP (· < x):Nat),.slice (some ⟨y,0,none⟩) 1 1] W fun e t=>∃a c,e=.returned (.slice a (ins xs x).length c)/\∃o',kF t o' (.slice a (ins xs x).length c) (ins xs x)/\(o'=o\/∃s,o'=some s/\W.heap.size<=s)/\Fr (fun i=>o=some i) W t:=by
 have hcl:=List.countP_le_length (p:=(· < x)) (l:=xs);have D:∀j v,[ic x][j]? = some v->W.cell? ⟨y,0+j,none⟩=some v:=by
  intro j v h;rw[cell_of_row W y _ _ _ _ Z,zero_add];have:j=0:=by have:=(List.getElem?_eq_some_iff.1 h).1;simpa using this
  subst this;simpa using h
 have wY:maxLen<=9223372036854775807:=by decide
 have hmb:257<=maxLen:=by decide
 have ht:Tryz.insertL_ren.t 3=3:=rfl;rw[j3]
 -- a new row
 have E:∀(t:World) (d:Nat) (cs:Array Value),xs.length+1<=d->d<=maxLen->cs.size=d->t.heap[W.heap.size]? = some (.cells cs 3)->(∀j,j<xs.length+1->t.cell? ⟨W.heap.size,j,none⟩=some (.int .i64 ((ins xs x).getD j 0)))->
  kF t (some W.heap.size) (.slice (some ⟨W.heap.size,0,none⟩) (xs.length+1) d) (ins xs x):=by
  intro t d cs f h2 G O F;have:=row_of (ys:=ins xs x) O (by rw[j3];omega) (by omega) (by rw[j3];exact F);rw[j3,G] at this;exact this
 by_cases hi:xs.countP (· < x)=xs.length
 ·rw[hi];by_cases u:∃s,o=some s/\∃c:Array Value,W.heap[s]? = some (.cells c 3)/\xs.length+1<=c.size
  ·obtain⟨s,rfl,c,f,K⟩:=u;obtain⟨c',V,rfl,G,O,F⟩:=R;rw[f] at V;cases V
   have g:∀j,j<1->(W.cell? ⟨s,0+xs.length+j,none⟩).isSome=true:=by
    intro j m;rw[cell_of_row W s _ _ _ _ f];simp;omega
   refine(Any2.slices_Insert_int_end_room Tryz.insertL s 0 xs.length c.size y 0 1 1 [ic x] W (by omega) K (by omega) rfl g (fun j _=>by simp[frozen?,f]) D (one_one x)).mono ?_;rintro e t ⟨rfl,rfl⟩;obtain⟨H,X,P⟩:=dz s 3 (0,0) [ic x] (0+xs.length) W c f;have k:=row_of (ys:=ins xs x) X (by rw[j3];omega) (by omega) (fun j m=>by
    rw[j3] at m;rw[DT,hi];by_cases B:j<xs.length
    ·rw[if_pos B,qy j (.inl (by omega)),cell_of_row W s _ _ _ _ f,F j B]
    ·have:j=xs.length:=by omega
     subst this;rw[if_neg (by omega),if_pos rfl,FK (by intro q r;exact g q (by simpa using r)) _ (by omega) (by simp)];simp[ic])
   rw[j3,P] at k;exact⟨_,_,rfl,_,k,.inl rfl,Fr.setCells (A:=fun i=>some s=some i) s (fun _=>rfl) _ _ _ (Fr.refl _ _)⟩
  ·have hnc:∃c,v=.slice (o.map fun s=>⟨s,0,none⟩) xs.length c/\xs.length<=c/\c<xs.length+1/\(o=none->xs.length=0)/\∀a:Addr,(o.map fun s=>(⟨s,0,none⟩:Addr))=some a->∀j v,(xs.map ic)[j]? = some v->W.cell? (a.add j)=some v:=by
    cases o with
    |none=>obtain⟨rfl,rfl⟩:=R;exact⟨0,rfl,by simp,by simp,fun _=>rfl,fun a h=>(by cases h)⟩
    |some s=>
     obtain⟨c,f,rfl,G,O,F⟩:=R;have hlt:c.size<xs.length+1:=by
      by_cases h:xs.length+1<=c.size
      ·exact absurd ⟨s,rfl,c,f,h⟩ u
      ·omega
     refine⟨c.size,rfl,G,hlt,fun h=>(by cases h),fun a h j v hv=>?_⟩;cases h
     obtain⟨m,rfl⟩:=Dg xs j v hv;rw[Addr.add_lit,cell_of_row W s _ _ _ _ f,zero_add,F j m]
   obtain⟨c,rfl,f,h2,G,O⟩:=hnc;have b:=Any2.slices_Insert_int_end_grow Tryz.insertL (o.map fun s=>⟨s,0,none⟩) xs.length c y 0 1 1 (xs.map ic) [ic x] W (by omega) f h2 (by omega) (by simp) rfl (fun h=>G (by cases o<;>simp_all)) O D (one_one x);rw[ht] at b;refine b.mono ?_;rintro e t ⟨rfl,rfl⟩;have M:=grownCap_ge W (xs.length+1) c 3;have L:=grownCap_le_maxLen W (xs.length+1) c 3 (by omega);refine⟨_,_,rfl,some W.heap.size,?_,.inr ⟨_,rfl,le_refl _⟩,(Fr.drew _ W).trans (Fr.alloc _ _ _) (fun _ _ h=>h)⟩;have N:(W.drew.alloc (.cells ((xs.map ic++[ic x]).toArray++Builtin.zeroCells (Value.int .i64 0).cells (grownCap W (xs.length+1) c 3-(xs.length+1))) 3)).heap[W.heap.size]? = some (.cells ((xs.map ic++[ic x]).toArray++Builtin.zeroCells (Value.int .i64 0).cells (grownCap W (xs.length+1) c 3-(xs.length+1))) 3):=by
    show (W.heap.push _)[W.heap.size]? = _;rw[Array.getElem?_push,if_pos rfl]
   refine E _ _ _ M L ?_ N (fun j m=>?_)
   ·simp[Builtin.zeroCells,Value.cells];omega
   ·rw[cell_of_row _ _ _ _ _ _ N,Array.getElem?_append_left (by simp;omega),DT,hi];by_cases B:j<xs.length
    ·rw[if_pos B];simp[List.getElem?_append_left,B,getD_eq_getElem?_getD,ic]
    ·have:j=xs.length:=by omega
     subst this;simp[ic]
 ·have T:xs.countP (· < x)<xs.length:=by omega
  have hn0:0<xs.length:=by omega
  cases o with
  |none=>obtain⟨_,rfl⟩:=R;simp at hn0
  |some s=>
   obtain⟨c,f,rfl,G,O,F⟩:=R;have hys:y≠s:=fun e=>hne (by rw[e]);have U:∀j v,(xs.map ic)[j]? = some v->W.cell? ⟨s,0+j,none⟩=some v:=by
    intro j v hv;obtain⟨m,rfl⟩:=Dg xs j v hv;rw[cell_of_row W s _ _ _ _ f,zero_add,F j m]
   have C:∀j,xs.countP (· < x)+1<=j->j<xs.length+1->((xs.map ic).drop (xs.countP (· < x)))[j-(xs.countP (· < x)+1)]? = some (.int .i64 (xs.getD (j-1) 0)):=by
    intro j hj1 hj2;rw[List.getElem?_drop,show xs.countP (· < x)+(j-(xs.countP (· < x)+1))=j-1 by omega,Mw xs (j-1) (by omega)]
   by_cases K:xs.length+1<=c.size
   ·have g:∀j,j<xs.length+1->(W.cell? ⟨s,0+j,none⟩).isSome=true:=by
     intro j m;rw[cell_of_row W s _ _ _ _ f];simp;omega
    refine(Any2.slices_Insert_int_shift Tryz.insertL s 0 xs.length c.size (xs.countP (· < x)) y 0 1 1 (xs.map ic) [ic x] W T (by omega) K (by omega) hys (by simp) rfl U g (fun j _=>by simp[frozen?,f]) D (Mv xs) (one_one x) 3 3 1 c.size (by simp[shape?,Z]) (by simp[shape?,f]) (by omega) (by simp[frozen?,Z]) (by simp[frozen?,Z])).mono ?_;rintro e t ⟨rfl,rfl⟩;obtain⟨H,X,P⟩:=dz s 3 (0,0) ((xs.map ic).drop (xs.countP (· < x))) (0+(xs.countP (· < x)+1)) W.drew c f;obtain⟨c3,e3,e4⟩:=dz s 3 (0,0) [ic x] (0+xs.countP (· < x)) _ H X;have z:((xs.map ic).drop (xs.countP (· < x))).length=xs.length-xs.countP (· < x):=by simp
    have k:=row_of (ys:=ins xs x) e3 (by rw[j3];omega) (by omega) (fun j m=>by
     rw[j3] at m;rw[DT];have S:∀q,q<((xs.map ic).drop (xs.countP (· < x))).length->(W.drew.cell? ⟨s,0+(xs.countP (· < x)+1)+q,none⟩).isSome=true:=by
      intro q r;have:=g (xs.countP (· < x)+1+q) (by rw[z] at r;omega);rw[show 0+(xs.countP (· < x)+1)+q=0+(xs.countP (· < x)+1+q) by omega];exact this
     by_cases c1:j<xs.countP (· < x)
     ·rw[if_pos c1,qy j (.inl (by omega)),qy j (.inl (by omega))];show W.cell? _=_;rw[cell_of_row W s _ _ _ _ f,F j (by omega)]
     ·by_cases H:j=xs.countP (· < x)
      ·subst H;rw[if_neg c1,if_pos rfl,FK (by
        intro q r;rw[qy _ (.inl (by simp at r;omega))];exact g _ (by simp at r;omega) ▸ (by simp at r;subst r;rfl)) _ (by omega) (by simp)]
       simp[ic]
      ·rw[if_neg c1,if_neg H,qy j (.inr (by simp;omega)),FK S _ (by omega) (by rw[z];omega)];rw[show j-(0+(xs.countP (· < x)+1))=j-(xs.countP (· < x)+1) by omega];exact C j (by omega) m)
    rw[j3,e4,P] at k;exact⟨_,_,rfl,_,k,.inl rfl,Fr.setCells (A:=fun i=>some s=some i) s (fun _=>rfl) _ _ _ (Fr.setCells (A:=fun i=>some s=some i) s (fun _=>rfl) _ _ _ (Fr.drew _ W))⟩
   ·have b:=Any2.slices_Insert_int_grow Tryz.insertL s 0 xs.length c.size (xs.countP (· < x)) y 0 1 1 (xs.map ic) [ic x] W T (by omega) G (by omega) (by omega) (by simp) rfl U D (Mv xs) (one_one x);rw[ht] at b;refine b.mono ?_;rintro e t ⟨rfl,rfl⟩;have M:=grownCap_ge W (xs.length+1) c.size 3;have L:=grownCap_le_maxLen W (xs.length+1) c.size 3 (by omega);generalize grownCap W (xs.length+1) c.size 3=d at *;obtain⟨n,J⟩:∃n,n=((xs.map ic).take (xs.countP (· < x))).toArray++Builtin.zeroCells (Value.int .i64 0).cells (xs.length+1-xs.countP (· < x))++Builtin.zeroCells (Value.int .i64 0).cells (d-(xs.length+1)):=⟨_,rfl⟩;rw[<-J];have I:n.size=d:=by rw[J];simp[Builtin.zeroCells,Value.cells,Nat.min_eq_left hcl];omega
    have N:(W.alloc (.cells n 3)).drew.heap[W.heap.size]? = some (.cells n 3):=by
     show (W.heap.push _)[W.heap.size]? = _;rw[Array.getElem?_push,if_pos rfl]
    obtain⟨H,X,P⟩:=dz W.heap.size 3 (0,0) [ic x] (xs.countP (· < x)) _ n N;have Bg:((W.alloc (.cells n 3)).drew.setCells W.heap.size (xs.countP (· < x)) [ic x]).drew.heap[W.heap.size]? = some (.cells H 3):=X;obtain⟨c3,e3,e4⟩:=dz W.heap.size 3 (0,0) ((xs.map ic).drop (xs.countP (· < x))) (xs.countP (· < x)+1) _ H Bg;have z:((xs.map ic).drop (xs.countP (· < x))).length=xs.length-xs.countP (· < x):=by simp
    have g:∀j,j<d->((W.alloc (.cells n 3)).drew.cell? ⟨W.heap.size,j,none⟩).isSome=true:=by
     intro j m;rw[cell_of_row _ _ _ _ _ _ N];simp[I,m]
    have Q:∀j,j<d->(((W.alloc (.cells n 3)).drew.setCells W.heap.size (xs.countP (· < x)) [ic x]).drew.cell? ⟨W.heap.size,j,none⟩).isSome=true:=by
     intro j m;rw[cell_of_row _ _ _ _ _ _ Bg];simp[P,I,m]
    refine⟨_,_,rfl,some W.heap.size,E _ _ c3 M L (by rw[e4,P,I]) e3 (fun j m=>?_),.inr ⟨_,rfl,le_refl _⟩,?_⟩
    ·rw[DT];by_cases Y:j<xs.countP (· < x)
     ·rw[if_pos Y,qy j (.inl (by omega))];show cell? ((W.alloc (.cells n 3)).drew.setCells W.heap.size (xs.countP (· < x)) [ic x]) _=_;rw[qy j (.inl (by omega)),cell_of_row _ _ _ _ _ _ N,J,Array.append_assoc,Array.getElem?_append_left (by simp;omega),List.getElem?_toArray,List.getElem?_take,if_pos Y,Mw xs j (by omega)]
     ·by_cases k2:j=xs.countP (· < x)
      ·subst k2;rw[if_neg Y,if_pos rfl,qy _ (.inl (by omega))];show cell? ((W.alloc (.cells n 3)).drew.setCells W.heap.size (xs.countP (· < x)) [ic x]) _=_;rw[FK (by intro q r;exact g _ (by simp at r;omega)) _ (by omega) (by simp)];simp[ic]
      ·rw[if_neg Y,if_neg k2,FK (by intro q r;exact Q _ (by rw[z] at r;omega)) _ (by omega) (by rw[z];omega)];exact C j (by omega) m
    ·refine Fr.setCells (A:=fun i=>some s=some i) W.heap.size (fun h=>by omega) _ _ _ ?_;have hf:=Fr.setCells (A:=fun i=>some s=some i) (w:=W) W.heap.size (fun h=>by omega) [ic x] (xs.countP (· < x)) _ ((Fr.alloc _ W (.cells n 3)).trans (Fr.drew _ _) (fun _ _ h=>h));exact hf.trans (Fr.drew _ _) (fun _ _ h=>h)
structure Goes (b g:Nat) (O:Nat->Option Nat) (w w':World) (O':Nat->Option Nat) (V':Nat->Value) (F':Nat->List Int):Prop where
 pool:Pl w' b g O' V' F'
 fr:Fr (own b O) w w'
 sub:∀i,i<w.heap.size->own b O' i->own b O i
theorem U4:((range 6).all fun k=>(range 256).all fun q=>bits BinOp.xor IntKind.i64 ((q:Int)*2^k) (wrap64 (2^k))==((Dp q*2^k:Nat):Int)&&bits BinOp.andNot IntKind.i64 ((q:Int)*2^k) (wrap64 (2^k))==((q / 2*2^(k+1):Nat):Int))=true:=by kernel_rfl
theorem Yl{k q:Nat}(b:k<6)(a:q<256):bits BinOp.xor IntKind.i64 ((q:Int)*2^k) (wrap64 (2^k))=((Dp q*2^k:Nat):Int)/\bits BinOp.andNot IntKind.i64 ((q:Int)*2^k) (wrap64 (2^k))=((q / 2*2^(k+1):Nat):Int):=by
 have:=List.all_eq_true.1 (List.all_eq_true.1 U4 k (List.mem_range.2 b)) q (List.mem_range.2 a);simpa using this
theorem Gd{U:Nat->Bool}{n k q:Nat}(b:∀f,U f=true->f<n)(c:n<=256)(a:blk U k q):q*2^k<256/\q<256:=by
 have:=b _ (a _ (bG k q));have d:=Nat.le_mul_of_pos_right q (Nat.two_pow_pos k);omega
theorem Ae{W:World}{o:Option Nat}{v:Value}{xs:List Int}(b:kF W o v xs)(d:xs.Pairwise (· < ·))(k:xs.length<=256)(x:Int):Calls prog 138 #[v,.int .i64 x] W fun e a=>e=.returned (.tuple #[.int .i64 (xs.countP (· < x):Nat),.bool (xs.contains x)])/\∃q,a=W.drewN q:=by
 cases o with
 |none=>
  obtain⟨rfl,rfl⟩:=b;refine(Any.slices_BinarySearch_int_empty Tryz.searchL none 0 x W).mono ?_;rintro e a ⟨rfl,rfl⟩;exact⟨rfl,0,rfl⟩
 |some s=>
  obtain⟨c,i,rfl,m,l,g⟩:=b;have h:=Any.slices_BinarySearch_int Tryz.searchL s 0 xs.length c.size xs x W (le_refl _) (by omega) (fun j f=>by rw[cell_of_row W s _ _ _ _ i,zero_add,g j f]) (by rw[List.take_length];exact d.imp (fun h=>Int.le_of_lt h));rw[List.take_length] at h;exact h
theorem MJ{w:World}{b g:Nat}{O:Nat->Option Nat}{V:Nat->Value}{F:Nat->List Int}(p:Pl w b g O V F){k:Nat}(j:k<7)(x:Int)(H:(F k).length<=256)(W:World)(d:W.heap=(w.alloc (.cells #[.int .i64 x] 3)).heap)(M:W.os=w.os)(L:W.tape=w.tape)(K:W.output=w.output):Calls prog 139 #[V k,.int .i64 ((F k).countP (· < x):Nat),.slice (some ⟨w.heap.size,0,none⟩) 1 1] W fun e f=>∃a c,e=.returned (.slice a (ins (F k) x).length c)/\(∃Q P,Goes b g O w (f.setCell ⟨b,k,none⟩ (.slice a (ins (F k) x).length c)) Q P (nQ F k (ins (F k) x)))/\f.cell? ⟨b,k,none⟩=some (V k)/\f.frozen? ⟨b,k,none⟩=false:=by
 have q:=lt_of_heap p.head;have E:=p.row k j;have r:W.heap[b]? = w.heap[b]? := by rw[d];exact heap_alloc _ _ _ q
 have D:W.heap[w.heap.size]? = some (.cells #[.int .i64 x] 3):=by
  rw[d];show (w.heap.push _)[w.heap.size]? = _;rw[Array.getElem?_push,if_pos rfl]
 have t:O k≠some w.heap.size:=by
  intro e;obtain⟨N,u⟩:=p.gD j e;have:=lt_of_heap u;omega
 have n:kF W (O k) (V k) (F k):=E.keep (fun s l=>by rw[d];exact heap_alloc _ _ _ (by obtain⟨N,u⟩:=p.gD j l;exact lt_of_heap u));refine(XE n w.heap.size x D t H).mono ?_;rintro e f ⟨a,c,rfl,m,C,o,v⟩;have y:f.heap[b]? = w.heap[b]? := (v.block b (by rw[d];simp;omega) (fun e=>p.VD j e rfl)).trans r;have J:Fr (fun i=>O k=some i) w f:=(show Fr (fun i=>O k=some i) w W from⟨M,L,K,by rw[d];simp,fun i I _=>by rw[d];exact heap_alloc _ _ _ I⟩).trans v (fun _ _ h=>h);have G:m=O k\/∃s,m=some s/\w.heap.size<=s:=by
  rcases o with h|⟨s,h,l⟩
  ·exact .inl h
  ·exact .inr ⟨s,h,by rw[d] at l;simp at l;omega⟩
 obtain⟨B,A,z⟩:=p.turn j m _ _ J G C;exact⟨a,c,rfl,⟨_,_,B,A,z⟩,by rw[cell?_of_block (w:=w) (a:=⟨b,k,none⟩) y];exact p.cell j,by rw[World.frozen?_of_block (w:=w) (a:=⟨b,k,none⟩) y];exact p.free k⟩
theorem Goes.trans{b g:Nat}{O f e:Nat->Option Nat}{w w1 w2:World}{l d:Nat->Value}{m j:Nat->List Int}(h:Goes b g O w w1 f l m)(k:Goes b g f w1 w2 e d j):Goes b g O w w2 e d j:=
 ⟨k.pool,h.fr.trans k.fr (fun i c a=>h.sub i c a),fun i c a=>h.sub i c (k.sub i (Nat.lt_of_lt_of_le c h.fr.size) a)⟩
theorem PN{l:List Int}{z:Int}(h:z∉l):(l.filter fun x=>!(x==z))=l:=by
 rw[List.filter_eq_self];intro a b;simp;exact fun e=>h (e ▸ b)
theorem Jq{w:World}{b g:Nat}{O:Nat->Option Nat}{V:Nat->Value}{F:Nat->List Int}(p:Pl w b g O V F){U:Nat->Bool}{n:Nat}(Q:∀f,U f=true->f<n)(L:n<=256)(k q:Nat)(hk:k<=6)(c:Can F (cut U k q))(P:blk U k q):Calls prog 83 #[pp b,.int .i64 ((q*2^k:Nat):Int),.int .i64 k] w fun e w'=>e=.returned (.tuple #[])/\∃X W G,Goes b g O w w' X W G/\Can G U:=by
 go_enter Tryz.func83,Tryz.ntmps83
 go_wp2_with fail
 go_loopg [1,2] (6-k) (fun m s1 s2 wr=>∃(k q:Nat) (X:Nat->Option Nat) (W:Nat->Value) (G:Nat->List Int),k+m=6/\s1=.int .i64 ((q*2^k:Nat):Int)/\s2=.int .i64 k/\Goes b g O w wr X W G/\Can G (cut U k q)/\blk U k q)
 case atStart=>exact⟨k,q,O,V,F,by omega,rfl,rfl,⟨p,Fr.refl _ _,fun _ _ h=>h⟩,c,P⟩
 case round=>
  obtain⟨d,s,O1,V1,C,hk1,rfl,rfl,u,c1,t⟩:=hrel;by_cases h6:(d:Int)<6
  ·have S:d<6:=by omega
   obtain⟨hq1,K⟩:=Gd Q L t;obtain⟨e1,e2⟩:=Yl S K;have E:((Dp s:Int)*2^d)=((Dp s*2^d:Nat):Int):=by simp
   have T:=zX u.pool ((Dp s:Int)*2^d) d (by omega);rw[<-E] at e1;by_cases z:((Dp s*2^d:Nat):Int)∈C d
   ·have y:ug (cut U d s) d (Dp s):=by
     obtain⟨r,hr,y⟩:=((c1 d (by omega)).2 _).1 z;rw[oK hr];exact y
    have c2:=M4 c1 (by omega) y;rw[MU] at c2;have l:=abo t y;rw[<-E] at z c2;rw[decide_eq_true z] at T;clear E;go_wp2_with (go_at_call 137;refine T.mono ?_;rintro e w1 ⟨x,rfl,D,R⟩)
    go_roundg (6-(d+1))
    case measure=>omega
    case rel=>
     exact⟨d+1,s / 2,O1,x,_,by omega,by simp,by go_num,⟨D,u.fr.trans R (fun i M h=>u.sub i M h),u.sub⟩,c2,l⟩
   ·have y:ug U d s:=CE (by omega) t (fun _ hy=>z (((c1 d (by omega)).2 _).2 ⟨_,rfl,hy⟩));rw[<-E] at z;rw[decide_eq_false z,PN z,OD] at T;clear E z;have T':Calls prog 137 #[pp b,.int .i64 ((Dp s:Int)*2^d),.int .i64 d] wr (fun e w1=>∃x,e=.returned (.bool false)/\Goes b g O w w1 O1 x C/\w1.cell? ⟨b,d,none⟩=some (x d)/\(∀o,(w1.alloc o).cell? ⟨b,d,none⟩=some (x d))/\(∀q o,((w1.drewN q).alloc o).cell? ⟨b,d,none⟩=some (x d))):=T.mono (by
     rintro e w1 ⟨x,rfl,D,R⟩;have B:=D.cell (k:=d) (by omega);have l:=lt_of_heap D.head;exact⟨x,rfl,⟨D,u.fr.trans R (fun i M h=>u.sub i M h),u.sub⟩,B,fun o=>by rw[cell?_of_block (w:=w1) (a:=⟨b,d,none⟩) (heap_alloc _ _ _ l)];exact B,fun q o=>(cell?_of_block (w:=w1) (a:=⟨b,d,none⟩) (heap_alloc (w1.drewN q) o b l)).trans B⟩)
    have A:=(c1 d (by omega)).1;have v:(C d).length<=256:=le_trans (R5 C (m:=7) (by omega)) (le_trans (Rj c1 (fun f N=>Q f (dw.1 N).1)) L);have j:=MZ c1 (by omega) y;rw[show ((s*2^d:Nat):Int)=(s:Int)*2^d by simp] at j;clear T c1 t e2 c p P;go_wp2_with (first|(go_at_call 137;refine T'.mono ?_;rintro e w1 ⟨x,rfl,Z,J,I,H⟩) | (go_at_call 138;refine(Ae (Z.pool.row d (by omega)) A v _).mono ?_;rintro e w2 ⟨rfl,q2,rfl⟩))
    go_region_with (go_at_call 139;refine(MJ Z.pool (by omega) _ v _ (by rfl) (by rfl) (by rfl) (by rfl)).mono ?_;rintro e w3 ⟨a3,c3,rfl,⟨O3,V3,Y⟩,y3,z3⟩)
    all_goals
     go_end0
     exact⟨rfl,_,_,_,Z.trans Y,j⟩
  ·have S:d=6:=by omega
   subst S;have y:ug U 6 s:=CE (by omega) t (fun h=>by omega);have A:=(c1 6 (by omega)).1;have v:(C 6).length<=256:=le_trans (R5 C (m:=7) (by omega)) (le_trans (Rj c1 (fun f N=>Q f (dw.1 N).1)) L);have j:=MZ c1 (by omega) y;rw[show ((s*2^6:Nat):Int)=(s:Int)*64 by simp] at j;have l:=lt_of_heap u.pool.head;have J:=u.pool.cell (k:=6) (by omega);have I:∀o,(wr.alloc o).cell? ⟨b,6,none⟩=some (V1 6):=fun o=>(cell?_of_block (w:=wr) (a:=⟨b,6,none⟩) (heap_alloc wr o b l)).trans J;have H:∀q o,((wr.drewN q).alloc o).cell? ⟨b,6,none⟩=some (V1 6):=fun q o=>(cell?_of_block (w:=wr) (a:=⟨b,6,none⟩) (heap_alloc (wr.drewN q) o b l)).trans J;clear c1 t c p P;go_wp2_with (go_at_call 138;refine(Ae (u.pool.row 6 (by omega)) A v _).mono ?_;rintro e w2 ⟨rfl,q2,rfl⟩)
   go_region_with (go_at_call 139;refine(MJ u.pool (by omega) _ v _ (by rfl) (by rfl) (by rfl) (by rfl)).mono ?_;rintro e w3 ⟨a3,c3,rfl,⟨O3,V3,Y⟩,y3,z3⟩)
   all_goals
    go_end0
    exact⟨rfl,_,_,_,u.trans Y,j⟩
def tm(T:Int->Option Nat)(z:Int):Option Value:=(T z).map fun k=>.int .i64 (k:Int)
def At(w:World)(b n:Nat)(U:Nat->Bool)(T:Int->Option Nat)(m:Nat)(A:Nat->Prop):Prop:=
 ∃g O V F s,Pl w b g O V F/\Can F U/\aK w g s (tm T)/\s<=m/\BInv n U T/\n<=256/\∀i,A i↔own b O i\/i=g
def FU(w:World)(b n:Nat)(A:Nat->Prop)(w':World)(U:Nat->Bool)(T:Int->Option Nat)(m:Nat):Prop:=
 ∃A',At w' b n U T m A'/\Fr A w w'/\∀i,i<w.heap.size->A' i->A i
abbrev Li(k:Int):Value:=.iface 25 (.int .i64 k)
theorem RB(T:Int->Option Nat)(z:Int)(k:Nat):(fun i=>if i=z then some (.int .i64 (k:Int)) else tm T i)=tm (fun i=>if i=z then some k else T i):=by
 funext i;simp only[tm];split<;>rfl
theorem Z7(T:Int->Option Nat)(z:Int):(fun i=>if i=z then none else tm T i)=tm (fun i=>if i=z then none else T i):=by
 funext i;simp only[tm];split<;>rfl
theorem lX(w:World):(zeroValue 3).run prog w=.ok (.int .i64 0) w:=by kernel_rfl
theorem fJ{z:Int}(d:0<=z)(c:z<100000):(Lit.int .i64 z).wf=true:=by
 have a:IntKind.min .i64=-9223372036854775808:=rfl;have b:IntKind.max .i64=9223372036854775807:=rfl;simp only[Lit.wf,a,b,Bool.and_eq_true,decide_eq_true_eq];omega
theorem J6{w w1:World}{b g n:Nat}{O:Nat->Option Nat}{V:Nat->Value}{F:Nat->List Int}{A:Nat->Prop}(p:Pl w b g O V F)(j:∀i,A i↔own b O i\/i=g)(d:¬own b O g)(l:w.grownBy w1 (some g)){s:Nat}{T:Int->Option Nat}{m:Nat}(o:aK w1 g s (tm T))(x:s<=m)
 {U:Nat->Bool}(a:BInv n U T) (t:n<=256) (k q:Nat) (y:k<=6) (c:Can F (cut U k q)) (z:blk U k q) :
 Calls prog 83 #[pp b,.int .i64 ((q*2^k:Nat):Int),.int .i64 k] w1 fun e r=>e=.returned (.tuple #[])/\FU w b n A r U T m:=by
 have v:Pl w1 b g O V F:=p.keep (fun i f=>l.block i (p.Jr f) (fun e=>d (by cases e;exact f)));refine(Jq v a.bound t k q y c z).mono ?_;rintro e r ⟨rfl,u,C,D,G,B⟩;refine⟨rfl,fun i=>own b u i\/i=g,⟨g,u,C,D,s,G.pool,B,o.keep (G.fr.block g o.lt d),x,a,t,fun _=>Iff.rfl⟩,?_,?_⟩
 ·exact((Fr.grown l).mono (fun i _ h=>(j i).2 (.inr h))).trans G.fr (fun i _ h=>(j i).2 (.inl h))
 ·rintro i f (h|h)
  ·exact(j i).2 (.inl (G.sub i (Nat.lt_of_lt_of_le f l.size) h))
  ·exact(j i).2 (.inr h)
theorem Eu{w:World}{b n:Nat}{U:Nat->Bool}{T:Int->Option Nat}{m:Nat}{A:Nat->Prop}(h:At w b n U T m A)(q k:Nat)(v:T ((q*2^k:Nat):Int)=some k):Calls prog 330 #[pp b,.int .i64 ((q*2^k:Nat):Int),.int .i64 k] w fun e G=>e=.returned .nilIface/\FU w b n A G (join U k q) (fun z=>if z=((q*2^k:Nat):Int) then none else T z) m:=by
 obtain⟨g,O,V,F,s,p,c,u,S,d,K,M⟩:=h;have W:=p.Zf;have Q:=d.give v;obtain⟨L,r,J,j⟩:=d.tk _ _ v;have x:=oK J;subst x;have I:q*2^k<256:=by have:=(j _ (bG k q)).1;omega
 have P:tm T ((q*2^k:Nat):Int)=some (.int .i64 k):=by simp only[tm,v];rfl
 have C:cut (join U k q) k q=U:=UN (fun f B=>(j f B).2);have D:blk (join U k q) k q:=fun f B=>lI.2 (.inr B);have i:(Lit.int .i64 ((q*2^k:Nat):Int)).wf=true:=fJ (by omega) (by omega);have y:=p.ym u;rw[<-C] at c;have N:=Z7 T ((q*2^k:Nat):Int);have l:=fun t s1 (E:w.grownBy t (some g)) (o:aK t g s1 (tm fun z=>if z=((q*2^k:Nat):Int) then none else T z)) (a:s1<=m)=>J6 p M y E o a Q K k q L c D;have a:(if (tm T ((q*2^k:Nat):Int)).isSome then s-1 else s)<=m:=by split<;>omega
 generalize hZ:((q*2^k:Nat):Int)=z at *;go_enter Tryz.func330,Tryz.ntmps330
 go_wp2_with (first
  |(at_lookup;refine xA rfl _ _ 97 rfl 3 underlying97 _ (lX _) g s _ rfl u z rfl i ?_;rw[P];simp only[Option.getD_some,Option.isSome_some])
  |(at_delete;refine nE rfl _ _ 97 rfl 3 underlying97 g s _ rfl u z rfl i ?_;intro t o E;rw[N] at o)
  |(go_at_call 83;refine(l _ _ E o a).mono ?_;rintro e R ⟨rfl,H⟩))
 go_ret;exact⟨rfl,H⟩
def sD(c:Int):Value:=if c=0 then .nilIface else Li c
theorem wI{U:Nat->Bool}{k q j:Nat}(c:blk U k q)(a:j<k):cut (cut U j (q*2^(k-j))) j (q*2^(k-j)+1)=cut U (j+1) (q*2^(k-(j+1)))/\blk (cut U j (q*2^(k-j))) j (q*2^(k-j)+1)/\(q*2^(k-j)+1)*2^j=q*2^k+2^j:=by
 have h:k-j=(k-(j+1))+1:=by omega
 have i:q*2^(k-j)=2*(q*2^(k-(j+1))):=by rw[h,Nat.pow_succ];rw[Nat.mul_comm 2,mul_assoc]
 have g:Dp (q*2^(k-j))=q*2^(k-j)+1:=by unfold Dp;rw[if_pos (by omega)]
 have e:q*2^(k-j) / 2=q*2^(k-(j+1)):=by omega
 refine⟨by rw[<-g,MU,e],fun f b=>dw.2 ⟨c f ?_,by omega⟩,?_⟩
 ·have d:f / 2^(j+1)=q*2^(k-(j+1)):=by rw[oI,b];omega
  rw[sS d a];exact bG _ _
 ·rw[add_mul,mul_assoc,<-Nat.pow_add,Nat.sub_add_cancel (by omega)];omega
theorem Tx{z j:Nat}(b:z<256)(a:j<=6):wrap64 ((z:Int)+wrap64 (2^j))=(z:Int)+2^j:=by
 match j,a with
 |0,_|1,_|2,_|3,_|4,_|5,_|6,_=>simp only[wrap64];omega
theorem abP(w:World)(b:Nat)(o:Int)(h:o<0\/6<o):Calls prog 314 #[pp b,.int .i64 o] w fun e a=>e=.returned (.tuple #[.int .i64 0,Li 1])/\a=w:=by
 by_cases d:o<0<;>by_cases c:6<o
 all_goals first
  |(exfalso;omega)
  |(clear h
    go_enter func314,ntmps314
    go_wp2_with fail
    go_ret2;exact⟨rfl,rfl⟩)
theorem La{w:World}{b n:Nat}{U:Nat->Bool}{T:Int->Option Nat}{m:Nat}{A:Nat->Prop}(h:At w b n U T m A)(o:Nat)(v:o<=6)(d:∀j r,ug U j r->j<o):Calls prog 314 #[pp b,.int .i64 o] w fun e a=>e=.returned (.tuple #[.int .i64 0,Li 12])/\a=w:=by
 obtain⟨g,O,V,F,s,p,c,G,H,t,I,J⟩:=h;have y:Calls prog 341 #[pp b,.int .i64 o] w fun e a=>e=.returned (.int .i64 7)/\a=w:=by
  refine(mf p o v).mono ?_;rintro e a ⟨k,rfl,rfl,i,D,C,B⟩;have:k=7:=by
   by_cases f:k<=6
   ·exfalso;obtain⟨z,l,x⟩:=List.exists_cons_of_ne_nil (B f);obtain⟨q,_,u,_⟩:=zR c i f C x;have:=d _ _ u;omega
   ·omega
  subst this;exact⟨rfl,rfl⟩
 have i:¬(o:Int)<0:=by omega
 have D:¬(6:Int)<o:=by omega
 go_enter func314,ntmps314
 go_wp2_with (go_at_call 341;refine y.mono ?_;rintro e E ⟨rfl,rfl⟩)
 go_ret2;exact⟨rfl,rfl⟩
theorem K9{w:World}{b n:Nat}{U:Nat->Bool}{T:Int->Option Nat}{m:Nat}{A:Nat->Prop}(h:At w b n U T m A)(hm:m<10000)(o:Nat)(ho:o<=6)(k q:Nat)(hB:ZT U o (q*2^k) k):Calls prog 314 #[pp b,.int .i64 o] w fun e R=>e=.returned (.tuple #[.int .i64 ((q*2^k:Nat):Int),.nilIface])/\FU w b n A R (cut U o (q*2^(k-o))) (fun z=>if z=((q*2^k:Nat):Int) then some o else T z) (m+1):=by
 obtain⟨g,O,V,F,s,p,c,Y,hs,C,hn,P⟩:=h;obtain⟨⟨q',hq',v⟩,u,R7⟩:=hB;have e:=Nat.eq_of_mul_eq_mul_right (Nat.two_pow_pos k) hq';subst e;have hk:=v.1;have hsm:q*2^k<256:=(Gd C.bound hn v.2.1).1
 -- the row, and its first
 obtain⟨l,W⟩:∃l,F k=((q*2^k:Nat):Int)::l:=by
  have a:=((c k (by omega)).2 _).2 ⟨q,rfl,v⟩;cases hF:F k with
  |nil=>rw[hF] at a;cases a
  |cons z l=>
   obtain⟨r,hr,hy⟩:=((c k (by omega)).2 z).1 (by rw[hF];exact mem_cons_self);have H:=R7 k r hy u;have K:=(c k (by omega)).1;rw[hF] at K a;rcases mem_cons.1 a with e|e
   ·rw[e];exact⟨l,rfl⟩
   ·have:=(pairwise_cons.1 K).1 _ e;omega
 have hL:Calls prog 341 #[pp b,.int .i64 o] w fun e R=>e=.returned (.int .i64 k)/\R=w:=by
  refine(mf p o ho).mono ?_;rintro e R ⟨Z,rfl,rfl,H,h2,G,h4⟩;have:Z=k:=by
   by_cases M:Z<=6
   ·obtain⟨z,l',hl'⟩:=List.exists_cons_of_ne_nil (h4 M);obtain⟨r,_,hy,_⟩:=zR c H M G hl';have:=R7 _ _ hy H;by_cases h5:k<Z
    ·have:=G k u h5;rw[W] at this;cases this
    ·omega
   ·have:=G k u (by omega);rw[W] at this;cases this
  subst this;exact⟨rfl,rfl⟩
 have hck:=p.cell (k:=k) (by omega);have t:=p.row k (by omega);obtain⟨B,cb,hOk,hv,hlen,hc0⟩:∃B cb,O k=some B/\V k=.slice (some ⟨B,0,none⟩) (l.length+1) cb/\l.length+1<=cb/\w.cell? ⟨B,0,none⟩=some (.int .i64 ((q*2^k:Nat):Int)):=by
  cases hO:O k with
  |none=>rw[hO,W] at t;obtain⟨_,h'⟩:=t;cases h'
  |some B=>
   rw[hO,W] at t;obtain⟨cc,H,h2,G,h4,h5⟩:=t;exact⟨B,cc.size,rfl,by simpa using h2,by simpa using G,by rw[cell_of_row w B _ _ _ _ H,h5 0 (by simp)];rfl⟩
 rw[hv] at hck;have hT:=zX p ((q*2^k:Nat):Int) k (by omega);have c1:=M4 c (by omega) v;have hgo:=p.ym Y;have H:¬(o:Int)<0:=by omega
 have h2:¬(6:Int)<o:=by omega
 have G:¬(6:Int)<k:=by omega
 have Y5:=U1 v.2.1 u;have VE:=C.take ho Y5.1;rw[Y5.2] at VE;have hwf:(Lit.int .i64 ((q*2^k:Nat):Int)).wf=true:=fJ (by omega) (by omega);have e2:=RB T ((q*2^k:Nat):Int) o;have hsz:(if (tm T ((q*2^k:Nat):Int)).isSome then s else s+1)<=m+1:=by split<;>omega
 have L:=fun(j:Nat) (N:j<k) {w1:World}{D:Nat->Option Nat}{Q:Nat->Value}{E:Nat->List Int}(y:Goes b g O w w1 D Q E) (c1:Can E (cut U (j+1) (q*2^(k-(j+1)))))=>Jq y.pool (n:=n) (U:=cut U j (q*2^(k-j))) (fun f hf=>C.bound f (dw.1 hf).1) hn j (q*2^(k-j)+1) (by omega) (by rw[(wI v.2.1 N).1];exact c1) (wI v.2.1 N).2.1;have J:=fun(j:Nat) (N:j<k)=>(wI v.2.1 N).2.2;have hA':=P;generalize hZ:q*2^k=I at *;go_enter func314,ntmps314
 go_wp2_with (first|(go_at_call 341;refine hL.mono ?_;rintro e w0 ⟨rfl,h0⟩;subst w0) | (go_at_call 137;refine hT.mono ?_;rintro e w1 ⟨Q,rfl,p1,f1⟩))
 have cS:Can (nQ F k ((F k).filter fun x=>!(x==(I:Int)))) (cut U k (q*2^(k-k))):=by rw[Nat.sub_self,Nat.pow_zero,Nat.mul_one];exact c1
 go_loopg [6] (k-o) (fun mm s6 wr=>∃(j:Nat) (D:Nat->Option Nat) (Q:Nat->Value) (E:Nat->List Int),o+mm=j/\j<=k/\s6=.int .i64 j/\Goes b g O w wr D Q E/\Can E (cut U j (q*2^(k-j))))
 case atStart=>exact⟨k,O,Q,_,by omega,le_refl _,rfl,⟨p1,f1,fun _ _ h=>h⟩,cS⟩
 case round=>
  obtain⟨j,D,V2,E,N,hjk,rfl,y,cj⟩:=hrel;by_cases hgt:(o:Int)<j
  ·obtain⟨d,rfl⟩:∃d,j=d+1:=⟨j-1,by omega⟩;have hp:=L d (by omega) y cj;rw[J d (by omega),show ((I+2^d:Nat):Int)=(I:Int)+2^d by simp] at hp;have hw:=Tx (z:=I) (j:=d) (by omega) (by omega);go_wp2_with (go_at_call 83;refine hp.mono ?_;rintro e w2 ⟨rfl,O2,V3,F2,G2,c2⟩)
   go_roundg (d-o)
   case measure=>omega
   case rel=>exact⟨d,O2,V3,F2,by omega,by omega,by go_num,y.trans G2,c2⟩
  ·have hjo:j=o:=by omega
   subst hjo;have S:=y.pool;have h7:=S.Zf;have wX:=Y.keep (y.fr.block g Y.lt hgo);have hsx:s<maxLen:=by unfold maxLen;omega
   go_wp2_with (at_mapUpdate;refine ib rfl _ _ _ 97 rfl 3 underlying97 g s _ rfl wX hsx (I:Int) rfl hwf (.int .i64 (j:Int)) rfl ?_;intro w3 Zk g3;rw[e2] at Zk)
   go_ret2;have afz:¬own b D g:=S.ym wX;refine⟨rfl,fun i=>own b D i\/i=g,⟨g,D,V2,E,_,S.keep (fun i X=>g3.block i (S.Jr X) (fun e=>afz (by cases e;exact X))),cj,Zk,hsz,VE,hn,fun _=>Iff.rfl⟩,?_,?_⟩
   ·exact(y.fr.mono (fun i _ h=>(P i).2 (.inl h))).trans (Fr.grown g3) (fun i _ h=>(P i).2 (.inr h))
   ·rintro i X (h|h)
    ·exact(P i).2 (.inl (y.sub i X h))
    ·exact(P i).2 (.inr h)
theorem Qn:Can (fun _=>[]) (fun _=>false):=by
 intro k b;refine⟨List.Pairwise.nil,fun z=>⟨fun h=>(by cases h),?_⟩⟩;rintro ⟨q,_,a⟩;have:=a.2.1 _ (bG k q);cases this
theorem aei(w:World)(n:Int)(h:¬(1<=n/\n<=256)):Calls prog 36 #[.int .i64 n] w fun e a=>e=.returned (.tuple #[.pointer none,Li 2])/\a=w:=by
 by_cases c:n<1<;>by_cases b:256<n
 all_goals first
  |(exfalso;omega)
  |(clear h
    go_enter Tryz.func36,Tryz.ntmps36
    go_wp2_with fail
    go_ret2;exact⟨rfl,rfl⟩)
theorem Ty(w:World):Pl ((w.alloc (.map #[] 0)).alloc (.cells #[.slice none 0 0,.slice none 0 0,.slice none 0 0,.slice none 0 0,.slice none 0 0,.slice none 0 0,.slice none 0 0,.map (some w.heap.size)] 158)) (w.heap.size+1) w.heap.size (fun _=>none) (fun _=>.slice none 0 0) (fun _=>[]):=by
 refine⟨?_,fun k _=>⟨rfl,rfl⟩,fun j k s _ _ h=>by cases h⟩;show ((w.heap.push _).push _)[w.heap.size+1]? = _;rw[Array.getElem?_push,if_pos (by simp)];rfl
theorem WC(w:World)(n:Nat)(M:1<=n)(x:n<=256):Calls prog 36 #[.int .i64 n] w fun e o=>∃b,e=.returned (.tuple #[pp b,.nilIface])/\∃A,At o b n (fun f=>decide (f<n)) (fun _=>none) 0 A/\Fr (fun _=>False) w o/\∀i,i<w.heap.size->¬A i:=by
 have p:=Ty w;have a:aK ((w.alloc (.map #[] 0)).alloc (.cells #[.slice none 0 0,.slice none 0 0,.slice none 0 0,.slice none 0 0,.slice none 0 0,.slice none 0 0,.slice none 0 0,.map (some w.heap.size)] 158)) w.heap.size 0 (fun _=>none):=(aK.made w).keep (heap_alloc _ _ _ (by simp));have y:Fr (fun _=>False) w ((w.alloc (.map #[] 0)).alloc (.cells #[.slice none 0 0,.slice none 0 0,.slice none 0 0,.slice none 0 0,.slice none 0 0,.slice none 0 0,.slice none 0 0,.map (some w.heap.size)] 158)):=(Fr.alloc _ w _).trans (Fr.alloc _ _ _) (fun _ _ h=>h);have r:w.heap.size+2<=((w.alloc (.map #[] 0)).alloc (.cells #[.slice none 0 0,.slice none 0 0,.slice none 0 0,.slice none 0 0,.slice none 0 0,.slice none 0 0,.slice none 0 0,.map (some w.heap.size)] 158)).heap.size:=by simp
 have t:=@run_makeMap prog;have L:¬(n:Int)<1:=by omega
 have K:¬(256:Int)<n:=by omega
 go_enter Tryz.func36,Tryz.ntmps36
 go_wp2_with fail
 go_loopg [17] n (fun m s wr=>∃(i:Nat) (O:Nat->Option Nat) (V:Nat->Value) (F:Nat->List Int),i+m=n/\s=.int .i64 i/\Goes (w.heap.size+1) w.heap.size (fun _=>none) ((w.alloc (.map #[] 0)).alloc (.cells #[.slice none 0 0,.slice none 0 0,.slice none 0 0,.slice none 0 0,.slice none 0 0,.slice none 0 0,.slice none 0 0,.map (some w.heap.size)] 158)) wr O V F/\Can F (fun f=>decide (f<i)))
 case atStart=>exact⟨0,_,_,_,by omega,rfl,⟨p,Fr.refl _ _,fun _ _ h=>h⟩,by simpa using Qn⟩
 case round=>
  obtain⟨i,O,V,F,J,rfl,G,c⟩:=hrel;by_cases u:(i:Int)<n
  ·have z:cut (fun f=>decide (f<i+1)) 0 i=fun f=>decide (f<i):=by
    funext f;rw[Bool.eq_iff_iff,dw];simp;omega
   have q:=Jq G.pool (n:=i+1) (U:=fun f=>decide (f<i+1)) (fun f l=>by simpa using l) (by omega) 0 i (by omega) (by rw[z];exact c) (fun f l=>by simp at l;simp;omega);rw[show ((i*2^0:Nat):Int)=(i:Int) by simp] at q;go_wp2_with (go_at_call 83;refine q.mono ?_;rintro e I ⟨rfl,D,C,H,E,B⟩)
   go_roundg (n-(i+1))
   case measure=>omega
   case rel=>exact⟨i+1,D,C,H,by omega,by go_num,G.trans E,B⟩
  ·have d:i=n:=by omega
   subst d;go_wp2_with fail
   go_ret2;have g:=p.ym a;refine⟨_,rfl,fun j=>own (w.heap.size+1) O j\/j=w.heap.size,⟨w.heap.size,O,V,F,0,G.pool,c,?_,le_refl _,XD i,x,fun _=>Iff.rfl⟩,?_,?_⟩
   ·exact a.keep (G.fr.block _ (by omega) g)
   ·refine y.trans G.fr ?_;rintro j v (h|⟨k,_,h⟩)
    ·omega
    ·cases h
   ·rintro j v (h|h)
    ·rcases G.sub j (by omega) h with h|⟨k,_,h⟩
     ·omega
     ·cases h
    ·omega
theorem Oi{l k:Nat}(h:l*2^k<=256)(a:Nat)(b:a<=256):wrap64 ((a:Int)+wrap64 ((l:Int)*2^k))=((a+l*2^k:Nat):Int):=by
 have e:((l*2^k:Nat):Int)=(l:Int)*2^k:=by simp
 rw[<-e];generalize l*2^k=x at *;unfold wrap64;omega
theorem aaQ(V:Nat->Value)(k:Nat)(a:k<7)(w:World):(Instr.index 156 (.agg #[V 0,V 1,V 2,V 3,V 4,V 5,V 6]) (.int .i64 k)).run prog w=.ok (V k) w:=by
 rcases (by omega:k=0\/k=1\/k=2\/k=3\/k=4\/k=5\/k=6) with h|h|h|h|h|h|h<;>subst h<;>kernel_rfl
theorem Xy{w:World}{b n:Nat}{U:Nat->Bool}{T:Int->Option Nat}{m:Nat}{A:Nat->Prop}(h:At w b n U T m A):Calls prog 213 #[pp b] w fun e o=>e=.returned (.int .i64 (cnt U 0 n:Nat))/\o=w:=by
 obtain⟨g,O,V,F,s,p,c,x,y,inv,z,C⟩:=h;have u:=YZ c inv.bound;have v:=Rj c inv.bound;have c0:=p.cell (k:=0) (by omega);have c1:=p.cell (k:=1) (by omega);have c2:=p.cell (k:=2) (by omega);have c3:=p.cell (k:=3) (by omega);have c4:=p.cell (k:=4) (by omega);have G:=p.cell (k:=5) (by omega);have E:=p.cell (k:=6) (by omega);go_enter Tryz.func213,Tryz.ntmps213
 go_wp2_with fail
 go_loopg [3,12] 7 (fun q s3 s12 wr=>∃k:Nat,k+q=7/\s3=.int .i64 (lf F k:Nat)/\s12=.int .i64 k/\wr=w)
 case atStart=>exact⟨0,by omega,rfl,rfl,rfl⟩
 case round=>
  obtain⟨k,B,rfl,rfl,i⟩:=hrel;subst wr;by_cases t:(k:Int)<7
  ·have d:k<7:=by omega
   obtain⟨a,D,r,_,_⟩:=(p.row k d).isSlice;have j:=R4 F (k:=k) (m:=7) d;have i:=Oi (l:=(F k).length) (k:=k) (by omega) (lf F k) (by omega);have f:=aaQ V k d w;rw[r] at f;go_wp2_with fail
   go_roundg (7-(k+1))
   case measure=>omega
   case rel=>exact⟨k+1,by omega,by rw[lf,i],by go_num,rfl⟩
  ·have d:k=7:=by omega
   subst d;go_wp2_with fail
   go_ret;exact⟨rfl,rfl⟩
end
end Go.Proofs.YtippochapiolpaaGreatDoor

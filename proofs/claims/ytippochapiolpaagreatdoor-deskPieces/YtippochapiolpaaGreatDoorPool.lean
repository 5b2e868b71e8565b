/- Ours. -/
import Derived.Test.YtippochapiolpaaGreatDoorSKeys
import Derived.Sort.Row
import Derived.Deep.Draws
namespace Go.Proofs.YtippochapiolpaaGreatDoor
open Nat(le_refl pow_add pow_one two_pow_pos)
open List(mem_cons pairwise_cons)
section
def blk(U:Nat->Bool)(j q:Nat):Prop:=∀f,f / 2^j=q->U f=true
def ug(U:Nat->Bool)(j q:Nat):Prop:=j<=6/\blk U j q/\(j<6->¬blk U (j+1) (q / 2))
def cut(U:Nat->Bool)(j q:Nat):Nat->Bool:=fun f=>U f && !(f / 2^j==q)
def join(U:Nat->Bool)(j q:Nat):Nat->Bool:=fun f=>U f || (f / 2^j==q)
def Dp(q:Nat):Nat:=if q % 2=0 then q+1 else q-1
theorem sS{f j q k:Nat}(h:f / 2^j=q)(a:j<=k):f / 2^k=q / 2^(k-j):=by
 rw[<-h,Nat.div_div_eq_div_mul,<-pow_add,Nat.add_sub_cancel' a]
theorem oI(f j:Nat):f / 2^(j+1)=f / 2^j / 2:=by
 rw[Nat.pow_succ,Nat.div_div_eq_div_mul]
theorem bG(j q:Nat):q*2^j / 2^j=q:=Nat.mul_div_cancel q (two_pow_pos j)
theorem lW(f j q:Nat):f / 2^j=q↔q*2^j<=f/\f<q*2^j+2^j:=by
 rw[Nat.div_eq_iff (two_pow_pos j)];have:=two_pow_pos j;omega
theorem Rf{U:Nat->Bool}{j q k m f:Nat}(h:ug U j q)(c:blk U k m)(i:k<=6)(e:f / 2^j=q)(d:f / 2^k=m):¬j<k:=by
 intro a;refine h.2.2 (by omega) (fun g b=>c g ?_);rw[sS b a,<-d,sS (f:=f) (j:=j+1) (by rw[oI,e]) a]
theorem yY{U:Nat->Bool}{j q k m f:Nat}(h:ug U j q)(g:ug U k m)(d:f / 2^j=q)(c:f / 2^k=m):j=k/\q=m:=by
 have a:=Rf h g.2.1 g.1 d c;have b:=Rf g h.2.1 h.1 c d;have e:j=k:=by omega
 subst e;exact⟨rfl,d.symm.trans c⟩
theorem dw{U:Nat->Bool}{k m f:Nat}:cut U k m f=true↔U f=true/\f / 2^k≠m:=by simp[cut]
theorem lI{U:Nat->Bool}{k m f:Nat}:join U k m f=true↔U f=true\/f / 2^k=m:=by simp[join]
theorem lC{U:Nat->Bool}{k m:Nat}(h:ug U k m)(j q:Nat):ug (cut U k m) j q↔ug U j q/\¬(j=k/\q=m):=by
 constructor
 ·rintro ⟨i,d,a⟩;have p:=bG j q;have r:=dw.1 (d _ p);refine⟨⟨i,fun f l=>(dw.1 (d f l)).1,fun b n=>a b (fun g c=>dw.2 ⟨n g c,fun e=>?_⟩)⟩,?_⟩
  ·by_cases s:k<j+1
   ·exact Rf h n (by omega) e c s
   ·refine r.2 ?_;rw[sS p (by omega:j<=k),<-e,sS c (by omega:j+1<=k),<-pow_one 2,Nat.div_div_eq_div_mul,<-pow_add,pow_one];congr 2;omega
  ·rintro ⟨rfl,rfl⟩;exact r.2 p
 ·rintro ⟨⟨i,d,a⟩,o⟩;exact⟨i,fun f l=>dw.2 ⟨d f l,fun e=>o (yY ⟨i,d,a⟩ h l e)⟩,fun b n=>a b (fun g c=>(dw.1 (n g c)).1)⟩
theorem zQ(q:Nat):Dp q / 2=q / 2:=by unfold Dp;split<;>omega
theorem abm(q:Nat):Dp q≠q:=by unfold Dp;split<;>omega
theorem MO{x q:Nat}(h:x / 2=q / 2):x=q\/x=Dp q:=by unfold Dp;split<;>omega
theorem MU(U:Nat->Bool)(k q:Nat):cut (cut U k q) k (Dp q)=cut U (k+1) (q / 2):=by
 funext f;rw[Bool.eq_iff_iff,dw,dw,dw,oI];constructor
 ·rintro ⟨⟨h,a⟩,b⟩;exact⟨h,fun e=>(MO e).elim a b⟩
 ·rintro ⟨h,a⟩;exact⟨⟨h,fun e=>a (by rw[e])⟩,fun e=>a (by rw[e,zQ])⟩
theorem UN{U:Nat->Bool}{k q:Nat}(h:∀f,f / 2^k=q->U f=false):cut (join U k q) k q=U:=by
 funext f;rw[Bool.eq_iff_iff,dw,lI];constructor
 ·rintro ⟨a|a,b⟩
  ·exact a
  ·exact absurd a b
 ·intro a;exact⟨.inl a,fun e=>by rw[h f e] at a;cases a⟩
theorem CE{U:Nat->Bool}{k q:Nat}(a:k<=6)(d:blk U k q)(h:k<6->¬ug (cut U k q) k (Dp q)):ug U k q:=by
 refine⟨a,d,fun g e=>h g ⟨a,fun f b=>dw.2 ⟨e f (by rw[oI,b,zQ]),by rw[b];exact abm q⟩,fun _ c=>?_⟩⟩;rw[zQ] at c;exact(dw.1 (c (q*2^k) (by rw[oI,bG]))).2 (bG k q)
theorem abo{U:Nat->Bool}{k q:Nat}(b:blk U k q)(h:ug (cut U k q) k (Dp q)):blk U (k+1) (q / 2):=by
 intro f a;rw[oI] at a;rcases MO a with e|e
 ·exact b f e
 ·exact(dw.1 (h.2.1 f e)).1
def Can(F:Nat->List Int)(U:Nat->Bool):Prop:=
 ∀k,k<7->(F k).Pairwise (· < ·)/\∀z,z∈F k↔∃q:Nat,z=((q*2^k:Nat):Int)/\ug U k q
def nQ(F:Nat->List Int)(k:Nat)(l:List Int):Nat->List Int:=fun j=>if j=k then l else F j
theorem Cs(F:Nat->List Int)(k:Nat)(l:List Int):nQ F k l k=l:=by simp[nQ]
theorem OD(F:Nat->List Int)(k:Nat):nQ F k (F k)=F:=by funext j;simp only[nQ];split<;>simp_all
theorem oK{k q m:Nat}(h:((q*2^k:Nat):Int)=((m*2^k:Nat):Int)):q=m:=
 Nat.eq_of_mul_eq_mul_right (two_pow_pos k) (Int.ofNat.inj h)
theorem M4{F:Nat->List Int}{U:Nat->Bool}(c:Can F U){k m:Nat}(g:k<7)(h:ug U k m):Can (nQ F k ((F k).filter fun x=>!(x==((m*2^k:Nat):Int)))) (cut U k m):=by
 intro j f;by_cases e:j=k
 ·subst e;rw[Cs];refine⟨(c j f).1.filter _,fun z=>?_⟩;rw[List.mem_filter,(c j f).2 z];constructor
  ·rintro ⟨⟨q,rfl,a⟩,b⟩;refine⟨q,rfl,(lC h j q).2 ⟨a,fun d=>?_⟩⟩;rw[d.2] at b;simp at b
  ·rintro ⟨q,rfl,a⟩;have:=(lC h j q).1 a;refine⟨⟨q,rfl,this.1⟩,?_⟩;simp only[Bool.not_eq_true',beq_eq_false_iff_ne,ne_eq];exact fun d=>this.2 ⟨rfl,oK d⟩
 ·rw[show nQ F k ((F k).filter fun x=>!(x==((m*2^k:Nat):Int))) j=F j by simp[nQ,e]];refine⟨(c j f).1,fun z=>?_⟩;rw[(c j f).2 z];constructor
  ·rintro ⟨q,rfl,a⟩;exact⟨q,rfl,(lC h j q).2 ⟨a,fun d=>e d.1⟩⟩
  ·rintro ⟨q,rfl,a⟩;exact⟨q,rfl,((lC h j q).1 a).1⟩
def ins(l:List Int)(x:Int):List Int:=l.take (l.countP (· < x))++x::l.drop (l.countP (· < x))
theorem KV{l:List Int}{x:Int}(h:∀y∈l,¬y<x):l.countP (· < x)=0:=by
 rw[List.countP_eq_zero];intro y a;simpa using h y a
theorem Us(a:Int)(l:List Int)(x:Int)(h:a<x):ins (a::l) x=a::ins l x:=by
 unfold ins;rw[List.countP_cons_of_pos (by simpa using h)];simp
theorem AJ:∀(l:List Int) (x:Int),l.Pairwise (· < ·)->x∉l->(ins l x).Pairwise (· < ·)/\∀z,z∈ins l x↔z∈l\/z=x
 | [],x,_,_=>by simp[ins]
 |a::l,x,hs,hx=>by
  rw[pairwise_cons] at hs;by_cases h:a<x
  ·rw[Us a l x h];have c:=AJ l x hs.2 (fun g=>hx (List.mem_cons_of_mem _ g));refine⟨pairwise_cons.2 ⟨fun z b=>?_,c.1⟩,fun z=>?_⟩
   ·rcases (c.2 z).1 b with b|rfl
    ·exact hs.1 z b
    ·exact h
   ·rw[mem_cons,c.2 z,mem_cons,or_assoc]
  ·have f:x<a:=by
    have:x≠a:=fun e=>hx (by rw[e];exact List.mem_cons_self);omega
   have e:ins (a::l) x=x::a::l:=by
    unfold ins;rw[KV (by intro y d;rcases mem_cons.1 d with rfl|d;exact h;have:=hs.1 y d;omega)];rfl
   rw[e];refine⟨pairwise_cons.2 ⟨fun z b=>?_,pairwise_cons.2 hs⟩,fun z=>?_⟩
   ·rcases mem_cons.1 b with rfl|b
    ·exact f
    ·have:=hs.1 z b;omega
   ·rw[mem_cons];exact or_comm
theorem MZ{F:Nat->List Int}{U:Nat->Bool}{k q:Nat}(c:Can F (cut U k q))(l:k<7)(h:ug U k q):Can (nQ F k (ins (F k) ((q*2^k:Nat):Int))) U:=by
 intro j b;by_cases e:j=k
 ·subst e;rw[Cs];have i:((q*2^j:Nat):Int)∉F j:=by
   intro d;obtain⟨m,d,a⟩:=((c j b).2 _).1 d;exact((lC h j m).1 a).2 ⟨rfl,(oK d).symm⟩
  have g:=AJ (F j) _ (c j b).1 i;refine⟨g.1,fun z=>?_⟩;rw[g.2 z,(c j b).2 z];constructor
  ·rintro (⟨m,rfl,a⟩|rfl)
   ·exact⟨m,rfl,((lC h j m).1 a).1⟩
   ·exact⟨q,rfl,h⟩
  ·rintro ⟨m,rfl,a⟩;by_cases e:m=q
   ·subst e;exact .inr rfl
   ·exact .inl ⟨m,rfl,(lC h j m).2 ⟨a,fun f=>e f.2⟩⟩
 ·rw[show nQ F k (ins (F k) ((q*2^k:Nat):Int)) j=F j by simp[nQ,e]];refine⟨(c j b).1,fun z=>?_⟩;rw[(c j b).2 z];constructor
  ·rintro ⟨m,rfl,a⟩;exact⟨m,rfl,((lC h j m).1 a).1⟩
  ·rintro ⟨m,rfl,a⟩;exact⟨m,rfl,(lC h j m).2 ⟨a,fun f=>e f.1⟩⟩
def okb(U:Nat->Bool)(f k:Nat):Bool:=f % 2^k==0&&(List.range (2^k)).all fun i=>U (f+i)
def qc(U:Nat->Bool)(f:Nat):Nat->Nat
 |0=>0
 |k+1=>if okb U f (k+1) then k+1 else qc U f k
def scan(U:Nat->Bool)(n:Nat):Nat->Nat->List (Nat×Nat)
 |0,_=>[]
 |g+1,f=>if f<n then (if U f then (f,qc U f 6)::scan U n g (f+2^qc U f 6) else scan U n g (f+1)) else []
def cnt(U:Nat->Bool):Nat->Nat->Nat
 |_,0=>0
 |f,m+1=>(if U f then 1 else 0)+cnt U (f+1) m
def size(l:List (Nat×Nat)):Nat:=(l.map fun x=>2^x.2).sum
theorem EG(U:Nat->Bool):∀(a b f:Nat),cnt U f (a+b)=cnt U f a+cnt U (f+a) b
 |0,b,f=>by simp[cnt]
 |a+1,b,f=>by
  rw[show a+1+b=(a+b)+1 by omega,cnt,cnt,EG U a b (f+1),show f+1+a=f+(a+1) by omega];omega
theorem MV(U:Nat->Bool):∀(m f:Nat),(∀i,i<m->U (f+i)=true)->cnt U f m=m
 |0,_,_=>rfl
 |m+1,f,h=>by
  rw[cnt,MV U m (f+1) (fun i a=>by rw[show f+1+i=f+(i+1) by omega];exact h (i+1) (by omega)),show U f=true from h 0 (by omega)];simp;omega
theorem Mj{U:Nat->Bool}{f k:Nat}:okb U f k=true↔∃q,f=q*2^k/\blk U k q:=by
 have e:=two_pow_pos k;simp only[okb,Bool.and_eq_true,beq_iff_eq,List.all_eq_true,List.mem_range];constructor
 ·rintro ⟨h,d⟩;have b:f=f / 2^k*2^k:=by have:=Nat.div_add_mod f (2^k);rw[h,Nat.add_zero,Nat.mul_comm] at this;exact this.symm
  refine⟨f / 2^k,b,fun g a=>?_⟩;rw[lW,<-b] at a;have:=d (g-f) (by omega);rwa[Nat.add_sub_cancel' a.1] at this
 ·rintro ⟨q,rfl,c⟩;exact⟨Nat.mul_mod_left _ _,fun i j=>c _ ((lW _ _ _).2 ⟨by omega,by omega⟩)⟩
theorem Mi(U:Nat->Bool)(f:Nat):∀k,qc U f k<=k
 |0=>le_refl _
 |k+1=>by rw[qc];split;exact le_refl _;exact Nat.le_succ_of_le (Mi U f k)
theorem Mh(U:Nat->Bool)(f:Nat)(h:U f=true):∀k,okb U f (qc U f k)=true
 |0=>by simp[qc,okb,h,Nat.mod_one]
 |k+1=>by rw[qc];split;assumption;exact Mh U f h k
theorem Gw(U:Nat->Bool)(f:Nat):∀k j,qc U f k<j->j<=k->okb U f j=false
 |0,j,h,hj=>by rw[qc] at h;omega
 |k+1,j,h,hj=>by
  rw[qc] at h;split at h
  ·omega
  ·rename_i a
   by_cases e:j=k+1
   ·subst e;simpa using a
   ·exact Gw U f k j h (by omega)
theorem R6(U:Nat->Bool):∀(d k q:Nat),6-k=d->k<=6->blk U k q->∃j m,k<=j/\m=q / 2^(j-k)/\ug U j m
 |0,k,q,hd,hk,hb=>⟨k,q,le_refl _,by simp,hk,hb,fun h=>by omega⟩
 |d+1,k,q,hd,hk,hb=>by
  by_cases h:blk U (k+1) (q / 2)
  ·obtain⟨j,m,c,b,a⟩:=R6 U d (k+1) (q / 2) (by omega) (by omega) h;refine⟨j,m,by omega,?_,a⟩;rw[b,<-pow_one 2,Nat.div_div_eq_div_mul,<-pow_add,pow_one];congr 2;omega
  ·exact⟨k,q,le_refl _,by simp,hk,hb,fun _=>h⟩
def clean(U:Nat->Bool)(f:Nat):Prop:=∀k q,ug U k q->f<=q*2^k\/q*2^k+2^k<=f
theorem tY(U:Nat->Bool):clean U 0:=fun _ _ _=>.inl (Nat.zero_le _)
theorem TE{U:Nat->Bool}{f:Nat}(p:clean U f)(h:U f=true):∃q,f=q*2^qc U f 6/\ug U (qc U f 6) q:=by
 obtain⟨q,l,r⟩:=Mj.1 (Mh U f h 6);have g:=Mi U f 6;refine⟨q,l,?_⟩;obtain⟨j,m,n,d,c⟩:=R6 U _ _ q rfl g r;have i:f / 2^qc U f 6=q:=(lW _ _ _).2 ⟨by omega,by have:=two_pow_pos (qc U f 6);omega⟩;have k:f / 2^j=m:=by rw[sS i n,d]
 have o:=(lW _ _ _).1 k;have b:f=m*2^j:=by rcases p j m c with a|a<;>omega
 by_cases e:qc U f 6=j
 ·rw[e] at d ⊢;simp at d;rw[<-d];exact c
 ·have:=Gw U f 6 j (by omega) c.1;rw[Mj.2 ⟨m,b,c.2.1⟩] at this;cases this
theorem uI{U:Nat->Bool}{n:Nat}(p:∀f,U f=true->f<n):∀(g f:Nat),n<=f+g->clean U f->
 (∀b k,(b,k)∈scan U n g f↔f<=b/\∃q,b=q*2^k/\ug U k q)/\(scan U n g f).Pairwise (fun x y=>x.1<y.1)/\size (scan U n g f)=cnt U f (n-f)
 |0,f,hg,_=>by
  refine⟨fun b k=>⟨fun h=>by simp[scan] at h,?_⟩,by simp[scan],by simp[scan,size,show n-f=0 by omega,cnt]⟩;rintro ⟨A,q,rfl,d⟩;have:=p _ (d.2.1 _ (bG k q));omega
 |g+1,f,hg,hc=>by
  rw[scan];by_cases A:f<n
  ·rw[if_pos A];cases hU:U f with
   |true=>
    rw[if_pos rfl];obtain⟨q,B,d⟩:=TE hc hU;generalize hk:qc U f 6=k at B d ⊢;have D:=two_pow_pos k;have l:clean U (f+2^k):=by
     intro j m c;rcases hc j m c with a|a
     ·by_cases e:f+2^k<=m*2^j
      ·exact .inl e
      ·have s:m*2^j / 2^k=q:=(lW _ _ _).2 ⟨by omega,by omega⟩;obtain⟨t,v⟩:=yY c d (bG j m) s;subst t v;exact .inr (by omega)
     ·exact .inr (by omega)
    have C:f+2^k<=n:=by
     have:=p _ (d.2.1 (f+2^k-1) ((lW _ _ _).2 ⟨by omega,by omega⟩));omega
    obtain⟨u,z,w⟩:=uI p g (f+2^k) (by omega) l;refine⟨fun b j=>?_,pairwise_cons.2 ⟨fun y c=>?_,z⟩,?_⟩
    ·rw[mem_cons,u b j];constructor
     ·rintro (h|⟨h,r,o,c⟩)
      ·cases h;exact⟨le_refl _,q,B,d⟩
      ·exact⟨by omega,r,o,c⟩
     ·rintro ⟨h,r,o,c⟩;by_cases e:b=f
      ·have s:f / 2^k=q:=(lW _ _ _).2 ⟨by omega,by omega⟩;have F:f / 2^j=r:=(lW _ _ _).2 ⟨by omega,by have:=two_pow_pos j;omega⟩;obtain⟨t,v⟩:=yY d c s F;subst t;exact .inl (by rw[e])
      ·refine .inr ⟨?_,r,o,c⟩;rcases l j r c with a|a
       ·omega
       ·exfalso;have s:b / 2^k=q:=(lW _ _ _).2 ⟨by omega,by have:=two_pow_pos j;omega⟩;obtain⟨t,v⟩:=yY c d (by rw[o];exact bG j r) s;subst t v;omega
    ·have:=((u y.1 y.2).1 c).1;show f<y.1;omega
    ·have e:n-f=2^k+(n-(f+2^k)):=by omega
     rw[e,EG,MV U (2^k) f (fun i G=>d.2.1 _ ((lW _ _ _).2 ⟨by omega,by omega⟩)),<-w];simp[size]
   |false=>
    rw[if_neg (by simp)];have l:clean U (f+1):=by
     intro j m c;have D:=two_pow_pos j;rcases hc j m c with a|a
     ·by_cases e:m*2^j=f
      ·have:=c.2.1 f (by rw[<-e];exact bG j m);rw[hU] at this;cases this
      ·exact .inl (by omega)
     ·exact .inr (by omega)
    obtain⟨u,z,w⟩:=uI p g (f+1) (by omega) l;refine⟨fun b j=>?_,z,?_⟩
    ·rw[u b j];constructor
     ·rintro ⟨h,r⟩;exact⟨by omega,r⟩
     ·rintro ⟨h,r,o,c⟩;refine⟨?_,r,o,c⟩;by_cases e:b=f
      ·have:=c.2.1 f (by rw[<-e,o];exact bG j r);rw[hU] at this;cases this
      ·omega
    ·rw[w,show n-f=1+(n-(f+1)) by omega,EG];simp[cnt,hU]
  ·rw[if_neg A];refine⟨fun b k=>⟨fun h=>by simp at h,?_⟩,List.Pairwise.nil,by simp[size,show n-f=0 by omega,cnt]⟩;rintro ⟨E,q,rfl,d⟩;have:=p _ (d.2.1 _ (bG k q));omega
def blocks(U:Nat->Bool)(n:Nat):List (Nat×Nat):=scan U n n 0
theorem tZ{U:Nat->Bool}{n:Nat}(a:∀f,U f=true->f<n)(b k:Nat):(b,k)∈blocks U n↔∃q,b=q*2^k/\ug U k q:=by
 rw[blocks,(uI a n 0 (by omega) (tY U)).1 b k];simp
theorem BC{U:Nat->Bool}{n:Nat}(a:∀f,U f=true->f<n):(blocks U n).Pairwise (fun x y=>x.1<y.1):=
 (uI a n 0 (by omega) (tY U)).2.1
theorem xO{U:Nat->Bool}{n:Nat}(a:∀f,U f=true->f<n):size (blocks U n)=cnt U 0 n:=by
 simpa[blocks] using (uI a n 0 (by omega) (tY U)).2.2
end
section
open Go.RowKit Go.Sort
structure Fr (A:Nat->Prop) (w w':World):Prop where
 os:w'.os=w.os
 tape:w'.tape=w.tape
 output:w'.output=w.output
 size:w.heap.size<=w'.heap.size
 block:∀i,i<w.heap.size->¬A i->w'.heap[i]? = w.heap[i]?
theorem Fr.refl(A:Nat->Prop)(w:World):Fr A w w:=⟨rfl,rfl,rfl,le_refl _,fun _ _ _=>rfl⟩
theorem Fr.trans{A B:Nat->Prop}{w w1 w2:World}(h:Fr A w w1)(k:Fr B w1 w2)(d:∀i,i<w.heap.size->B i->A i):Fr A w w2:=
 ⟨k.os.trans h.os,k.tape.trans h.tape,k.output.trans h.output,Nat.le_trans h.size k.size,fun i a b=>(k.block i (Nat.lt_of_lt_of_le a h.size) (fun c=>b (d i a c))).trans (h.block i a b)⟩
theorem Fr.mono{A B:Nat->Prop}{w w1:World}(h:Fr A w w1)(d:∀i,i<w.heap.size->A i->B i):Fr B w w1:=
 ⟨h.os,h.tape,h.output,h.size,fun i b c=>h.block i b (fun a=>c (d i b a))⟩
theorem Fr.grown{w w':World}{g:Nat}(h:w.grownBy w' (some g)):Fr (·=g) w w':=
 ⟨h.os,h.tape,h.output,h.size,fun i b a=>h.block i b (fun e=>a (Option.some.inj e))⟩
theorem Fr.alloc(A:Nat->Prop)(w:World)(o:Obj):Fr A w (w.alloc o):=
 ⟨rfl,rfl,rfl,by simp,fun i a _=>Below.heap_alloc w o i a⟩
theorem Fr.drewN(A:Nat->Prop)(w:World)(q:Nat):Fr A w (w.drewN q):=⟨rfl,rfl,rfl,le_refl _,fun _ _ _=>rfl⟩
theorem Fr.drew(A:Nat->Prop)(w:World):Fr A w w.drew:=⟨rfl,rfl,rfl,le_refl _,fun _ _ _=>rfl⟩
theorem Fr.setCell{A:Nat->Prop}{w w1:World}(h:Fr A w w1)(b o:Nat)(v:Value)(d:b<w.heap.size->A b):Fr A w (w1.setCell ⟨b,o,none⟩ v):=
 ⟨h.os,h.tape,h.output,by simpa using h.size,fun i c a=>(Below.heap_setCell _ _ _ _ (fun e=>a (by subst e;exact d c))).trans (h.block i c a)⟩
theorem Fr.setCells{A:Nat->Prop}{w:World}(b:Nat)(a:b<w.heap.size->A b):∀(c:List Value) (o:Nat) (w1:World),Fr A w w1->Fr A w (w1.setCells b o c)
 | [],_,_,h=>h
 |v::r,o,w1,h=>by rw[World.setCells];exact Fr.setCells b a r (o+1) _ (h.setCell b o v a)
theorem rQ(w:World)(s i:Nat)(f:Array Value->Array Value)(h:i≠s):(mapBlock w s f).heap[i]? = w.heap[i]? := by
 simp[mapBlock,Array.getElem?_modify,h.symm]
theorem mO(w:World)(s:Nat)(f:Array Value->Array Value)(c:Array Value)(t:TypeId)(a:Nat×Nat)(h:w.heap[s]? = some (.cells c t a)):(mapBlock w s f).heap[s]? = some (.cells (f c) t a):=by
 simp[mapBlock,Array.getElem?_modify,h,onCells]
theorem Fr.mapBlock{A:Nat->Prop}{w w1:World}(h:Fr A w w1)(b:Nat)(f:Array Value->Array Value)(d:b<w.heap.size->A b):Fr A w (mapBlock w1 b f):=
 ⟨h.os,h.tape,h.output,by simpa[Sort.mapBlock] using h.size,fun i c a=>(rQ _ _ _ _ (fun e=>a (by subst e;exact d c))).trans (h.block i c a)⟩
theorem heap_setCell_same(w:World)(s o:Nat)(v:Value)(c:Array Value)(t:TypeId)(a:Nat×Nat)(h:w.heap[s]? = some (.cells c t a)):(w.setCell ⟨s,o,none⟩ v).heap[s]? = some (.cells (c.setIfInBounds o v) t a):=by
 rw[setCell_eq];exact mO w s _ c t a h
theorem dz(s:Nat)(t:TypeId)(a:Nat×Nat):∀(d:List Value) (o:Nat) (w:World) (c:Array Value),w.heap[s]? = some (.cells c t a)->∃b,(w.setCells s o d).heap[s]? = some (.cells b t a)/\b.size=c.size
 | [],_,_,c,h=>⟨c,h,rfl⟩
 |v::r,o,w,c,h=>by
  rw[World.setCells];obtain⟨b,f,e⟩:=dz s t a r (o+1) _ _ (heap_setCell_same w s o v c t a h);exact⟨b,f,by rw[e];simp⟩
def kF(w:World)(o:Option Nat)(v:Value)(xs:List Int):Prop:=
 match o with
 |none=>v=.slice none 0 0/\xs=[]
 |some s=>∃c:Array Value,w.heap[s]? = some (.cells c 3)/\v=.slice (some ⟨s,0,none⟩) xs.length c.size/\xs.length<=c.size/\c.size<=maxLen/\∀j,j<xs.length->c[j]? = some (.int .i64 (xs.getD j 0))
theorem kF.keep{w w':World}{o:Option Nat}{v:Value}{xs:List Int}(h:kF w o v xs)(a:∀s,o=some s->w'.heap[s]? = w.heap[s]?):kF w' o v xs:=by
 cases o with
 |none=>exact h
 |some s=>
  obtain⟨c,d,b⟩:=h;exact⟨c,(a s rfl).trans d,b⟩
def pc(V:Nat->Value)(g:Nat):Array Value:=#[V 0,V 1,V 2,V 3,V 4,V 5,V 6,.map (some g)]
theorem aag(V:Nat->Value)(g k:Nat)(h:k<7):(pc V g)[k]? = some (V k):=by
 match k,h with
 |0,_|1,_|2,_|3,_|4,_|5,_|6,_=>rfl
def QR(V:Nat->Value)(k:Nat)(v:Value):Nat->Value:=fun j=>if j=k then v else V j
theorem aaf(V:Nat->Value)(g k:Nat)(v:Value)(h:k<7):(pc V g).setIfInBounds k v=pc (QR V k v) g:=by
 match k,h with
 |0,_|1,_|2,_|3,_|4,_|5,_|6,_=>rfl
structure Pl (w:World) (b g:Nat) (O:Nat->Option Nat) (V:Nat->Value) (F:Nat->List Int):Prop where
 head:w.heap[b]? = some (.cells (pc V g) 158)
 row:∀k,k<7->kF w (O k) (V k) (F k)
 apart:∀j k s,j<7->k<7->O j=some s->O k=some s->j=k
def own(b:Nat)(O:Nat->Option Nat)(i:Nat):Prop:=i=b\/∃k,k<7/\O k=some i
theorem lt_of_heap{w:World}{i:Nat}{o:Obj}(h:w.heap[i]? = some o):i<w.heap.size:=(Array.getElem?_eq_some_iff.1 h).1
theorem Pl.gD{w:World}{b g:Nat}{O:Nat->Option Nat}{V:Nat->Value}{F:Nat->List Int}(p:Pl w b g O V F){k s:Nat}(a:k<7)(h:O k=some s):∃c,w.heap[s]? = some (.cells c 3):=by
 have:=p.row k a;rw[h] at this;obtain⟨c,d,_⟩:=this;exact⟨c,d⟩
theorem Pl.VD{w:World}{b g:Nat}{O:Nat->Option Nat}{V:Nat->Value}{F:Nat->List Int}(p:Pl w b g O V F){k s:Nat}(d:k<7)(h:O k=some s):s≠b:=by
 intro e;subst e;obtain⟨c,a⟩:=p.gD d h;rw[p.head] at a;cases a
theorem Pl.Jr{w:World}{b g:Nat}{O:Nat->Option Nat}{V:Nat->Value}{F:Nat->List Int}(p:Pl w b g O V F){i:Nat}(h:own b O i):i<w.heap.size:=by
 rcases h with rfl|⟨k,a,h⟩
 ·exact lt_of_heap p.head
 ·obtain⟨c,d⟩:=p.gD a h;exact lt_of_heap d
theorem Pl.ym{w:World}{b g:Nat}{O:Nat->Option Nat}{V:Nat->Value}{F:Nat->List Int}(p:Pl w b g O V F){s:Nat}{M:Int->Option Value}{d:Nat}(m:aK w d s M):¬own b O d:=by
 obtain⟨i,j,a⟩:=m.isMap;rintro (rfl|⟨k,e,h⟩)
 ·rw[p.head] at a;cases a
 ·obtain⟨c,f⟩:=p.gD e h;rw[f] at a;cases a
theorem Pl.keep{w w':World}{b g:Nat}{O:Nat->Option Nat}{V:Nat->Value}{F:Nat->List Int}(p:Pl w b g O V F)(h:∀i,own b O i->w'.heap[i]? = w.heap[i]?):Pl w' b g O V F:=
 ⟨(h b (.inl rfl)).trans p.head,fun k a=>(p.row k a).keep (fun s c=>h s (.inr ⟨k,a,c⟩)),p.apart⟩
theorem Pl.cell{w:World}{b g:Nat}{O:Nat->Option Nat}{V:Nat->Value}{F:Nat->List Int}(p:Pl w b g O V F){k:Nat}(a:k<7):w.cell? ⟨b,k,none⟩=some (V k):=by
 rw[cell_of_row w b k _ _ _ p.head,aag V g k a]
theorem Pl.free{w:World}{b g:Nat}{O:Nat->Option Nat}{V:Nat->Value}{F:Nat->List Int}(p:Pl w b g O V F)(k:Nat):w.frozen? ⟨b,k,none⟩=false:=by
 simp[World.frozen?,p.head]
theorem Pl.Zf{w:World}{b g:Nat}{O:Nat->Option Nat}{V:Nat->Value}{F:Nat->List Int}(p:Pl w b g O V F):w.cell? ⟨b,7,none⟩=some (.map (some g)):=by
 rw[cell_of_row w b 7 _ _ _ p.head];rfl
theorem kF.isSlice{w:World}{o:Option Nat}{v:Value}{xs:List Int}(h:kF w o v xs):∃a c,v=.slice a xs.length c/\xs.length<=c/\c<=maxLen:=by
 cases o with
 |none=>obtain⟨rfl,rfl⟩:=h;exact⟨none,0,rfl,le_refl _,by decide⟩
 |some s=>obtain⟨c,_,rfl,d,b,_⟩:=h;exact⟨_,_,rfl,d,b⟩
theorem Pl.turn{w w':World}{b g:Nat}{O:Nat->Option Nat}{V:Nat->Value}{F:Nat->List Int}(p:Pl w b g O V F){k:Nat}(l:k<7)(o:Option Nat)(v:Value)(xs:List Int)
 (A:Fr (fun i=>O k=some i) w w') (u:o=O k\/∃s,o=some s/\w.heap.size<=s) (H:kF w' o v xs) :
 Pl (w'.setCell ⟨b,k,none⟩ v) b g (fun j=>if j=k then o else O j) (QR V k v) (nQ F k xs)/\Fr (own b O) w (w'.setCell ⟨b,k,none⟩ v)/\(∀i,i<w.heap.size->own b (fun j=>if j=k then o else O j) i->own b O i):=by
 have B:=lt_of_heap p.head;have q:¬O k=some b:=fun e=>p.VD l e rfl;have C:w'.heap[b]? = some (.cells (pc V g) 158):=(A.block b B q).trans p.head;have z:o≠some b:=by
  rintro rfl;rcases u with e|⟨s,e,a⟩
  ·exact q e.symm
  ·cases e;omega
 refine⟨⟨by rw[heap_setCell_same w' b k v _ _ _ C,aaf V g k v l],fun j m=>?_,fun y x s E D f d=>?_⟩,?_,?_⟩
 ·by_cases e:j=k
  ·subst e;simp only[QR,nQ,if_pos];exact H.keep (fun s a=>Below.heap_setCell _ _ _ _ (fun e=>z (by rw[a,e])))
  ·simp only[QR,nQ,if_neg e];refine(p.row j m).keep (fun s a=>?_);obtain⟨c,n⟩:=p.gD m a;rw[Below.heap_setCell _ _ _ _ (fun e=>p.VD m a e)];exact A.block s (lt_of_heap n) (fun I=>e (p.apart j k s m l a I))
 ·by_cases t:y=k<;>by_cases r:x=k
  ·rw[t,r]
  ·rw[if_pos t] at f;rw[if_neg r] at d;rcases u with e|⟨G,e,a⟩
   ·exact t.trans (p.apart k x s l D (e ▸ f) d)
   ·obtain⟨c,n⟩:=p.gD D d;have:=lt_of_heap n;rw[e] at f;cases f;omega
  ·rw[if_neg t] at f;rw[if_pos r] at d;rcases u with e|⟨G,e,a⟩
   ·exact(p.apart y k s E l f (e ▸ d)).trans r.symm
   ·obtain⟨c,n⟩:=p.gD E f;have:=lt_of_heap n;rw[e] at d;cases d;omega
  ·rw[if_neg t] at f;rw[if_neg r] at d;exact p.apart y x s E D f d
 ·exact(A.mono (fun i _ h=>.inr ⟨k,l,h⟩)).setCell b k v (fun _=>.inl rfl)
 ·rintro i J (rfl|⟨j,m,h⟩)
  ·exact .inl rfl
  ·by_cases c:j=k
   ·replace h:o=some i:=by simpa[c] using h
    rcases u with e|⟨G,e,a⟩
    ·exact .inr ⟨k,l,e ▸ h⟩
    ·rw[e] at h;cases h;omega
   ·exact .inr ⟨j,m,by simpa[c] using h⟩
end
end Go.Proofs.YtippochapiolpaaGreatDoor

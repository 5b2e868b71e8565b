/- Rows of bases against the list of blocks that the document tells: the same blocks, and as many frames; and what is taken beside what is free. -/
import Derived.Test.YtippochapiolpaaGreatDoorPool
import Derived.Test.YtippochapiolpaaGreatDoorZFactsG
import Derived.Test.YtippochapiolpaaGreatDoorShelf1
import Derived.Deep.RegionWith
import Derived.Carry
set_option maxHeartbeats 4000000
set_option maxRecDepth 100000
namespace Go.Proofs.YtippochapiolpaaGreatDoor
def cat (F:Nat→List Int):Nat→List (Int×Int)
 |0=>[]
 |k+1=>cat F k ++ (F k).map fun b=>(b,(k:Int))
def lf (F:Nat→List Int):Nat→Nat
 |0=>0
 |k+1=>lf F k+(F k).length*2 ^ k
def toInt (x:Nat×Nat):Int×Int:=((x.1:Int),(x.2:Int))
theorem JE (U:Nat→Bool):∀(m f:Nat),cnt U f m≤m
 |0,_=>Nat.le_refl _
 |m+1,f=>by have:=JE U m (f+1);rw [cnt];split<;>omega
theorem MG (F:Nat→List Int):∀(k m:Nat),k≤m→lf F k≤lf F m
 |k,0,h=>by rw [show k=0 by omega];exact Nat.le_refl _
 |k,m+1,h=>by
  by_cases e:k=m+1
  ·rw [e];exact Nat.le_refl _
  ·have:=MG F k m (by omega);rw [lf];omega
theorem R5 (F:Nat→List Int) {k m:Nat}(h:k<m):lf F k+(F k).length*2 ^ k≤lf F m:=MG F (k+1) m h
theorem R6 (F:Nat→List Int) {k m:Nat}(h:k<m):(F k).length≤lf F m:=by
 have:=R5 F h
 have h2:=Nat.two_pow_pos k
 have:=Nat.le_mul_of_pos_right (F k).length h2
 omega
theorem Eo (F:Nat→List Int) (x:Int×Int):∀k,x∈cat F k↔∃j,j<k∧x.2=(j:Int)∧x.1∈F j
 |0=>by simp [cat]
 |k+1=>by
  rw [cat,List.mem_append,Eo F x k,List.mem_map]
  constructor
  ·rintro (⟨j,h1,h2,h3⟩|⟨b,h1,rfl⟩)
   ·exact ⟨j,by omega,h2,h3⟩
   ·exact ⟨k,by omega,rfl,h1⟩
  ·rintro ⟨j,h1,h2,h3⟩
   by_cases e:j=k
   ·subst e;exact .inr ⟨x.1,h3,by rw [←h2]⟩
   ·exact .inl ⟨j,by omega,h2,h3⟩
theorem Dj {F:Nat→List Int}{U:Nat→Bool}(c:Can F U):∀k,k≤7→(cat F k).Nodup
 |0,_=>by simp [cat]
 |k+1,h=>by
  rw [cat,List.nodup_append]
  refine ⟨Dj c k (by omega),?_,fun a ha b hb e=>?_⟩
  ·have:=(c k (by omega)).1
   rw [List.Nodup,List.pairwise_map]
   exact this.imp (fun h e=>by cases e;omega)
  ·subst e
   obtain ⟨j,h1,h2,_⟩:=(Eo F a k).1 ha
   obtain ⟨x,_,rfl⟩:=List.mem_map.1 hb
   have:(k:Int)=j:=h2
   omega
theorem Ir {F:Nat→List Int}{U:Nat→Bool}(c:Can F U) (x:Int×Int):x∈cat F 7↔∃j q:Nat,x=toInt (q*2 ^ j,j)∧ug U j q:=by
 rw [Eo]
 constructor
 ·rintro ⟨j,h1,h2,h3⟩
  obtain ⟨q,hq,hx⟩:=((c j h1).2 _).1 h3
  exact ⟨j,q,Prod.ext hq h2,hx⟩
 ·rintro ⟨j,q,rfl,hx⟩
  exact ⟨j,by have:=hx.1;omega,rfl,((c j (by have:=hx.1;omega)).2 _).2 ⟨q,rfl,hx⟩⟩
theorem Ba {U:Nat→Bool}{n:Nat}(hb:∀f,U f=true→f<n) (x:Int×Int):x∈(blocks U n).map toInt↔∃j q:Nat,x=toInt (q*2 ^ j,j)∧ug U j q:=by
 rw [List.mem_map]
 constructor
 ·rintro ⟨⟨b,k⟩,h,rfl⟩
  obtain ⟨q,rfl,hx⟩:=(tZ hb b k).1 h
  exact ⟨k,q,rfl,hx⟩
 ·rintro ⟨j,q,rfl,hx⟩
  exact ⟨_,(tZ hb _ _).2 ⟨q,rfl,hx⟩,rfl⟩
theorem Ab:∀(l m:List (Int×Int)),l.Pairwise (fun x y=>x.1<y.1)→m.Pairwise (fun x y=>x.1<y.1)→(∀x,x∈l↔x∈m)→l=m
 | [],[],_,_,_=>rfl
 | [],b :: m,_,_,h=>absurd ((h b).2 List.mem_cons_self) (by simp)
 |a :: l,[],_,_,h=>absurd ((h a).1 List.mem_cons_self) (by simp)
 |a :: l,b :: m,hl,hm,h=>by
  rw [List.pairwise_cons] at hl hm
  have e:a=b:=by
   rcases List.mem_cons.1 ((h a).1 List.mem_cons_self) with e|e
   ·exact e
   ·rcases List.mem_cons.1 ((h b).2 List.mem_cons_self) with e' | e'
    ·exact e'.symm
    ·have:=hm.1 a e;have:=hl.1 b e';omega
  subst e
  congr 1
  refine Ab l m hl.2 hm.2 fun x=>?_
  constructor
  ·intro hx
   rcases List.mem_cons.1 ((h x).1 (List.mem_cons_of_mem _ hx)) with e|e
   ·have:=hl.1 x hx;rw [e] at this;omega
   ·exact e
  ·intro hx
   rcases List.mem_cons.1 ((h x).2 (List.mem_cons_of_mem _ hx)) with e|e
   ·have:=hm.1 x hx;rw [e] at this;omega
   ·exact e
theorem free_eq {F:Nat→List Int}{U:Nat→Bool}{n:Nat}(c:Can F U) (hb:∀f,U f=true→f<n) (d:List (Int×Int)) (hp:d.Perm (cat F 7)) (hs:d.Pairwise (fun x y=>x.1≤y.1)):d=(blocks U n).map toInt:=by
 have hm:∀x,x∈d↔∃j q:Nat,x=toInt (q*2 ^ j,j)∧ug U j q:=fun x=>(hp.mem_iff).trans (Ir c x)
 have hn:d.Nodup:=hp.nodup_iff.2 (Dj c 7 (Nat.le_refl _))
 refine Ab _ _ ?_ ?_ (fun x=>(hm x).trans (Ba hb x).symm)
 ·refine (hs.and hn).imp_of_mem ?_
  rintro x y hx hy ⟨h1,h2⟩
  obtain ⟨j,q,rfl,hxm⟩:=(hm x).1 hx
  obtain ⟨k,m,rfl,hym⟩:=(hm y).1 hy
  by_cases e:(toInt (q*2 ^ j,j)).1=(toInt (m*2 ^ k,k)).1
  ·exfalso
   have e':q*2 ^ j=m*2 ^ k:=Int.ofNat.inj e
   obtain ⟨e1,e2⟩:=yY hxm hym (bG j q) (by rw [e'];exact bG k m)
   subst e1 e2
   exact h2 rfl
  ·omega
 ·rw [List.pairwise_map]
  exact (BC hb).imp (fun h=>by simp only [toInt];omega)
theorem L6 (F:Nat→List Int):∀k,((cat F k).map fun x=>2 ^ x.2.toNat).sum=lf F k
 |0=>rfl
 |k+1=>by
  rw [cat,List.map_append,List.sum_append,L6 F k,lf,List.map_map]
  congr 1
  generalize F k=l
  induction l with
  |nil=>simp
  |cons a l ih=>simp only [List.map_cons,List.sum_cons,ih,Function.comp,List.length_cons,Int.toNat_natCast];rw [Nat.add_mul];omega
theorem Y8 {F:Nat→List Int}{U:Nat→Bool}{n:Nat}(c:Can F U) (hb:∀f,U f=true→f<n):lf F 7=cnt U 0 n:=by
 have hp:=List.mergeSort_perm (cat F 7) (fun x y=>decide (x.1≤y.1))
 have hs:=List.pairwise_mergeSort (le:=fun x y:Int×Int=>decide (x.1≤y.1)) (fun a b c h1 h2=>by simp at *;omega) (fun a b=>by simp;omega) (cat F 7)
 have e:=free_eq c hb _ hp (hs.imp (fun h=>by simpa using h))
 rw [←L6,← (hp.map fun x=>2 ^ x.2.toNat).sum_nat,e,←xO hb,size,List.map_map]
 rfl
theorem Rk {F:Nat→List Int}{U:Nat→Bool}{n:Nat}(c:Can F U) (hb:∀f,U f=true→f<n):lf F 7≤n:=by
 rw [Y8 c hb];exact JE U n 0
def YI (z:Int) (k f:Nat):Prop:=z≤f∧(f:Int)<z+(2 ^ k:Nat)
theorem rz {q k f:Nat}:YI ((q*2 ^ k:Nat):Int) k f↔f / 2 ^ k=q:=by
 rw [lW,YI];omega
structure BInv (n:Nat) (U:Nat→Bool) (T:Int→Option Nat):Prop where
 bound:∀f,U f=true→f<n
 tk:∀z k,T z=some k→k≤6∧∃q:Nat,z=((q*2 ^ k:Nat):Int)∧∀f,f / 2 ^ k=q→f<n∧U f=false
 dj:∀z k z' k' f,T z=some k→T z'=some k'→YI z k f→YI z' k' f→z=z'
 cover:∀f,f<n→U f=false→∃z k,T z=some k∧YI z k f
theorem XI (n:Nat):BInv n (fun f=>decide (f<n)) (fun _=>none):=
 ⟨fun f h=>by simpa using h,fun z k h=>(by cases h),fun z k z' k' f h=>(by cases h),fun f h1 h2=>(by simp at h2;omega)⟩
theorem BInv.take {n:Nat}{U:Nat→Bool}{T:Int→Option Nat}(h:BInv n U T) {k q:Nat}(hk:k≤6) (hb:blk U k q) :
 BInv n (cut U k q) (fun z=>if z=((q*2 ^ k:Nat):Int) then some k else T z):=by
 have hold:∀z j f,T z=some j→YI z j f→U f=false:=by
  intro z j f hz hf
  obtain ⟨_,r,rfl,hr⟩:=h.tk z j hz
  exact (hr f (rz.1 hf)).2
 have hnew:∀f,YI ((q*2 ^ k:Nat):Int) k f→U f=true:=fun f hf=>hb f (rz.1 hf)
 refine ⟨fun f hf=>h.bound f (dw.1 hf).1,fun z j hz=>?_,fun z j z' j' f hz hz' hf hf'=>?_,fun f hf hu=>?_⟩
 ·by_cases e:z=((q*2 ^ k:Nat):Int)
  ·rw [if_pos e] at hz;cases hz
   exact ⟨hk,q,e,fun f hf=>⟨h.bound f (hb f hf),by simp [cut,hf]⟩⟩
  ·rw [if_neg e] at hz
   obtain ⟨h1,r,hr,h2⟩:=h.tk z j hz
   exact ⟨h1,r,hr,fun f hf=>⟨(h2 f hf).1,by simp [cut,(h2 f hf).2]⟩⟩
 ·by_cases e:z=((q*2 ^ k:Nat):Int)<;>by_cases e':z'=((q*2 ^ k:Nat):Int)
  ·rw [e,e']
  ·rw [if_pos e] at hz;rw [if_neg e'] at hz';cases hz;subst e
   have a:=hnew f hf;rw [hold z' j' f hz' hf'] at a;cases a
  ·rw [if_neg e] at hz;rw [if_pos e'] at hz';cases hz';subst e'
   have a:=hnew f hf';rw [hold z j f hz hf] at a;cases a
  ·rw [if_neg e] at hz;rw [if_neg e'] at hz'
   exact h.dj z j z' j' f hz hz' hf hf'
 ·by_cases hb':f / 2 ^ k=q
  ·exact ⟨_,k,by rw [if_pos rfl],rz.2 hb'⟩
  ·have hU:U f=false:=by
    cases e:U f with
    |false=>rfl
    |true=>have:=dw.2 ⟨e,hb'⟩;rw [hu] at this;cases this
   obtain ⟨z,j,hz,hin⟩:=h.cover f hf hU
   refine ⟨z,j,?_,hin⟩
   rw [if_neg];exact hz
   rintro rfl
   have a:=hb _ (bG k q)
   obtain ⟨_,r,hr,h2⟩:=h.tk _ j hz
   have e:q*2 ^ k=r*2 ^ j:=Int.ofNat.inj hr
   rw [(h2 (q*2 ^ k) (by rw [e];exact bG j r)).2] at a;cases a
theorem BInv.give {n:Nat}{U:Nat→Bool}{T:Int→Option Nat}(h:BInv n U T) {k q:Nat}(ht:T ((q*2 ^ k:Nat):Int)=some k) :
 BInv n (join U k q) (fun z=>if z=((q*2 ^ k:Nat):Int) then none else T z):=by
 obtain ⟨hk,r,hr,h2⟩:=h.tk _ k ht
 have e:=oK hr
 subst e
 refine ⟨fun f hf=>?_,fun z j hz=>?_,fun z j z' j' f hz hz' hf hf'=>?_,fun f hf hu=>?_⟩
 ·rcases lI.1 hf with a|a
  ·exact h.bound f a
  ·exact (h2 f a).1
 ·by_cases e:z=((q*2 ^ k:Nat):Int)
  ·rw [if_pos e] at hz;cases hz
  ·rw [if_neg e] at hz
   obtain ⟨h1,s,rfl,h3⟩:=h.tk z j hz
   refine ⟨h1,s,rfl,fun f hf=>⟨(h3 f hf).1,?_⟩⟩
   cases c:join U k q f with
   |false=>rfl
   |true=>
    exfalso
    rcases lI.1 c with a|a
    ·rw [(h3 f hf).2] at a;cases a
    ·exact e (h.dj _ _ _ _ f hz ht (rz.2 hf) (rz.2 a))
 ·have:∀y i,(if y=((q*2 ^ k:Nat):Int) then none else T y)=some i→T y=some i:=by
   intro y i hy;split at hy;cases hy;exact hy
  exact h.dj z j z' j' f (this _ _ hz) (this _ _ hz') hf hf'
 ·have hU:U f=false:=by
   cases c:U f with
   |false=>rfl
   |true=>rw [lI.2 (.inl c)] at hu;cases hu
  obtain ⟨z,j,hz,hin⟩:=h.cover f hf hU
  refine ⟨z,j,?_,hin⟩
  rw [if_neg];exact hz
  rintro rfl
  rw [ht] at hz;cases hz
  rw [lI.2 (.inr (rz.1 hin))] at hu;cases hu
def Z4 (U:Nat→Bool) (o b k:Nat):Prop:=(∃q,b=q*2 ^ k∧ug U k q)∧o≤k∧∀j r,ug U j r→o≤j→k<j∨(k=j∧b≤r*2 ^ j)
theorem zR {F:Nat→List Int}{U:Nat→Bool}(c:Can F U) {o k:Nat}{z:Int}{l:List Int}(hok:o≤k) (hk:k≤6) (h0:∀j,o≤j→j<k→F j=[]) (hl:F k=z :: l):∃q,z=((q*2 ^ k:Nat):Int)∧ug U k q∧Z4 U o (q*2 ^ k) k:=by
 have hc:=c k (by omega)
 obtain ⟨q,hq,hx⟩:=(hc.2 z).1 (by rw [hl];exact List.mem_cons_self)
 refine ⟨q,hq,hx,⟨q,rfl,hx⟩,hok,fun j r hy hj=>?_⟩
 have hm:=((c j (by have:=hy.1;omega)).2 _).2 ⟨r,rfl,hy⟩
 by_cases h1:j<k
 ·rw [h0 j hj h1] at hm;cases hm
 ·by_cases h2:j=k
  ·subst h2
   refine .inr ⟨rfl,?_⟩
   have hs:=hc.1
   rw [hl] at hs hm
   rcases List.mem_cons.1 hm with e|e
   ·have:=hq.symm.trans e.symm;have:=oK this;subst this;exact Nat.le_refl _
   ·have:=(List.pairwise_cons.1 hs).1 _ e;omega
  ·exact .inl (by omega)
theorem U7 {U:Nat→Bool}{k q o:Nat}(h:blk U k q) (ho:o≤k):blk U o (q*2 ^ (k-o))∧q*2 ^ (k-o)*2 ^ o=q*2 ^ k:=by
 have e:q*2 ^ (k-o)*2 ^ o=q*2 ^ k:=by rw [Nat.mul_assoc,←Nat.pow_add,Nat.sub_add_cancel ho]
 refine ⟨fun f hf=>h f ?_,e⟩
 rw [sS hf ho,bG]
end Go.Proofs.YtippochapiolpaaGreatDoor
namespace Go.Proofs.YtippochapiolpaaGreatDoor
open Go.RowKit
def val (C:Int→Option Nat) (f:Int):Nat:=(C f).getD 0
def jq (C:Int→Option Nat) (f:Int) (m:Nat):Int→Option Nat:=fun x=>if x=f then some m else C x
theorem LK (C:Int→Option Nat) (f:Int) (m:Nat) (x:Int):val (jq C f m) x=if x=f then m else val C x:=by
 unfold val jq;split<;>simp
def Ks (C:Int→Option Nat) (ks:List Int):Prop:=ks.Pairwise (· < ·)∧∀x,x∈ks↔(C x).isSome=true
def sumTo (g:Nat→Nat):Nat→Nat→Nat
 |_,0=>0
 |a,m+1=>g a+sumTo g (a+1) m
theorem sumTo_congr {g h:Nat→Nat}:∀(m a:Nat),(∀i,a≤i→i<a+m→g i=h i)→sumTo g a m=sumTo h a m
 |0,_,_=>rfl
 |m+1,a,e=>by rw [sumTo,sumTo,e a (by omega) (by omega),sumTo_congr m (a+1) (fun i h1 h2=>e i (by omega) (by omega))]
theorem gG {g h:Nat→Nat}{f d:Nat}(hf:h f=g f+d) (ho:∀i,i≠f→h i=g i):∀(m a:Nat),a≤f→f<a+m→sumTo h a m=sumTo g a m+d
 |0,a,h1,h2=>by omega
 |m+1,a,h1,h2=>by
  rw [sumTo,sumTo]
  by_cases e:a=f
  ·subst e
   rw [hf,sumTo_congr (g:=h) (h:=g) m (a+1) (fun i h1 _=>ho i (by omega))];omega
  ·rw [ho a e,gG hf ho m (a+1) (by omega) (by omega)];omega
theorem mq {g:Nat→Nat}:∀(m a:Nat),(∀i,a≤i→i<a+m→g i=0)→sumTo g a m=0
 |0,_,_=>rfl
 |m+1,a,e=>by rw [sumTo,e a (by omega) (by omega),mq m (a+1) (fun i h1 h2=>e i (by omega) (by omega))]
theorem sumTo_le {g h:Nat→Nat}:∀(m a:Nat),(∀i,a≤i→i<a+m→g i≤h i)→sumTo g a m≤sumTo h a m
 |0,_,_=>Nat.le_refl _
 |m+1,a,e=>by
  rw [sumTo,sumTo]
  have:=e a (by omega) (by omega)
  have:=sumTo_le m (a+1) (fun i h1 h2=>e i (by omega) (by omega));omega
theorem N8 (g:Nat→Nat) (d:Nat):∀(m a:Nat),sumTo (fun i=>g i*d) a m=sumTo g a m*d
 |0,_=>by simp [sumTo]
 |m+1,a=>by rw [sumTo,sumTo,N8 g d m (a+1),Nat.add_mul]
theorem wC (U:Nat→Bool):∀(m a:Nat),sumTo (fun i=>if U i then 1 else 0) a m=cnt U a m
 |0,_=>rfl
 |m+1,a=>by rw [sumTo,cnt,wC U m (a+1)]
theorem zx (h:Int→Nat):∀(m a:Nat) (ks:List Int),ks.Pairwise (· < ·)→(∀x∈ks,(a:Int)≤x∧x<(a:Int)+m)→(ks.map h).sum=sumTo (fun f=>if (f:Int)∈ks then h f else 0) a m
 |0,a,ks,_,hb=>by
  cases ks with
  |nil=>rfl
  |cons x r=>have:=hb x (by simp);omega
 |m+1,a,[],_,_=>by rw [mq];rfl;intros;rfl
 |m+1,a,x :: r,hp,hb=>by
  have hx:=hb x (by simp)
  obtain ⟨h1,h2⟩:=List.pairwise_cons.1 hp
  by_cases e:x=(a:Int)
  ·have ih:=zx h m (a+1) r h2 (fun y hy=>by have:=h1 y hy;have:=hb y (by simp [hy]);omega)
   rw [List.map_cons,List.sum_cons,ih,sumTo,if_pos (by simp [e]),e]
   congr 1
   refine sumTo_congr m (a+1) (fun i h3 _=>?_)
   have:¬(i:Int)=(a:Int):=by omega
   simp [this]
  ·have ih:=zx h m (a+1) (x :: r) hp (fun y hy=>by
    have:=hb y hy
    rcases List.mem_cons.1 hy with rfl|hy
    ·omega
    ·have:=h1 y hy;omega)
   have hn:¬(a:Int)∈x :: r:=by
    intro hm
    rcases List.mem_cons.1 hm with e' | hm
    ·exact e e'.symm
    ·have:=h1 _ hm;omega
   rw [ih,sumTo,if_neg hn,Nat.zero_add]
def num (C:Int→Option Nat) (n:Nat):Nat:=sumTo (fun f=>if (C f).isSome then 1 else 0) 0 n
def Within (C:Int→Option Nat) (n:Nat):Prop:=∀x,(C x).isSome=true→0≤x∧x<(n:Int)
theorem TP {C:Int→Option Nat}{ks:List Int}{n:Nat}(hk:Ks C ks) (hw:Within C n):ks.length=num C n:=by
 have h:=zx (fun _=>1) n 0 ks hk.1 (fun x hx=>by have:=hw x ((hk.2 x).1 hx);simp;omega)
 have e:(ks.map (fun _=>1)).sum=ks.length:=by
  clear h hk;induction ks with
  |nil=>rfl
  |cons a l ih=>simp [ih];omega
 rw [←e,h,num]
 refine sumTo_congr _ _ (fun i _ _=>?_)
 by_cases hc:(C i).isSome=true
 ·rw [if_pos ((hk.2 _).2 hc),if_pos hc]
 ·rw [if_neg (fun h'=>hc ((hk.2 _).1 h')),if_neg hc]
theorem xG {C:Int→Option Nat}{n:Nat}{f:Int}{m:Nat}(h:(C f).isSome=true):num (jq C f m) n=num C n:=by
 refine sumTo_congr _ _ (fun i _ _=>?_)
 simp only [jq];split
 ·rename_i e;rw [e,h];rfl
 ·rfl
theorem Ik {C:Int→Option Nat}{n:Nat}{f:Nat}{m:Nat}(hf:f<n) (h:C f=none):num (jq C f m) n=num C n+1:=by
 refine gG (f:=f) ?_ (fun i hi=>?_) n 0 (by omega) (by omega)
 ·simp [jq,h]
 ·have:¬(i:Int)=(f:Int):=by omega
  simp [jq,this]
theorem Within.put {C:Int→Option Nat}{n:Nat}(h:Within C n) {f:Int}{m:Nat}(h0:0≤f) (h1:f<(n:Int)):Within (jq C f m) n:=fun x hx=>by
 unfold jq at hx;split at hx
 ·rename_i e;subst e;exact ⟨h0,h1⟩
 ·exact h x hx
theorem vU (C:Int→Option Nat) (n:Nat):num C n≤n:=by
 have:=wC (fun f=>(C f).isSome) n 0
 rw [num,this];exact JE _ _ _
def ZZ (C T:Int→Option Nat):Prop:=∀x,T x=(C x).map (fun _=>0)
theorem GG {n:Nat}{U:Nat→Bool}{C T:Int→Option Nat}(inv:BInv n U T) (h:ZZ C T):num C n+cnt U 0 n=n:=by
 have key:∀f,f<n→(U f=true↔(C (f:Int)).isSome=false):=by
  intro f hf
  constructor
  ·intro hU
   cases e:C (f:Int) with
   |none=>rfl
   |some k=>
    have hT:T (f:Int)=some 0:=by rw [h,e];rfl
    obtain ⟨_,q,hq,hx⟩:=inv.tk _ _ hT
    have:f=q:=by simp at hq;omega
    have:=(hx f (by rw [Nat.pow_zero,Nat.div_one];exact this)).2
    rw [hU] at this;cases this
  ·intro hC
   cases hU:U f with
   |true=>rfl
   |false=>
    obtain ⟨z,k,hz,hin⟩:=inv.cover f hf hU
    have hk:k=0∧(C z).isSome=true:=by
     rw [h z] at hz
     cases e:C z with
     |none=>rw [e] at hz;cases hz
     |some v=>rw [e] at hz;cases hz;exact ⟨rfl,rfl⟩
    obtain ⟨rfl,hCz⟩:=hk
    unfold YI at hin
    have:z=(f:Int):=by simp at hin;omega
    rw [this,hC] at hCz;cases hCz
 rw [num,wC (fun f=>(C f).isSome)]
 have:∀m a,a+m≤n→cnt (fun f:Nat=>(C f).isSome) a m+cnt U a m=m:=by
  intro m;induction m with
  |zero=>intro a _;rfl
  |succ m ih=>
   intro a ha
   have h1:=ih (a+1) (by omega)
   have h2:=key a (by omega)
   rw [cnt,cnt]
   cases e1:U a with
   |true=>rw [h2.1 e1];simp;omega
   |false=>
    have:(C (a:Int)).isSome=true:=by
     cases e2:(C (a:Int)).isSome with
     |true=>rfl
     |false=>rw [h2.2 e2] at e1;cases e1
    rw [this];simp;omega
 exact this n 0 (by omega)
theorem PI {n:Nat}{U:Nat→Bool}(hb:∀f,U f=true→f<n) (h:∀j r,ug U j r→j<0):cnt U 0 n=0:=by
 rw [←xO hb]
 cases e:blocks U n with
 |nil=>rfl
 |cons x l=>
  obtain ⟨q,_,hx⟩:=(tZ hb x.1 x.2).1 (by rw [e];simp)
  exact absurd (h _ _ hx) (by omega)
abbrev PM:=Int→Option (Int×Int)
def aR (P:PM) (a:Int):Int:=match P a with|some p=>p.2|none=>-1
def dE (P:PM) (a:Int) (p:Int×Int):PM:=fun x=>if x=a then some p else P x
def mV (P:PM) (a:Int):PM:=fun x=>if x=a then none else P x
def sh (P:PM) (f:Int):Nat:=sumTo (fun a=>if aR P a=f then 1 else 0) 0 64
def bX (P:PM):Nat:=sumTo (fun a=>if (P a).isSome then 1 else 0) 0 64
def gM (P:PM):Nat:=sumTo (fun a=>if aR P a=-1 then 0 else 1) 0 64
structure lN (n:Nat) (P:PM):Prop where
 key:∀a,(P a).isSome=true→0≤a∧a<64
 af:∀a p,P a=some p→1≤p.1∧p.1≤3
 frame:∀a,aR P a=-1∨(0≤aR P a∧aR P a<(n:Int))
theorem oG {P:PM}{a:Int}(h:P a=none):aR P a=-1:=by unfold aR;rw [h]
theorem mh {P:PM}{a:Int}{p:Int×Int}(h:P a=some p):aR P a=p.2:=by unfold aR;rw [h]
theorem yx (P:PM) (a:Int) (p:Int×Int) (x:Int):aR (dE P a p) x=if x=a then p.2 else aR P x:=by
 unfold aR dE;split<;>rename_i h<;>split at h<;>simp_all
theorem Ev (P:PM) (a:Int) (x:Int):aR (mV P a) x=if x=a then -1 else aR P x:=by
 unfold aR mV;split<;>rename_i h<;>split at h<;>simp_all
theorem XU {P:PM}{a:Int}(h:aR P a≠-1):∃p,P a=some p∧p.2=aR P a:=by
 cases e:P a with
 |none=>exact absurd (oG e) h
 |some p=>exact ⟨p,rfl,(mh e).symm⟩
theorem N9 {g h:Nat→Nat}{m a:Nat}(e:∀i,g i≤h i):sumTo g a m≤sumTo h a m:=sumTo_le m a (fun i _ _=>e i)
theorem SS {g:Nat→Nat}{m j:Nat}(hj:j<m):g j≤sumTo g 0 m:=by
 have h:=gG (g:=fun i=>if i=j then 0 else g i) (h:=g) (f:=j) (d:=g j) (by simp) (fun i hi=>by simp [hi]) m 0 (by omega) (by omega)
 omega
theorem iy {g:Nat→Nat}{d:Nat}:∀(m a:Nat),(∀i,g i≤d)→sumTo g a m≤m*d
 |0,_,_=>by simp [sumTo]
 |m+1,a,e=>by rw [sumTo];have:=e a;have:=iy m (a+1) e;rw [Nat.succ_mul];omega
section
variable {n:Nat}{P:PM}{a:Int}
theorem yT (h0:0≤a) (h1:a<64) (p:Int×Int) (f:Int):sh (dE P a p) f+(if aR P a=f then 1 else 0)=sh P f+(if p.2=f then 1 else 0):=by
 have ea:((a.toNat:Nat):Int)=a:=by omega
 have g0:=gG (g:=fun i:Nat=>if i=a.toNat then 0 else if aR P i=f then 1 else 0) (h:=fun i:Nat=>if aR P i=f then 1 else 0) (f:=a.toNat) (d:=if aR P a=f then 1 else 0) (by simp [ea]) (fun i hi=>by simp [hi]) 64 0 (by omega) (by omega)
 have g1:=gG (g:=fun i:Nat=>if i=a.toNat then 0 else if aR P i=f then 1 else 0) (h:=fun i:Nat=>if aR (dE P a p) i=f then 1 else 0) (f:=a.toNat) (d:=if p.2=f then 1 else 0) (by simp [ea,yx]) (fun i hi=>by
  have:¬(i:Int)=a:=by omega
  simp [hi,yx,this]) 64 0 (by omega) (by omega)
 unfold sh;omega
theorem RI (h0:0≤a) (h1:a<64) {f:Int}(hf:0≤f):sh (mV P a) f+(if aR P a=f then 1 else 0)=sh P f:=by
 have ea:((a.toNat:Nat):Int)=a:=by omega
 refine (gG (g:=fun i:Nat=>if aR (mV P a) i=f then 1 else 0) (h:=fun i:Nat=>if aR P i=f then 1 else 0) (f:=a.toNat) (d:=if aR P a=f then 1 else 0) ?_ (fun i hi=>?_) 64 0 (by omega) (by omega)).symm
 ·have:¬(-1:Int)=f:=by omega
  simp [ea,Ev,this]
 ·have:¬(i:Int)=a:=by omega
  simp [Ev,this]
theorem yU (h:lN n P) (hf:aR P a≠-1):1≤sh P (aR P a):=by
 obtain ⟨p,hp,_⟩:=XU hf
 have hk:=h.key a (by rw [hp];rfl)
 have:=SS (g:=fun i:Nat=>if aR P i=aR P a then 1 else 0) (m:=64) (j:=a.toNat) (by omega)
 have ea:((a.toNat:Nat):Int)=a:=by omega
 simp only [ea,if_true] at this
 exact this
theorem yg {f:Int}(_hf:0≤f) (h:∀a,aR P a≠f):sh P f=0:=mq _ _ (fun i _ _=>by simp [h i])
theorem Wp {f:Int}(h:sh P f=0) (hok:lN n P) (hf:f≠-1) (a:Int):aR P a≠f:=by
 intro e
 have:=yU (a:=a) hok (by rw [e];exact hf)
 rw [e] at this;omega
theorem pM {p:Int×Int}(h:(P a).isSome=true):bX (dE P a p)=bX P:=sumTo_congr _ _ (fun i _ _=>by
 unfold dE;by_cases e:(i:Int)=a
 ·simp [e,h]
 ·simp [e])
theorem vG {p:Int×Int}(h0:0≤a) (h1:a<64) (h:P a=none):bX (dE P a p)=bX P+1:=by
 have ea:((a.toNat:Nat):Int)=a:=by omega
 refine gG (f:=a.toNat) ?_ (fun i hi=>?_) 64 0 (by omega) (by omega)
 ·simp [dE,ea,h]
 ·have:¬(i:Int)=a:=by omega
  simp [dE,this]
theorem zH (h0:0≤a) (h1:a<64) (h:(P a).isSome=true):bX (mV P a)+1=bX P:=by
 have ea:((a.toNat:Nat):Int)=a:=by omega
 refine (gG (f:=a.toNat) (d:=1) ?_ (fun i hi=>?_) 64 0 (by omega) (by omega)).symm
 ·simp [mV,ea,h]
 ·have:¬(i:Int)=a:=by omega
  simp [mV,this]
theorem ry (P:PM):bX P≤64:=by
 have:=iy (g:=fun a:Nat=>if (P a).isSome then 1 else 0) (d:=1) 64 0 (fun i=>by split<;>omega)
 unfold bX;omega
theorem WB (P:PM):gM P≤64:=by
 have:=iy (g:=fun a:Nat=>if aR P a=-1 then 0 else 1) (d:=1) 64 0 (fun i=>by split<;>omega)
 unfold gM;omega
theorem rG:bX (fun _=>none)=0:=mq _ _ (fun _ _ _=>rfl)
theorem qD {f:Int}(hf:0≤f):sh (fun _=>none) f=0:=yg hf (fun a=>by show (-1:Int)≠f;omega)
end
section
variable {n:Nat}{P:PM}{a:Int}
theorem lN.none (n:Nat):lN n (fun _=>none):=⟨fun a h=>(by cases h),fun a p h=>(by cases h),fun a=>.inl rfl⟩
theorem lN.put (h:lN n P) (h0:0≤a) (h1:a<64) {p:Int×Int}(hp:1≤p.1∧p.1≤3) (hf:p.2=-1∨(0≤p.2∧p.2<(n:Int))):lN n (dE P a p):=by
 refine ⟨fun x hx=>?_,fun x q hq=>?_,fun x=>?_⟩
 ·unfold dE at hx;split at hx
  ·rename_i e;rw [e];exact ⟨h0,h1⟩
  ·exact h.key x hx
 ·unfold dE at hq;split at hq
  ·cases hq;exact hp
  ·exact h.af x q hq
 ·rw [yx];split
  ·exact hf
  ·exact h.frame x
theorem lN.del (h:lN n P):lN n (mV P a):=by
 refine ⟨fun x hx=>?_,fun x q hq=>?_,fun x=>?_⟩
 ·unfold mV at hx;split at hx
  ·cases hx
  ·exact h.key x hx
 ·unfold mV at hq;split at hq
  ·cases hq
  ·exact h.af x q hq
 ·rw [Ev];split
  ·exact .inl rfl
  ·exact h.frame x
def QQ (P:PM):Prop:=∀f,0≤f→sh P f≤1
theorem QQ.none:QQ (fun _=>none):=fun f hf=>by rw [qD hf];omega
theorem QQ.del (h:QQ P) (h0:0≤a) (h1:a<64):QQ (mV P a):=fun f hf=>by
 have:=RI (P:=P) h0 h1 hf;have:=h f hf;omega
theorem QQ.put (h:QQ P) (h0:0≤a) (h1:a<64) {p:Int×Int}(hn:p.2=-1∨sh P p.2=0∨aR P a=p.2):QQ (dE P a p):=fun f hf=>by
 have h2:=yT (P:=P) h0 h1 p f
 have h3:=h f hf
 by_cases e:p.2=f
 ·subst e
  rcases hn with hn|hn|hn
  ·omega
  ·rw [hn] at h2;simp at h2;omega
  ·rw [if_pos hn] at h2;simp at h2;omega
 ·rw [if_neg e] at h2;omega
end
end Go.Proofs.YtippochapiolpaaGreatDoor
namespace Go.Proofs.YtippochapiolpaaGreatDoor
open Go.RowKit Go.Shelf Go.Lib Go.Sort
abbrev ic (x:Int):Value:=.int .i64 x
theorem aa0:OneCell ic:=fun _=>rfl
theorem Cm (W:World) (y:Nat) (z u:Int) (h:W.cell? ⟨y,0,none⟩=some (.int .i64 z)) :
 Calls Tryz.prog 208 #[.int .i64 u,.pointer (some ⟨y,0,none⟩)] W fun e w'=>e=.returned (.bool (u == z))∧∃q,w'=W.drewN q:=by
 go_enter Tryz.func208,Tryz.ntmps208
 go_wp2
 go_ret
 exact ⟨rfl,0,rfl⟩
theorem PD {W:World}{s:Nat}{c:Array Value}{xs:List Int}(h1:W.heap[s]? = some (.cells c 3)) (h2:∀j,j<xs.length→c[j]? = some (.int .i64 (xs.getD j 0))):Holds ic W s 0 xs.toArray:=by
 intro j hj
 have hj':j<xs.length:=by simpa using hj
 refine ⟨?_,by simp [World.frozen?,h1]⟩
 rw [cell_of_row W s _ _ _ _ h1,Nat.zero_add,h2 j hj']
 simp [ic,hj',List.getD_eq_getElem?_getD]
theorem Wy {W:World}{s:Nat}{c:Array Value}{n:Nat}(q:Nat) (ys:List Int) (h1:W.heap[s]? = some (.cells c 3)) (hn:ys.length=n) (hc:n≤c.size) :
 ∃c',(putRow ic (Sort.ahead W q) s 0 ys.toArray).heap[s]? = some (.cells c' 3)∧c'.size=c.size∧∀j,j<n→c'[j]? = some (.int .i64 (ys.getD j 0)):=by
 refine ⟨putCells ic 0 ys.toArray c,mO (Sort.ahead W q) s _ c _ _ h1,by simp [putCells],fun j hj=>?_⟩
 have hj':j<ys.length:=by omega
 have hjc:j<c.size:=by omega
 simp [putCells,hj',hjc,ic,List.getD_eq_getElem?_getD]
theorem Yd {W:World}{o:Option Nat}{v:Value}{xs:List Int}(hr:kF W o v xs) (y:Nat) (z:Int) (hy:W.cell? ⟨y,0,none⟩=some (.int .i64 z)) (hne:o≠some y) :
 Calls Tryz.prog 207 #[v,.func (.func 208) #[] #[.pointer (some ⟨y,0,none⟩)]] W fun e w'=>∃a c,e=.returned (.slice a (xs.filter fun x=>!(x == z)).length c)∧kF w' o (.slice a (xs.filter fun x=>!(x == z)).length c) (xs.filter fun x=>!(x == z))∧Fr (fun i=>o=some i) W w':=by
 cases o with
 |none=>
  obtain ⟨rfl,rfl⟩:=hr
  have hI:=AnyE.slices_IndexFunc_empty Tryz.indexL none 0 (.func (.func 208) #[] #[.pointer (some ⟨y,0,none⟩)]) W
  go_enter Tryz.func207,Tryz.ntmps207
  go_wp2_with (go_at_call 270;refine hI.mono ?_;rintro e w' ⟨rfl,rfl⟩)
  go_ret
  exact ⟨none,0,rfl,⟨rfl,rfl⟩,Fr.refl _ _⟩
 |some s=>
  obtain ⟨c,h1,rfl,h3,h4,h5⟩:=hr
  have hys:y≠s:=fun e=>hne (by rw [e])
  have hyl:y<W.heap.size:=World.block_lt_of_cell? W _ hy
  have hH:=PD h1 h5
  have hp:PredAt Tryz.prog 208 #[.pointer (some ⟨y,0,none⟩)] ic (fun x=>x == z) W:=by
   intro W' x hb
   exact Cm W' y z x (by rw [hb.cell (p:=⟨y,0,none⟩) hyl];exact hy)
  have hpo:PredOver Tryz.prog 208 #[.pointer (some ⟨y,0,none⟩)] ic (fun x=>x == z) s 0 xs.toArray.size W:=by
   intro n os dk x _
   refine Cm _ y z x ?_
   have hb:(sortWorld ic W s 0 n dk os).heap[y]? = W.heap[y]? := by
    show (W.heap.modify s _ ++ os)[y]? = _
    rw [Array.getElem?_append_left (by simpa using hyl),Array.getElem?_modify,if_neg (fun e=>hys e.symm)]
   rw [World.cell?_of_block (w:=W) (a:=⟨y,0,none⟩) hb];exact hy
  have hm:c.size≤9223372036854775807:=by have:maxLen≤9223372036854775807:=by decide
                                         omega
  have h:=AnyE.slices_DeleteFunc Tryz.deleteL ic aa0 (fun x=>x == z) 208 #[.pointer (some ⟨y,0,none⟩)] (fun _ _=>by kernel_rfl) 0 (fun _=>by kernel_rfl) s 0 c.size xs.toArray W hp hpo hH (by simp;omega) (by simpa using h3)
  simp only [List.size_toArray] at h
  refine h.mono ?_
  rintro e w' ⟨rfl,q,rfl⟩
  refine ⟨_,_,rfl,?_,?_⟩
  ·have hl:(xs.filter fun x=>!(x == z)).length≤xs.length:=List.length_filter_le _ _
   obtain ⟨c',e1,e2,e3⟩:=Wy (n:=xs.length) q ((xs.filter fun x=>!(x == z)) ++ List.replicate (xs.length-(xs.filter fun x=>!(x == z)).length) 0) h1 (by simp;omega) h3
   refine ⟨c',e1,by rw [e2],by omega,by omega,fun j hj=>?_⟩
   rw [e3 j (by omega),List.getD_eq_getElem?_getD,List.getElem?_append_left hj,←List.getD_eq_getElem?_getD]
  ·exact (Fr.drewN _ W q).mapBlock s _ (fun _=>rfl)
theorem Uz (l:List Int) (z:Int):((l.filter fun x=>!(x == z)).length<l.length)↔z∈l:=by
 induction l with
 |nil=>simp
 |cons a l ih=>
  have:=List.length_filter_le (fun x=>!(x == z)) l
  by_cases e:a=z
  ·subst e;simp;omega
  ·have e':(a == z)=false:=by simpa using e
   have e2:¬z=a:=fun h=>e h.symm
   simp [e',e2,ih]
theorem zX {w:World}{b g:Nat}{O:Nat→Option Nat}{V:Nat→Value}{F:Nat→List Int}(p:Pl w b g O V F) (z:Int) (k:Nat) (hk:k<7) :
 Calls Tryz.prog 137 #[pp b,.int .i64 z,.int .i64 k] w fun e w'=>∃V',e=.returned (.bool (decide (z∈F k)))∧Pl w' b g O V' (nQ F k ((F k).filter fun x=>!(x == z)))∧Fr (own b O) w w':=by
 have hbl:=lt_of_heap p.head
 have hc:=p.cell hk
 have hr:=p.row k hk
 obtain ⟨a0,c0,hv,hl,hm⟩:=hr.isSlice
 rw [hv] at hc hr
 have hOk:O k≠some w.heap.size:=by
  intro e;obtain ⟨c',h'⟩:=p.gH hk e;have:=lt_of_heap h';omega
 have hk':(k:Int)<7:=by omega
 have hne:b≠w.heap.size:=by omega
 -- the world with the number that the closure holds
 have key:∀W:World,W.heap=(w.alloc (.cells #[.int .i64 z] 3)).heap→Calls Tryz.prog 207 #[.slice a0 (F k).length c0,.func (.func 208) #[] #[.pointer (some ⟨w.heap.size,0,none⟩)]] W fun e w'=>∃a c,e=.returned (.slice a ((F k).filter fun x=>!(x == z)).length c)∧kF w' (O k) (.slice a ((F k).filter fun x=>!(x == z)).length c) ((F k).filter fun x=>!(x == z))∧Fr (fun i=>O k=some i) W w'∧w'.cell? ⟨b,k,none⟩=some (.slice a0 (F k).length c0)∧w'.frozen? ⟨b,k,none⟩=false:=by
  intro W hW
  have hbW:W.heap[b]? = w.heap[b]? := by rw [hW];exact Below.heap_alloc _ _ _ hbl
  refine (Yd (xs:=F k) ?_ w.heap.size z ?_ hOk).mono ?_
  rotate_left 2
  ·rintro e w' ⟨a,c,he,hr',hf⟩
   have e1:w'.heap[b]? = w.heap[b]? := (hf.block b (by rw [hW];simp;omega) (fun e=>p.VI hk e rfl)).trans hbW
   exact ⟨a,c,he,hr',hf,by rw [World.cell?_of_block (w:=w) (a:=⟨b,k,none⟩) e1];exact hc,by rw [World.frozen?_of_block (w:=w) (a:=⟨b,k,none⟩) e1];exact p.free k⟩
  ·exact hr.keep (fun s hs=>by rw [hW];exact Below.heap_alloc _ _ _ (by obtain ⟨c',h'⟩:=p.gH hk hs;exact lt_of_heap h'))
  ·rw [World.cell?_of_block (w:=w.alloc (.cells #[.int .i64 z] 3)) (by rw [hW])];simp
 have hcw:(w.alloc (.cells #[.int .i64 z] 3)).cell? ⟨b,k,none⟩=some (.slice a0 (F k).length c0):=by
  rw [World.cell?_of_block (w:=w) (a:=⟨b,k,none⟩) (Below.heap_alloc _ _ _ hbl)];exact hc
 -- what the store makes of it
 have fin:∀(W w':World) (a':Option Addr) (c':Nat),W.heap=(w.alloc (.cells #[.int .i64 z] 3)).heap→W.os=w.os→W.tape=w.tape→W.output=w.output→kF w' (O k) (.slice a' ((F k).filter fun x=>!(x == z)).length c') ((F k).filter fun x=>!(x == z))→Fr (fun i=>O k=some i) W w'→
  (∃V' a2 c2,Pl (w'.setCell ⟨b,k,none⟩ (.slice a' ((F k).filter fun x=>!(x == z)).length c')) b g O V' (nQ F k ((F k).filter fun x=>!(x == z)))∧Fr (own b O) w (w'.setCell ⟨b,k,none⟩ (.slice a' ((F k).filter fun x=>!(x == z)).length c'))∧V' k=.slice a2 ((F k).filter fun x=>!(x == z)).length c2):=by
  intro W w' a' c' hW h1 h2 h3 hr' hf
  have hf':Fr (fun i=>O k=some i) w w':=(show Fr (fun i=>O k=some i) w W from ⟨h1,h2,h3,by rw [hW];simp,fun i hi _=>by rw [hW];exact Below.heap_alloc _ _ _ hi⟩).trans hf (fun _ _ h=>h)
  obtain ⟨t1,t2,t3⟩:=p.turn hk (O k) _ _ hf' (.inl rfl) hr'
  have e:(fun j=>if j=k then O k else O j)=O:=by funext j;split<;>simp_all
  rw [e] at t1
  exact ⟨_,a',c',t1,t2,by simp [QU]⟩
 clear hr
 go_enter Tryz.func137,Tryz.ntmps137
 go_upto_region 2 with fail
 go_cut [] (fun wx=>∃V' a' c',Pl wx b g O V' (nQ F k ((F k).filter fun x=>!(x == z)))∧Fr (own b O) w wx∧V' k=.slice a' ((F k).filter fun x=>!(x == z)).length c')
 case first=>
  go_region_with (go_at_call 207;refine (key _ (by rfl)).mono ?_;rintro e w1 ⟨a1,c1,rfl,hr1,hf1,hc1,hz1⟩)
  all_goals
   go_wp2_with fail
   go_meet
   case rel=>exact fin _ _ _ _ (by rfl) (by rfl) (by rfl) (by rfl) hr1 hf1
 case rest=>
  obtain ⟨V',a',c',p',f',hV⟩:=hcut
  have hc':=p'.cell hk
  rw [hV] at hc'
  clear key fin hcw hc
  go_wp2_with fail
  go_ret
  exact ⟨V',by simp only [←Uz (F k) z];simp,p',f'⟩
theorem row_of {w:World}{s:Nat}{c:Array Value}{ys:List Int}(h:w.heap[s]? = some (.cells c 3)) (h1:ys.length≤c.size) (h2:c.size≤maxLen) (hc:∀j,j<ys.length→w.cell? ⟨s,j,none⟩=some (.int .i64 (ys.getD j 0))) :
 kF w (some s) (.slice (some ⟨s,0,none⟩) ys.length c.size) ys:=
 ⟨c,h,rfl,h1,h2,fun j hj=>by rw [←cell_of_row w s j _ _ _ h];exact hc j hj⟩
theorem j3 (l:List Int) (x:Int):(ins l x).length=l.length+1:=by
 have:=List.countP_le_length (p:=(· < x)) (l:=l)
 simp [ins];omega
theorem DT (l:List Int) (x:Int) (j:Nat):(ins l x).getD j 0=if j<l.countP (· < x) then l.getD j 0 else if j=l.countP (· < x) then x else l.getD (j-1) 0:=by
 have hc:=List.countP_le_length (p:=(· < x)) (l:=l)
 unfold ins
 generalize l.countP (· < x)=i at *
 rw [List.getD_eq_getElem?_getD]
 by_cases h1:j<i
 ·rw [if_pos h1,List.getElem?_append_left (by simp;omega),List.getElem?_take,if_pos h1,List.getD_eq_getElem?_getD]
 ·rw [if_neg h1,List.getElem?_append_right (by simp;omega)]
  by_cases h2:j=i
  ·subst h2;simp [Nat.min_eq_left hc]
  ·rw [if_neg h2]
   have e:j-(l.take i).length=(j-1-i)+1:=by simp [Nat.min_eq_left hc];omega
   rw [e,List.getElem?_cons_succ,List.getElem?_drop,List.getD_eq_getElem?_getD]
   congr 2;omega
theorem Dg (l:List Int) (j:Nat) (v:Value) (h:(l.map ic)[j]? = some v):j<l.length∧v=.int .i64 (l.getD j 0):=by
 rw [List.getElem?_map] at h
 cases e:l[j]? with
 |none=>rw [e] at h;cases h
 |some a=>
  rw [e] at h
  have hj:=(List.getElem?_eq_some_iff.1 e).1
  refine ⟨hj,?_⟩
  simp [List.getD_eq_getElem?_getD,e]
  simpa using h.symm
theorem MB (l:List Int) (j:Nat) (h:j<l.length):(l.map ic)[j]? = some (.int .i64 (l.getD j 0)):=by
 simp [h,List.getD_eq_getElem?_getD,ic]
theorem Mw (l:List Int):∀v∈l.map ic,v.oneCell'=true:=by
 intro v hv;obtain ⟨a,_,rfl⟩:=List.mem_map.1 hv;rfl
theorem one_one (x:Int):∀v∈[ic x],v.oneCell'=true:=by
 intro v hv;rw [List.mem_singleton] at hv;subst hv;rfl
theorem FK {w:World}{s o:Nat}{vs:List Value}(hin:∀q,q<vs.length→(w.cell? ⟨s,o+q,none⟩).isSome=true) (j:Nat) (h1:o≤j) (h2:j<o+vs.length):(w.setCells s o vs).cell? ⟨s,j,none⟩=vs[j-o]? := by
 have:=World.cell?_setCells_in s vs o w hin (j-o) (by omega)
 rw [Nat.add_sub_cancel' h1] at this
 rw [this,List.getElem?_eq_getElem (by omega)]
theorem qy {w:World}{s o:Nat}{vs:List Value}(j:Nat) (h:j<o∨o+vs.length≤j):(w.setCells s o vs).cell? ⟨s,j,none⟩=w.cell? ⟨s,j,none⟩:=
 World.cell?_setCells_out s vs o w ⟨s,j,none⟩ (fun _ _=>h)
theorem XJ {W:World}{o:Option Nat}{v:Value}{xs:List Int}(hr:kF W o v xs) (y:Nat) (x:Int) (hy:W.heap[y]? = some (.cells #[.int .i64 x] 3)) (hne:o≠some y) (hl:xs.length≤256) :
 Calls Tryz.prog 139 #[v,.int .i64 (xs.countP (· < x):Nat),.slice (some ⟨y,0,none⟩) 1 1] W fun e w'=>∃a c,e=.returned (.slice a (ins xs x).length c)∧∃o',kF w' o' (.slice a (ins xs x).length c) (ins xs x)∧(o'=o∨∃s,o'=some s∧W.heap.size≤s)∧Fr (fun i=>o=some i) W w':=by
 have hcl:=List.countP_le_length (p:=(· < x)) (l:=xs)
 have hvs:∀j v,[ic x][j]? = some v→W.cell? ⟨y,0+j,none⟩=some v:=by
  intro j v h
  rw [cell_of_row W y _ _ _ _ hy,Nat.zero_add]
  have:j=0:=by have:=(List.getElem?_eq_some_iff.1 h).1;simpa using this
  subst this;simpa using h
 have wY:maxLen≤9223372036854775807:=by decide
 have hmb:257≤maxLen:=by decide
 have ht:Tryz.insertL_ren.t 3=3:=rfl
 rw [j3]
 -- a new row
 have hnew:∀(w':World) (cap:Nat) (cs:Array Value),xs.length+1≤cap→cap≤maxLen→cs.size=cap→w'.heap[W.heap.size]? = some (.cells cs 3)→(∀j,j<xs.length+1→w'.cell? ⟨W.heap.size,j,none⟩=some (.int .i64 ((ins xs x).getD j 0)))→
  kF w' (some W.heap.size) (.slice (some ⟨W.heap.size,0,none⟩) (xs.length+1) cap) (ins xs x):=by
  intro w' cap cs h1 h2 h3 h4 h5
  have:=row_of (ys:=ins xs x) h4 (by rw [j3];omega) (by omega) (by rw [j3];exact h5)
  rw [j3,h3] at this;exact this
 by_cases hi:xs.countP (· < x)=xs.length
 ·rw [hi]
  by_cases hroom:∃s,o=some s∧∃c:Array Value,W.heap[s]? = some (.cells c 3)∧xs.length+1≤c.size
  ·obtain ⟨s,rfl,c,h1,hro⟩:=hroom
   obtain ⟨c',h1',rfl,h3,h4,h5⟩:=hr
   rw [h1] at h1';cases h1'
   have hsp:∀j,j<1→(W.cell? ⟨s,0+xs.length+j,none⟩).isSome=true:=by
    intro j hj;rw [cell_of_row W s _ _ _ _ h1];simp;omega
   refine (Any2.slices_Insert_int_end_room Tryz.insertL s 0 xs.length c.size y 0 1 1 [ic x] W (by omega) hro (by omega) rfl hsp (fun j _=>by simp [World.frozen?,h1]) hvs (one_one x)).mono ?_
   rintro e w' ⟨rfl,rfl⟩
   obtain ⟨c2,e1,e2⟩:=dB s 3 (0,0) [ic x] (0+xs.length) W c h1
   have hrow:=row_of (ys:=ins xs x) e1 (by rw [j3];omega) (by omega) (fun j hj=>by
    rw [j3] at hj
    rw [DT,hi]
    by_cases hj':j<xs.length
    ·rw [if_pos hj',qy j (.inl (by omega)),cell_of_row W s _ _ _ _ h1,h5 j hj']
    ·have:j=xs.length:=by omega
     subst this
     rw [if_neg (by omega),if_pos rfl,FK (by intro q hq;exact hsp q (by simpa using hq)) _ (by omega) (by simp)]
     simp [ic])
   rw [j3,e2] at hrow
   exact ⟨_,_,rfl,_,hrow,.inl rfl,Fr.setCells (A:=fun i=>some s=some i) s (fun _=>rfl) _ _ _ (Fr.refl _ _)⟩
  ·have hnc:∃c,v=.slice (o.map fun s=>⟨s,0,none⟩) xs.length c∧xs.length≤c∧c<xs.length+1∧(o=none→xs.length=0)∧∀a:Addr,(o.map fun s=>(⟨s,0,none⟩:Addr))=some a→∀j v,(xs.map ic)[j]? = some v→W.cell? (a.add j)=some v:=by
    cases o with
    |none=>obtain ⟨rfl,rfl⟩:=hr;exact ⟨0,rfl,by simp,by simp,fun _=>rfl,fun a h=>(by cases h)⟩
    |some s=>
     obtain ⟨c,h1,rfl,h3,h4,h5⟩:=hr
     have hlt:c.size<xs.length+1:=by
      by_cases h:xs.length+1≤c.size
      ·exact absurd ⟨s,rfl,c,h1,h⟩ hroom
      ·omega
     refine ⟨c.size,rfl,h3,hlt,fun h=>(by cases h),fun a h j v hv=>?_⟩
     cases h
     obtain ⟨hj,rfl⟩:=Dg xs j v hv
     rw [Addr.add_lit,cell_of_row W s _ _ _ _ h1,Nat.zero_add,h5 j hj]
   obtain ⟨c,rfl,h1,h2,h3,h4⟩:=hnc
   have hcall:=Any2.slices_Insert_int_end_grow Tryz.insertL (o.map fun s=>⟨s,0,none⟩) xs.length c y 0 1 1 (xs.map ic) [ic x] W (by omega) h1 h2 (by omega) (by simp) rfl (fun h=>h3 (by cases o<;>simp_all)) h4 hvs (one_one x)
   rw [ht] at hcall
   refine hcall.mono ?_
   rintro e w' ⟨rfl,rfl⟩
   have hg1:=grownCap_ge W (xs.length+1) c 3
   have hg2:=grownCap_le_maxLen W (xs.length+1) c 3 (by omega)
   refine ⟨_,_,rfl,some W.heap.size,?_,.inr ⟨_,rfl,Nat.le_refl _⟩,(Fr.drew _ W).trans (Fr.alloc _ _ _) (fun _ _ h=>h)⟩
   have hh:(W.drew.alloc (.cells ((xs.map ic ++ [ic x]).toArray ++ Builtin.zeroCells (Value.int .i64 0).cells (grownCap W (xs.length+1) c 3-(xs.length+1))) 3)).heap[W.heap.size]? = some (.cells ((xs.map ic ++ [ic x]).toArray ++ Builtin.zeroCells (Value.int .i64 0).cells (grownCap W (xs.length+1) c 3-(xs.length+1))) 3):=by
    show (W.heap.push _)[W.heap.size]? = _
    rw [Array.getElem?_push,if_pos rfl]
   refine hnew _ _ _ hg1 hg2 ?_ hh (fun j hj=>?_)
   ·simp [Builtin.zeroCells,Value.cells];omega
   ·rw [cell_of_row _ _ _ _ _ _ hh,Array.getElem?_append_left (by simp;omega),DT,hi]
    by_cases hj':j<xs.length
    ·rw [if_pos hj'];simp [List.getElem?_append_left,hj',List.getD_eq_getElem?_getD,ic]
    ·have:j=xs.length:=by omega
     subst this;simp [ic]
 ·have hi':xs.countP (· < x)<xs.length:=by omega
  have hn0:0<xs.length:=by omega
  cases o with
  |none=>obtain ⟨_,rfl⟩:=hr;simp at hn0
  |some s=>
   obtain ⟨c,h1,rfl,h3,h4,h5⟩:=hr
   have hys:y≠s:=fun e=>hne (by rw [e])
   have hcs:∀j v,(xs.map ic)[j]? = some v→W.cell? ⟨s,0+j,none⟩=some v:=by
    intro j v hv
    obtain ⟨hj,rfl⟩:=Dg xs j v hv
    rw [cell_of_row W s _ _ _ _ h1,Nat.zero_add,h5 j hj]
   have hdrop:∀j,xs.countP (· < x)+1≤j→j<xs.length+1→((xs.map ic).drop (xs.countP (· < x)))[j-(xs.countP (· < x)+1)]? = some (.int .i64 (xs.getD (j-1) 0)):=by
    intro j hj1 hj2
    rw [List.getElem?_drop,show xs.countP (· < x)+(j-(xs.countP (· < x)+1))=j-1 by omega,MB xs (j-1) (by omega)]
   by_cases hro:xs.length+1≤c.size
   ·have hsp:∀j,j<xs.length+1→(W.cell? ⟨s,0+j,none⟩).isSome=true:=by
     intro j hj;rw [cell_of_row W s _ _ _ _ h1];simp;omega
    refine (Any2.slices_Insert_int_shift Tryz.insertL s 0 xs.length c.size (xs.countP (· < x)) y 0 1 1 (xs.map ic) [ic x] W hi' (by omega) hro (by omega) hys (by simp) rfl hcs hsp (fun j _=>by simp [World.frozen?,h1]) hvs (Mw xs) (one_one x) 3 3 1 c.size (by simp [World.shape?,hy]) (by simp [World.shape?,h1]) (by omega) (by simp [World.frozen?,hy]) (by simp [World.frozen?,hy])).mono ?_
    rintro e w' ⟨rfl,rfl⟩
    obtain ⟨c2,e1,e2⟩:=dB s 3 (0,0) ((xs.map ic).drop (xs.countP (· < x))) (0+(xs.countP (· < x)+1)) W.drew c h1
    obtain ⟨c3,e3,e4⟩:=dB s 3 (0,0) [ic x] (0+xs.countP (· < x)) _ c2 e1
    have hld:((xs.map ic).drop (xs.countP (· < x))).length=xs.length-xs.countP (· < x):=by simp
    have hrow:=row_of (ys:=ins xs x) e3 (by rw [j3];omega) (by omega) (fun j hj=>by
     rw [j3] at hj
     rw [DT]
     have hin1:∀q,q<((xs.map ic).drop (xs.countP (· < x))).length→(W.drew.cell? ⟨s,0+(xs.countP (· < x)+1)+q,none⟩).isSome=true:=by
      intro q hq
      have:=hsp (xs.countP (· < x)+1+q) (by rw [hld] at hq;omega)
      rw [show 0+(xs.countP (· < x)+1)+q=0+(xs.countP (· < x)+1+q) by omega];exact this
     by_cases c1:j<xs.countP (· < x)
     ·rw [if_pos c1,qy j (.inl (by omega)),qy j (.inl (by omega))]
      show W.cell? _=_
      rw [cell_of_row W s _ _ _ _ h1,h5 j (by omega)]
     ·by_cases c2:j=xs.countP (· < x)
      ·subst c2
       rw [if_neg c1,if_pos rfl,FK (by
        intro q hq
        rw [qy _ (.inl (by simp at hq;omega))]
        exact hsp _ (by simp at hq;omega) ▸ (by simp at hq;subst hq;rfl)) _ (by omega) (by simp)]
       simp [ic]
      ·rw [if_neg c1,if_neg c2,qy j (.inr (by simp;omega)),FK hin1 _ (by omega) (by rw [hld];omega)]
       rw [show j-(0+(xs.countP (· < x)+1))=j-(xs.countP (· < x)+1) by omega]
       exact hdrop j (by omega) hj)
    rw [j3,e4,e2] at hrow
    exact ⟨_,_,rfl,_,hrow,.inl rfl,Fr.setCells (A:=fun i=>some s=some i) s (fun _=>rfl) _ _ _ (Fr.setCells (A:=fun i=>some s=some i) s (fun _=>rfl) _ _ _ (Fr.drew _ W))⟩
   ·have hcall:=Any2.slices_Insert_int_grow Tryz.insertL s 0 xs.length c.size (xs.countP (· < x)) y 0 1 1 (xs.map ic) [ic x] W hi' (by omega) h3 (by omega) (by omega) (by simp) rfl hcs hvs (Mw xs) (one_one x)
    rw [ht] at hcall
    refine hcall.mono ?_
    rintro e w' ⟨rfl,rfl⟩
    have hg1:=grownCap_ge W (xs.length+1) c.size 3
    have hg2:=grownCap_le_maxLen W (xs.length+1) c.size 3 (by omega)
    generalize grownCap W (xs.length+1) c.size 3=cap at *
    obtain ⟨z0,hz0⟩:∃z0,z0=((xs.map ic).take (xs.countP (· < x))).toArray ++ Builtin.zeroCells (Value.int .i64 0).cells (xs.length+1-xs.countP (· < x)) ++ Builtin.zeroCells (Value.int .i64 0).cells (cap-(xs.length+1)):=⟨_,rfl⟩
    rw [←hz0]
    have hzs:z0.size=cap:=by rw [hz0];simp [Builtin.zeroCells,Value.cells,Nat.min_eq_left hcl];omega
    have hh:(W.alloc (.cells z0 3)).drew.heap[W.heap.size]? = some (.cells z0 3):=by
     show (W.heap.push _)[W.heap.size]? = _
     rw [Array.getElem?_push,if_pos rfl]
    obtain ⟨c2,e1,e2⟩:=dB W.heap.size 3 (0,0) [ic x] (xs.countP (· < x)) _ z0 hh
    have Bg:((W.alloc (.cells z0 3)).drew.setCells W.heap.size (xs.countP (· < x)) [ic x]).drew.heap[W.heap.size]? = some (.cells c2 3):=e1
    obtain ⟨c3,e3,e4⟩:=dB W.heap.size 3 (0,0) ((xs.map ic).drop (xs.countP (· < x))) (xs.countP (· < x)+1) _ c2 Bg
    have hld:((xs.map ic).drop (xs.countP (· < x))).length=xs.length-xs.countP (· < x):=by simp
    have hsp:∀j,j<cap→((W.alloc (.cells z0 3)).drew.cell? ⟨W.heap.size,j,none⟩).isSome=true:=by
     intro j hj;rw [cell_of_row _ _ _ _ _ _ hh];simp [hzs,hj]
    have hsp2:∀j,j<cap→(((W.alloc (.cells z0 3)).drew.setCells W.heap.size (xs.countP (· < x)) [ic x]).drew.cell? ⟨W.heap.size,j,none⟩).isSome=true:=by
     intro j hj;rw [cell_of_row _ _ _ _ _ _ Bg];simp [e2,hzs,hj]
    refine ⟨_,_,rfl,some W.heap.size,hnew _ _ c3 hg1 hg2 (by rw [e4,e2,hzs]) e3 (fun j hj=>?_),.inr ⟨_,rfl,Nat.le_refl _⟩,?_⟩
    ·rw [DT]
     by_cases k1:j<xs.countP (· < x)
     ·rw [if_pos k1,qy j (.inl (by omega))]
      show World.cell? ((W.alloc (.cells z0 3)).drew.setCells W.heap.size (xs.countP (· < x)) [ic x]) _=_
      rw [qy j (.inl (by omega)),cell_of_row _ _ _ _ _ _ hh,hz0,Array.append_assoc,Array.getElem?_append_left (by simp;omega),List.getElem?_toArray,List.getElem?_take,if_pos k1,MB xs j (by omega)]
     ·by_cases k2:j=xs.countP (· < x)
      ·subst k2
       rw [if_neg k1,if_pos rfl,qy _ (.inl (by omega))]
       show World.cell? ((W.alloc (.cells z0 3)).drew.setCells W.heap.size (xs.countP (· < x)) [ic x]) _=_
       rw [FK (by intro q hq;exact hsp _ (by simp at hq;omega)) _ (by omega) (by simp)]
       simp [ic]
      ·rw [if_neg k1,if_neg k2,FK (by intro q hq;exact hsp2 _ (by rw [hld] at hq;omega)) _ (by omega) (by rw [hld];omega)]
       exact hdrop j (by omega) hj
    ·refine Fr.setCells (A:=fun i=>some s=some i) W.heap.size (fun h=>by omega) _ _ _ ?_
     have hf:=Fr.setCells (A:=fun i=>some s=some i) (w:=W) W.heap.size (fun h=>by omega) [ic x] (xs.countP (· < x)) _ ((Fr.alloc _ W (.cells z0 3)).trans (Fr.drew _ _) (fun _ _ h=>h))
     exact hf.trans (Fr.drew _ _) (fun _ _ h=>h)
structure Goes (b g:Nat) (O:Nat→Option Nat) (w w':World) (O':Nat→Option Nat) (V':Nat→Value) (F':Nat→List Int):Prop where
 pool:Pl w' b g O' V' F'
 fr:Fr (own b O) w w'
 sub:∀i,i<w.heap.size→own b O' i→own b O i
theorem U9:((List.range 6).all fun k=>(List.range 256).all fun q=>bits BinOp.xor IntKind.i64 ((q:Int)*2 ^ k) (wrap64 (2 ^ k)) == ((Dp q*2 ^ k:Nat):Int) && bits BinOp.andNot IntKind.i64 ((q:Int)*2 ^ k) (wrap64 (2 ^ k)) == ((q / 2*2 ^ (k+1):Nat):Int))=true:=by kernel_rfl
theorem Yv {k q:Nat}(hk:k<6) (hq:q<256):bits BinOp.xor IntKind.i64 ((q:Int)*2 ^ k) (wrap64 (2 ^ k))=((Dp q*2 ^ k:Nat):Int)∧bits BinOp.andNot IntKind.i64 ((q:Int)*2 ^ k) (wrap64 (2 ^ k))=((q / 2*2 ^ (k+1):Nat):Int):=by
 have:=List.all_eq_true.1 (List.all_eq_true.1 U9 k (List.mem_range.2 hk)) q (List.mem_range.2 hq)
 simpa using this
theorem Gd {U:Nat→Bool}{n k q:Nat}(hU:∀f,U f=true→f<n) (hn:n≤256) (hb:blk U k q):q*2 ^ k<256∧q<256:=by
 have:=hU _ (hb _ (bG k q))
 have h2:=Nat.le_mul_of_pos_right q (Nat.two_pow_pos k)
 omega
theorem Ae {W:World}{o:Option Nat}{v:Value}{xs:List Int}(hr:kF W o v xs) (hs:xs.Pairwise (· < ·)) (hl:xs.length≤256) (x:Int) :
 Calls Tryz.prog 138 #[v,.int .i64 x] W fun e w'=>e=.returned (.tuple #[.int .i64 (xs.countP (· < x):Nat),.bool (xs.contains x)])∧∃q,w'=W.drewN q:=by
 cases o with
 |none=>
  obtain ⟨rfl,rfl⟩:=hr
  refine (Any.slices_BinarySearch_int_empty Tryz.searchL none 0 x W).mono ?_
  rintro e w' ⟨rfl,rfl⟩
  exact ⟨rfl,0,rfl⟩
 |some s=>
  obtain ⟨c,h1,rfl,h3,h4,h5⟩:=hr
  have h:=Any.slices_BinarySearch_int Tryz.searchL s 0 xs.length c.size xs x W (Nat.le_refl _) (by omega) (fun j hj=>by rw [cell_of_row W s _ _ _ _ h1,Nat.zero_add,h5 j hj]) (by rw [List.take_length];exact hs.imp (fun h=>Int.le_of_lt h))
  rw [List.take_length] at h
  exact h
theorem MK {w:World}{b g:Nat}{O:Nat→Option Nat}{V:Nat→Value}{F:Nat→List Int}(p:Pl w b g O V F) {k:Nat}(hk:k<7) (x:Int) (hl:(F k).length≤256) (W:World) (hW:W.heap=(w.alloc (.cells #[.int .i64 x] 3)).heap) (h1:W.os=w.os) (h2:W.tape=w.tape) (h3:W.output=w.output) :
 Calls Tryz.prog 139 #[V k,.int .i64 ((F k).countP (· < x):Nat),.slice (some ⟨w.heap.size,0,none⟩) 1 1] W fun e w'=>∃a c,e=.returned (.slice a (ins (F k) x).length c)∧(∃O' V',Goes b g O w (w'.setCell ⟨b,k,none⟩ (.slice a (ins (F k) x).length c)) O' V' (nQ F k (ins (F k) x)))∧w'.cell? ⟨b,k,none⟩=some (V k)∧w'.frozen? ⟨b,k,none⟩=false:=by
 have hbl:=lt_of_heap p.head
 have hr:=p.row k hk
 have hbW:W.heap[b]? = w.heap[b]? := by rw [hW];exact Below.heap_alloc _ _ _ hbl
 have hy:W.heap[w.heap.size]? = some (.cells #[.int .i64 x] 3):=by
  rw [hW];show (w.heap.push _)[w.heap.size]? = _;rw [Array.getElem?_push,if_pos rfl]
 have hOk:O k≠some w.heap.size:=by
  intro e;obtain ⟨c',h'⟩:=p.gH hk e;have:=lt_of_heap h';omega
 have hrW:kF W (O k) (V k) (F k):=hr.keep (fun s hs=>by rw [hW];exact Below.heap_alloc _ _ _ (by obtain ⟨c',h'⟩:=p.gH hk hs;exact lt_of_heap h'))
 refine (XJ hrW w.heap.size x hy hOk hl).mono ?_
 rintro e w' ⟨a,c,rfl,o',r',ho',f'⟩
 have e1:w'.heap[b]? = w.heap[b]? := (f'.block b (by rw [hW];simp;omega) (fun e=>p.VI hk e rfl)).trans hbW
 have hf:Fr (fun i=>O k=some i) w w':=(show Fr (fun i=>O k=some i) w W from ⟨h1,h2,h3,by rw [hW];simp,fun i hi _=>by rw [hW];exact Below.heap_alloc _ _ _ hi⟩).trans f' (fun _ _ h=>h)
 have ho:o'=O k∨∃s,o'=some s∧w.heap.size≤s:=by
  rcases ho' with h|⟨s,h,hs⟩
  ·exact .inl h
  ·exact .inr ⟨s,h,by rw [hW] at hs;simp at hs;omega⟩
 obtain ⟨t1,t2,t3⟩:=p.turn hk o' _ _ hf ho r'
 exact ⟨a,c,rfl,⟨_,_,t1,t2,t3⟩,by rw [World.cell?_of_block (w:=w) (a:=⟨b,k,none⟩) e1];exact p.cell hk,by rw [World.frozen?_of_block (w:=w) (a:=⟨b,k,none⟩) e1];exact p.free k⟩
theorem Goes.trans {b g:Nat}{O O1 O2:Nat→Option Nat}{w w1 w2:World}{V1 V2:Nat→Value}{F1 F2:Nat→List Int}(h:Goes b g O w w1 O1 V1 F1) (k:Goes b g O1 w1 w2 O2 V2 F2):Goes b g O w w2 O2 V2 F2:=
 ⟨k.pool,h.fr.trans k.fr (fun i hi a=>h.sub i hi a),fun i hi a=>h.sub i hi (k.sub i (Nat.lt_of_lt_of_le hi h.fr.size) a)⟩
theorem PO {l:List Int}{z:Int}(h:z∉l):(l.filter fun x=>!(x == z))=l:=by
 rw [List.filter_eq_self];intro a ha;simp;exact fun e=>h (e ▸ ha)
theorem Jq {w:World}{b g:Nat}{O:Nat→Option Nat}{V:Nat→Value}{F:Nat→List Int}(p:Pl w b g O V F) {U:Nat→Bool}{n:Nat}(hU:∀f,U f=true→f<n) (hn:n≤256) (k q:Nat) (hk:k≤6) (c:Can F (cut U k q)) (hb:blk U k q) :
 Calls Tryz.prog 83 #[pp b,.int .i64 ((q*2 ^ k:Nat):Int),.int .i64 k] w fun e w'=>e=.returned (.tuple #[])∧∃O' V' F',Goes b g O w w' O' V' F'∧Can F' U:=by
 go_enter Tryz.func83,Tryz.ntmps83
 go_wp2_with fail
 go_loopg [1,2] (6-k) (fun m s1 s2 wr=>∃(k q:Nat) (O':Nat→Option Nat) (V':Nat→Value) (F':Nat→List Int),k+m=6∧s1=.int .i64 ((q*2 ^ k:Nat):Int)∧s2=.int .i64 k∧Goes b g O w wr O' V' F'∧Can F' (cut U k q)∧blk U k q)
 case atStart=>exact ⟨k,q,O,V,F,by omega,rfl,rfl,⟨p,Fr.refl _ _,fun _ _ h=>h⟩,c,hb⟩
 case round=>
  obtain ⟨k1,q1,O1,V1,F1,hk1,rfl,rfl,G1,c1,hb1⟩:=hrel
  by_cases h6:(k1:Int)<6
  ·have Zy:k1<6:=by omega
   obtain ⟨hq1,hq2⟩:=Gd hU hn hb1
   obtain ⟨e1,e2⟩:=Yv Zy hq2
   have hz:((Dp q1:Int)*2 ^ k1)=((Dp q1*2 ^ k1:Nat):Int):=by simp
   have T:=zX G1.pool ((Dp q1:Int)*2 ^ k1) k1 (by omega)
   rw [←hz] at e1
   by_cases hm:((Dp q1*2 ^ k1:Nat):Int)∈F1 k1
   ·have hx:ug (cut U k1 q1) k1 (Dp q1):=by
     obtain ⟨r,hr,hx⟩:=((c1 k1 (by omega)).2 _).1 hm
     rw [oK hr];exact hx
    have c2:=M5 c1 (by omega) hx
    rw [MV] at c2
    have hb2:=abD hb1 hx
    rw [←hz] at hm c2
    rw [decide_eq_true hm] at T
    clear hz
    go_wp2_with (go_at_call 137;refine T.mono ?_;rintro e w1 ⟨V2,rfl,p2,f2⟩)
    go_roundg (6-(k1+1))
    case measure=>omega
    case rel=>
     exact ⟨k1+1,q1 / 2,O1,V2,_,by omega,by simp,by go_num,⟨p2,G1.fr.trans f2 (fun i hi h=>G1.sub i hi h),G1.sub⟩,c2,hb2⟩
   ·have hx:ug U k1 q1:=CE (by omega) hb1 (fun _ hy=>hm (((c1 k1 (by omega)).2 _).2 ⟨_,rfl,hy⟩))
    rw [←hz] at hm
    rw [decide_eq_false hm,PO hm,OE] at T
    clear hz hm
    have T':Calls Tryz.prog 137 #[pp b,.int .i64 ((Dp q1:Int)*2 ^ k1),.int .i64 k1] wr (fun e w1=>∃V2,e=.returned (.bool false)∧Goes b g O w w1 O1 V2 F1∧w1.cell? ⟨b,k1,none⟩=some (V2 k1)∧(∀o,(w1.alloc o).cell? ⟨b,k1,none⟩=some (V2 k1))∧(∀q o,((w1.drewN q).alloc o).cell? ⟨b,k1,none⟩=some (V2 k1))):=T.mono (by
     rintro e w1 ⟨V2,rfl,p2,f2⟩
     have hc2:=p2.cell (k:=k1) (by omega)
     have hb2:=lt_of_heap p2.head
     exact ⟨V2,rfl,⟨p2,G1.fr.trans f2 (fun i hi h=>G1.sub i hi h),G1.sub⟩,hc2,fun o=>by rw [World.cell?_of_block (w:=w1) (a:=⟨b,k1,none⟩) (Below.heap_alloc _ _ _ hb2)];exact hc2,fun q o=>(World.cell?_of_block (w:=w1) (a:=⟨b,k1,none⟩) (Below.heap_alloc (w1.drewN q) o b hb2)).trans hc2⟩)
    have hs1:=(c1 k1 (by omega)).1
    have hl1:(F1 k1).length≤256:=Nat.le_trans (R6 F1 (m:=7) (by omega)) (Nat.le_trans (Rk c1 (fun f hf=>hU f (dw.1 hf).1)) hn)
    have hfin:=M4 c1 (by omega) hx
    rw [show ((q1*2 ^ k1:Nat):Int)=(q1:Int)*2 ^ k1 by simp] at hfin
    clear T c1 hb1 e2 c p hb
    go_wp2_with (first|(go_at_call 137;refine T'.mono ?_;rintro e w1 ⟨V2,rfl,G2,z2,z21,z22⟩) | (go_at_call 138;refine (Ae (G2.pool.row k1 (by omega)) hs1 hl1 _).mono ?_;rintro e w2 ⟨rfl,q2,rfl⟩))
    go_region_with (go_at_call 139;refine (MK G2.pool (by omega) _ hl1 _ (by rfl) (by rfl) (by rfl) (by rfl)).mono ?_;rintro e w3 ⟨a3,c3,rfl,⟨O3,V3,G3⟩,y3,z3⟩)
    all_goals
     go_end0
     exact ⟨rfl,_,_,_,G2.trans G3,hfin⟩
  ·have Zy:k1=6:=by omega
   subst Zy
   have hx:ug U 6 q1:=CE (by omega) hb1 (fun h=>by omega)
   have hs1:=(c1 6 (by omega)).1
   have hl1:(F1 6).length≤256:=Nat.le_trans (R6 F1 (m:=7) (by omega)) (Nat.le_trans (Rk c1 (fun f hf=>hU f (dw.1 hf).1)) hn)
   have hfin:=M4 c1 (by omega) hx
   rw [show ((q1*2 ^ 6:Nat):Int)=(q1:Int)*64 by simp] at hfin
   have hb2:=lt_of_heap G1.pool.head
   have z2:=G1.pool.cell (k:=6) (by omega)
   have z21:∀o,(wr.alloc o).cell? ⟨b,6,none⟩=some (V1 6):=fun o=>(World.cell?_of_block (w:=wr) (a:=⟨b,6,none⟩) (Below.heap_alloc wr o b hb2)).trans z2
   have z22:∀q o,((wr.drewN q).alloc o).cell? ⟨b,6,none⟩=some (V1 6):=fun q o=>(World.cell?_of_block (w:=wr) (a:=⟨b,6,none⟩) (Below.heap_alloc (wr.drewN q) o b hb2)).trans z2
   clear c1 hb1 c p hb
   go_wp2_with (go_at_call 138;refine (Ae (G1.pool.row 6 (by omega)) hs1 hl1 _).mono ?_;rintro e w2 ⟨rfl,q2,rfl⟩)
   go_region_with (go_at_call 139;refine (MK G1.pool (by omega) _ hl1 _ (by rfl) (by rfl) (by rfl) (by rfl)).mono ?_;rintro e w3 ⟨a3,c3,rfl,⟨O3,V3,G3⟩,y3,z3⟩)
   all_goals
    go_end0
    exact ⟨rfl,_,_,_,G1.trans G3,hfin⟩
def tm (T:Int→Option Nat) (z:Int):Option Value:=(T z).map fun k=>.int .i64 (k:Int)
def At (w:World) (b n:Nat) (U:Nat→Bool) (T:Int→Option Nat) (m:Nat) (A:Nat→Prop):Prop:=
 ∃g O V F s,Pl w b g O V F∧Can F U∧aK w g s (tm T)∧s≤m∧BInv n U T∧n≤256∧∀i,A i↔own b O i∨i=g
def FU (w:World) (b n:Nat) (A:Nat→Prop) (w':World) (U:Nat→Bool) (T:Int→Option Nat) (m:Nat):Prop:=
 ∃A',At w' b n U T m A'∧Fr A w w'∧∀i,i<w.heap.size→A' i→A i
abbrev Lj (k:Int):Value:=.iface 25 (.int .i64 k)
theorem RD (T:Int→Option Nat) (z:Int) (k:Nat):(fun i=>if i=z then some (.int .i64 (k:Int)) else tm T i)=tm (fun i=>if i=z then some k else T i):=by
 funext i;simp only [tm];split<;>rfl
theorem aaf (T:Int→Option Nat) (z:Int):(fun i=>if i=z then none else tm T i)=tm (fun i=>if i=z then none else T i):=by
 funext i;simp only [tm];split<;>rfl
theorem lX (w:World):(zeroValue 3).run Tryz.prog w=.ok (.int .i64 0) w:=by kernel_rfl
theorem fO {z:Int}(h0:0≤z) (h1:z<100000):(Lit.int .i64 z).wf=true:=by
 have a:IntKind.min .i64=-9223372036854775808:=rfl
 have b:IntKind.max .i64=9223372036854775807:=rfl
 simp only [Lit.wf,a,b,Bool.and_eq_true,decide_eq_true_eq];omega
theorem J6 {w w1:World}{b g n:Nat}{O:Nat→Option Nat}{V:Nat→Value}{F:Nat→List Int}{A:Nat→Prop}(p:Pl w b g O V F) (hA:∀i,A i↔own b O i∨i=g) (hgo:¬own b O g) (g1:w.grownBy w1 (some g)) {s:Nat}{T:Int→Option Nat}{m:Nat}(yB:aK w1 g s (tm T)) (hs:s≤m)
 {U:Nat→Bool}(inv:BInv n U T) (hn:n≤256) (k q:Nat) (hk:k≤6) (c:Can F (cut U k q)) (hb:blk U k q) :
 Calls Tryz.prog 83 #[pp b,.int .i64 ((q*2 ^ k:Nat):Int),.int .i64 k] w1 fun e w'=>e=.returned (.tuple #[])∧FU w b n A w' U T m:=by
 have p1:Pl w1 b g O V F:=p.keep (fun i hi=>g1.block i (p.Jr hi) (fun e=>hgo (by cases e;exact hi)))
 refine (Jq p1 inv.bound hn k q hk c hb).mono ?_
 rintro e w' ⟨rfl,O',V',F',G,c'⟩
 refine ⟨rfl,fun i=>own b O' i∨i=g,⟨g,O',V',F',s,G.pool,c',yB.keep (G.fr.block g yB.lt hgo),hs,inv,hn,fun _=>Iff.rfl⟩,?_,?_⟩
 ·exact ((Fr.grown g1).mono (fun i _ h=>(hA i).2 (.inr h))).trans G.fr (fun i _ h=>(hA i).2 (.inl h))
 ·rintro i hi (h|h)
  ·exact (hA i).2 (.inl (G.sub i (Nat.lt_of_lt_of_le hi g1.size) h))
  ·exact (hA i).2 (.inr h)
theorem Eu {w:World}{b n:Nat}{U:Nat→Bool}{T:Int→Option Nat}{m:Nat}{A:Nat→Prop}(h:At w b n U T m A) (q k:Nat) (ht:T ((q*2 ^ k:Nat):Int)=some k) :
 Calls Tryz.prog 330 #[pp b,.int .i64 ((q*2 ^ k:Nat):Int),.int .i64 k] w fun e w'=>e=.returned .nilIface∧FU w b n A w' (join U k q) (fun z=>if z=((q*2 ^ k:Nat):Int) then none else T z) m:=by
 obtain ⟨g,O,V,F,s,p,c,pm,hs,inv,hn,hA⟩:=h
 have h7:=p.Zo
 have VJ:=inv.give ht
 obtain ⟨hk,r,hr,htk⟩:=inv.tk _ _ ht
 have hrq:=oK hr
 subst hrq
 have hsm:q*2 ^ k<256:=by have:=(htk _ (bG k q)).1;omega
 have e1:tm T ((q*2 ^ k:Nat):Int)=some (.int .i64 k):=by simp only [tm,ht];rfl
 have hcj:cut (join U k q) k q=U:=UU (fun f hf=>(htk f hf).2)
 have hbj:blk (join U k q) k q:=fun f hf=>lI.2 (.inr hf)
 have hwf:(Lit.int .i64 ((q*2 ^ k:Nat):Int)).wf=true:=fO (by omega) (by omega)
 have hgo:=p.ym pm
 rw [←hcj] at c
 have e2:=aaf T ((q*2 ^ k:Nat):Int)
 have hput:=fun w1 s1 (g1:w.grownBy w1 (some g)) (yB:aK w1 g s1 (tm fun z=>if z=((q*2 ^ k:Nat):Int) then none else T z)) (hs1:s1≤m)=>J6 p hA hgo g1 yB hs1 VJ hn k q hk c hbj
 have hs1:(if (tm T ((q*2 ^ k:Nat):Int)).isSome then s-1 else s)≤m:=by split<;>omega
 generalize hZ:((q*2 ^ k:Nat):Int)=z at *
 go_enter Tryz.func330,Tryz.ntmps330
 go_wp2_with (first
  |(at_lookup;refine xA rfl _ _ 97 rfl 3 Tryz.underlying97 _ (lX _) g s _ rfl pm z rfl hwf ?_;rw [e1];simp only [Option.getD_some,Option.isSome_some])
  |(at_delete;refine nE rfl _ _ 97 rfl 3 Tryz.underlying97 g s _ rfl pm z rfl hwf ?_;intro w1 yB g1;rw [e2] at yB)
  |(go_at_call 83;refine (hput _ _ g1 yB hs1).mono ?_;rintro e w2 ⟨rfl,t2⟩))
 go_ret
 exact ⟨rfl,t2⟩
def sD (c:Int):Value:=if c=0 then .nilIface else Lj c
theorem wI {U:Nat→Bool}{k q j:Nat}(hb:blk U k q) (hj:j<k) :
 cut (cut U j (q*2 ^ (k-j))) j (q*2 ^ (k-j)+1)=cut U (j+1) (q*2 ^ (k-(j+1)))∧blk (cut U j (q*2 ^ (k-j))) j (q*2 ^ (k-j)+1)∧(q*2 ^ (k-j)+1)*2 ^ j=q*2 ^ k+2 ^ j:=by
 have e0:k-j=(k-(j+1))+1:=by omega
 have e1:q*2 ^ (k-j)=2*(q*2 ^ (k-(j+1))):=by rw [e0,Nat.pow_succ];rw [Nat.mul_comm 2,Nat.mul_assoc]
 have e2:Dp (q*2 ^ (k-j))=q*2 ^ (k-j)+1:=by unfold Dp;rw [if_pos (by omega)]
 have e3:q*2 ^ (k-j) / 2=q*2 ^ (k-(j+1)):=by omega
 refine ⟨by rw [←e2,MV,e3],fun f hf=>dw.2 ⟨hb f ?_,by omega⟩,?_⟩
 ·have h1:f / 2 ^ (j+1)=q*2 ^ (k-(j+1)):=by rw [oI,hf];omega
  rw [sS h1 hj];exact bG _ _
 ·rw [Nat.add_mul,Nat.mul_assoc,←Nat.pow_add,Nat.sub_add_cancel (by omega)];omega
theorem Ty {z j:Nat}(hz:z<256) (hj:j≤6):wrap64 ((z:Int)+wrap64 (2 ^ j))=(z:Int)+2 ^ j:=by
 match j,hj with
 |0,_|1,_|2,_|3,_|4,_|5,_|6,_=>simp only [wrap64];omega
theorem ab3 (w:World) (b:Nat) (o:Int) (h:o<0∨6<o) :
 Calls Tryz.prog 314 #[pp b,.int .i64 o] w fun e w'=>e=.returned (.tuple #[.int .i64 0,Lj 1])∧w'=w:=by
 by_cases h1:o<0<;>by_cases h2:6<o
 all_goals first
  |(exfalso;omega)
  |(clear h
    go_enter Tryz.func314,Tryz.ntmps314
    go_wp2_with fail
    go_ret2
    exact ⟨rfl,rfl⟩)
theorem Lc {w:World}{b n:Nat}{U:Nat→Bool}{T:Int→Option Nat}{m:Nat}{A:Nat→Prop}(h:At w b n U T m A) (o:Nat) (ho:o≤6) (hno:∀j r,ug U j r→j<o) :
 Calls Tryz.prog 314 #[pp b,.int .i64 o] w fun e w'=>e=.returned (.tuple #[.int .i64 0,Lj 12])∧w'=w:=by
 obtain ⟨g,O,V,F,s,p,c,pm,hs,inv,hn,hA⟩:=h
 have hL:Calls Tryz.prog 341 #[pp b,.int .i64 o] w fun e w'=>e=.returned (.int .i64 7)∧w'=w:=by
  refine (mf p o ho).mono ?_
  rintro e w' ⟨k,rfl,rfl,h1,h2,h3,h4⟩
  have:k=7:=by
   by_cases hk:k≤6
   ·exfalso
    obtain ⟨z,l,hl⟩:=List.exists_cons_of_ne_nil (h4 hk)
    obtain ⟨q,_,hx,_⟩:=zR c h1 hk h3 hl
    have:=hno _ _ hx;omega
   ·omega
  subst this
  exact ⟨rfl,rfl⟩
 have h1:¬(o:Int)<0:=by omega
 have h2:¬(6:Int)<o:=by omega
 go_enter Tryz.func314,Tryz.ntmps314
 go_wp2_with (go_at_call 341;refine hL.mono ?_;rintro e w1 ⟨rfl,rfl⟩)
 go_ret2
 exact ⟨rfl,rfl⟩
theorem La {w:World}{b n:Nat}{U:Nat→Bool}{T:Int→Option Nat}{m:Nat}{A:Nat→Prop}(h:At w b n U T m A) (hm:m<10000) (o:Nat) (ho:o≤6) (k q:Nat) (hB:Z4 U o (q*2 ^ k) k) :
 Calls Tryz.prog 314 #[pp b,.int .i64 o] w fun e w'=>e=.returned (.tuple #[.int .i64 ((q*2 ^ k:Nat):Int),.nilIface])∧FU w b n A w' (cut U o (q*2 ^ (k-o))) (fun z=>if z=((q*2 ^ k:Nat):Int) then some o else T z) (m+1):=by
 obtain ⟨g,O,V,F,s,p,c,pm,hs,inv,hn,hA⟩:=h
 obtain ⟨⟨q',hq',hx⟩,hok,R8⟩:=hB
 have e:=Nat.eq_of_mul_eq_mul_right (Nat.two_pow_pos k) hq'
 subst e
 have hk:=hx.1
 have hsm:q*2 ^ k<256:=(Gd inv.bound hn hx.2.1).1
 -- the row, and its first
 obtain ⟨l,hl⟩:∃l,F k=((q*2 ^ k:Nat):Int) :: l:=by
  have hmem:=((c k (by omega)).2 _).2 ⟨q,rfl,hx⟩
  cases hF:F k with
  |nil=>rw [hF] at hmem;cases hmem
  |cons z l=>
   obtain ⟨r,hr,hy⟩:=((c k (by omega)).2 z).1 (by rw [hF];exact List.mem_cons_self)
   have h1:=R8 k r hy hok
   have hso:=(c k (by omega)).1
   rw [hF] at hso hmem
   rcases List.mem_cons.1 hmem with e|e
   ·rw [e];exact ⟨l,rfl⟩
   ·have:=(List.pairwise_cons.1 hso).1 _ e;omega
 have hL:Calls Tryz.prog 341 #[pp b,.int .i64 o] w fun e w'=>e=.returned (.int .i64 k)∧w'=w:=by
  refine (mf p o ho).mono ?_
  rintro e w' ⟨k',rfl,rfl,h1,h2,h3,h4⟩
  have:k'=k:=by
   by_cases hk':k'≤6
   ·obtain ⟨z,l',hl'⟩:=List.exists_cons_of_ne_nil (h4 hk')
    obtain ⟨r,_,hy,_⟩:=zR c h1 hk' h3 hl'
    have:=R8 _ _ hy h1
    by_cases h5:k<k'
    ·have:=h3 k hok h5;rw [hl] at this;cases this
    ·omega
   ·have:=h3 k hok (by omega);rw [hl] at this;cases this
  subst this
  exact ⟨rfl,rfl⟩
 have hck:=p.cell (k:=k) (by omega)
 have hrk:=p.row k (by omega)
 obtain ⟨sb,cb,hOk,hv,hlen,hc0⟩:∃sb cb,O k=some sb∧V k=.slice (some ⟨sb,0,none⟩) (l.length+1) cb∧l.length+1≤cb∧w.cell? ⟨sb,0,none⟩=some (.int .i64 ((q*2 ^ k:Nat):Int)):=by
  cases hO:O k with
  |none=>rw [hO,hl] at hrk;obtain ⟨_,h'⟩:=hrk;cases h'
  |some sb=>
   rw [hO,hl] at hrk
   obtain ⟨cc,h1,h2,h3,h4,h5⟩:=hrk
   exact ⟨sb,cc.size,rfl,by simpa using h2,by simpa using h3,by rw [cell_of_row w sb _ _ _ _ h1,h5 0 (by simp)];rfl⟩
 rw [hv] at hck
 have hT:=zX p ((q*2 ^ k:Nat):Int) k (by omega)
 have c1:=M5 c (by omega) hx
 have hgo:=p.ym pm
 have h1:¬(o:Int)<0:=by omega
 have h2:¬(6:Int)<o:=by omega
 have h3:¬(6:Int)<k:=by omega
 have Ze:=U7 hx.2.1 hok
 have VJ:=inv.take ho Ze.1
 rw [Ze.2] at VJ
 have hwf:(Lit.int .i64 ((q*2 ^ k:Nat):Int)).wf=true:=fO (by omega) (by omega)
 have e2:=RD T ((q*2 ^ k:Nat):Int) o
 have hsz:(if (tm T ((q*2 ^ k:Nat):Int)).isSome then s else s+1)≤m+1:=by split<;>omega
 have hput:=fun (j:Nat) (hj:j<k) {w1:World}{O1:Nat→Option Nat}{V1:Nat→Value}{F1:Nat→List Int}(G1:Goes b g O w w1 O1 V1 F1) (c1:Can F1 (cut U (j+1) (q*2 ^ (k-(j+1)))))=>Jq G1.pool (n:=n) (U:=cut U j (q*2 ^ (k-j))) (fun f hf=>inv.bound f (dw.1 hf).1) hn j (q*2 ^ (k-j)+1) (by omega) (by rw [(wI hx.2.1 hj).1];exact c1) (wI hx.2.1 hj).2.1
 have hval:=fun (j:Nat) (hj:j<k)=>(wI hx.2.1 hj).2.2
 have hA':=hA
 generalize hZ:q*2 ^ k=z0 at *
 go_enter Tryz.func314,Tryz.ntmps314
 go_wp2_with (first|(go_at_call 341;refine hL.mono ?_;rintro e w0 ⟨rfl,h0⟩;subst w0) | (go_at_call 137;refine hT.mono ?_;rintro e w1 ⟨V1,rfl,p1,f1⟩))
 have cS:Can (nQ F k ((F k).filter fun x=>!(x == (z0:Int)))) (cut U k (q*2 ^ (k-k))):=by rw [Nat.sub_self,Nat.pow_zero,Nat.mul_one];exact c1
 go_loopg [6] (k-o) (fun mm s6 wr=>∃(j:Nat) (O1:Nat→Option Nat) (V1:Nat→Value) (F1:Nat→List Int),o+mm=j∧j≤k∧s6=.int .i64 j∧Goes b g O w wr O1 V1 F1∧Can F1 (cut U j (q*2 ^ (k-j))))
 case atStart=>exact ⟨k,O,V1,_,by omega,Nat.le_refl _,rfl,⟨p1,f1,fun _ _ h=>h⟩,cS⟩
 case round=>
  obtain ⟨j,O1,V2,F1,hj,hjk,rfl,G1,cj⟩:=hrel
  by_cases hgt:(o:Int)<j
  ·obtain ⟨j',rfl⟩:∃j',j=j'+1:=⟨j-1,by omega⟩
   have hp:=hput j' (by omega) G1 cj
   rw [hval j' (by omega),show ((z0+2 ^ j':Nat):Int)=(z0:Int)+2 ^ j' by simp] at hp
   have hw:=Ty (z:=z0) (j:=j') (by omega) (by omega)
   go_wp2_with (go_at_call 83;refine hp.mono ?_;rintro e w2 ⟨rfl,O2,V3,F2,G2,c2⟩)
   go_roundg (j'-o)
   case measure=>omega
   case rel=>exact ⟨j',O2,V3,F2,by omega,by omega,by go_num,G1.trans G2,c2⟩
  ·have hjo:j=o:=by omega
   subst hjo
   have p2:=G1.pool
   have h7:=p2.Zo
   have wX:=pm.keep (G1.fr.block g pm.lt hgo)
   have hsx:s<maxLen:=by unfold maxLen;omega
   go_wp2_with (at_mapUpdate;refine ik rfl _ _ _ 97 rfl 3 Tryz.underlying97 g s _ rfl wX hsx (z0:Int) rfl hwf (.int .i64 (j:Int)) rfl ?_;intro w3 Zu g3;rw [e2] at Zu)
   go_ret2
   have afJ:¬own b O1 g:=p2.ym wX
   refine ⟨rfl,fun i=>own b O1 i∨i=g,⟨g,O1,V2,F1,_,p2.keep (fun i hi=>g3.block i (p2.Jr hi) (fun e=>afJ (by cases e;exact hi))),cj,Zu,hsz,VJ,hn,fun _=>Iff.rfl⟩,?_,?_⟩
   ·exact (G1.fr.mono (fun i _ h=>(hA i).2 (.inl h))).trans (Fr.grown g3) (fun i _ h=>(hA i).2 (.inr h))
   ·rintro i hi (h|h)
    ·exact (hA i).2 (.inl (G1.sub i hi h))
    ·exact (hA i).2 (.inr h)
theorem Qp:Can (fun _=>[]) (fun _=>false):=by
 intro k hk
 refine ⟨List.Pairwise.nil,fun z=>⟨fun h=>(by cases h),?_⟩⟩
 rintro ⟨q,_,hx⟩
 have:=hx.2.1 _ (bG k q)
 cases this
theorem aet (w:World) (n:Int) (h:¬(1≤n∧n≤256)) :
 Calls Tryz.prog 36 #[.int .i64 n] w fun e w'=>e=.returned (.tuple #[.pointer none,Lj 2])∧w'=w:=by
 by_cases h1:n<1<;>by_cases h2:256<n
 all_goals first
  |(exfalso;omega)
  |(clear h
    go_enter Tryz.func36,Tryz.ntmps36
    go_wp2_with fail
    go_ret2
    exact ⟨rfl,rfl⟩)
theorem Tz (w:World):Pl ((w.alloc (.map #[] 0)).alloc (.cells #[.slice none 0 0,.slice none 0 0,.slice none 0 0,.slice none 0 0,.slice none 0 0,.slice none 0 0,.slice none 0 0,.map (some w.heap.size)] 158)) (w.heap.size+1) w.heap.size (fun _=>none) (fun _=>.slice none 0 0) (fun _=>[]):=by
 refine ⟨?_,fun k _=>⟨rfl,rfl⟩,fun j k s _ _ h=>by cases h⟩
 show ((w.heap.push _).push _)[w.heap.size+1]? = _
 rw [Array.getElem?_push,if_pos (by simp)]
 rfl
theorem WJ (w:World) (n:Nat) (h1:1≤n) (h2:n≤256) :
 Calls Tryz.prog 36 #[.int .i64 n] w fun e w'=>∃b,e=.returned (.tuple #[pp b,.nilIface])∧∃A,At w' b n (fun f=>decide (f<n)) (fun _=>none) 0 A∧Fr (fun _=>False) w w'∧∀i,i<w.heap.size→¬A i:=by
 have p0:=Tz w
 have pm0:aK ((w.alloc (.map #[] 0)).alloc (.cells #[.slice none 0 0,.slice none 0 0,.slice none 0 0,.slice none 0 0,.slice none 0 0,.slice none 0 0,.slice none 0 0,.map (some w.heap.size)] 158)) w.heap.size 0 (fun _=>none):=(aK.made w).keep (Below.heap_alloc _ _ _ (by simp))
 have f0:Fr (fun _=>False) w ((w.alloc (.map #[] 0)).alloc (.cells #[.slice none 0 0,.slice none 0 0,.slice none 0 0,.slice none 0 0,.slice none 0 0,.slice none 0 0,.slice none 0 0,.map (some w.heap.size)] 158)):=(Fr.alloc _ w _).trans (Fr.alloc _ _ _) (fun _ _ h=>h)
 have hs0:w.heap.size+2≤((w.alloc (.map #[] 0)).alloc (.cells #[.slice none 0 0,.slice none 0 0,.slice none 0 0,.slice none 0 0,.slice none 0 0,.slice none 0 0,.slice none 0 0,.map (some w.heap.size)] 158)).heap.size:=by simp
 have hmm:=@run_makeMap Tryz.prog
 have h3:¬(n:Int)<1:=by omega
 have h4:¬(256:Int)<n:=by omega
 go_enter Tryz.func36,Tryz.ntmps36
 go_wp2_with fail
 go_loopg [17] n (fun m s wr=>∃(i:Nat) (O:Nat→Option Nat) (V:Nat→Value) (F:Nat→List Int),i+m=n∧s=.int .i64 i∧Goes (w.heap.size+1) w.heap.size (fun _=>none) ((w.alloc (.map #[] 0)).alloc (.cells #[.slice none 0 0,.slice none 0 0,.slice none 0 0,.slice none 0 0,.slice none 0 0,.slice none 0 0,.slice none 0 0,.map (some w.heap.size)] 158)) wr O V F∧Can F (fun f=>decide (f<i)))
 case atStart=>exact ⟨0,_,_,_,by omega,rfl,⟨p0,Fr.refl _ _,fun _ _ h=>h⟩,by simpa using Qp⟩
 case round=>
  obtain ⟨i,O,V,F,hi,rfl,G,c⟩:=hrel
  by_cases hlt:(i:Int)<n
  ·have e1:cut (fun f=>decide (f<i+1)) 0 i=fun f=>decide (f<i):=by
    funext f;rw [Bool.eq_iff_iff,dw];simp;omega
   have hp:=Jq G.pool (n:=i+1) (U:=fun f=>decide (f<i+1)) (fun f hf=>by simpa using hf) (by omega) 0 i (by omega) (by rw [e1];exact c) (fun f hf=>by simp at hf;simp;omega)
   rw [show ((i*2 ^ 0:Nat):Int)=(i:Int) by simp] at hp
   go_wp2_with (go_at_call 83;refine hp.mono ?_;rintro e w2 ⟨rfl,O2,V2,F2,G2,c2⟩)
   go_roundg (n-(i+1))
   case measure=>omega
   case rel=>exact ⟨i+1,O2,V2,F2,by omega,by go_num,G.trans G2,c2⟩
  ·have hin:i=n:=by omega
   subst hin
   go_wp2_with fail
   go_ret2
   have hgo:=p0.ym pm0
   refine ⟨_,rfl,fun j=>own (w.heap.size+1) O j∨j=w.heap.size,⟨w.heap.size,O,V,F,0,G.pool,c,?_,Nat.le_refl _,XI i,h2,fun _=>Iff.rfl⟩,?_,?_⟩
   ·exact pm0.keep (G.fr.block _ (by omega) hgo)
   ·refine f0.trans G.fr ?_
    rintro j hj (h|⟨k,_,h⟩)
    ·omega
    ·cases h
   ·rintro j hj (h|h)
    ·rcases G.sub j (by omega) h with h|⟨k,_,h⟩
     ·omega
     ·cases h
    ·omega
theorem Oj {l k:Nat}(h:l*2 ^ k≤256) (a:Nat) (ha:a≤256):wrap64 ((a:Int)+wrap64 ((l:Int)*2 ^ k))=((a+l*2 ^ k:Nat):Int):=by
 have e:((l*2 ^ k:Nat):Int)=(l:Int)*2 ^ k:=by simp
 rw [←e]
 generalize l*2 ^ k=x at *
 unfold wrap64;omega
theorem aaY (V:Nat→Value) (k:Nat) (hk:k<7) (w:World):(Instr.index 156 (.agg #[V 0,V 1,V 2,V 3,V 4,V 5,V 6]) (.int .i64 k)).run Tryz.prog w=.ok (V k) w:=by
 rcases (by omega:k=0∨k=1∨k=2∨k=3∨k=4∨k=5∨k=6) with h|h|h|h|h|h|h<;>subst h<;>kernel_rfl
theorem XD {w:World}{b n:Nat}{U:Nat→Bool}{T:Int→Option Nat}{m:Nat}{A:Nat→Prop}(h:At w b n U T m A) :
 Calls Tryz.prog 213 #[pp b] w fun e w'=>e=.returned (.int .i64 (cnt U 0 n:Nat))∧w'=w:=by
 obtain ⟨g,O,V,F,s,p,c,pm,hs,inv,hn,hA⟩:=h
 have hlf:=Y8 c inv.bound
 have hle:=Rk c inv.bound
 have c0:=p.cell (k:=0) (by omega)
 have c1:=p.cell (k:=1) (by omega)
 have c2:=p.cell (k:=2) (by omega)
 have c3:=p.cell (k:=3) (by omega)
 have c4:=p.cell (k:=4) (by omega)
 have c5:=p.cell (k:=5) (by omega)
 have c6:=p.cell (k:=6) (by omega)
 go_enter Tryz.func213,Tryz.ntmps213
 go_wp2_with fail
 go_loopg [3,12] 7 (fun mm s3 s12 wr=>∃k:Nat,k+mm=7∧s3=.int .i64 (lf F k:Nat)∧s12=.int .i64 k∧wr=w)
 case atStart=>exact ⟨0,by omega,rfl,rfl,rfl⟩
 case round=>
  obtain ⟨k,hk,rfl,rfl,hw⟩:=hrel
  subst wr
  by_cases hlt:(k:Int)<7
  ·have YM:k<7:=by omega
   obtain ⟨a,cc,hv,_,_⟩:=(p.row k YM).isSlice
   have hrow:=R5 F (k:=k) (m:=7) YM
   have hw:=Oj (l:=(F k).length) (k:=k) (by omega) (lf F k) (by omega)
   have hix:=aaY V k YM w
   rw [hv] at hix
   go_wp2_with fail
   go_roundg (7-(k+1))
   case measure=>omega
   case rel=>exact ⟨k+1,by omega,by rw [lf,hw],by go_num,rfl⟩
  ·have YM:k=7:=by omega
   subst YM
   go_wp2_with fail
   go_ret
   exact ⟨rfl,rfl⟩
end Go.Proofs.YtippochapiolpaaGreatDoor

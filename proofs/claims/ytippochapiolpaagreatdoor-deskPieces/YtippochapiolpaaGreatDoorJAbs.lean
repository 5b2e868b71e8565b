/- Ours. -/
import Derived.Test.YtippochapiolpaaGreatDoorSKeys
import Derived.Lib.SlKeysI
namespace Go.Proofs.YtippochapiolpaaGreatDoor
open List(mem_map mem_range pairwise_map range)
section
open Go.RowKit Go.Maps
theorem aK.data{w:World}{g s:Nat}{M:Int->Option Value}(m:aK w g s M):∃D:DataW Value,w.ownsMap Tryz.prog 3 self g s D/\Maps.size D=s/\(Go.intKeys D).Nodup/\(Go.intKeys D).length=s/\∀x,x∈Go.intKeys D↔(M x).isSome=true:=by
 obtain⟨D,b,u,C,_⟩:=m;refine⟨D,b,u,?_⟩;obtain⟨k,y,l,_⟩:=b.entries gY;obtain⟨t,h,r⟩:=b.keysOf;obtain rfl:k=t:=by rw[y] at h;simpa using h
 have j:∀p∈k,∃x,p.1=.int .i64 x:=fun p c=>by
  obtain⟨v,A⟩:=r p c;obtain⟨x,_,z,_⟩:=Maps.keyOf_i64 Tryz.underlying3 A;exact⟨x,z⟩
 have o:(k.map fun p=>Go.intOf p.1).Nodup:=by
  refine pairwise_map.2 (l.imp_of_mem fun {p q} c i n e=>n ?_);obtain⟨a,f⟩:=j p c;obtain⟨d,B⟩:=j q i;rw[f,B] at e ⊢;exact congrArg _ e
 subst y;refine⟨o,by rw[<-u];simp[Go.intKeys,Maps.size],fun x=>?_⟩;rw[<-C x,has_eq,List.any_eq_true];show x∈k.map (fun p=>Go.intOf p.1)↔_;rw[mem_map];constructor
 ·rintro ⟨p,c,rfl⟩;obtain⟨a,f⟩:=j p c;exact⟨p,c,by rw[f];simp[Lit.sameKey,Go.intOf]⟩
 ·rintro ⟨p,c,i⟩;obtain⟨a,f⟩:=j p c;rw[f] at i;exact⟨p,c,by rw[f];simpa[Lit.sameKey,Go.intOf] using i⟩
theorem lD:∀ {a b:List Int},a.Nodup->a ⊆ b->a.length<=b.length
 | [],b,_,_=>Nat.zero_le _
 |x::a,b,hn,hs=>by
  rw[List.nodup_cons] at hn;have d:x∈b:=hs List.mem_cons_self;have h:=lD (b:=b.erase x) hn.2 (fun y c=>(List.mem_erase_of_ne (fun e=>hn.1 (by rw[<-e];exact c))).2 (hs (List.mem_cons_of_mem _ c)));have g:=List.length_erase_of_mem d;have f:=List.length_pos_of_mem d;rw[List.length_cons];omega
def p9{α:Type}(F:Int->Option α)(n:Nat):Prop:=∃ks:List Int,ks.Nodup/\ks.length=n/\∀x,x∈ks↔(F x).isSome=true
section
variable {α β:Type} {F:Int→Option α}{G:Int→Option β}{n n':Nat}{k:Int}
theorem p9.one(h:p9 F n)(i:p9 F n'):n=n':=by
 obtain⟨a,g,rfl,e⟩:=h;obtain⟨b,f,rfl,d⟩:=i;exact Nat.le_antisymm (lD g (fun x c=>(d x).2 ((e x).1 c))) (lD f (fun x c=>(e x).2 ((d x).1 c)))
theorem p9.few(h:p9 F n){B:Int}(j:0<=B)(c:∀x,(F x).isSome=true->0<x/\x<=B):(n:Int)<=B:=by
 obtain⟨g,f,rfl,e⟩:=h;have d:=lD (b:=((range B.toNat).map (fun i:Nat=>(i:Int)+1))) f (fun x a=>by
  have:=c x ((e x).1 a);exact mem_map.2 ⟨(x-1).toNat,mem_range.2 (by omega),by omega⟩)
 simp at d;omega
theorem p9.congr(h:p9 F n)(e:∀x,(G x).isSome=(F x).isSome):p9 G n:=by
 obtain⟨d,a,b,c⟩:=h;exact⟨d,a,b,fun x=>by rw[e];exact c x⟩
end
theorem aK.isN{w:World}{g s:Nat}{M:Int->Option Value}(m:aK w g s M):p9 M s:=by
 obtain⟨D,_,_,c,b,a⟩:=m.data;exact⟨_,c,b,a⟩
end
section
structure Pr where
 parent:Int
 state:Int
 code:Int
 wt:Int->Bool
 ig:Int->Bool
abbrev Ps:=Int->Option Pr
def fF:Int->Bool:=fun _=>false
def gU:Ps:=fun n=>if n=1 then some ⟨0,1,0,fF,fF⟩ else none
def nN(P:Ps)(n:Int):Int:=((P n).map (·.state)).getD 0
def xR(P:Ps)(n:Int):Int:=((P n).map (·.parent)).getD 0
def aD(P:Ps)(n:Int):Bool:=decide (nN P n=1)
def nZ(P:Ps)(n:Int)(p:Pr):Ps:=fun i=>if i=n then some p else P i
def uu(P:Ps)(n:Int):Ps:=fun i=>if i=n then none else P i
structure uD (P:Ps) (k:Int):Prop where
 pos:1<=k
 no:P k=none
 all:∀j,1<=j->j<k->(P j).isSome=true
structure pX (P:Ps):Prop where
 key:∀n p,P n=some p->1<=n/\n<=24
 st:∀n p,P n=some p->p.state=1\/p.state=2
 one:∃p,P 1=some p/\p.state=1/\p.parent=0
 par:∀n p,P n=some p->n≠1->aD P p.parent=true/\p.parent≠n
 wt:∀n p,P n=some p->∀s,p.wt s=true->1<=s/\s<=8
 ig:∀n p,P n=some p->∀s,p.ig s=true->1<=s/\s<8
section
variable {P:Ps}{n k:Int}{p:Pr}
theorem kG(h:P n=some p):nN P n=p.state:=by unfold nN;rw[h];rfl
theorem lY(h:P n=none):nN P n=0:=by unfold nN;rw[h];rfl
theorem oP(h:P n=some p):xR P n=p.parent:=by unfold xR;rw[h];rfl
theorem OQ(h:P n=none):xR P n=0:=by unfold xR;rw[h];rfl
theorem dx:aD P n=true↔∃p,P n=some p/\p.state=1:=by
 unfold aD;rw[decide_eq_true_iff];cases h:P n with
 |none=>rw[lY h];simp
 |some p=>rw[kG h];simp
theorem pX.isSome(h:pX P):(P n).isSome=true↔nN P n≠0:=by
 cases hn:P n with
 |none=>rw[lY hn];simp
 |some p=>rw[kG hn];have:=h.st n p hn;simp;omega
theorem pX.first:pX gU:=by
 have b:∀n p,gU n=some p->n=1/\p=⟨0,1,0,fF,fF⟩:=fun n p e=>by
  unfold gU at e;split at e
  ·rename_i d;exact⟨d,(Option.some.inj e).symm⟩
  ·cases e
 refine⟨fun n p e=>?_,fun n p e=>?_,⟨_,rfl,rfl,rfl⟩,fun n p e c=>absurd (b n p e).1 c,fun n p e s a=>?_,fun n p e s a=>?_⟩
 ·have:=(b n p e).1;omega
 ·rw[(b n p e).2];exact .inl rfl
 ·rw[(b n p e).2] at a;cases a
 ·rw[(b n p e).2] at a;cases a
theorem uD.ex{c:Nat}(t:p9 P c)(w:c<24):∃k,uD P k/\k<=24:=by
 have d:∀m:Nat,(∀j:Int,1<=j->j<=m->(P j).isSome=true)\/∃k,uD P k/\k<=m:=by
  intro m;induction m with
  |zero=>exact .inl (fun j f l=>by omega)
  |succ m g=>
   rcases g with g|⟨k,n,o⟩
   ·cases hm:P ((m:Int)+1) with
    |none=>exact .inr ⟨(m:Int)+1,⟨by omega,hm,fun j f l=>g j f (by omega)⟩,by omega⟩
    |some p=>refine .inl (fun j f l=>?_)
             by_cases e:j=(m:Int)+1
             ·rw[e,hm];rfl
             ·exact g j f (by omega)
   ·exact .inr ⟨k,n,by omega⟩
 rcases d 24 with u|⟨k,n,o⟩
 ·exfalso;obtain⟨q,f,rfl,l⟩:=t;have v:=lD (a:=(range 24).map (fun i:Nat=>(i:Int)+1)) (b:=q) (by
   rw[List.Nodup,pairwise_map];exact List.pairwise_lt_range.imp (fun h=>by omega)) (fun x r=>by
   obtain⟨i,s,rfl⟩:=mem_map.1 r;have:=mem_range.1 s;exact(l _).2 (u _ (by omega) (by omega)))
  simp at v;omega
 ·exact⟨k,n,o⟩
end
def aH(P:Ps):List Int:=((range 24).map (fun i:Nat=>(i:Int)+1)).filter (fun n=>(P n).isSome)
section
variable {P:Ps}{n:Int}
theorem pX.si(h:pX P):n∈aH P↔(P n).isSome=true:=by
 unfold aH;rw[List.mem_filter];constructor
 ·exact fun z=>z.2
 ·intro z;obtain⟨p,a⟩:=Option.isSome_iff_exists.1 z;have:=h.key n p a;exact⟨mem_map.2 ⟨(n-1).toNat,mem_range.2 (by omega),by omega⟩,z⟩
theorem vD(P:Ps):(aH P).Pairwise (· < ·):=by
 unfold aH;refine List.Pairwise.filter _ ?_;rw[pairwise_map];exact List.pairwise_lt_range.imp (fun h=>by omega)
theorem xD(P:Ps):(aH P).Nodup:=(vD P).imp (fun h=>by omega)
theorem pX.YU(h:pX P):p9 P (aH P).length:=⟨_,xD P,rfl,fun _=>h.si⟩
theorem lH(P:Ps):(aH P).length<=24:=by
 unfold aH;refine Nat.le_trans (List.length_filter_le _ _) ?_;simp
end
def lQ(P:Ps)(pid:Int)(c:Nat):Int:=if aD P pid=false then 7 else if 24<=c then 12 else 0
def Yy(P:Ps)(pid:Int):Int->Bool:=((P pid).map (·.ig)).getD fF
def fP(P:Ps)(pid k:Int):Ps:=nZ P k ⟨pid,1,0,fF,Yy P pid⟩
def kV(P:Ps)(pid:Int):Int:=if aD P pid=false then 7 else if pid=1 then 6 else 0
def lT(pid code n:Int)(q:Pr):Pr:=
 let r:Pr:=if n=pid then { q with state:=2,code:=code,wt:=fF } else q
 if r.parent=pid then { r with parent:=1 } else r
def dG(P:Ps)(pid code:Int):Ps:=fun n=>(P n).map (lT pid code n)
def BL(P:Ps)(pid n:Int):Bool:=decide (xR P n=pid/\nN P n=2)
def Bi(P:Ps)(pid n:Int):Bool:=decide (xR P n=pid)
def BM(P:Ps)(n:Int):Int:=((P n).map (·.code)).getD 0
def bC(P:Ps)(pid:Int):Int×Int×Int×Ps:=
 if aD P pid=false then (0,0,7,P) else
 match (aH P).find? (BL P pid) with
 |some n=>(n,BM P n,0,uu P n)
 |none=>(0,0,if (aH P).any (Bi P pid)=true then 6 else 8,P)
def eH(P:Ps)(pid sig:Int):Int:=if ¬(1<=sig/\sig<=8) then 2 else if aD P pid=false then 7 else 0
def bY(f:Int->Bool)(s:Int)(b:Bool):Int->Bool:=fun i=>if i=s then b else f i
def vP(P:Ps)(n:Int)(f:Pr->Pr):Ps:=fun i=>if i=n then (P i).map f else P i
def kC(P:Ps)(pid sig:Int):Ps:=vP P pid (fun p=>if p.ig sig=true then p else { p with wt:=bY p.wt sig true })
def bN(P:Ps)(pid sig:Int):Int:=if ¬(1<=sig/\sig<=8) then 2 else if aD P pid=false then 7 else if sig=8 then 6 else 0
def fE(P:Ps)(pid sig:Int)(on:Bool):Ps:=vP P pid (fun p=>{ p with ig:=bY p.ig sig on,wt:=if on=true then bY p.wt sig false else p.wt })
def sigs:List Int:=[1,2,3,4,5,6,7,8]
def Vj(P:Ps)(n:Int):Int->Bool:=((P n).map (·.wt)).getD fF
def aO(P:Ps)(pid:Int):Int:=if aD P pid=false then 0 else (sigs.find? (Vj P pid)).getD 0
def dP(P:Ps)(pid:Int):Ps:=if aO P pid=0 then P else vP P pid (fun p=>{ p with wt:=bY p.wt (aO P pid) false })
section
variable {P:Ps}{pid code k sig n:Int}{c:Nat}{p:Pr}
theorem il{a:Ps}(h:nN a n=nN P n):aD a n=aD P n:=by unfold aD;rw[h]
theorem oN(P:Ps)(n:Int)(p:Pr):nZ P n p n=some p:=if_pos rfl
theorem qZ{P:Ps}{n i:Int}{p:Pr}(h:i≠n):nZ P n p i=P i:=if_neg h
theorem pX.fork(h:pX P)(n:aD P pid=true)(g:uD P k)(w:k<=24):pX (fP P pid k):=by
 obtain⟨q,f,c⟩:=dx.1 n;have l:pid≠k:=fun e=>by rw[e,g.no] at f;cases f
 have j:∀i,i≠k->nN (fP P pid k) i=nN P i:=fun i b=>by unfold nN fP;rw[qZ b]
 have a:∀i,aD P i=true->aD (fP P pid k) i=true:=fun i b=>by
  obtain⟨p,o,_⟩:=dx.1 b;rw[il (j i (fun e=>by rw[e,g.no] at o;cases o))];exact b
 have d:∀i p,fP P pid k i=some p->(i=k/\p=⟨pid,1,0,fF,Yy P pid⟩)\/(i≠k/\P i=some p):=fun i p e=>by
  by_cases b:i=k
  ·subst b;unfold fP at e;rw[oN] at e;exact .inl ⟨rfl,(Option.some.inj e).symm⟩
  ·unfold fP at e;rw[qZ b] at e;exact .inr ⟨b,e⟩
 refine⟨fun i p e=>?_,fun i p e=>?_,?_,fun i p e r=>?_,fun i p e s c=>?_,fun i p e s c=>?_⟩
 ·rcases d i p e with⟨rfl,_⟩|⟨_,e⟩
  ·exact⟨g.pos,w⟩
  ·exact h.key i p e
 ·rcases d i p e with⟨_,rfl⟩|⟨_,e⟩
  ·exact .inl rfl
  ·exact h.st i p e
 ·obtain⟨t,m,v,u⟩:=h.one;exact⟨t,by unfold fP;rw[qZ (fun e=>by rw[e,g.no] at m;cases m)];exact m,v,u⟩
 ·rcases d i p e with⟨rfl,rfl⟩|⟨_,e⟩
  ·exact⟨a _ n,l⟩
  ·exact⟨a _ (h.par i p e r).1,(h.par i p e r).2⟩
 ·rcases d i p e with⟨_,rfl⟩|⟨_,e⟩
  ·cases c
  ·exact h.wt i p e s c
 ·rcases d i p e with⟨_,rfl⟩|⟨_,e⟩
  ·have:Yy P pid=q.ig:=by unfold Yy;rw[f];rfl
   rw[this] at c;exact h.ig pid q f s c
  ·exact h.ig i p e s c
theorem ve(q:Pr):(lT pid code n q).state=if n=pid then 2 else q.state:=by
 unfold lT;simp only;split<;>split<;>rfl
theorem CY(q:Pr):(lT pid code n q).parent=if q.parent=pid then 1 else q.parent:=by
 unfold lT;simp only;split<;>(split<;>simp_all)
theorem oU(q:Pr):(lT pid code n q).wt=(if n=pid then fF else q.wt)/\(lT pid code n q).ig=q.ig:=by
 unfold lT;simp only;split<;>split<;>exact⟨rfl,rfl⟩
theorem GY(P:Ps):nN (dG P pid code) n=if n=pid/\(P n).isSome=true then 2 else nN P n:=by
 unfold nN dG;cases h:P n with
 |none=>simp
 |some q=>simp[ve]
theorem pX.exit(h:pX P)(j:aD P pid=true)(o:pid≠1):pX (dG P pid code):=by
 obtain⟨r,k,_⟩:=dx.1 j;have t:=h.key pid r k;have d:∀i p,dG P pid code i=some p->∃q,P i=some q/\p=lT pid code i q:=fun i p e=>by
  unfold dG at e;cases a:P i with
  |none=>rw[a] at e;cases e
  |some q=>rw[a] at e;exact⟨q,rfl,(Option.some.inj e).symm⟩
 have b:∀i,i≠pid->aD P i=true->aD (dG P pid code) i=true:=fun i f j=>by
  rw[il (P:=P) (by rw[GY,if_neg (fun z=>f z.1)])];exact j
 refine⟨fun i p e=>?_,fun i p e=>?_,?_,fun i p e f=>?_,fun i p e s c=>?_,fun i p e s c=>?_⟩
 ·obtain⟨q,a,_⟩:=d i p e;exact h.key i q a
 ·obtain⟨q,a,rfl⟩:=d i p e;rw[ve];split
  ·exact .inr rfl
  ·exact h.st i q a
 ·obtain⟨g,n,m,u⟩:=h.one;refine⟨lT pid code 1 g,by unfold dG;rw[n];rfl,?_,?_⟩
  ·rw[ve,if_neg (fun e=>o e.symm)];exact m
  ·rw[CY,u];split
   ·omega
   ·rfl
 ·obtain⟨q,a,rfl⟩:=d i p e;rw[CY];have:=h.par i q a f;split
  ·obtain⟨g,n,m,_⟩:=h.one;exact⟨b 1 (fun e=>o e.symm) (dx.2 ⟨g,n,m⟩),fun e=>f e.symm⟩
  ·rename_i l
   exact⟨b _ l this.1,this.2⟩
 ·obtain⟨q,a,rfl⟩:=d i p e;rw[(oU q).1] at c;split at c
  ·cases c
  ·exact h.wt i q a s c
 ·obtain⟨q,a,rfl⟩:=d i p e;rw[(oU q).2] at c;exact h.ig i q a s c
theorem qH{f:Pr->Pr}{i:Int}(h:vP P n f i=some p):∃q,P i=some q/\((i=n/\p=f q)\/(i≠n/\p=q)):=by
 unfold vP at h;split at h
 ·rename_i e
  cases hq:P i with
  |none=>rw[hq] at h;cases h
  |some q=>rw[hq] at h;exact⟨q,rfl,.inl ⟨e,(Option.some.inj h).symm⟩⟩
 ·rename_i e;exact⟨p,h,.inr ⟨e,rfl⟩⟩
theorem Js{f:Pr->Pr}(a:∀q,(f q).state=q.state)(i:Int):nN (vP P n f) i=nN P i:=by
 unfold nN vP;split
 ·cases P i with
  |none=>rfl
  |some q=>simp[a]
 ·rfl
theorem pX.on(h:pX P){f:Pr->Pr}(c:∀q,(f q).state=q.state)(j:∀q,(f q).parent=q.parent)(r:∀q s,P n=some q->(f q).wt s=true->1<=s/\s<=8)(o:∀q s,P n=some q->(f q).ig s=true->1<=s/\s<8):pX (vP P n f):=by
 refine⟨fun i p e=>?_,fun i p e=>?_,?_,fun i p e g=>?_,fun i p e s b=>?_,fun i p e s b=>?_⟩
 ·obtain⟨q,a,_⟩:=qH e;exact h.key i q a
 ·obtain⟨q,a,⟨_,rfl⟩|⟨_,rfl⟩⟩:=qH e
  ·rw[c];exact h.st i q a
  ·exact h.st i p a
 ·obtain⟨d,m,l,k⟩:=h.one;by_cases e:(1:Int)=n
  ·exact⟨f d,by unfold vP;rw[if_pos e,m];rfl,by rw[c];exact l,by rw[j];exact k⟩
  ·exact⟨d,by unfold vP;rw[if_neg e];exact m,l,k⟩
 ·obtain⟨q,a,⟨_,rfl⟩|⟨_,rfl⟩⟩:=qH e
  ·rw[j,il (Js c _)];exact h.par i q a g
  ·rw[il (Js c _)];exact h.par i p a g
 ·obtain⟨q,a,⟨rfl,rfl⟩|⟨_,rfl⟩⟩:=qH e
  ·exact r q s a b
  ·exact h.wt i p a s b
 ·obtain⟨q,a,⟨rfl,rfl⟩|⟨_,rfl⟩⟩:=qH e
  ·exact o q s a b
  ·exact h.ig i p a s b
theorem jP{f:Int->Bool}{s i:Int}{b:Bool}(h:bY f s b i=true):(i=s/\b=true)\/f i=true:=by
 unfold bY at h;split at h
 ·rename_i e;exact .inl ⟨e,h⟩
 ·exact .inr h
theorem pX.kill(h:pX P)(b:1<=sig/\sig<=8):pX (kC P pid sig):=by
 refine h.on (fun q=>by split<;>rfl) (fun q=>by split<;>rfl) (fun q s a e=>?_) (fun q s a e=>?_)
 ·split at e
  ·exact h.wt pid q a s e
  ·rcases jP e with⟨rfl,_⟩|e
   ·exact b
   ·exact h.wt pid q a s e
 ·split at e
  ·exact h.ig pid q a s e
  ·exact h.ig pid q a s e
theorem pX.ignore(h:pX P)(b:1<=sig/\sig<8)(on:Bool):pX (fE P pid sig on):=by
 refine h.on (fun q=>rfl) (fun q=>rfl) (fun q s a e=>?_) (fun q s a e=>?_)
 ·simp only at e;split at e
  ·rcases jP e with⟨_,e⟩|e
   ·cases e
   ·exact h.wt pid q a s e
  ·exact h.wt pid q a s e
 ·rcases jP e with⟨rfl,_⟩|e
  ·exact b
  ·exact h.ig pid q a s e
theorem pX.take(h:pX P)(pid:Int):pX (dP P pid):=by
 unfold dP;split
 ·exact h
 ·refine h.on (fun q=>rfl) (fun q=>rfl) (fun q s a e=>?_) (fun q s a e=>h.ig pid q a s e);rcases jP e with⟨_,e⟩|e
  ·cases e
  ·exact h.wt pid q a s e
theorem ED{i:Int}(h:i≠n):uu P n i=P i:=if_neg h
theorem iG{i:Int}(h:uu P n i=some p):i≠n/\P i=some p:=by
 unfold uu at h;split at h
 ·cases h
 ·rename_i e;exact⟨e,h⟩
theorem pX.del(h:pX P)(c:nN P n=2):pX (uu P n):=by
 have g:∀i,aD P i=true->aD (uu P n) i=true:=fun i a=>by
  have b:i≠n:=fun e=>by unfold aD at a;rw[e,c] at a;simp at a
  rw[il (P:=P) (by unfold nN;rw[ED b])];exact a
 refine⟨fun i p e=>h.key i p (iG e).2,fun i p e=>h.st i p (iG e).2,?_,fun i p e a=>⟨g _ (h.par i p (iG e).2 a).1,(h.par i p (iG e).2 a).2⟩,fun i p e=>h.wt i p (iG e).2,fun i p e=>h.ig i p (iG e).2⟩;obtain⟨f,d,k,j⟩:=h.one;exact⟨f,by rw[ED (fun e=>by rw[<-e,kG d] at c;omega)];exact d,k,j⟩
theorem ND{n:Int}(h:(aH P).find? (BL P pid)=some n):xR P n=pid/\nN P n=2/\(P n).isSome=true:=by
 have a:=List.find?_some h;have b:=List.mem_of_find?_eq_some h;unfold BL at a;rw[decide_eq_true_iff] at a;unfold aH at b;exact⟨a.1,a.2,(List.mem_filter.1 b).2⟩
end
end
end Go.Proofs.YtippochapiolpaaGreatDoor

/- What a map's keys are, as a list. -/
import Derived.Test.YtcfhanoekniaaaaGreatDoorSKeys
import Derived.Lib.SlKeysI
import Derived.Maps.Views
namespace Go.Proofs.YtcfhanoekniaaaaGreatDoor
open Go.RowKit Go.Maps
theorem aG.data {w:World}{g s:Nat}{M:Int→Option Value}(m:aG w g s M):∃D:DataW Value,w.ownsMap Tryz.prog 3 self g s D∧Maps.size D=s∧(Go.intKeys D).Nodup∧(Go.intKeys D).length=s∧∀x,x∈Go.intKeys D↔(M x).isSome=true:=by
 obtain ⟨D,hown,hs,hS,_⟩:=m
 refine ⟨D,hown,hs,?_⟩
 obtain ⟨es,hD,hpw,_⟩:=hown.entries gu
 obtain ⟨es',hD',hko⟩:=hown.keysOf
 obtain rfl:es=es':=by rw [hD] at hD';simpa using hD'
 have hk:∀p∈es,∃x,p.1=.int .i64 x:=fun p hp=>by
  obtain ⟨v,hv⟩:=hko p hp
  obtain ⟨x,_,hx,_⟩:=Maps.keyOf_i64 Tryz.underlying3 hv
  exact ⟨x,hx⟩
 have hnd:(es.map fun p=>Go.intOf p.1).Nodup:=by
  refine List.pairwise_map.2 (hpw.imp_of_mem fun {p q} hp hq hne e=>hne ?_)
  obtain ⟨a,ha⟩:=hk p hp
  obtain ⟨d,hd⟩:=hk q hq
  rw [ha,hd] at e ⊢
  exact congrArg _ e
 subst hD
 refine ⟨hnd,by rw [←hs];simp [Go.intKeys,Maps.size],fun x=>?_⟩
 rw [←hS x,has_eq,List.any_eq_true]
 show x∈es.map (fun p=>Go.intOf p.1)↔_
 rw [List.mem_map]
 constructor
 ·rintro ⟨p,hp,rfl⟩
  obtain ⟨a,ha⟩:=hk p hp
  exact ⟨p,hp,by rw [ha];simp [Lit.sameKey,Go.intOf]⟩
 ·rintro ⟨p,hp,hq⟩
  obtain ⟨a,ha⟩:=hk p hp
  rw [ha] at hq
  exact ⟨p,hp,by rw [ha];simpa [Lit.sameKey,Go.intOf] using hq⟩
theorem nH:∀ {a b:List Int},a.Nodup→a ⊆ b→a.length≤b.length
 | [],b,_,_=>Nat.zero_le _
 |x :: a,b,hn,hs=>by
  rw [List.nodup_cons] at hn
  have hx:x∈b:=hs List.mem_cons_self
  have h1:=nH (b:=b.erase x) hn.2 (fun y hy=>(List.mem_erase_of_ne (fun e=>hn.1 (by rw [←e];exact hy))).2 (hs (List.mem_cons_of_mem _ hy)))
  have h2:=List.length_erase_of_mem hx
  have h3:=List.length_pos_of_mem hx
  rw [List.length_cons];omega
def qa {α:Type} (F:Int→Option α) (n:Nat):Prop:=∃ks:List Int,ks.Nodup∧ks.length=n∧∀x,x∈ks↔(F x).isSome=true
section
variable {α β:Type} {F:Int→Option α}{G:Int→Option β}{n n':Nat}{k:Int}
theorem qa.one (h:qa F n) (h':qa F n'):n=n':=by
 obtain ⟨a,ha,rfl,ma⟩:=h
 obtain ⟨b,hb,rfl,mb⟩:=h'
 exact Nat.le_antisymm (nH ha (fun x hx=>(mb x).2 ((ma x).1 hx))) (nH hb (fun x hx=>(ma x).2 ((mb x).1 hx)))
theorem qa.few (h:qa F n) {B:Int}(h0:0≤B) (hB:∀x,(F x).isSome=true→0<x∧x≤B):(n:Int)≤B:=by
 obtain ⟨ks,h1,rfl,h2⟩:=h
 have h5:=nH (b:=((List.range B.toNat).map (fun i:Nat=>(i:Int)+1))) h1 (fun x hx=>by
  have:=hB x ((h2 x).1 hx)
  exact List.mem_map.2 ⟨(x-1).toNat,List.mem_range.2 (by omega),by omega⟩)
 simp at h5
 omega
theorem qa.congr (h:qa F n) (he:∀x,(G x).isSome=(F x).isSome):qa G n:=by
 obtain ⟨ks,a,b,c⟩:=h
 exact ⟨ks,a,b,fun x=>by rw [he];exact c x⟩
end
theorem aG.isN {w:World}{g s:Nat}{M:Int→Option Value}(m:aG w g s M):qa M s:=by
 obtain ⟨D,_,_,h1,h2,h3⟩:=m.data
 exact ⟨_,h1,h2,h3⟩
end Go.Proofs.YtcfhanoekniaaaaGreatDoor
namespace Go.Proofs.YtcfhanoekniaaaaGreatDoor
structure Pr where
 parent:Int
 state:Int
 code:Int
 wt:Int→Bool
 ig:Int→Bool
abbrev Ps:=Int→Option Pr
def dI:Int→Bool:=fun _=>false
def fo:Ps:=fun n=>if n=1 then some ⟨0,1,0,dI,dI⟩ else none
def gJ (P:Ps) (n:Int):Int:=((P n).map (·.state)).getD 0
def sW (P:Ps) (n:Int):Int:=((P n).map (·.parent)).getD 0
def az (P:Ps) (n:Int):Bool:=decide (gJ P n=1)
def j5 (P:Ps) (n:Int) (p:Pr):Ps:=fun i=>if i=n then some p else P i
def pY (P:Ps) (n:Int):Ps:=fun i=>if i=n then none else P i
structure mo (P:Ps) (k:Int):Prop where
 pos:1≤k
 no:P k=none
 all:∀j,1≤j→j<k→(P j).isSome=true
structure lV (P:Ps):Prop where
 key:∀n p,P n=some p→1≤n∧n≤24
 st:∀n p,P n=some p→p.state=1∨p.state=2
 one:∃p,P 1=some p∧p.state=1∧p.parent=0
 par:∀n p,P n=some p→n≠1→az P p.parent=true∧p.parent≠n
 wt:∀n p,P n=some p→∀s,p.wt s=true→1≤s∧s≤8
 ig:∀n p,P n=some p→∀s,p.ig s=true→1≤s∧s<8
section
variable {P:Ps}{n k:Int}{p:Pr}
theorem gq (h:P n=some p):gJ P n=p.state:=by unfold gJ;rw [h];rfl
theorem il (h:P n=none):gJ P n=0:=by unfold gJ;rw [h];rfl
theorem jY (h:P n=some p):sW P n=p.parent:=by unfold sW;rw [h];rfl
theorem Kr (h:P n=none):sW P n=0:=by unfold sW;rw [h];rfl
theorem bq:az P n=true↔∃p,P n=some p∧p.state=1:=by
 unfold az
 rw [decide_eq_true_iff]
 cases h:P n with
 |none=>rw [il h];simp
 |some p=>rw [gq h];simp
theorem lV.isSome (h:lV P):(P n).isSome=true↔gJ P n≠0:=by
 cases hn:P n with
 |none=>rw [il hn];simp
 |some p=>rw [gq hn];have:=h.st n p hn;simp;omega
theorem lV.first:lV fo:=by
 have hh:∀n p,fo n=some p→n=1∧p=⟨0,1,0,dI,dI⟩:=fun n p e=>by
  unfold fo at e
  split at e
  ·rename_i e1;exact ⟨e1,(Option.some.inj e).symm⟩
  ·cases e
 refine ⟨fun n p e=>?_,fun n p e=>?_,⟨_,rfl,rfl,rfl⟩,fun n p e h1=>absurd (hh n p e).1 h1,fun n p e s hs=>?_,fun n p e s hs=>?_⟩
 ·have:=(hh n p e).1;omega
 ·rw [(hh n p e).2];exact .inl rfl
 ·rw [(hh n p e).2] at hs;cases hs
 ·rw [(hh n p e).2] at hs;cases hs
theorem mo.ex {c:Nat}(hc:qa P c) (uH:c<24):∃k,mo P k∧k≤24:=by
 have step:∀m:Nat,(∀j:Int,1≤j→j≤m→(P j).isSome=true)∨∃k,mo P k∧k≤m:=by
  intro m
  induction m with
  |zero=>exact .inl (fun j h1 h2=>by omega)
  |succ m ih=>
   rcases ih with ih|⟨k,hk,hl⟩
   ·cases hm:P ((m:Int)+1) with
    |none=>exact .inr ⟨(m:Int)+1,⟨by omega,hm,fun j h1 h2=>ih j h1 (by omega)⟩,by omega⟩
    |some p=>refine .inl (fun j h1 h2=>?_)
             by_cases e:j=(m:Int)+1
             ·rw [e,hm];rfl
             ·exact ih j h1 (by omega)
   ·exact .inr ⟨k,hk,by omega⟩
 rcases step 24 with h9|⟨k,hk,hl⟩
 ·exfalso
  obtain ⟨ks,h1,rfl,h2⟩:=hc
  have h5:=nH (a:=(List.range 24).map (fun i:Nat=>(i:Int)+1)) (b:=ks) (by
   rw [List.Nodup,List.pairwise_map]
   exact List.pairwise_lt_range.imp (fun h=>by omega)) (fun x hx=>by
   obtain ⟨i,hi,rfl⟩:=List.mem_map.1 hx
   have:=List.mem_range.1 hi
   exact (h2 _).2 (h9 _ (by omega) (by omega)))
  simp at h5
  omega
 ·exact ⟨k,hk,hl⟩
end
def af (P:Ps):List Int:=((List.range 24).map (fun i:Nat=>(i:Int)+1)).filter (fun n=>(P n).isSome)
section
variable {P:Ps}{n:Int}
theorem lV.jr (h:lV P):n∈af P↔(P n).isSome=true:=by
 unfold af
 rw [List.mem_filter]
 constructor
 ·exact fun z=>z.2
 ·intro z
  obtain ⟨p,hp⟩:=Option.isSome_iff_exists.1 z
  have:=h.key n p hp
  exact ⟨List.mem_map.2 ⟨(n-1).toNat,List.mem_range.2 (by omega),by omega⟩,z⟩
theorem nU (P:Ps):(af P).Pairwise (· < ·):=by
 unfold af
 refine List.Pairwise.filter _ ?_
 rw [List.pairwise_map]
 exact List.pairwise_lt_range.imp (fun h=>by omega)
theorem uR (P:Ps):(af P).Nodup:=(nU P).imp (fun h=>by omega)
theorem lV.CV (h:lV P):qa P (af P).length:=⟨_,uR P,rfl,fun _=>h.jr⟩
theorem mX (P:Ps):(af P).length≤24:=by
 unfold af
 refine Nat.le_trans (List.length_filter_le _ _) ?_
 simp
end
def kv (P:Ps) (pid:Int) (c:Nat):Int:=if az P pid=false then 7 else if 24≤c then 12 else 0
def Jm (P:Ps) (pid:Int):Int→Bool:=((P pid).map (·.ig)).getD dI
def dw (P:Ps) (pid k:Int):Ps:=j5 P k ⟨pid,1,0,dI,Jm P pid⟩
def jL (P:Ps) (pid:Int):Int:=if az P pid=false then 7 else if pid=1 then 6 else 0
def iO (pid code n:Int) (q:Pr):Pr:=
 let r:Pr:=if n=pid then { q with state:=2,code:=code,wt:=dI } else q
 if r.parent=pid then { r with parent:=1 } else r
def bX (P:Ps) (pid code:Int):Ps:=fun n=>(P n).map (iO pid code n)
def rE (P:Ps) (pid n:Int):Bool:=decide (sW P n=pid∧gJ P n=2)
def yI (P:Ps) (pid n:Int):Bool:=decide (sW P n=pid)
def CY (P:Ps) (n:Int):Int:=((P n).map (·.code)).getD 0
def aI (P:Ps) (pid:Int):Int×Int×Int×Ps:=
 if az P pid=false then (0,0,7,P) else
 match (af P).find? (rE P pid) with
 |some n=>(n,CY P n,0,pY P n)
 |none=>(0,0,if (af P).any (yI P pid)=true then 6 else 8,P)
def fP (P:Ps) (pid sig:Int):Int:=if ¬(1≤sig∧sig≤8) then 2 else if az P pid=false then 7 else 0
def gK (f:Int→Bool) (s:Int) (b:Bool):Int→Bool:=fun i=>if i=s then b else f i
def q8 (P:Ps) (n:Int) (f:Pr→Pr):Ps:=fun i=>if i=n then (P i).map f else P i
def ku (P:Ps) (pid sig:Int):Ps:=q8 P pid (fun p=>if p.ig sig=true then p else { p with wt:=gK p.wt sig true })
def sigs:List Int:=[1,2,3,4,5,6,7,8]
def P6 (P:Ps) (n:Int):Int→Bool:=((P n).map (·.wt)).getD dI
def bu (P:Ps) (pid:Int):Int:=if az P pid=false then 0 else (sigs.find? (P6 P pid)).getD 0
def fU (P:Ps) (pid:Int):Ps:=if bu P pid=0 then P else q8 P pid (fun p=>{ p with wt:=gK p.wt (bu P pid) false })
section
variable {P:Ps}{pid code k sig n:Int}{c:Nat}{p:Pr}
theorem gF {P':Ps}(h:gJ P' n=gJ P n):az P' n=az P n:=by unfold az;rw [h]
theorem dN (P:Ps) (n:Int) (p:Pr):j5 P n p n=some p:=if_pos rfl
theorem iQ {P:Ps}{n i:Int}{p:Pr}(h:i≠n):j5 P n p i=P i:=if_neg h
theorem lV.fork (h:lV P) (hr:az P pid=true) (hk:mo P k) (uH:k≤24):lV (dw P pid k):=by
 obtain ⟨q,hq,hs⟩:=bq.1 hr
 have hpk:pid≠k:=fun e=>by rw [e,hk.no] at hq;cases hq
 have hst:∀i,i≠k→gJ (dw P pid k) i=gJ P i:=fun i hi=>by unfold gJ dw;rw [iQ hi]
 have hrun:∀i,az P i=true→az (dw P pid k) i=true:=fun i hi=>by
  obtain ⟨p,hp,_⟩:=bq.1 hi
  rw [gF (hst i (fun e=>by rw [e,hk.no] at hp;cases hp))];exact hi
 have cs:∀i p,dw P pid k i=some p→(i=k∧p=⟨pid,1,0,dI,Jm P pid⟩)∨(i≠k∧P i=some p):=fun i p e=>by
  by_cases hi:i=k
  ·subst hi;unfold dw at e;rw [dN] at e;exact .inl ⟨rfl,(Option.some.inj e).symm⟩
  ·unfold dw at e;rw [iQ hi] at e;exact .inr ⟨hi,e⟩
 refine ⟨fun i p e=>?_,fun i p e=>?_,?_,fun i p e h1=>?_,fun i p e s hs=>?_,fun i p e s hs=>?_⟩
 ·rcases cs i p e with ⟨rfl,_⟩|⟨_,e⟩
  ·exact ⟨hk.pos,uH⟩
  ·exact h.key i p e
 ·rcases cs i p e with ⟨_,rfl⟩|⟨_,e⟩
  ·exact .inl rfl
  ·exact h.st i p e
 ·obtain ⟨p1,e1,e2,e3⟩:=h.one
  exact ⟨p1,by unfold dw;rw [iQ (fun e=>by rw [e,hk.no] at e1;cases e1)];exact e1,e2,e3⟩
 ·rcases cs i p e with ⟨rfl,rfl⟩|⟨_,e⟩
  ·exact ⟨hrun _ hr,hpk⟩
  ·exact ⟨hrun _ (h.par i p e h1).1,(h.par i p e h1).2⟩
 ·rcases cs i p e with ⟨_,rfl⟩|⟨_,e⟩
  ·cases hs
  ·exact h.wt i p e s hs
 ·rcases cs i p e with ⟨_,rfl⟩|⟨_,e⟩
  ·have:Jm P pid=q.ig:=by unfold Jm;rw [hq];rfl
   rw [this] at hs
   exact h.ig pid q hq s hs
  ·exact h.ig i p e s hs
theorem si (q:Pr):(iO pid code n q).state=if n=pid then 2 else q.state:=by
 unfold iO;simp only;split<;>split<;>rfl
theorem Ab (q:Pr):(iO pid code n q).parent=if q.parent=pid then 1 else q.parent:=by
 unfold iO;simp only;split<;>(split<;>simp_all)
theorem mZ (q:Pr):(iO pid code n q).wt=(if n=pid then dI else q.wt)∧(iO pid code n q).ig=q.ig:=by
 unfold iO;simp only;split<;>split<;>exact ⟨rfl,rfl⟩
theorem rZ (P:Ps):gJ (bX P pid code) n=if n=pid∧(P n).isSome=true then 2 else gJ P n:=by
 unfold gJ bX
 cases h:P n with
 |none=>simp
 |some q=>simp [si]
theorem lV.exit (h:lV P) (hr:az P pid=true) (h1:pid≠1):lV (bX P pid code):=by
 obtain ⟨qp,WK,_⟩:=bq.1 hr
 have hp1:=h.key pid qp WK
 have cs:∀i p,bX P pid code i=some p→∃q,P i=some q∧p=iO pid code i q:=fun i p e=>by
  unfold bX at e
  cases hq:P i with
  |none=>rw [hq] at e;cases e
  |some q=>rw [hq] at e;exact ⟨q,rfl,(Option.some.inj e).symm⟩
 have hrun:∀i,i≠pid→az P i=true→az (bX P pid code) i=true:=fun i hi hr=>by
  rw [gF (P:=P) (by rw [rZ,if_neg (fun z=>hi z.1)])];exact hr
 refine ⟨fun i p e=>?_,fun i p e=>?_,?_,fun i p e hi=>?_,fun i p e s hs=>?_,fun i p e s hs=>?_⟩
 ·obtain ⟨q,hq,_⟩:=cs i p e;exact h.key i q hq
 ·obtain ⟨q,hq,rfl⟩:=cs i p e
  rw [si]
  split
  ·exact .inr rfl
  ·exact h.st i q hq
 ·obtain ⟨p1,e1,e2,e3⟩:=h.one
  refine ⟨iO pid code 1 p1,by unfold bX;rw [e1];rfl,?_,?_⟩
  ·rw [si,if_neg (fun e=>h1 e.symm)];exact e2
  ·rw [Ab,e3]
   split
   ·omega
   ·rfl
 ·obtain ⟨q,hq,rfl⟩:=cs i p e
  rw [Ab]
  have:=h.par i q hq hi
  split
  ·obtain ⟨p1,e1,e2,_⟩:=h.one
   exact ⟨hrun 1 (fun e=>h1 e.symm) (bq.2 ⟨p1,e1,e2⟩),fun e=>hi e.symm⟩
  ·rename_i hne
   exact ⟨hrun _ hne this.1,this.2⟩
 ·obtain ⟨q,hq,rfl⟩:=cs i p e
  rw [(mZ q).1] at hs
  split at hs
  ·cases hs
  ·exact h.wt i q hq s hs
 ·obtain ⟨q,hq,rfl⟩:=cs i p e
  rw [(mZ q).2] at hs
  exact h.ig i q hq s hs
theorem oO {f:Pr→Pr}{i:Int}(h:q8 P n f i=some p):∃q,P i=some q∧((i=n∧p=f q)∨(i≠n∧p=q)):=by
 unfold q8 at h
 split at h
 ·rename_i e
  cases hq:P i with
  |none=>rw [hq] at h;cases h
  |some q=>rw [hq] at h;exact ⟨q,rfl,.inl ⟨e,(Option.some.inj h).symm⟩⟩
 ·rename_i e;exact ⟨p,h,.inr ⟨e,rfl⟩⟩
theorem Gi (f:Pr→Pr) (i:Int):(q8 P n f i).isSome=(P i).isSome:=by
 unfold q8;split<;>simp
theorem Fz {f:Pr→Pr}(hf:∀q,(f q).state=q.state) (i:Int):gJ (q8 P n f) i=gJ P i:=by
 unfold gJ q8
 split
 ·cases P i with
  |none=>rfl
  |some q=>simp [hf]
 ·rfl
theorem lV.on (h:lV P) {f:Pr→Pr}(h1:∀q,(f q).state=q.state) (h2:∀q,(f q).parent=q.parent) (h3:∀q s,P n=some q→(f q).wt s=true→1≤s∧s≤8) (h4:∀q s,P n=some q→(f q).ig s=true→1≤s∧s<8):lV (q8 P n f):=by
 refine ⟨fun i p e=>?_,fun i p e=>?_,?_,fun i p e hi=>?_,fun i p e s hs=>?_,fun i p e s hs=>?_⟩
 ·obtain ⟨q,hq,_⟩:=oO e;exact h.key i q hq
 ·obtain ⟨q,hq,⟨_,rfl⟩|⟨_,rfl⟩⟩:=oO e
  ·rw [h1];exact h.st i q hq
  ·exact h.st i p hq
 ·obtain ⟨p1,e1,e2,e3⟩:=h.one
  by_cases e:(1:Int)=n
  ·exact ⟨f p1,by unfold q8;rw [if_pos e,e1];rfl,by rw [h1];exact e2,by rw [h2];exact e3⟩
  ·exact ⟨p1,by unfold q8;rw [if_neg e];exact e1,e2,e3⟩
 ·obtain ⟨q,hq,⟨_,rfl⟩|⟨_,rfl⟩⟩:=oO e
  ·rw [h2,gF (Fz h1 _)];exact h.par i q hq hi
  ·rw [gF (Fz h1 _)];exact h.par i p hq hi
 ·obtain ⟨q,hq,⟨rfl,rfl⟩|⟨_,rfl⟩⟩:=oO e
  ·exact h3 q s hq hs
  ·exact h.wt i p hq s hs
 ·obtain ⟨q,hq,⟨rfl,rfl⟩|⟨_,rfl⟩⟩:=oO e
  ·exact h4 q s hq hs
  ·exact h.ig i p hq s hs
theorem pJ {f:Int→Bool}{s i:Int}{b:Bool}(h:gK f s b i=true):(i=s∧b=true)∨f i=true:=by
 unfold gK at h
 split at h
 ·rename_i e;exact .inl ⟨e,h⟩
 ·exact .inr h
theorem lV.kill (h:lV P) (hs:1≤sig∧sig≤8):lV (ku P pid sig):=by
 refine h.on (fun q=>by split<;>rfl) (fun q=>by split<;>rfl) (fun q s hq e=>?_) (fun q s hq e=>?_)
 ·split at e
  ·exact h.wt pid q hq s e
  ·rcases pJ e with ⟨rfl,_⟩|e
   ·exact hs
   ·exact h.wt pid q hq s e
 ·split at e
  ·exact h.ig pid q hq s e
  ·exact h.ig pid q hq s e
theorem lV.take (h:lV P) (pid:Int):lV (fU P pid):=by
 unfold fU
 split
 ·exact h
 ·refine h.on (fun q=>rfl) (fun q=>rfl) (fun q s hq e=>?_) (fun q s hq e=>h.ig pid q hq s e)
  rcases pJ e with ⟨_,e⟩|e
  ·cases e
  ·exact h.wt pid q hq s e
theorem vS {i:Int}(h:i≠n):pY P n i=P i:=if_neg h
theorem gM {i:Int}(h:pY P n i=some p):i≠n∧P i=some p:=by
 unfold pY at h
 split at h
 ·cases h
 ·rename_i e;exact ⟨e,h⟩
theorem lV.del (h:lV P) (hd:gJ P n=2):lV (pY P n):=by
 have hr:∀i,az P i=true→az (pY P n) i=true:=fun i hi=>by
  have hne:i≠n:=fun e=>by unfold az at hi;rw [e,hd] at hi;simp at hi
  rw [gF (P:=P) (by unfold gJ;rw [vS hne])];exact hi
 refine ⟨fun i p e=>h.key i p (gM e).2,fun i p e=>h.st i p (gM e).2,?_,fun i p e hi=>⟨hr _ (h.par i p (gM e).2 hi).1,(h.par i p (gM e).2 hi).2⟩,fun i p e=>h.wt i p (gM e).2,fun i p e=>h.ig i p (gM e).2⟩
 obtain ⟨p1,e1,e2,e3⟩:=h.one
 exact ⟨p1,by rw [vS (fun e=>by rw [←e,gq e1] at hd;omega)];exact e1,e2,e3⟩
theorem JG {n:Int}(h:(af P).find? (rE P pid)=some n):sW P n=pid∧gJ P n=2∧(P n).isSome=true:=by
 have h1:=List.find?_some h
 have h2:=List.mem_of_find?_eq_some h
 unfold rE at h1
 rw [decide_eq_true_iff] at h1
 unfold af at h2
 exact ⟨h1.1,h1.2,(List.mem_filter.1 h2).2⟩
end
end Go.Proofs.YtcfhanoekniaaaaGreatDoor

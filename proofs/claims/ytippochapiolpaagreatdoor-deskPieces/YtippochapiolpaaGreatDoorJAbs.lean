/- What a map's keys are, as a list. -/
import Derived.Test.YtippochapiolpaaGreatDoorSKeys
import Derived.Lib.SlKeysI
import Derived.Maps.Views
namespace Go.Proofs.YtippochapiolpaaGreatDoor
open Go.RowKit Go.Maps
theorem aK.data {w:World}{g s:Nat}{M:Int→Option Value}(m:aK w g s M):∃D:DataW Value,w.ownsMap Tryz.prog 3 self g s D∧Maps.size D=s∧(Go.intKeys D).Nodup∧(Go.intKeys D).length=s∧∀x,x∈Go.intKeys D↔(M x).isSome=true:=by
 obtain ⟨D,hown,hs,hS,_⟩:=m
 refine ⟨D,hown,hs,?_⟩
 obtain ⟨es,hD,hpw,_⟩:=hown.entries gZ
 obtain ⟨es',hD',hko⟩:=hown.keysOf
 obtain rfl:es=es':=by rw [hD] at hD';simpa using hD'
 have hk:∀p∈es,∃x,p.1=.int .i64 x:=fun p hp=>by
  obtain ⟨v,hv⟩:=hko p hp
  obtain ⟨x,_,hx,_⟩:=Maps.keyOf_i64 Tryz.underlying3 hv
  exact ⟨x,hx⟩
 have hnd:(es.map fun p=>Go.intOf p.1).Nodup:=by
  refine List.pairwise_map.2 (hpw.imp_of_mem fun {p q} hp hq hne e=>hne ?_)
  obtain ⟨a,ha⟩:=hk p hp
  obtain ⟨d,hd⟩:=hk q hq
  rw [ha,hd] at e ⊢
  exact congrArg _ e
 subst hD
 refine ⟨hnd,by rw [←hs];simp [Go.intKeys,Maps.size],fun x=>?_⟩
 rw [←hS x,has_eq,List.any_eq_true]
 show x∈es.map (fun p=>Go.intOf p.1)↔_
 rw [List.mem_map]
 constructor
 ·rintro ⟨p,hp,rfl⟩
  obtain ⟨a,ha⟩:=hk p hp
  exact ⟨p,hp,by rw [ha];simp [Lit.sameKey,Go.intOf]⟩
 ·rintro ⟨p,hp,hq⟩
  obtain ⟨a,ha⟩:=hk p hp
  rw [ha] at hq
  exact ⟨p,hp,by rw [ha];simpa [Lit.sameKey,Go.intOf] using hq⟩
theorem lD:∀ {a b:List Int},a.Nodup→a ⊆ b→a.length≤b.length
 | [],b,_,_=>Nat.zero_le _
 |x :: a,b,hn,hs=>by
  rw [List.nodup_cons] at hn
  have hx:x∈b:=hs List.mem_cons_self
  have h1:=lD (b:=b.erase x) hn.2 (fun y hy=>(List.mem_erase_of_ne (fun e=>hn.1 (by rw [←e];exact hy))).2 (hs (List.mem_cons_of_mem _ hy)))
  have h2:=List.length_erase_of_mem hx
  have h3:=List.length_pos_of_mem hx
  rw [List.length_cons];omega
def p9 {α:Type} (F:Int→Option α) (n:Nat):Prop:=∃ks:List Int,ks.Nodup∧ks.length=n∧∀x,x∈ks↔(F x).isSome=true
section
variable {α β:Type} {F:Int→Option α}{G:Int→Option β}{n n':Nat}{k:Int}
theorem p9.one (h:p9 F n) (h':p9 F n'):n=n':=by
 obtain ⟨a,ha,rfl,ma⟩:=h
 obtain ⟨b,hb,rfl,mb⟩:=h'
 exact Nat.le_antisymm (lD ha (fun x hx=>(mb x).2 ((ma x).1 hx))) (lD hb (fun x hx=>(ma x).2 ((mb x).1 hx)))
theorem p9.few (h:p9 F n) {B:Int}(h0:0≤B) (hB:∀x,(F x).isSome=true→0<x∧x≤B):(n:Int)≤B:=by
 obtain ⟨ks,h1,rfl,h2⟩:=h
 have h5:=lD (b:=((List.range B.toNat).map (fun i:Nat=>(i:Int)+1))) h1 (fun x hx=>by
  have:=hB x ((h2 x).1 hx)
  exact List.mem_map.2 ⟨(x-1).toNat,List.mem_range.2 (by omega),by omega⟩)
 simp at h5
 omega
theorem p9.congr (h:p9 F n) (he:∀x,(G x).isSome=(F x).isSome):p9 G n:=by
 obtain ⟨ks,a,b,c⟩:=h
 exact ⟨ks,a,b,fun x=>by rw [he];exact c x⟩
end
theorem aK.isN {w:World}{g s:Nat}{M:Int→Option Value}(m:aK w g s M):p9 M s:=by
 obtain ⟨D,_,_,h1,h2,h3⟩:=m.data
 exact ⟨_,h1,h2,h3⟩
end Go.Proofs.YtippochapiolpaaGreatDoor
namespace Go.Proofs.YtippochapiolpaaGreatDoor
structure Pr where
 parent:Int
 state:Int
 code:Int
 wt:Int→Bool
 ig:Int→Bool
abbrev Ps:=Int→Option Pr
def fI:Int→Bool:=fun _=>false
def gW:Ps:=fun n=>if n=1 then some ⟨0,1,0,fI,fI⟩ else none
def nN (P:Ps) (n:Int):Int:=((P n).map (·.state)).getD 0
def xR (P:Ps) (n:Int):Int:=((P n).map (·.parent)).getD 0
def aD (P:Ps) (n:Int):Bool:=decide (nN P n=1)
def nZ (P:Ps) (n:Int) (p:Pr):Ps:=fun i=>if i=n then some p else P i
def uu (P:Ps) (n:Int):Ps:=fun i=>if i=n then none else P i
structure uD (P:Ps) (k:Int):Prop where
 pos:1≤k
 no:P k=none
 all:∀j,1≤j→j<k→(P j).isSome=true
structure pX (P:Ps):Prop where
 key:∀n p,P n=some p→1≤n∧n≤24
 st:∀n p,P n=some p→p.state=1∨p.state=2
 one:∃p,P 1=some p∧p.state=1∧p.parent=0
 par:∀n p,P n=some p→n≠1→aD P p.parent=true∧p.parent≠n
 wt:∀n p,P n=some p→∀s,p.wt s=true→1≤s∧s≤8
 ig:∀n p,P n=some p→∀s,p.ig s=true→1≤s∧s<8
section
variable {P:Ps}{n k:Int}{p:Pr}
theorem kG (h:P n=some p):nN P n=p.state:=by unfold nN;rw [h];rfl
theorem lY (h:P n=none):nN P n=0:=by unfold nN;rw [h];rfl
theorem oP (h:P n=some p):xR P n=p.parent:=by unfold xR;rw [h];rfl
theorem OT (h:P n=none):xR P n=0:=by unfold xR;rw [h];rfl
theorem dA:aD P n=true↔∃p,P n=some p∧p.state=1:=by
 unfold aD
 rw [decide_eq_true_iff]
 cases h:P n with
 |none=>rw [lY h];simp
 |some p=>rw [kG h];simp
theorem pX.isSome (h:pX P):(P n).isSome=true↔nN P n≠0:=by
 cases hn:P n with
 |none=>rw [lY hn];simp
 |some p=>rw [kG hn];have:=h.st n p hn;simp;omega
theorem pX.first:pX gW:=by
 have hh:∀n p,gW n=some p→n=1∧p=⟨0,1,0,fI,fI⟩:=fun n p e=>by
  unfold gW at e
  split at e
  ·rename_i e1;exact ⟨e1,(Option.some.inj e).symm⟩
  ·cases e
 refine ⟨fun n p e=>?_,fun n p e=>?_,⟨_,rfl,rfl,rfl⟩,fun n p e h1=>absurd (hh n p e).1 h1,fun n p e s hs=>?_,fun n p e s hs=>?_⟩
 ·have:=(hh n p e).1;omega
 ·rw [(hh n p e).2];exact .inl rfl
 ·rw [(hh n p e).2] at hs;cases hs
 ·rw [(hh n p e).2] at hs;cases hs
theorem uD.ex {c:Nat}(hc:p9 P c) (Vy:c<24):∃k,uD P k∧k≤24:=by
 have step:∀m:Nat,(∀j:Int,1≤j→j≤m→(P j).isSome=true)∨∃k,uD P k∧k≤m:=by
  intro m
  induction m with
  |zero=>exact .inl (fun j h1 h2=>by omega)
  |succ m ih=>
   rcases ih with ih|⟨k,hk,hl⟩
   ·cases hm:P ((m:Int)+1) with
    |none=>exact .inr ⟨(m:Int)+1,⟨by omega,hm,fun j h1 h2=>ih j h1 (by omega)⟩,by omega⟩
    |some p=>refine .inl (fun j h1 h2=>?_)
             by_cases e:j=(m:Int)+1
             ·rw [e,hm];rfl
             ·exact ih j h1 (by omega)
   ·exact .inr ⟨k,hk,by omega⟩
 rcases step 24 with h9|⟨k,hk,hl⟩
 ·exfalso
  obtain ⟨ks,h1,rfl,h2⟩:=hc
  have h5:=lD (a:=(List.range 24).map (fun i:Nat=>(i:Int)+1)) (b:=ks) (by
   rw [List.Nodup,List.pairwise_map]
   exact List.pairwise_lt_range.imp (fun h=>by omega)) (fun x hx=>by
   obtain ⟨i,hi,rfl⟩:=List.mem_map.1 hx
   have:=List.mem_range.1 hi
   exact (h2 _).2 (h9 _ (by omega) (by omega)))
  simp at h5
  omega
 ·exact ⟨k,hk,hl⟩
end
def aH (P:Ps):List Int:=((List.range 24).map (fun i:Nat=>(i:Int)+1)).filter (fun n=>(P n).isSome)
section
variable {P:Ps}{n:Int}
theorem pX.si (h:pX P):n∈aH P↔(P n).isSome=true:=by
 unfold aH
 rw [List.mem_filter]
 constructor
 ·exact fun z=>z.2
 ·intro z
  obtain ⟨p,hp⟩:=Option.isSome_iff_exists.1 z
  have:=h.key n p hp
  exact ⟨List.mem_map.2 ⟨(n-1).toNat,List.mem_range.2 (by omega),by omega⟩,z⟩
theorem vD (P:Ps):(aH P).Pairwise (· < ·):=by
 unfold aH
 refine List.Pairwise.filter _ ?_
 rw [List.pairwise_map]
 exact List.pairwise_lt_range.imp (fun h=>by omega)
theorem xD (P:Ps):(aH P).Nodup:=(vD P).imp (fun h=>by omega)
theorem pX.Y3 (h:pX P):p9 P (aH P).length:=⟨_,xD P,rfl,fun _=>h.si⟩
theorem lH (P:Ps):(aH P).length≤24:=by
 unfold aH
 refine Nat.le_trans (List.length_filter_le _ _) ?_
 simp
end
def lQ (P:Ps) (pid:Int) (c:Nat):Int:=if aD P pid=false then 7 else if 24≤c then 12 else 0
def YJ (P:Ps) (pid:Int):Int→Bool:=((P pid).map (·.ig)).getD fI
def fU (P:Ps) (pid k:Int):Ps:=nZ P k ⟨pid,1,0,fI,YJ P pid⟩
def kV (P:Ps) (pid:Int):Int:=if aD P pid=false then 7 else if pid=1 then 6 else 0
def lT (pid code n:Int) (q:Pr):Pr:=
 let r:Pr:=if n=pid then { q with state:=2,code:=code,wt:=fI } else q
 if r.parent=pid then { r with parent:=1 } else r
def dI (P:Ps) (pid code:Int):Ps:=fun n=>(P n).map (lT pid code n)
def BL (P:Ps) (pid n:Int):Bool:=decide (xR P n=pid∧nN P n=2)
def Bi (P:Ps) (pid n:Int):Bool:=decide (xR P n=pid)
def BM (P:Ps) (n:Int):Int:=((P n).map (·.code)).getD 0
def bC (P:Ps) (pid:Int):Int×Int×Int×Ps:=
 if aD P pid=false then (0,0,7,P) else
 match (aH P).find? (BL P pid) with
 |some n=>(n,BM P n,0,uu P n)
 |none=>(0,0,if (aH P).any (Bi P pid)=true then 6 else 8,P)
def eX (P:Ps) (pid sig:Int):Int:=if ¬(1≤sig∧sig≤8) then 2 else if aD P pid=false then 7 else 0
def bY (f:Int→Bool) (s:Int) (b:Bool):Int→Bool:=fun i=>if i=s then b else f i
def vP (P:Ps) (n:Int) (f:Pr→Pr):Ps:=fun i=>if i=n then (P i).map f else P i
def kC (P:Ps) (pid sig:Int):Ps:=vP P pid (fun p=>if p.ig sig=true then p else { p with wt:=bY p.wt sig true })
def bN (P:Ps) (pid sig:Int):Int:=if ¬(1≤sig∧sig≤8) then 2 else if aD P pid=false then 7 else if sig=8 then 6 else 0
def fH (P:Ps) (pid sig:Int) (on:Bool):Ps:=vP P pid (fun p=>{ p with ig:=bY p.ig sig on,wt:=if on=true then bY p.wt sig false else p.wt })
def sigs:List Int:=[1,2,3,4,5,6,7,8]
def Vo (P:Ps) (n:Int):Int→Bool:=((P n).map (·.wt)).getD fI
def aO (P:Ps) (pid:Int):Int:=if aD P pid=false then 0 else (sigs.find? (Vo P pid)).getD 0
def dS (P:Ps) (pid:Int):Ps:=if aO P pid=0 then P else vP P pid (fun p=>{ p with wt:=bY p.wt (aO P pid) false })
section
variable {P:Ps}{pid code k sig n:Int}{c:Nat}{p:Pr}
theorem iq {P':Ps}(h:nN P' n=nN P n):aD P' n=aD P n:=by unfold aD;rw [h]
theorem oN (P:Ps) (n:Int) (p:Pr):nZ P n p n=some p:=if_pos rfl
theorem qZ {P:Ps}{n i:Int}{p:Pr}(h:i≠n):nZ P n p i=P i:=if_neg h
theorem pX.fork (h:pX P) (hr:aD P pid=true) (hk:uD P k) (Vy:k≤24):pX (fU P pid k):=by
 obtain ⟨q,hq,hs⟩:=dA.1 hr
 have hpk:pid≠k:=fun e=>by rw [e,hk.no] at hq;cases hq
 have hst:∀i,i≠k→nN (fU P pid k) i=nN P i:=fun i hi=>by unfold nN fU;rw [qZ hi]
 have hrun:∀i,aD P i=true→aD (fU P pid k) i=true:=fun i hi=>by
  obtain ⟨p,hp,_⟩:=dA.1 hi
  rw [iq (hst i (fun e=>by rw [e,hk.no] at hp;cases hp))];exact hi
 have cs:∀i p,fU P pid k i=some p→(i=k∧p=⟨pid,1,0,fI,YJ P pid⟩)∨(i≠k∧P i=some p):=fun i p e=>by
  by_cases hi:i=k
  ·subst hi;unfold fU at e;rw [oN] at e;exact .inl ⟨rfl,(Option.some.inj e).symm⟩
  ·unfold fU at e;rw [qZ hi] at e;exact .inr ⟨hi,e⟩
 refine ⟨fun i p e=>?_,fun i p e=>?_,?_,fun i p e h1=>?_,fun i p e s hs=>?_,fun i p e s hs=>?_⟩
 ·rcases cs i p e with ⟨rfl,_⟩|⟨_,e⟩
  ·exact ⟨hk.pos,Vy⟩
  ·exact h.key i p e
 ·rcases cs i p e with ⟨_,rfl⟩|⟨_,e⟩
  ·exact .inl rfl
  ·exact h.st i p e
 ·obtain ⟨p1,e1,e2,e3⟩:=h.one
  exact ⟨p1,by unfold fU;rw [qZ (fun e=>by rw [e,hk.no] at e1;cases e1)];exact e1,e2,e3⟩
 ·rcases cs i p e with ⟨rfl,rfl⟩|⟨_,e⟩
  ·exact ⟨hrun _ hr,hpk⟩
  ·exact ⟨hrun _ (h.par i p e h1).1,(h.par i p e h1).2⟩
 ·rcases cs i p e with ⟨_,rfl⟩|⟨_,e⟩
  ·cases hs
  ·exact h.wt i p e s hs
 ·rcases cs i p e with ⟨_,rfl⟩|⟨_,e⟩
  ·have:YJ P pid=q.ig:=by unfold YJ;rw [hq];rfl
   rw [this] at hs
   exact h.ig pid q hq s hs
  ·exact h.ig i p e s hs
theorem ve (q:Pr):(lT pid code n q).state=if n=pid then 2 else q.state:=by
 unfold lT;simp only;split<;>split<;>rfl
theorem CY (q:Pr):(lT pid code n q).parent=if q.parent=pid then 1 else q.parent:=by
 unfold lT;simp only;split<;>(split<;>simp_all)
theorem oU (q:Pr):(lT pid code n q).wt=(if n=pid then fI else q.wt)∧(lT pid code n q).ig=q.ig:=by
 unfold lT;simp only;split<;>split<;>exact ⟨rfl,rfl⟩
theorem GY (P:Ps):nN (dI P pid code) n=if n=pid∧(P n).isSome=true then 2 else nN P n:=by
 unfold nN dI
 cases h:P n with
 |none=>simp
 |some q=>simp [ve]
theorem pX.exit (h:pX P) (hr:aD P pid=true) (h1:pid≠1):pX (dI P pid code):=by
 obtain ⟨qp,hqp,_⟩:=dA.1 hr
 have hp1:=h.key pid qp hqp
 have cs:∀i p,dI P pid code i=some p→∃q,P i=some q∧p=lT pid code i q:=fun i p e=>by
  unfold dI at e
  cases hq:P i with
  |none=>rw [hq] at e;cases e
  |some q=>rw [hq] at e;exact ⟨q,rfl,(Option.some.inj e).symm⟩
 have hrun:∀i,i≠pid→aD P i=true→aD (dI P pid code) i=true:=fun i hi hr=>by
  rw [iq (P:=P) (by rw [GY,if_neg (fun z=>hi z.1)])];exact hr
 refine ⟨fun i p e=>?_,fun i p e=>?_,?_,fun i p e hi=>?_,fun i p e s hs=>?_,fun i p e s hs=>?_⟩
 ·obtain ⟨q,hq,_⟩:=cs i p e;exact h.key i q hq
 ·obtain ⟨q,hq,rfl⟩:=cs i p e
  rw [ve]
  split
  ·exact .inr rfl
  ·exact h.st i q hq
 ·obtain ⟨p1,e1,e2,e3⟩:=h.one
  refine ⟨lT pid code 1 p1,by unfold dI;rw [e1];rfl,?_,?_⟩
  ·rw [ve,if_neg (fun e=>h1 e.symm)];exact e2
  ·rw [CY,e3]
   split
   ·omega
   ·rfl
 ·obtain ⟨q,hq,rfl⟩:=cs i p e
  rw [CY]
  have:=h.par i q hq hi
  split
  ·obtain ⟨p1,e1,e2,_⟩:=h.one
   exact ⟨hrun 1 (fun e=>h1 e.symm) (dA.2 ⟨p1,e1,e2⟩),fun e=>hi e.symm⟩
  ·rename_i hne
   exact ⟨hrun _ hne this.1,this.2⟩
 ·obtain ⟨q,hq,rfl⟩:=cs i p e
  rw [(oU q).1] at hs
  split at hs
  ·cases hs
  ·exact h.wt i q hq s hs
 ·obtain ⟨q,hq,rfl⟩:=cs i p e
  rw [(oU q).2] at hs
  exact h.ig i q hq s hs
theorem qH {f:Pr→Pr}{i:Int}(h:vP P n f i=some p):∃q,P i=some q∧((i=n∧p=f q)∨(i≠n∧p=q)):=by
 unfold vP at h
 split at h
 ·rename_i e
  cases hq:P i with
  |none=>rw [hq] at h;cases h
  |some q=>rw [hq] at h;exact ⟨q,rfl,.inl ⟨e,(Option.some.inj h).symm⟩⟩
 ·rename_i e;exact ⟨p,h,.inr ⟨e,rfl⟩⟩
theorem Js {f:Pr→Pr}(hf:∀q,(f q).state=q.state) (i:Int):nN (vP P n f) i=nN P i:=by
 unfold nN vP
 split
 ·cases P i with
  |none=>rfl
  |some q=>simp [hf]
 ·rfl
theorem pX.on (h:pX P) {f:Pr→Pr}(h1:∀q,(f q).state=q.state) (h2:∀q,(f q).parent=q.parent) (h3:∀q s,P n=some q→(f q).wt s=true→1≤s∧s≤8) (h4:∀q s,P n=some q→(f q).ig s=true→1≤s∧s<8):pX (vP P n f):=by
 refine ⟨fun i p e=>?_,fun i p e=>?_,?_,fun i p e hi=>?_,fun i p e s hs=>?_,fun i p e s hs=>?_⟩
 ·obtain ⟨q,hq,_⟩:=qH e;exact h.key i q hq
 ·obtain ⟨q,hq,⟨_,rfl⟩|⟨_,rfl⟩⟩:=qH e
  ·rw [h1];exact h.st i q hq
  ·exact h.st i p hq
 ·obtain ⟨p1,e1,e2,e3⟩:=h.one
  by_cases e:(1:Int)=n
  ·exact ⟨f p1,by unfold vP;rw [if_pos e,e1];rfl,by rw [h1];exact e2,by rw [h2];exact e3⟩
  ·exact ⟨p1,by unfold vP;rw [if_neg e];exact e1,e2,e3⟩
 ·obtain ⟨q,hq,⟨_,rfl⟩|⟨_,rfl⟩⟩:=qH e
  ·rw [h2,iq (Js h1 _)];exact h.par i q hq hi
  ·rw [iq (Js h1 _)];exact h.par i p hq hi
 ·obtain ⟨q,hq,⟨rfl,rfl⟩|⟨_,rfl⟩⟩:=qH e
  ·exact h3 q s hq hs
  ·exact h.wt i p hq s hs
 ·obtain ⟨q,hq,⟨rfl,rfl⟩|⟨_,rfl⟩⟩:=qH e
  ·exact h4 q s hq hs
  ·exact h.ig i p hq s hs
theorem jP {f:Int→Bool}{s i:Int}{b:Bool}(h:bY f s b i=true):(i=s∧b=true)∨f i=true:=by
 unfold bY at h
 split at h
 ·rename_i e;exact .inl ⟨e,h⟩
 ·exact .inr h
theorem pX.kill (h:pX P) (hs:1≤sig∧sig≤8):pX (kC P pid sig):=by
 refine h.on (fun q=>by split<;>rfl) (fun q=>by split<;>rfl) (fun q s hq e=>?_) (fun q s hq e=>?_)
 ·split at e
  ·exact h.wt pid q hq s e
  ·rcases jP e with ⟨rfl,_⟩|e
   ·exact hs
   ·exact h.wt pid q hq s e
 ·split at e
  ·exact h.ig pid q hq s e
  ·exact h.ig pid q hq s e
theorem pX.ignore (h:pX P) (hs:1≤sig∧sig<8) (on:Bool):pX (fH P pid sig on):=by
 refine h.on (fun q=>rfl) (fun q=>rfl) (fun q s hq e=>?_) (fun q s hq e=>?_)
 ·simp only at e
  split at e
  ·rcases jP e with ⟨_,e⟩|e
   ·cases e
   ·exact h.wt pid q hq s e
  ·exact h.wt pid q hq s e
 ·rcases jP e with ⟨rfl,_⟩|e
  ·exact hs
  ·exact h.ig pid q hq s e
theorem pX.take (h:pX P) (pid:Int):pX (dS P pid):=by
 unfold dS
 split
 ·exact h
 ·refine h.on (fun q=>rfl) (fun q=>rfl) (fun q s hq e=>?_) (fun q s hq e=>h.ig pid q hq s e)
  rcases jP e with ⟨_,e⟩|e
  ·cases e
  ·exact h.wt pid q hq s e
theorem ED {i:Int}(h:i≠n):uu P n i=P i:=if_neg h
theorem iH {i:Int}(h:uu P n i=some p):i≠n∧P i=some p:=by
 unfold uu at h
 split at h
 ·cases h
 ·rename_i e;exact ⟨e,h⟩
theorem pX.del (h:pX P) (hd:nN P n=2):pX (uu P n):=by
 have hr:∀i,aD P i=true→aD (uu P n) i=true:=fun i hi=>by
  have hne:i≠n:=fun e=>by unfold aD at hi;rw [e,hd] at hi;simp at hi
  rw [iq (P:=P) (by unfold nN;rw [ED hne])];exact hi
 refine ⟨fun i p e=>h.key i p (iH e).2,fun i p e=>h.st i p (iH e).2,?_,fun i p e hi=>⟨hr _ (h.par i p (iH e).2 hi).1,(h.par i p (iH e).2 hi).2⟩,fun i p e=>h.wt i p (iH e).2,fun i p e=>h.ig i p (iH e).2⟩
 obtain ⟨p1,e1,e2,e3⟩:=h.one
 exact ⟨p1,by rw [ED (fun e=>by rw [←e,kG e1] at hd;omega)];exact e1,e2,e3⟩
theorem NF {n:Int}(h:(aH P).find? (BL P pid)=some n):xR P n=pid∧nN P n=2∧(P n).isSome=true:=by
 have h1:=List.find?_some h
 have h2:=List.mem_of_find?_eq_some h
 unfold BL at h1
 rw [decide_eq_true_iff] at h1
 unfold aH at h2
 exact ⟨h1.1,h1.2,(List.mem_filter.1 h2).2⟩
end
end Go.Proofs.YtippochapiolpaaGreatDoor

/- Two kernels that differ in which frame a page has alone: each call leaves them so, and tells the same. -/
import Derived.Test.YtippochapiolpaaGreatDoorZList
import Derived.Test.YtippochapiolpaaGreatDoorHNew
import Derived.Test.YtippochapiolpaaGreatDoorWood
import Derived.Test.YtippochapiolpaaGreatDoorHSess2
import Derived.Test.YtippochapiolpaaGreatDoorHParse
import Derived.Test.YtippochapiolpaaGreatDoorVPg
import Derived.Test.YtippochapiolpaaGreatDoorTell
import Derived.Shelf.Vars
import Derived.HandedShaped
import Derived.Test.YtippochapiolpaaGreatDoorCards
import Derived.Test.YtippochapiolpaaGreatDoorTie
import Derived.ChangeAt
import Derived.ChangeShapes
import Derived.WideShapes
import Derived.OpenShut
import Derived.ChangeOld
import Derived.Deep.Slices
import Derived.ChangeSame
import Derived.ChangeVars
import Derived.JoinedOf
import Derived.RowKit
import Derived.RowKitTokens
import Derived.LaidLaws
import Derived.LaidHandle
import Derived.Stop.Joined
import Derived.SevenTiedAt
import Derived.ChangeMaps5
set_option maxHeartbeats 4000000
set_option maxRecDepth 100000
namespace Go.Proofs.YtippochapiolpaaGreatDoor
section
variable {π:Int→Int} {P:PM}{a n pr:Int}{i:Nat}
theorem Jv (π:Int→Int) (P:PM) (a:Int) (i:Nat):iP (mX π P) a i=iP P a i:=sumTo_congr i 0 fun x _ _=>by rw [Mo]
theorem Mr (π:Int→Int) (P:PM) (a n pr:Int):iW (mX π P) a n pr=iW P a n pr:=by unfold iW;rw [Jv]
theorem Xm (π:Int→Int) (P:PM) (a n pr:Int):jJ (mX π P) a n pr=mX π (jJ P a n pr):=by
 unfold jJ
 rw [Mr]
 split
 ·funext x
  unfold mX fB
  by_cases e:a≤x∧x<a+n.toNat
  ·simp only [if_pos e];rfl
  ·simp only [if_neg e]
 ·rfl
theorem RY (π:Int→Int) (P:PM) (a n:Int):ui (mX π P) a n=ui P a n:=by unfold ui;rw [Jv]
theorem aaO (π:Int→Int) (P:PM) (a n:Int):Bc (mX π P) a n=mX π (Bc P a n):=by
 unfold Bc
 rw [RY]
 split
 ·funext x
  unfold mX jI
  by_cases e:a≤x∧x<a+n.toNat
  ·simp only [if_pos e];rfl
  ·simp only [if_neg e]
 ·rfl
theorem Mq (π:Int→Int) (P:PM) (a n pr:Int):mQ (mX π P) a n pr=mQ P a n pr:=by unfold mQ;rw [Jv]
theorem Xl (π:Int→Int) (P:PM) (a n pr:Int):nR (mX π P) a n pr=mX π (nR P a n pr):=by
 unfold nR
 rw [Mq]
 split
 ·funext x
  unfold mX iM
  by_cases e:a≤x∧x<a+n.toNat
  ·simp only [if_pos e];cases P x<;>rfl
  ·simp only [if_neg e]
 ·rfl
def BP (Q P:PM):Prop:=∀a,aR Q a=-1∨aR Q a=aR P a
theorem UD (P:PM):BP lG P:=fun _=>.inl rfl
theorem PU (P:PM) (a n pr:Int):BP (jJ P a n pr) P:=fun x=>by
 unfold jJ
 split
 ·by_cases e:a≤x∧x<a+n.toNat
  ·left;unfold aR fB;rw [if_pos e]
  ·right;unfold aR fB;rw [if_neg e]
 ·exact .inr rfl
theorem UC (P:PM) (a n:Int):BP (Bc P a n) P:=fun x=>by
 unfold Bc
 split
 ·by_cases e:a≤x∧x<a+n.toNat
  ·left;unfold aR jI;rw [if_pos e]
  ·right;unfold aR jI;rw [if_neg e]
 ·exact .inr rfl
theorem PS (P:PM) (a n pr:Int):BP (nR P a n pr) P:=fun x=>by
 unfold nR
 split
 ·right
  unfold aR iM
  by_cases e:a≤x∧x<a+n.toNat
  ·rw [if_pos e];cases P x<;>rfl
  ·rw [if_neg e]
 ·exact .inr rfl
end
section
variable {S S' S1:KS}{π:Int→Int} {f a k v n pr p:Int}{j:Nat}{o:Ow}
theorem NW (hj:j<S.Ms.length) {Q:PM}(hQ:BP Q (aC S j)) (hf:0≤f) (h:0<bI (S.Ms.set j Q) f):0<bI S.Ms f:=by
 have h1:=LX hj Q f
 have h2:sh Q f≤sh (aC S j) f:=sumTo_le 64 0 fun i _ _=>by
  rcases hQ i with e|e
  ·rw [e,if_neg (by omega)];omega
  ·rw [e];omega
 omega
theorem aX.few (h:aX π S S') (hj:j<S.Ms.length) {Q:PM}(hQ:BP Q (aC S j)):aX π (S.space j Q S.W) (S'.space j (mX π Q) S'.W):=h.space fun _ hf hu=>NW hj hQ hf hu
theorem aX.YH (h:aX π S S') (j:Nat):au S' j=au S j:=by unfold au;rw [h.Ts]
theorem aX.procs (h:aX π S S') (P':Ps):aX π (S.procs P') (S'.procs P'):=⟨h.n,rfl,h.D,h.Ts,h.O,h.ms,h.inj,h.pos,h.w⟩
theorem aX.files (h:aX π S S') (D':DS) (j:Nat) (N':Ns):aX π (S.files D' j N') (S'.files D' j N'):=⟨h.n,h.P,rfl,by show S'.Ts.set j N'=S.Ts.set j N';rw [h.Ts],h.O,h.ms,h.inj,h.pos,h.w⟩
theorem aX.tree (h:aX π S S') (T':Wd):aX π (S.tree T') (S'.tree T'):=⟨h.n,h.P,by show { S'.D with T:=T' }={ S.D with T:=T' };rw [h.D],h.Ts,h.O,h.ms,h.inj,h.pos,h.w⟩
theorem aX.own (h:aX π S S') (p:Int) (o:Ow):aX π (S.own p o) (S'.own p o):=⟨h.n,h.P,h.D,h.Ts,by show kL S'.O p o=kL S.O p o;rw [h.O],h.ms,h.inj,h.pos,h.w⟩
theorem aX.drop (h:aX π S S') (p:Int):aX π (S.drop p) (S'.drop p):=⟨h.n,h.P,h.D,h.Ts,by show jK S'.O p=jK S.O p;rw [h.O],h.ms,h.inj,h.pos,h.w⟩
theorem aX.clear (h:aX π S S') (hj:j<S.Ms.length):aX π (S.space j lG S.W) (S'.space j lG S'.W):=h.few hj (UD _)
theorem aX.ends (h:aX π S S') (hj:o.j<S.Ms.length) (p c:Int):aX π (dD S p o c) (dD S' p o c):=by
 unfold dD
 rw [h.P,h.D,h.YH]
 exact ((((h.procs (dI S.P p c)).clear hj).files _ _ _).drop p)
theorem aX.exec (h:aX π S S') (hj:o.j<S.Ms.length):aX π (sQ S o) (sQ S' o):=by
 unfold sQ
 rw [h.D,h.YH]
 exact (h.clear hj).files _ _ _
theorem aX.born (h:aX π S S') (hj:j<S.Ms.length):aX π (S.born j) (S'.born j):=by
 have ht:∀f,0<bI (S.Ms ++ [aC S j]) f→0<bI S.Ms f:=fun f hu=>by
  have h1:bI (S.Ms ++ [aC S j]) f=bI S.Ms f+sh (aC S j) f:=by unfold bI;simp
  have h2:=RB (S:=S) (FQ hj) f
  omega
 refine ⟨h.n,h.P,by show jg S'.D (au S' j)=jg S.D (au S j);rw [h.D,h.YH],by show S'.Ts ++ [au S' j]=S.Ts ++ [au S j];rw [h.Ts,h.YH],h.O,?_,fun f g a1 b1 a2 b2 e=>h.inj f g a1 b1 (ht f a2) (ht g b2) e,fun f a1 a2=>h.pos f a1 (ht f a2),fun f k a1 a2=>h.w f k a1 (ht f a2)⟩
 show S'.Ms ++ [aC S' j]=(S.Ms ++ [aC S j]).map (mX π)
 rw [List.map_append,←h.ms,h.IU];rfl
theorem aX.fork (h:aX π S S') (hj:o.j<S.Ms.length) (p:Int):aX π (gL S p o) (gL S' p o):=by
 unfold gL
 rw [h.P,h.Ts]
 exact ((h.procs (fU S.P p (aL S.P))).born hj).own _ _
theorem aX.Y6 (h:aX π S S') (o:Ow) (a n pr:Int):kv S' o a n pr=kv S o a n pr:=by unfold kv;rw [h.IU,Mr,RZ]
theorem aX.afq (h:aX π S S') (hj:o.j<S.Ms.length) (a n pr:Int):aX π (ku S o a n pr) (ku S' o a n pr):=by
 unfold ku
 rw [h.Y6]
 split
 ·rw [h.IU,Xm];exact h.few hj (PU _ _ _ _)
 ·exact h
theorem aX.un9 (h:aX π S S') (hj:o.j<S.Ms.length) (a n:Int):aX π (Dr S o a n) (Dr S' o a n):=by
 unfold Dr
 rw [h.IU,aaO];exact h.few hj (UC _ _ _)
theorem aX.afl (h:aX π S S') (hj:j<S.Ms.length) (a n pr:Int):aX π (S.space j (nR (aC S j) a n pr) S.W) (S'.space j (nR (aC S' j) a n pr) S'.W):=by
 rw [h.IU,Xl];exact h.few hj (PS _ _ _ _)
theorem aX.res (h:aX π S S') (ok:jh S) (hj:j<S.Ms.length):gM (aC S' j)=gM (aC S j):=by
 rw [h.IU]
 refine aaP fun a ha=>?_
 have h3:=vT (FQ hj) (ok.at hj) ha
 exact (h.pos _ h3.1 h3.2).1
theorem aX.load (h:aX π S S') (ok:jh S) (hj:j<S.Ms.length) (a k:Int):jf (aC S' j) S'.W a k=jf (aC S j) S.W a k:=by
 unfold jf wd
 rw [h.IU,Ju,yZ]
 split
 ·by_cases e:aR (aC S j) a=-1
  ·rw [if_pos e,if_pos rfl,if_pos e]
  ·have h3:=vT (FQ hj) (ok.at hj) e
   have h4:=h.pos _ h3.1 h3.2
   rw [if_neg e,if_neg (by omega),if_neg e]
   exact h.w _ _ h3.1 h3.2
 ·rfl
theorem aX.JH (h:aX π S S') (ok:jh S) (l:QN S):dQ S'=dQ S:=by
 unfold dQ
 rw [h.P]
 refine congrArg (fun f=>(aH S.P).filterMap f) (funext fun x=>?_)
 unfold fM
 split
 ·rfl
 ·rw [h.O]
  have hr:∀o,S.O x=some o→gM (aC S' o.j)=gM (aC S o.j):=fun o ho=>h.res ok (by rw [l.len];exact l.lt _ _ ho)
  generalize S.O x=y at hr
  cases y with
  |none=>simp only [Option.map_none]
  |some o=>simp only [Option.map_some,hr o rfl]
theorem lN.no (n:Nat):lN n lG:=⟨fun a h=>(by cases h),fun a p h=>(by cases h),fun _=>.inl rfl⟩
theorem jh.ends (ok:jh S) (o:Ow) (p c:Int):jh (dD S p o c):=fun P hP=>by
 have hP:P∈S.Ms.set o.j lG:=hP
 rcases List.mem_or_eq_of_mem_set hP with h1|h1
 ·exact ok P h1
 ·rw [h1];exact .no _
theorem dP.nY {went:List Int}{er:Int}(r:dP p a k v S went er S1):∀ {S':KS}{xe:List Int}{QK:Int}{Dq:KS},dP p a k v S' xe QK Dq→I4 S S'→jh S→QN S→went=xe∧er=QK∧I4 S1 Dq:=by
 induction r with
 | @done S o er P' D' ho h h12=>
  intro S' xe QK Dq r' hs ok l
  obtain ⟨π,hS⟩:=hs
  have hj:o.j<S.Ms.length:=by rw [l.len];exact l.lt _ _ ho
  cases r' with
  |done ho' h' Jh=>
   rw [hS.O,ho] at ho'
   obtain rfl:=Option.some.inj ho'
   obtain ⟨e1,e2⟩:=h.nY hS ok hj h'
   exact ⟨rfl,e1,e2⟩
  |nobody ho' h' hv'=>
   rw [hS.O,ho] at ho'
   obtain rfl:=Option.some.inj ho'
   exact absurd (h.nY hS ok hj h').1 h12
  |self ho' h' hv' he'=>
   rw [hS.O,ho] at ho'
   obtain rfl:=Option.some.inj ho'
   exact absurd (h.nY hS ok hj h').1 h12
  |goes ho' h' hv' he' hx' h1' hne' r''=>
   rw [hS.O,ho] at ho'
   obtain rfl:=Option.some.inj ho'
   exact absurd (h.nY hS ok hj h').1 h12
 | @nobody S o ho h hv=>
  intro S' xe QK Dq r' hs ok l
  obtain ⟨π,hS⟩:=hs
  have hj:o.j<S.Ms.length:=by rw [l.len];exact l.lt _ _ ho
  have hc:=hS.JH ok l
  cases r' with
  |done ho' h' Jh=>
   rw [hS.O,ho] at ho'
   obtain rfl:=Option.some.inj ho'
   exact absurd (h.nY hS ok hj h').1.symm Jh
  |nobody ho' h' hv'=>exact ⟨rfl,rfl,π,hS⟩
  |self ho' h' hv' he'=>rw [hc] at hv';exact absurd hv' hv
  |goes ho' h' hv' he' hx' h1' hne' r''=>rw [hc] at hv';exact absurd hv' hv
 | @self S o ho h hv he=>
  intro S' xe QK Dq r' hs ok l
  obtain ⟨π,hS⟩:=hs
  have hj:o.j<S.Ms.length:=by rw [l.len];exact l.lt _ _ ho
  have hc:=hS.JH ok l
  cases r' with
  |done ho' h' Jh=>
   rw [hS.O,ho] at ho'
   obtain rfl:=Option.some.inj ho'
   exact absurd (h.nY hS ok hj h').1.symm Jh
  |nobody ho' h' hv'=>rw [hc] at hv';exact absurd hv hv'
  |self ho' h' hv' he'=>
   rw [hS.O,ho] at ho'
   obtain rfl:=Option.some.inj ho'
   exact ⟨rfl,rfl,π,hS.ends hj p 108⟩
  |goes ho' h' hv' he' hx' h1' hne' r''=>rw [hc,he] at he';exact absurd he'.symm hne'
 | @goes S o x ox went er S1 ho h hv he hx h1 hne r ih=>
  intro S' xe QK Dq r' hs ok l
  obtain ⟨π,hS⟩:=hs
  have hj:o.j<S.Ms.length:=by rw [l.len];exact l.lt _ _ ho
  have hc:=hS.JH ok l
  cases r' with
  |done ho' h' Jh=>
   rw [hS.O,ho] at ho'
   obtain rfl:=Option.some.inj ho'
   exact absurd (h.nY hS ok hj h').1.symm Jh
  |nobody ho' h' hv'=>rw [hc] at hv';exact absurd hv hv'
  |self ho' h' hv' he'=>rw [hc,he] at he';exact absurd he' hne
  | @goes _ o' x' ox' xe QK _ ho' h' hv' he' hx' h1' hne' r''=>
   rw [hc,he] at he'
   subst he'
   rw [hS.O,hx] at hx'
   obtain rfl:=Option.some.inj hx'
   obtain ⟨e1,e2,e3⟩:=ih r'' ⟨π,hS.ends (by rw [l.len];exact l.lt _ _ hx) x 108⟩ (ok.ends ox x 108) (l.ends 108)
   exact ⟨by rw [e1],e2,e3⟩
end
end Go.Proofs.YtippochapiolpaaGreatDoor
namespace Go.Proofs.YtippochapiolpaaGreatDoor
open Go.RowKit Go.Maps
def gJ (c:Int) (t:az):wZ:=if c=0 then .say t else .bad c
noncomputable section
structure SG (S:KS):Prop where
 w:DC S.W
 c:∀n q,S.P n=some q→dH q.code
 n:S.n≤256
abbrev vM:=KS→Int→Ow→az→List Int→List az→Bool→wZ×KS
abbrev Rel:=KS→Int→Ow→az→List Int→List az→Bool→wZ→KS→Prop
def rT (f:vM):Rel:=fun S p o w ns ts on r S'=>r=(f S p o w ns ts on).1∧S'=(f S p o w ns ts on).2
structure kM (f:vM):Prop where
 nY:∀ {π S S' p o w ns ts on},aX π S S'→jh S→QN S→S.O p=some o→(f S' p o w ns ts on).1=(f S p o w ns ts on).1∧aX π (f S p o w ns ts on).2 (f S' p o w ns ts on).2
 keep:∀ {S p o w ns ts on},SG S→(∀n∈ns,dH n)→SG (f S p o w ns ts on).2
structure Bo (ρ:Rel):Prop where
 nY:∀ {S1 S2 p o w ns ts on r1 r2 Dq S2'},I4 S1 S2→jh S1→QN S1→S1.O p=some o→ρ S1 p o w ns ts on r1 Dq→ρ S2 p o w ns ts on r2 S2'→r1=r2∧I4 Dq S2'
 keep:∀ {S p o w ns ts on r S'},ρ S p o w ns ts on r S'→SG S→(∀n∈ns,dH n)→SG S'
theorem kM.rel {f:vM}(h:kM f):Bo (rT f) where
 nY:=fun ⟨π,hs⟩ ok l ho ⟨e1,e2⟩ ⟨e3,e4⟩=>by
  obtain ⟨h1,h2⟩:=h.nY hs ok l ho
  exact ⟨e1.trans (h1.symm.trans e3.symm),by rw [e2,e4];exact ⟨π,h2⟩⟩
 keep:=fun ⟨_,e⟩ hg hn=>by rw [e];exact h.keep hg hn
section
variable {S S':KS}{p c:Int}{o:Ow}{π:Int→Int}
theorem SG.same (h:SG S) (hw:S'.W=S.W) (hp:S'.P=S.P) (hn:S'.n=S.n):SG S':=⟨by rw [hw];exact h.w,by rw [hp];exact h.c,by rw [hn];exact h.n⟩
theorem SG.Fx (h:SG S) (hw:S'.W=S.W) (hn:S'.n=S.n) (hp:∀n q,S'.P n=some q→dH q.code∨∃q0,S.P n=some q0∧q0.code=q.code):SG S':=⟨by rw [hw];exact h.w,fun n q hq=>by
 rcases hp n q hq with h1|⟨q0,h1,h2⟩
 ·exact h1
 ·rw [←h2];exact h.c n q0 h1,by rw [hn];exact h.n⟩
theorem Db {P:Ps}{n:Int}{q:Pr}(hc:dH c) (h:dI P p c n=some q):dH q.code∨∃q0,P n=some q0∧q0.code=q.code:=by
 unfold dI at h
 obtain ⟨q0,h1,rfl⟩:=Option.map_eq_some_iff.1 h
 simp only [lT]
 repeat' split
 all_goals first|exact .inl hc|exact .inr ⟨q0,h1,rfl⟩
theorem uQ {P:Ps}{n k:Int}{q:Pr}{f:Pr→Pr}(hf:∀q,(f q).code=q.code) (h:vP P k f n=some q):dH q.code∨∃q0,P n=some q0∧q0.code=q.code:=by
 unfold vP at h
 split at h
 ·obtain ⟨q0,h1,rfl⟩:=Option.map_eq_some_iff.1 h
  exact .inr ⟨q0,h1,(hf q0).symm⟩
 ·exact .inr ⟨q,h,rfl⟩
theorem i0:dH 0:=by unfold dH;omega
theorem SG.ends (h:SG S) (hc:dH c):SG (dD S p o c):=h.Fx rfl rfl fun _ _ hq=>Db hc hq
theorem M8 {ns:List Int}(h:∀n∈ns,dH n) (i:Nat):dH (ns.getD i 0):=by
 rw [List.getD_eq_getElem?_getD]
 cases e:ns[i]? with
 |none=>exact i0
 |some x=>exact h x (List.mem_of_getElem? e)
theorem QN.ms (l:QN S) (ho:S.O p=some o):o.j<S.Ms.length:=by rw [l.len];exact l.lt p o ho
end
def FR:vM:=fun S p o w ns _ _=>(gJ (sP p) w,sO S p o (ns.getD 0 0))
theorem UF:kM FR where
 nY:=fun h _ l ho=>⟨rfl,by
  unfold FR sO
  split
  ·exact h
  ·exact h.ends (l.ms ho) _ _⟩
 keep:=fun h hn=>by
  unfold FR sO
  split
  ·exact h
  ·exact h.ends (M8 hn 0)
def Rt:vM:=fun S _ o w _ _ _=>(gJ 0 w,sQ S o)
theorem UH:kM Rt where
 nY:=fun h _ l ho=>⟨rfl,h.exec (l.ms ho)⟩
 keep:=fun h _=>h.same rfl rfl rfl
def FP:vM:=fun S _ _ w ns _ _=>(gJ (eX S.P (ns.getD 0 0) (ns.getD 1 0)) w,S.procs (if eX S.P (ns.getD 0 0) (ns.getD 1 0)=0 then kC S.P (ns.getD 0 0) (ns.getD 1 0) else S.P))
theorem Uo:kM FP where
 nY:=fun h _ _ _=>by
  unfold FP
  rw [h.P]
  exact ⟨rfl,h.procs _⟩
 keep:=fun {S p o w ns ts on} h _=>h.Fx (S':=S.procs _) rfl rfl fun n q hq=>by
  change (if eX S.P (ns.getD 0 0) (ns.getD 1 0)=0 then kC S.P (ns.getD 0 0) (ns.getD 1 0) else S.P) n=some q at hq
  split at hq
  ·unfold kC at hq;refine uQ ?_ hq;intro q;split<;>rfl
  ·exact .inr ⟨q,hq,rfl⟩
def yn:vM:=fun S p _ w ns _ on=>(gJ (bN S.P p (ns.getD 0 0)) w,S.procs (if bN S.P p (ns.getD 0 0)=0 then fH S.P p (ns.getD 0 0) on else S.P))
theorem Kv:kM yn where
 nY:=fun h _ _ _=>by
  unfold yn
  rw [h.P]
  exact ⟨rfl,h.procs _⟩
 keep:=fun {S p o w ns ts on} h _=>h.Fx (S':=S.procs _) rfl rfl fun n q hq=>by
  change (if bN S.P p (ns.getD 0 0)=0 then fH S.P p (ns.getD 0 0) on else S.P) n=some q at hq
  split at hq
  ·unfold fH at hq;refine uQ ?_ hq;intro q;rfl
  ·exact .inr ⟨q,hq,rfl⟩
def Jy:vM:=fun S p o w ns _ _=>(gJ (qd (ns.getD 0 0) (ns.getD 1 0)) w,LA S p o (ns.getD 0 0) (ns.getD 1 0))
theorem Pg:kM Jy where
 nY:=fun h _ _ _=>⟨rfl,h.own _ _⟩
 keep:=fun h _=>h.same rfl rfl rfl
def uS:vM:=fun S p o w ns _ _=>(gJ (Jj (ns.getD 0 0)) w,yL S p o (ns.getD 0 0))
theorem Le:kM uS where
 nY:=fun h _ _ _=>⟨rfl,by
  unfold uS yL
  split
  ·exact h.own _ _
  ·exact h⟩
 keep:=fun h _=>by
  unfold uS yL
  split
  ·exact h.same rfl rfl rfl
  ·exact h
def Nl:vM:=fun S _ o w ns _ _=>(gJ (kv S o (ns.getD 0 0) (ns.getD 1 0) (ns.getD 2 0)) w,ku S o (ns.getD 0 0) (ns.getD 1 0) (ns.getD 2 0))
theorem Xu:kM Nl where
 nY:=fun h _ l ho=>⟨by unfold Nl;rw [h.Y6],h.afq (l.ms ho) _ _ _⟩
 keep:=fun h _=>by
  unfold Nl ku
  split
  ·exact h.same rfl rfl rfl
  ·exact h
def DI:vM:=fun S _ o w ns _ _=>(gJ (ui (aC S o.j) (ns.getD 0 0) (ns.getD 1 0)) w,Dr S o (ns.getD 0 0) (ns.getD 1 0))
theorem NR:kM DI where
 nY:=fun h _ l ho=>⟨by unfold DI;rw [h.IU,RY],h.un9 (l.ms ho) _ _⟩
 keep:=fun h _=>h.same rfl rfl rfl
def uV:vM:=fun S _ o w ns _ _=>(gJ (mQ (aC S o.j) (ns.getD 0 0) (ns.getD 1 0) (ns.getD 2 0)) w,S.space o.j (nR (aC S o.j) (ns.getD 0 0) (ns.getD 1 0) (ns.getD 2 0)) S.W)
theorem Ig:kM uV where
 nY:=fun h _ l ho=>⟨by unfold uV;rw [h.IU,Mq],h.afl (l.ms ho) _ _ _⟩
 keep:=fun h _=>h.same rfl rfl rfl
def FT:vM:=fun S _ o w ns _ _=>(gJ (jA S o (ns.getD 0 0) (ns.getD 1 0)) w,jO S o (ns.getD 0 0) (ns.getD 1 0))
theorem aX.eqs {π:Int→Int} {S S':KS}(h:aX π S S'):∃Ms W,S'={ S with Ms:=Ms,W:=W }:=by
 obtain ⟨n,P,D,Ts,Ms,W,O⟩:=S'
 obtain ⟨h1,h2,h3,h4,h5,_⟩:=h
 cases h1;cases h2;cases h3;cases h4;cases h5
 exact ⟨Ms,W,rfl⟩
theorem UL:kM FT where
 nY:=fun {π S S' p o w ns ts on} h _ _ _=>by
  have e:∀o a b,jA S' o a b=jA S o a b:=fun _ _ _=>by obtain ⟨Ms,W,rfl⟩:=h.eqs;rfl
  unfold FT jO
  simp only [e,h.D,h.YH]
  refine ⟨trivial,?_⟩
  split
  ·exact h.files _ _ _
  ·exact h
 keep:=fun h _=>by
  unfold FT jO
  split
  ·exact h.same rfl rfl rfl
  ·exact h
def Ri:vM:=fun S _ o w ns _ on=>(gJ (if aJ (au S o.j) (ns.getD 0 0)=true then 0 else 7) w,S.files S.D o.j (kR (au S o.j) (ns.getD 0 0) on))
theorem Ua:kM Ri where
 nY:=fun h _ _ _=>by
  obtain ⟨Ms,W,rfl⟩:=h.eqs
  exact ⟨rfl,h.files _ _ _⟩
 keep:=fun h _=>h.same rfl rfl rfl
def JF:vM:=fun S _ o w ns _ _=>(gJ (if aJ (au S o.j) (ns.getD 0 0)=true then 0 else 7) w,uR S o (ns.getD 0 0))
theorem Qk:kM JF where
 nY:=fun h _ _ _=>by
  obtain ⟨Ms,W,rfl⟩:=h.eqs
  exact ⟨rfl,h.files _ _ _⟩
 keep:=fun h _=>h.same rfl rfl rfl
def Q9:vM:=fun S _ o w ns _ _=>(gJ (kg S.D (au S o.j) (ns.getD 0 0) (ns.getD 1 0)) w,S.files (kr S.D (au S o.j) (ns.getD 0 0) (ns.getD 1 0)) o.j (au S o.j))
theorem Tg:kM Q9 where
 nY:=fun h _ _ _=>by
  obtain ⟨Ms,W,rfl⟩:=h.eqs
  exact ⟨rfl,h.files _ _ _⟩
 keep:=fun h _=>h.same rfl rfl rfl
def Rj:vM:=fun S _ _ w _ ts _=>(gJ (ky S.D.T (ts.getD 0 []) (ts.getD 1 [])) w,S.tree (kS S.D.T (ts.getD 0 []) (ts.getD 1 [])))
theorem Uh:kM Rj where
 nY:=fun h _ _ _=>by
  obtain ⟨Ms,W,rfl⟩:=h.eqs
  exact ⟨rfl,h.tree _⟩
 keep:=fun h _=>h.same rfl rfl rfl
def D7:vM:=fun S _ _ w _ ts _=>(gJ (dV S.D.T (ts.getD 0 [])) w,S.tree (fF S.D.T (ts.getD 0 [])))
theorem JR:kM D7 where
 nY:=fun h _ _ _=>by
  obtain ⟨Ms,W,rfl⟩:=h.eqs
  exact ⟨rfl,h.tree _⟩
 keep:=fun h _=>h.same rfl rfl rfl
def Ef:vM:=fun S _ _ w _ ts _=>(gJ (eZ S.D.T (ts.getD 0 []) (ts.getD 1 [])) w,S.tree (fG S.D.T (ts.getD 0 []) (ts.getD 1 [])))
theorem J4:kM Ef where
 nY:=fun h _ _ _=>by
  obtain ⟨Ms,W,rfl⟩:=h.eqs
  exact ⟨rfl,h.tree _⟩
 keep:=fun h _=>h.same rfl rfl rfl
def rV:vM:=fun S p o w _ _ _=>if (aH S.P).length<24 then (.say (w ++ aQ [aL S.P]),gL S p o) else (.bad 12,S)
theorem Uy:kM rV where
 nY:=fun h _ l ho=>by
  unfold rV
  rw [h.P]
  split
  ·exact ⟨rfl,h.fork (l.ms ho) _⟩
  ·exact ⟨rfl,h⟩
 keep:=fun {S p o w ns ts on} h _=>by
  unfold rV
  split
  ·refine h.Fx (S':=gL S p o) rfl rfl fun n q hq=>?_
   change nZ S.P (aL S.P) _ n=some q at hq
   unfold nZ at hq
   split at hq
   ·cases hq;exact .inl i0
   ·exact .inr ⟨q,hq,rfl⟩
  ·exact h
def Lr:vM:=fun S p _ w _ _ _=>(gJ (bC S.P p).2.2.1 (w ++ aQ [(bC S.P p).1,(bC S.P p).2.1]),S.procs (bC S.P p).2.2.2)
theorem VU (P:Ps) (p:Int) (n:Int) (q:Pr) (h:(bC P p).2.2.2 n=some q):P n=some q:=by
 unfold bC at h
 revert h
 repeat' split
 all_goals intro h
 all_goals first
  |exact h
  |(simp only [uu] at h;split at h;cases h;exact h)
theorem Sy:kM Lr where
 nY:=fun h _ _ _=>by
  unfold Lr
  rw [h.P]
  exact ⟨rfl,h.procs _⟩
 keep:=fun {S p o w ns ts on} h _=>h.Fx (S':=S.procs _) rfl rfl fun n q hq=>.inr ⟨q,VU S.P p n q hq,rfl⟩
def FO:vM:=fun S _ o w ns _ _=>(gJ (dN (aC S o.j) (ns.getD 0 0) (ns.getD 1 0) 1) (w ++ aQ [jf (aC S o.j) S.W (ns.getD 0 0) (ns.getD 1 0)]),S)
theorem Ue:kM FO where
 nY:=fun h ok l ho=>by
  unfold FO
  rw [h.load ok (l.ms ho),h.IU,Ju]
  exact ⟨rfl,h⟩
 keep:=fun h _=>h
def Q0:vM:=fun S _ o w ns _ _=>(gJ (rW S o (ns.getD 0 0)) (w ++ aQ [ng S o (ns.getD 0 0)]),uB S o (ns.getD 0 0))
theorem X7:kM Q0 where
 nY:=fun {π S S' p o w ns ts on} h _ _ _=>by
  have e:∀o n,lS S' o n↔lS S o n:=fun _ _=>by obtain ⟨Ms,W,rfl⟩:=h.eqs;exact Iff.rfl
  unfold Q0 uB rW ng
  simp only [e,h.D,h.YH]
  refine ⟨trivial,?_⟩
  split
  ·exact h.files _ _ _
  ·exact h
 keep:=fun h _=>by
  unfold Q0 uB
  split
  ·exact h.same rfl rfl rfl
  ·exact h
def yO:vM:=fun S p o w ns ts _=>(gJ (xW S o (ns.getD 0 0) (ts.getD 0 [])).2.1 (w ++ aQ [(xW S o (ns.getD 0 0) (ts.getD 0 [])).1]),jY S p o (ns.getD 0 0) (ts.getD 0 []))
def Y0:vM:=fun S _ o w ns _ _=>(gJ (bR S.D (au S o.j) (ns.getD 0 0) (ns.getD 1 0)).2.1 (w ++ [32] ++ qx (bR S.D (au S o.j) (ns.getD 0 0) (ns.getD 1 0)).1),S.files (bR S.D (au S o.j) (ns.getD 0 0) (ns.getD 1 0)).2.2 o.j (au S o.j))
theorem Tu:kM Y0 where
 nY:=fun h _ _ _=>by
  obtain ⟨Ms,W,rfl⟩:=h.eqs
  exact ⟨rfl,h.files _ _ _⟩
 keep:=fun h _=>h.same rfl rfl rfl
def o7 (T:Wd) (x:Int):List az:=match T x with
 |some (.dir C)=>uz C
 |_=>[]
def Y7:vM:=fun S _ _ w _ ts _=>(gJ (mZ S.D.T (ts.getD 0 [])) (uA (w :: o7 S.D.T (aF S.D.T (ts.getD 0 [])).1)),S)
theorem Ug:kM Y7 where
 nY:=fun h _ _ _=>by
  obtain ⟨Ms,W,rfl⟩:=h.eqs
  exact ⟨rfl,h⟩
 keep:=fun h _=>h
theorem NA:kM yO where
 nY:=fun {π S S' p o w ns ts on} h _ _ _=>by
  have e:∀x s,xW S' o x s=xW S o x s:=fun _ _=>by obtain ⟨Ms,W,rfl⟩:=h.eqs;rfl
  unfold yO jY
  simp only [e,h.YH,h.P]
  refine ⟨trivial,?_⟩
  split
  ·exact (h.files _ _ _).procs _
  ·exact h.files _ _ _
 keep:=fun {S p o w ns ts on} h _=>by
  unfold yO jY
  dsimp only
  split
  ·refine h.Fx (S':=(S.files _ _ _).procs _) rfl rfl fun n q hq=>?_
   change (if eX S.P p 5=0 then kC S.P p 5 else S.P) n=some q at hq
   split at hq
   ·unfold kC at hq;refine uQ ?_ hq;intro q;split<;>rfl
   ·exact .inr ⟨q,hq,rfl⟩
  ·exact h.same rfl rfl rfl
end
def Fy (w:az) (went:List Int) (er:Int):wZ:=if er=0 then .say (w ++ aQ went) else if went=[] then .bad er else .lost went er
def Jk:Rel:=fun S p _ w ns _ _ r S'=>∃went er,dP p (ns.getD 0 0) (ns.getD 1 0) (ns.getD 2 0) S went er S'∧r=Fy w went er
def Y4:Rel:=fun S _ o w ns ts on r S'=>∃n k x c,p9 S.D.E n∧dF S.D.T k∧FV S o n k (ts.getD 0 []) (ns.getD 0 0) on x c S'∧r=gJ c (w ++ aQ [x])
def Y2:Rel:=fun S _ o w _ _ _ r S'=>∃n x y c,p9 S.D.E n∧uC S o n x y c S'∧r=gJ c (w ++ aQ [x,y])
def R3:Rel:=fun S _ _ w _ ts _ r S'=>∃k c T',dF S.D.T k∧Q6 S.D.T k (ts.getD 0 []) c T'∧S'=S.tree T'∧r=gJ c w
theorem dP.codes {S S':KS}{p a k v er:Int}{went:List Int}(r:dP p a k v S went er S') (h:∀n q,S.P n=some q→dH q.code):∀n q,S'.P n=some q→dH q.code:=by
 have he:∀(S:KS) (p:Int) (o:Ow),(∀n q,S.P n=some q→dH q.code)→∀n q,(dD S p o 108).P n=some q→dH q.code:=fun S p o hS n q hq=>by
  rcases Db (c:=108) (by unfold dH;omega) hq with h1|⟨q0,h1,h2⟩
  ·exact h1
  ·rw [←h2];exact hS n q0 h1
 induction r with
 |done ho h' h12=>exact h
 |nobody ho h' hv=>exact h
 |self ho h' hv hh=>exact he _ _ _ h
 |goes ho h' hv hh hx h1 hne r ih=>exact ih (he _ _ _ h)
theorem dP.frames {S S':KS}{p a k v er:Int}{went:List Int}(r:dP p a k v S went er S'):S'.n=S.n:=by
 induction r with
 |goes ho h hv he hx h1 hne r ih=>exact ih
 |_=>rfl
theorem Ob:Bo Jk where
 nY:=fun hs ok l _ ⟨went,er,r1,e1⟩ ⟨xe,QK,r2,e2⟩=>by
  obtain ⟨rfl,rfl,h⟩:=r1.nY r2 hs ok l
  exact ⟨e1.trans e2.symm,h⟩
 keep:=fun ⟨went,er,r1,_⟩ hg hn=>⟨r1.ZJ hg.w (M8 hn 2),r1.codes hg.c,by rw [r1.frames];exact hg.n⟩
theorem TG:Bo Y4 where
 nY:=fun {S1 S2 p o w ns ts on r1 r2 Dq S2'} ⟨π,hs⟩ _ _ _ ⟨n,k,x,c,h1,h2,h3,e1⟩ ⟨n',k',x',c',h1',h2',h3',e2⟩=>by
  obtain ⟨Ms,W,rfl⟩:=hs.eqs
  obtain rfl:=p9.one h1 h1'
  obtain rfl:=p9.one (F:=S1.D.T) h2 h2'
  rcases h3 with ⟨f1,rfl,rfl,rfl⟩|⟨f1,D',N',f2,rfl⟩
  ·rcases h3' with ⟨Bf,rfl,rfl,rfl⟩|⟨Bf,_⟩
   ·exact ⟨e1.trans e2.symm,π,hs⟩
   ·exact absurd Bf f1
  ·rcases h3' with ⟨Bf,_⟩|⟨Bf,D'',N'',f2',rfl⟩
   ·exact absurd f1 Bf
   ·obtain ⟨rfl,rfl,rfl,rfl⟩:=f2.one f2'
    exact ⟨e1.trans e2.symm,π,hs.files _ _ _⟩
 keep:=fun ⟨n,k,x,c,_,_,h,_⟩ hg _=>by
  rcases h with ⟨_,_,_,rfl⟩|⟨_,D',N',_,rfl⟩
  ·exact hg
  ·exact hg.same rfl rfl rfl
theorem TA:Bo Y2 where
 nY:=fun {S1 S2 p o w ns ts on r1 r2 Dq S2'} ⟨π,hs⟩ _ _ _ ⟨n,x,y,c,h1,h3,e1⟩ ⟨n',x',y',c',h1',h3',e2⟩=>by
  obtain ⟨Ms,W,rfl⟩:=hs.eqs
  obtain rfl:=p9.one h1 h1'
  rcases h3 with ⟨f1,rfl,rfl,rfl,rfl⟩|⟨f1,D',N',f2,rfl⟩
  ·rcases h3' with ⟨Bf,rfl,rfl,rfl,rfl⟩|⟨Bf,_⟩
   ·exact ⟨e1.trans e2.symm,π,hs⟩
   ·exact absurd Bf f1
  ·rcases h3' with ⟨Bf,_⟩|⟨Bf,D'',N'',f2',rfl⟩
   ·exact absurd f1 Bf
   ·rcases f2 with ⟨g1,rfl,rfl,rfl,rfl,rfl⟩|⟨g1,rfl,rfl,rfl,rfl,rfl⟩
    ·rcases f2' with ⟨g1',rfl,rfl,rfl,rfl,rfl⟩|⟨g1',_⟩
     ·exact ⟨e1.trans e2.symm,π,hs.files _ _ _⟩
     ·exact absurd g1 g1'
    ·rcases f2' with ⟨g1',_⟩|⟨g1',rfl,rfl,rfl,rfl,rfl⟩
     ·exact absurd g1' g1
     ·exact ⟨e1.trans e2.symm,π,hs.files _ _ _⟩
 keep:=fun ⟨n,x,y,c,_,h,_⟩ hg _=>by
  rcases h with ⟨_,_,_,_,rfl⟩|⟨_,D',N',_,rfl⟩
  ·exact hg
  ·exact hg.same rfl rfl rfl
theorem O8:Bo R3 where
 nY:=fun {S1 S2 p o w ns ts on r1 r2 Dq S2'} ⟨π,hs⟩ _ _ _ ⟨k,c,T',h2,h3,e0,e1⟩ ⟨k',c',T'',h2',h3',e0',e2⟩=>by
  obtain ⟨Ms,W,rfl⟩:=hs.eqs
  obtain rfl:=p9.one (F:=S1.D.T) h2 h2'
  have hT:c=c'∧T'=T'':=by
   rcases h3 with ⟨f1,rfl,rfl⟩|⟨f1,rfl,z,hz,rfl⟩
   ·rcases h3' with ⟨Bf,rfl,rfl⟩|⟨Bf,_⟩
    ·exact ⟨rfl,rfl⟩
    ·exact absurd Bf f1
   ·rcases h3' with ⟨Bf,_⟩|⟨Bf,rfl,z',hz',rfl⟩
    ·exact absurd f1 Bf
    ·obtain rfl:=hz.same hz'
     exact ⟨rfl,rfl⟩
  obtain ⟨rfl,rfl⟩:=hT
  subst e0 e0'
  exact ⟨e1.trans e2.symm,π,hs.tree _⟩
 keep:=fun ⟨_,_,_,_,_,e,_⟩ hg _=>by
  subst e
  exact hg.same rfl rfl rfl
noncomputable def yD (k:Nat):Rel:=
 if k=45 then rT uS else if k=46 then rT JF else if k=47 then rT Q0 else if k=48 then rT FT else
 if k=49 then rT Rt else if k=50 then rT FR else if k=51 then rT rV else if k=52 then rT yn else
 if k=53 then rT FP else if k=54 then rT Jy else if k=55 then rT Rj else if k=56 then rT Y7 else
 if k=57 then rT FO else if k=58 then rT Nl else if k=59 then rT Ri else if k=60 then R3 else
 if k=61 then Y4 else if k=62 then Y2 else if k=63 then rT uV else if k=64 then rT Y0 else
 if k=65 then rT Ef else if k=66 then rT Q9 else if k=67 then Jk else if k=68 then rT D7 else
 if k=69 then rT DI else if k=70 then rT Lr else if k=71 then rT yO else fun _ _ _ _ _ _ _ _ _=>False
theorem Bo.ite {c:Prop}[Decidable c] {a b:Rel}(ha:Bo a) (hb:Bo b):Bo (if c then a else b):=by
 split
 ·exact ha
 ·exact hb
theorem Gj (k:Nat):Bo (yD k):=
 .ite Le.rel <| .ite Qk.rel <| .ite X7.rel <| .ite UL.rel <| .ite UH.rel <| .ite UF.rel <| .ite Uy.rel <| .ite Kv.rel <| .ite Uo.rel <|
 .ite Pg.rel <| .ite Uh.rel <| .ite Ug.rel <| .ite Ue.rel <| .ite Xu.rel <| .ite Ua.rel <| .ite O8 <| .ite TG <| .ite TA <| .ite Ig.rel <|
 .ite Tu.rel <| .ite J4.rel <| .ite Tg.rel <| .ite Ob <| .ite JR.rel <| .ite NR.rel <| .ite Sy.rel <| .ite NA.rel ⟨fun _ _ _ _ h=>h.elim,fun h=>h.elim⟩
def Er (c:Int):Prop:=0≤c∧c≤20
theorem Er.i64 {c:Int}(h:Er c):dH c:=by unfold Er at h;unfold dH;omega
theorem afS (n:Nat) (h:n≤20):Er (n:Int):=by unfold Er;omega
theorem Ep:∀(l:List Nm) (T:Wd) (x:Int),Er (fJ T x l).2
 | [],T,x=>by unfold fJ;exact afS 0 (by omega)
 |n :: l,T,x=>by
  unfold fJ
  repeat' split
  all_goals first|exact Ep l T _|(unfold Er;omega)
theorem Ew (T:Wd) (p:az):Er (aF T p).2:=by
 unfold aF
 split
 ·unfold Er;omega
 ·exact Ep _ _ _
theorem qE (T:Wd) (p:az):Er (ae T p).2.2:=by
 unfold ae
 repeat' split
 all_goals first|exact Ep _ _ _|(unfold Er;dsimp only;omega)
theorem Ey (T:Wd) (x:Int):Er (bF T x):=by
 unfold bF
 split<;>unfold Er<;>omega
theorem XQ (T:Wd) (x b:Int):Er (dY T x b):=by
 unfold dY
 split
 ·split<;>unfold Er<;>omega
 ·exact Ey T x
theorem MC (T:Wd) (s:Nat) (p:az):Er (aY T s p):=by
 have:=qE T p
 unfold aY
 repeat' split
 all_goals first|assumption|(unfold Er;omega)
theorem NU (T:Wd) (p:az):Er (dV T p):=by
 have:=qE T p
 unfold dV
 repeat' split
 all_goals first|assumption|(unfold Er;omega)
theorem XC (T:Wd) (p q:az):Er (ky T p q):=by
 have:=Ew T p
 have:=qE T q
 unfold ky
 repeat' split
 all_goals first|assumption|(unfold Er;omega)
theorem OA (T:Wd) (p q:az):Er (eZ T p q):=by
 have:=qE T p
 have:=qE T q
 unfold eZ
 repeat' split
 all_goals first|assumption|(unfold Er;omega)
theorem Xz (T:Wd) (p:az):Er (mZ T p):=by
 have:=Ew T p
 unfold mZ
 repeat' split
 all_goals first|assumption|(unfold Er;omega)
section
variable {S:KS}{o:Ow}{P:Ps}{a b c p:Int}{s:az}{on:Bool}
theorem XY (p:Int):Er (sP p):=by unfold sP;split<;>unfold Er<;>omega
theorem XE:Er (eX P a b):=by
 unfold eX
 repeat' split
 all_goals (unfold Er;omega)
theorem Py:Er (bN P a b):=by
 unfold bN
 repeat' split
 all_goals (unfold Er;omega)
theorem aaV:Er (qd a b):=by
 unfold qd
 repeat' split
 all_goals (unfold Er;omega)
theorem abH:Er (Jj a):=by unfold Jj;split<;>unfold Er<;>omega
theorem Xw (Q:PM):Er (iW Q a b c):=by
 unfold iW
 repeat' split
 all_goals (unfold Er;omega)
theorem aaU:Er (kv S o a b c):=by
 have:=Xw (a:=a) (b:=b) (c:=c) (aC S o.j)
 unfold kv
 repeat' split
 all_goals first|assumption|(unfold Er;omega)
theorem ac2 (Q:PM):Er (ui Q a b):=by
 unfold ui
 repeat' split
 all_goals (unfold Er;omega)
theorem aal (Q:PM):Er (mQ Q a b c):=by
 unfold mQ
 repeat' split
 all_goals (unfold Er;omega)
theorem aac (Q:PM):Er (dN Q a b 1):=by
 unfold dN
 repeat' split
 all_goals (unfold Er;omega)
theorem Ya:Er (jA S o a b):=by
 unfold jA fD
 repeat' split
 all_goals (unfold Er;omega)
theorem Gg {q:Bool}:Er (if q=true then 0 else 7):=by split<;>unfold Er<;>omega
theorem Wu (D:DS) (N:Ns):Er (kg D N a b):=by
 unfold kg
 repeat' split
 all_goals (unfold Er;omega)
theorem VV:Er (bC P p).2.2.1:=by
 unfold bC
 repeat' split
 all_goals dsimp only
 all_goals first|(unfold Er;omega) | (split<;>unfold Er<;>omega)
theorem abe:Er (rW S o a):=by
 unfold rW jH
 repeat' split
 all_goals (unfold Er;omega)
theorem Z9 (F:Int) (B:az):Er (Lf F B s):=by
 unfold Lf
 repeat' split
 all_goals (unfold Er;omega)
theorem aaj (F:Int) (B:az):Er (IQ F B a):=by
 unfold IQ
 repeat' split
 all_goals (unfold Er;omega)
theorem NC (T:Wd):Er (cZ T a b s):=by
 have:=Ey T a
 unfold cZ
 repeat' split
 all_goals first|assumption|(unfold Er;omega)
theorem Tw (T:Wd):Er (jy T a b c):=by
 have:=Ey T a
 unfold jy
 repeat' split
 all_goals first|assumption|(unfold Er;omega)
theorem acZ (D:DS) (N:Ns):Er (bZ D N a s b).2.1:=by
 unfold bZ
 repeat' split
 all_goals first|exact NC _|exact Z9 _ _|(unfold Er;dsimp only;omega)
theorem ac7 (D:DS) (N:Ns):Er (bR D N a b).2.1:=by
 unfold bR
 repeat' split
 all_goals first|exact Tw _|exact aaj _ _|(unfold Er;dsimp only;omega)
end
def OpO (w:World) (m:Int) (H:KH) (q:Nat) (A:Nat→Prop) (k:Nat) (S:KS) (p:Int) (o:Ow) (word:az) (ns:List Int) (ts:List az) (on:Bool) (e:Ending) (w':World):Prop:=
 ∃r S',xV w' r e∧yD k S p o word ns ts on r S'∧pO w m H q A S' w'∧(gy r).length≤50000
def eB (i j k:Nat):Prop:=∀ {w:World}{m:Int}{H:KH}{S:KS}{q:Nat}{A:Nat→Prop}{p:Int}{o:Ow}{cb:Nat}{nv tv:Value}{ns:List Int}{ts:List az}{word:az}{on:Bool},KN w m H S q A→H.ok=true→S.O p=some o→q≤400→SG S→ns.length=i→ts.length=j→(∀n∈ns,dH n)→(∀x∈ts,x.length<100000)→Gv w A cb H.kb nv tv ns ts→word.length≤3000→
 Calls Tryz.prog k #[wp cb,dR p word nv tv on] w (OpO w m H q A k S p o word ns ts on)
theorem sw {α:Type} {l:List α}(h:l.length=1):∃a,l=[a]:=List.length_eq_one_iff.1 h
theorem Dx {α:Type} {l:List α}(h:l.length=2):∃a b,l=[a,b]:=by
 match l,h with
 | [a,b],_=>exact ⟨a,b,rfl⟩
theorem ZP {α:Type} {l:List α}(h:l.length=3):∃a b c,l=[a,b,c]:=by
 match l,h with
 | [a,b,c],_=>exact ⟨a,b,c,rfl⟩
theorem sH {t:az}{c:Int}{e:Ending}{w:World}(h:TO t c e) (hc:dH c):xV w (gJ c t) e:=by
 unfold gJ
 rcases h with ⟨rfl,rfl⟩|⟨h0,rfl⟩
 ·rw [if_pos rfl];exact rfl
 ·rw [if_neg h0];exact ⟨rfl,hc⟩
theorem jQ {c:Int}(hc:dH c):(vX c).length≤28:=by
 have:=iG (L:=[c]) (fun n hn=>by rw [List.mem_singleton.1 hn];exact hc)
 unfold vX
 unfold aQ at this
 simp only [List.flatMap_cons,List.flatMap_nil,List.append_nil,List.length_append,List.length_cons,List.length_nil] at this ⊢
 omega
theorem o6 {c:Int}{t:az}(hc:dH c) (ht:c=0→t.length≤50000):(gy (gJ c t)).length≤50000:=by
 unfold gJ
 split
 ·exact ht (by assumption)
 ·have:=jQ hc
  exact Nat.le_trans this (by omega)
section
variable {w w' V:World}{m:Int}{H:KH}{S S':KS}{q q':Nat}{A:Nat→Prop}{c:Int}{p:Int}{o:Ow}{word t:az}{ns:List Int}{ts:List az}{on:Bool}{k:Nat}{e:Ending}
theorem kQ (b:Below w.heap.size w V) {fn:Nat}{args:Array Value}{v:Value}(h:Calls Tryz.prog fn args V fun y w'=>y=.returned v∧∃A',KN w' m H S' q' A'∧Stp V w' A A') (hv:v=aI c:=by rfl) (hq:q'≤q+1:=by omega):Calls Tryz.prog fn args V (XO A (fun e w'=>e=c∧pO w m H q A S' w') V):=
 h.mono fun y w' ⟨e,A',k,st⟩=>⟨c,by rw [e,hv],⟨rfl,(pO.mk k hq st).before b⟩,st.wt⟩
theorem IX:∀(e:Int) (V V':World),(e=c∧pO w m H q A S' V)→Below V.heap.size V V'→e=c∧pO w m H q A S' V':=fun _ _ _ h b=>⟨h.1,h.2.vK b⟩
theorem er0:Er 0:=by unfold Er;omega
theorem iT {f:vM}(hk:yD k=rT f) (hf:f S p o word ns ts on=(gJ c t,S')) (hc:dH c) (ht:t.length≤50000) (h:∃c',TO t c' e∧c'=c∧pO w m H q A S' w'):OpO w m H q A k S p o word ns ts on e w':=by
 obtain ⟨_,h1,rfl,h2⟩:=h
 exact ⟨_,_,sH h1 hc,by rw [hk];unfold rT;rw [hf];exact ⟨rfl,rfl⟩,h2,o6 hc fun _=>ht⟩
theorem aaF:eB 1 0 50:=fun {w m H S q A p o cb nv tv ns ts word on} h hk ho hq sg hn ht hi hs g hw=>by
 obtain ⟨a,rfl⟩:=sw hn
 obtain rfl:=List.eq_nil_of_length_eq_zero ht
 exact (abv g (by omega) (fun V b9=>have k:=h.below b9;kQ b9 (k.UE ho hq a)) IX).mono fun e w' z=>iT (f:=FR) rfl rfl (Er.i64 (XY _)) (by omega) z
theorem aaG:eB 0 0 49:=fun {w m H S q A p o cb nv tv ns ts word on} h hk ho hq sg hn ht hi hs g hw=>by
 obtain rfl:=List.eq_nil_of_length_eq_zero hn
 obtain rfl:=List.eq_nil_of_length_eq_zero ht
 exact (abw g (by omega) (fun V b9=>have k:=h.below b9;kQ b9 (k.UG ho hq)) IX).mono fun e w' z=>iT (f:=Rt) rfl rfl (Er.i64 (er0)) (by omega) z
theorem aaD:eB 2 0 53:=fun {w m H S q A p o cb nv tv ns ts word on} h hk ho hq sg hn ht hi hs g hw=>by
 obtain ⟨a,b,rfl⟩:=Dx hn
 obtain rfl:=List.eq_nil_of_length_eq_zero ht
 exact (abr g (by omega) (fun V b9=>have k:=h.below b9;kQ b9 (k.Un ho a b (uq (hi a (by simp))))) IX).mono fun e w' z=>iT (f:=FP) rfl rfl (Er.i64 (XE)) (by omega) z
theorem TK:eB 1 0 52:=fun {w m H S q A p o cb nv tv ns ts word on} h hk ho hq sg hn ht hi hs g hw=>by
 obtain ⟨a,rfl⟩:=sw hn
 obtain rfl:=List.eq_nil_of_length_eq_zero ht
 exact (UQ g (by omega) (fun V b9=>have k:=h.below b9;kQ b9 (k.Ku ho a on)) IX).mono fun e w' z=>iT (f:=yn) rfl rfl (Er.i64 (Py)) (by omega) z
theorem WZ:eB 2 0 54:=fun {w m H S q A p o cb nv tv ns ts word on} h hk ho hq sg hn ht hi hs g hw=>by
 obtain ⟨a,b,rfl⟩:=Dx hn
 obtain rfl:=List.eq_nil_of_length_eq_zero ht
 exact (Yk g (by omega) (fun V b9=>have k:=h.below b9;kQ b9 (k.Pf ho a b)) IX).mono fun e w' z=>iT (f:=Jy) rfl rfl (Er.i64 (aaV)) (by omega) z
theorem TL:eB 1 0 45:=fun {w m H S q A p o cb nv tv ns ts word on} h hk ho hq sg hn ht hi hs g hw=>by
 obtain ⟨a,rfl⟩:=sw hn
 obtain rfl:=List.eq_nil_of_length_eq_zero ht
 exact (UR g (by omega) (fun V b9=>have k:=h.below b9;kQ b9 (k.Ld ho a)) IX).mono fun e w' z=>iT (f:=uS) rfl rfl (Er.i64 (abH)) (by omega) z
theorem Ki:eB 3 0 58:=fun {w m H S q A p o cb nv tv ns ts word on} h hk ho hq sg hn ht hi hs g hw=>by
 obtain ⟨a,b,c,rfl⟩:=ZP hn
 obtain rfl:=List.eq_nil_of_length_eq_zero ht
 exact (KV g (by omega) (fun V b9=>have k:=h.below b9;kQ b9 (k.Xt ho a b c (hi b (by simp)).2)) IX).mono fun e w' z=>iT (f:=Nl) rfl rfl (Er.i64 (aaU)) (by omega) z
theorem WW:eB 2 0 69:=fun {w m H S q A p o cb nv tv ns ts word on} h hk ho hq sg hn ht hi hs g hw=>by
 obtain ⟨a,b,rfl⟩:=Dx hn
 obtain rfl:=List.eq_nil_of_length_eq_zero ht
 exact (Yh g (by omega) (fun V b9=>have k:=h.below b9;kQ b9 (k.NP ho a b (hi b (by simp)).2)) IX).mono fun e w' z=>iT (f:=DI) rfl rfl (Er.i64 (ac2 _)) (by omega) z
theorem OU:eB 3 0 63:=fun {w m H S q A p o cb nv tv ns ts word on} h hk ho hq sg hn ht hi hs g hw=>by
 obtain ⟨a,b,c,rfl⟩:=ZP hn
 obtain rfl:=List.eq_nil_of_length_eq_zero ht
 exact (Qf g (by omega) (fun V b9=>have k:=h.below b9;kQ b9 (k.Ie ho a b c (hi b (by simp)).2)) IX).mono fun e w' z=>iT (f:=uV) rfl rfl (Er.i64 (aal _)) (by omega) z
theorem aaH:eB 2 0 48:=fun {w m H S q A p o cb nv tv ns ts word on} h hk ho hq sg hn ht hi hs g hw=>by
 obtain ⟨a,b,rfl⟩:=Dx hn
 obtain rfl:=List.eq_nil_of_length_eq_zero ht
 exact (abx g (by omega) (fun V b9=>have k:=h.below b9;kQ b9 (k.UK ho hq a b)) IX).mono fun e w' z=>iT (f:=FT) rfl rfl (Er.i64 (Ya)) (by omega) z
theorem aaA:eB 1 0 59:=fun {w m H S q A p o cb nv tv ns ts word on} h hk ho hq sg hn ht hi hs g hw=>by
 obtain ⟨a,rfl⟩:=sw hn
 obtain rfl:=List.eq_nil_of_length_eq_zero ht
 exact (abn g (by omega) (fun V b9=>have k:=h.below b9;kQ b9 (k.T9 ho a on)) IX).mono fun e w' z=>iT (f:=Ri) rfl rfl (Er.i64 (Gg)) (by omega) z
theorem W9:eB 1 0 46:=fun {w m H S q A p o cb nv tv ns ts word on} h hk ho hq sg hn ht hi hs g hw=>by
 obtain ⟨a,rfl⟩:=sw hn
 obtain rfl:=List.eq_nil_of_length_eq_zero ht
 exact (Yl g (by omega) (fun V b9=>have k:=h.below b9;kQ b9 (k.Qj ho hq a)) IX).mono fun e w' z=>iT (f:=JF) rfl rfl (Er.i64 (Gg)) (by omega) z
theorem aaw:eB 2 0 66:=fun {w m H S q A p o cb nv tv ns ts word on} h hk ho hq sg hn ht hi hs g hw=>by
 obtain ⟨a,b,rfl⟩:=Dx hn
 obtain rfl:=List.eq_nil_of_length_eq_zero ht
 exact (abh g (by omega) (fun V b9=>have k:=h.below b9;kQ b9 (k.Tf ho a b)) IX).mono fun e w' z=>iT (f:=Q9) rfl rfl (Er.i64 (Wu _ _)) (by omega) z
theorem aaC:eB 0 2 55:=fun {w m H S q A p o cb nv tv ns ts word on} h hk ho hq sg hn ht hi hs g hw=>by
 obtain rfl:=List.eq_nil_of_length_eq_zero hn
 obtain ⟨s,t,rfl⟩:=Dx ht
 exact (abq g (by omega) (fun V b9=>have k:=h.below b9;kQ b9 (k.zG ho hq s t (hs s (by simp)) (hs t (by simp)))) IX).mono fun e w' z=>iT (f:=Rj) rfl rfl (Er.i64 (XC _ _ _)) (by omega) z
theorem TI:eB 0 1 68:=fun {w m H S q A p o cb nv tv ns ts word on} h hk ho hq sg hn ht hi hs g hw=>by
 obtain rfl:=List.eq_nil_of_length_eq_zero hn
 obtain ⟨s,rfl⟩:=sw ht
 exact (UN g (by omega) (fun V b9=>have k:=h.below b9;kQ b9 (k.sV ho hq s (hs s (by simp)))) IX).mono fun e w' z=>iT (f:=D7) rfl rfl (Er.i64 (NU _ _)) (by omega) z
theorem TJ:eB 0 2 65:=fun {w m H S q A p o cb nv tv ns ts word on} h hk ho hq sg hn ht hi hs g hw=>by
 obtain rfl:=List.eq_nil_of_length_eq_zero hn
 obtain ⟨s,t,rfl⟩:=Dx ht
 exact (UO g (by omega) (fun V b9=>have k:=h.below b9;kQ b9 (k.sZ ho hq s t (hs s (by simp)) (hs t (by simp)))) IX).mono fun e w' z=>iT (f:=Ef) rfl rfl (Er.i64 (OA _ _ _)) (by omega) z
end
section
variable {w w' V:World}{m:Int}{H:KH}{S S':KS}{q q':Nat}{A:Nat→Prop}{c:Int}{p:Int}{o:Ow}{word t:az}{ns:List Int}{ts:List az}{on:Bool}{k:Nat}{e:Ending}{L:List Int}
theorem yI {T:Type}{X:T→Int→KS→Prop}:∀(L:T) (c:Int) (V V':World),(∃S',X L c S'∧pO w m H q A S' V)→Below V.heap.size V V'→∃S',X L c S'∧pO w m H q A S' V':=fun _ _ _ _ ⟨S',x,n⟩ b=>⟨S',x,n.vK b⟩
theorem xc (b:Below w.heap.size w V) {fn:Nat}{args:Array Value}(j:Nat) {X:List Int→Int→KS→Prop}(h:Calls Tryz.prog fn args V fun y w'=>∃L c S',y=.returned (.tuple ((L.map (Value.int .i64)) ++ [aI c]).toArray)∧L.length=j∧(c=0→∀n∈L,dH n)∧X L c S'∧∃q' H' A',(H'.kb=H.kb∧H'.ok=H.ok)∧q'≤q+1∧KN w' m H' S' q' A'∧Stp V w' A A'):Calls Tryz.prog fn args V (XN j A (fun L c w'=>∃S',X L c S'∧pO w m H q A S' w') V):=
 h.mono fun _ _ ⟨L,c,S',e,hl,hi,x,_,H',A',h1,hq,k,st⟩=>⟨L,c,e,hl,hi,⟨S',x,pO.before ⟨H',A',h1,k.more hq,st⟩ b⟩,st.wt⟩
theorem rq {f:vM}(hk:yD k=rT f) {L0:List Int}{c0:Int}(hf:f S p o word ns ts on=(gJ c0 (word ++ aQ L0),S')) (hc:dH c0) (hi:c0=0→∀n∈L0,dH n) (hl:L0.length≤100) (hw:word.length≤3000) (h:∃L c,TO (word ++ aQ L) c e∧∃S2,(L=L0∧c=c0∧S2=S')∧pO w m H q A S2 w'):OpO w m H q A k S p o word ns ts on e w':=by
 obtain ⟨_,_,h1,_,⟨rfl,rfl,rfl⟩,h2⟩:=h
 exact ⟨_,_,sH h1 hc,by rw [hk];unfold rT;rw [hf];exact ⟨rfl,rfl⟩,h2,o6 hc fun h0=>by have:=iG (hi h0);rw [List.length_append];omega⟩
theorem WY:eB 0 1 60:=fun {w m H S q A p o cb nv tv ns ts word on} h hk ho hq sg hn ht hi hs g hw=>by
 obtain rfl:=List.eq_nil_of_length_eq_zero hn
 obtain ⟨s,rfl⟩:=sw ht
 obtain ⟨k,hk⟩:=h.1.gQ
 refine (Yj (R:=fun c w'=>∃T',Q6 S.D.T k s c T'∧pO w m H q A (S.tree T') w') g (by omega) (fun V b9=>?_) (fun _ _ _ ⟨T',h1,h2⟩ b=>⟨T',h1,h2.vK b⟩)).mono ?_
 ·refine ((h.below b9).O7 ho hq hk s (hs s (by simp))).mono ?_
  rintro y w' ⟨c,T',rfl,r,A',k',st⟩
  exact ⟨c,rfl,⟨T',r,(pO.mk k' (by omega) st).before b9⟩,st.wt⟩
 ·rintro e w' ⟨c,h1,T',h2,h3⟩
  have hc:dH c:=by
   rcases h2 with ⟨_,rfl,_⟩|⟨_,rfl,_⟩
   ·exact Er.i64 (MC _ _ _)
   ·exact i0
  exact ⟨_,_,sH h1 hc,⟨k,c,T',hk,h2,rfl,rfl⟩,h3,o6 hc fun _=>by omega⟩
theorem Ei {n:Int}(hn:n∈aH S.P):dH n:=by
 unfold aH at hn
 obtain ⟨h1,_⟩:=List.mem_filter.1 hn
 obtain ⟨i,h2,rfl⟩:=List.mem_map.1 h1
 have:=List.mem_range.1 h2
 unfold dH
 omega
theorem aaE:eB 0 0 51:=fun {w m H S q A p o cb nv tv ns ts word on} h hk ho hq sg hn ht hi hs g hw=>by
 obtain rfl:=List.eq_nil_of_length_eq_zero hn
 obtain rfl:=List.eq_nil_of_length_eq_zero ht
 rcases Nat.lt_or_ge (aH S.P).length 24 with hc|hc
 ·have hl:dH (aL S.P):=by
   unfold aL
   cases hf:((List.range 24).map (fun i:Nat=>(i:Int)+1)).find? (fun n=>!(S.P n).isSome) with
   |none=>exact i0
   |some n=>
    obtain ⟨i,h2,rfl⟩:=List.mem_map.1 (List.mem_of_find?_eq_some hf)
    have:=List.mem_range.1 h2
    simp only [Option.getD_some]
    unfold dH
    omega
  refine (Sd (R:=fun L c w'=>∃S2,(L=[aL S.P]∧c=0∧S2=gL S p o)∧pO w m H q A S2 w') g (by omega) (fun V b9=>xc b9 1 (((h.below b9).XV ho hq hc).mono ?_)) yI).mono fun e w' z=>rq (f:=rV) rfl (by unfold rV;rw [if_pos hc];rfl) i0 (fun _ n hn=>by rw [List.mem_singleton.1 hn];exact hl) (by simp) hw z
  rintro y w' ⟨rfl,H',A',e,k,st⟩
  exact ⟨_,0,_,rfl,rfl,fun _ n hn=>by rw [List.mem_singleton.1 hn];exact hl,⟨rfl,rfl,rfl⟩,_,H',A',e,Nat.le_refl _,k,st⟩
 ·refine (Sd (R:=fun L c w'=>∃S2,(L=[0]∧c=12∧S2=S)∧pO w m H q A S2 w') g (by omega) (fun V b9=>xc b9 1 (((h.below b9).PL ho hc).mono ?_)) yI).mono fun e w' z=>rq (f:=rV) rfl (L0:=[0]) (c0:=12) (S':=S) (by unfold rV;rw [if_neg (by omega)];rfl) (by unfold dH;omega) (fun h=>by omega) (by simp) hw z
  rintro y w' ⟨rfl,A',k,st⟩
  exact ⟨[0],12,_,rfl,rfl,fun h=>by omega,⟨rfl,rfl,rfl⟩,_,H,A',⟨rfl,rfl⟩,by omega,k,st⟩
theorem aav:eB 0 0 70:=fun {w m H S q A p o cb nv tv ns ts word on} h hk ho hq sg hn ht hi hs g hw=>by
 obtain rfl:=List.eq_nil_of_length_eq_zero hn
 obtain rfl:=List.eq_nil_of_length_eq_zero ht
 have hl:∀n∈[(bC S.P p).1,(bC S.P p).2.1],dH n:=by
  unfold bC
  split
  ·simp [i0]
  ·cases hf:(aH S.P).find? (BL S.P p) with
   |none=>simp [i0]
   |some n=>
    have hm:=List.mem_of_find?_eq_some hf
    have hcd:dH (BM S.P n):=by
     unfold BM
     cases hp:S.P n with
     |none=>exact i0
     |some y=>exact sg.c n y hp
    intro z hz
    simp only [List.mem_cons,List.not_mem_nil,or_false] at hz
    rcases hz with rfl|rfl
    ·exact Ei hm
    ·exact hcd
 refine (abg (R:=fun L c w'=>∃S2,(L=[(bC S.P p).1,(bC S.P p).2.1]∧c=(bC S.P p).2.2.1∧S2=S.procs (bC S.P p).2.2.2)∧pO w m H q A S2 w') g (by omega) (fun V b9=>xc b9 2 (((h.below b9).Sw ho).mono ?_)) yI).mono fun e w' z=>rq (f:=Lr) rfl rfl (Er.i64 VV) (fun _=>hl) (by simp) hw z
 rintro y w' ⟨rfl,A',k,st⟩
 exact ⟨_,_,_,rfl,rfl,fun _=>hl,⟨rfl,rfl,rfl⟩,_,H,A',⟨rfl,rfl⟩,by omega,k,st⟩
theorem o_load:eB 2 0 57:=fun {w m H S q A p o cb nv tv ns ts word on} h hk ho hq sg hn ht hi hs g hw=>by
 obtain ⟨a,b,rfl⟩:=Dx hn
 obtain rfl:=List.eq_nil_of_length_eq_zero ht
 have hl:∀n∈[jf (aC S o.j) S.W a b],dH n:=fun n hn=>by rw [List.mem_singleton.1 hn];exact sg.w.load _ _ _
 refine (abo (R:=fun L c w'=>∃S2,(L=[jf (aC S o.j) S.W a b]∧c=dN (aC S o.j) a b 1∧S2=S)∧pO w m H q A S2 w') g (by omega) (fun V b9=>xc b9 1 (((h.below b9).1.Ud ho a b (uq (hi a (by simp)))).mono ?_)) yI).mono fun e w' z=>rq (f:=FO) rfl rfl (Er.i64 (aac _)) (fun _=>hl) (by simp) hw z
 rintro y w' ⟨rfl,bb⟩
 exact ⟨_,_,_,rfl,rfl,fun _=>hl,⟨rfl,rfl,rfl⟩,q,H,A,⟨rfl,rfl⟩,by omega,(h.below b9).below bb,.below bb⟩
theorem mG (N:Ns) (hl:N.length=8):dH (ai N):=by
 have:∀N:Ns,-1≤ai N∧ai N≤N.length:=fun N=>by
  induction N with
  |nil=>simp [ai]
  |cons x N ih=>
   unfold ai
   simp only [List.length_cons]
   repeat' split
   all_goals omega
 have:=this N
 unfold dH
 omega
theorem adg:eB 1 0 47:=fun {w m H S q A p o cb nv tv ns ts word on} h hk ho hq sg hn ht hi hs g hw=>by
 obtain ⟨a,rfl⟩:=sw hn
 obtain rfl:=List.eq_nil_of_length_eq_zero ht
 have hl:∀n∈[ng S o a],dH n:=fun n hn=>by
  rw [List.mem_singleton.1 hn]
  unfold ng jv
  repeat' split
  ·exact mG _ (h.1.oW _)
  ·exact i0
  ·exact i0
 refine (adF (R:=fun L c w'=>∃S2,(L=[ng S o a]∧c=rW S o a∧S2=uB S o a)∧pO w m H q A S2 w') g (by omega) (fun V b9=>xc b9 1 (((h.below b9).X6 ho a).mono ?_)) yI).mono fun e w' z=>rq (f:=Q0) rfl rfl (Er.i64 abe) (fun _=>hl) (by simp) hw z
 rintro y w' ⟨rfl,A',k,st⟩
 exact ⟨_,_,_,rfl,rfl,fun _=>hl,⟨rfl,rfl,rfl⟩,_,H,A',⟨rfl,rfl⟩,Nat.le_refl _,k,st⟩
theorem WU:eB 1 1 71:=fun {w m H S q A p o cb nv tv ns ts word on} h hk ho hq sg hn ht hi hs g hw=>by
 obtain ⟨a,rfl⟩:=sw hn
 obtain ⟨s,rfl⟩:=sw ht
 have hs9:=hs s (by simp)
 have hl:∀n∈[(xW S o a s).1],dH n:=fun n hn=>by
  rw [List.mem_singleton.1 hn]
  have:0≤(xW S o a s).1∧(xW S o a s).1≤100000:=by
   unfold xW bZ Nf
   repeat' split
   all_goals constructor<;>simp<;>omega
  unfold dH
  omega
 refine (Yg (R:=fun L c w'=>∃S2,(L=[(xW S o a s).1]∧c=(xW S o a s).2.1∧S2=jY S p o a s)∧pO w m H q A S2 w') g (by omega) (fun V b9=>xc b9 1 (((h.below b9).Ny ho a s hs9).mono ?_)) yI).mono fun e w' z=>rq (f:=yO) rfl rfl (Er.i64 (acZ _ _)) (fun _=>hl) (by simp) hw z
 rintro y w' ⟨rfl,A',k,st⟩
 exact ⟨_,_,_,rfl,rfl,fun _=>hl,⟨rfl,rfl,rfl⟩,_,H,A',⟨rfl,rfl⟩,Nat.le_refl _,k,st⟩
theorem aaz:eB 1 1 61:=fun {w m H S q A p o cb nv tv ns ts word on} h hk ho hq sg hn ht hi hs g hw=>by
 obtain ⟨a,rfl⟩:=sw hn
 obtain ⟨s,rfl⟩:=sw ht
 obtain ⟨n,hN⟩:=h.1.yF
 obtain ⟨k,hT⟩:=h.1.gQ
 have hl:∀x c S2,FV S o n k s a on x c S2→dH x∧dH c:=fun x c S2 hr=>by
  rcases hr with ⟨_,rfl,rfl,_⟩|⟨_,D',N',f,_⟩
  ·exact ⟨i0,by unfold dH;omega⟩
  ·cases f
   ·exact ⟨i0,by unfold dH;omega⟩
   ·exact ⟨i0,by unfold dH;omega⟩
   ·exact ⟨i0,Er.i64 (Ew _ _)⟩
   ·exact ⟨i0,Er.i64 (XQ _ _ _)⟩
   ·exact ⟨mG _ (h.1.oW _),i0⟩
   ·exact ⟨i0,Er.i64 (MC _ _ _)⟩
   ·exact ⟨mG _ (h.1.oW _),i0⟩
 refine (abm (R:=fun L c w'=>∃S2,(∃x,L=[x]∧FV S o n k s a on x c S2)∧pO w m H q A S2 w') g (by omega) (fun V b9=>xc b9 1 (((h.below b9).UA ho hq hN hT s (hs s (by simp)) a on).mono ?_)) yI).mono ?_
 ·rintro y w' ⟨x,c,S',rfl,r,A',k',st⟩
  exact ⟨_,c,_,rfl,rfl,fun _ n hn=>by rw [List.mem_singleton.1 hn];exact (hl _ _ _ r).1,⟨x,rfl,r⟩,_,H,A',⟨rfl,rfl⟩,Nat.le_refl _,k',st⟩
 ·rintro e w' ⟨L,c,h1,S2,⟨x,rfl,r⟩,h3⟩
  have hx:=hl _ _ _ r
  exact ⟨_,_,sH h1 hx.2,⟨n,k,x,c,hN,hT,r,rfl⟩,h3,o6 hx.2 fun _=>by have:=iG (L:=[x]) (fun n hn=>by rw [List.mem_singleton.1 hn];exact hx.1);rw [List.length_append];simp only [List.length_cons,List.length_nil] at this;omega⟩
theorem aay:eB 0 0 62:=fun {w m H S q A p o cb nv tv ns ts word on} h hk ho hq sg hn ht hi hs g hw=>by
 obtain rfl:=List.eq_nil_of_length_eq_zero hn
 obtain rfl:=List.eq_nil_of_length_eq_zero ht
 obtain ⟨n,hN⟩:=h.1.yF
 have hl:∀x y c S2,uC S o n x y c S2→(∀z∈[x,y],dH z)∧dH c:=fun x y c S2 hr=>by
  rcases hr with ⟨_,rfl,rfl,rfl,_⟩|⟨_,D',N',f,_⟩
  ·exact ⟨by simp [i0],by unfold dH;omega⟩
  ·rcases f with ⟨_,rfl,rfl,rfl,_,_⟩|⟨_,rfl,rfl,rfl,_,_⟩
   ·exact ⟨by simp [i0],by unfold dH;omega⟩
   ·refine ⟨fun z hz=>?_,i0⟩
    simp only [List.mem_cons,List.not_mem_nil,or_false] at hz
    rcases hz with rfl|rfl
    ·exact mG _ (h.1.oW _)
    ·refine mG _ ?_
     unfold dK addN
     repeat' split
     all_goals first|exact h.1.oW _|(rw [List.length_set];exact h.1.oW _)
 refine (abk (R:=fun L c w'=>∃S2,(∃x y,L=[x,y]∧uC S o n x y c S2)∧pO w m H q A S2 w') g (by omega) (fun V b9=>xc b9 2 (((h.below b9).zA ho hq hN).mono ?_)) yI).mono ?_
 ·rintro z w' ⟨x,y,c,S',rfl,r,A',k',st⟩
  exact ⟨_,c,_,rfl,rfl,fun _=>(hl _ _ _ _ r).1,⟨x,y,rfl,r⟩,_,H,A',⟨rfl,rfl⟩,Nat.le_refl _,k',st⟩
 ·rintro e w' ⟨L,c,h1,S2,⟨x,y,rfl,r⟩,h3⟩
  have hx:=hl _ _ _ _ r
  exact ⟨_,_,sH h1 hx.2,⟨n,x,y,c,hN,r,rfl⟩,h3,o6 hx.2 fun _=>by have:=iG hx.1;rw [List.length_append];simp only [List.length_cons,List.length_nil] at this;omega⟩
theorem dP.went {p a k v er:Int}{L:List Int}(r:dP p a k v S L er S'):L.Nodup∧∀n∈L,(S.O n).isSome=true:=by
 induction r with
 |done ho h h12=>exact ⟨List.nodup_nil,fun n hn=>by cases hn⟩
 |nobody ho h hv=>exact ⟨List.nodup_nil,fun n hn=>by cases hn⟩
 |self ho h hv he=>exact ⟨by simp,fun n hn=>by rw [List.mem_singleton.1 hn,ho];rfl⟩
 | @goes S o x ox L er S' ho h hv he hx h1 hne r ih=>
  obtain ⟨h2,h3⟩:=ih
  have hO:∀n,((dD S x ox 108).O n).isSome=true→n≠x∧(S.O n).isSome=true:=fun n hn=>by
   change (jK S.O x n).isSome=true at hn
   unfold jK at hn
   split at hn
   ·cases hn
   ·exact ⟨by assumption,hn⟩
  exact ⟨List.nodup_cons.2 ⟨fun hm=>(hO _ (h3 _ hm)).1 rfl,h2⟩,fun n hn=>by
   rcases List.mem_cons.1 hn with rfl|hn
   ·rw [hx];rfl
   ·exact (hO n (h3 n hn)).2⟩
theorem F3 (h:KN w m H S q A) {p a k v er:Int}{L:List Int}(r:dP p a k v S L er S'):L.length≤24∧∀n∈L,dH n:=by
 obtain ⟨h1,h2⟩:=r.went
 have hk:∀n∈L,1≤n∧n≤24:=fun n hn=>by
  obtain ⟨o,ho⟩:=Option.isSome_iff_exists.1 (h2 n hn)
  exact h.1.key ho
 have h3:=lD (b:=(List.range 24).map (fun i:Nat=>(i:Int)+1)) h1 (fun x hx=>by
  have:=hk x hx
  exact List.mem_map.2 ⟨(x-1).toNat,List.mem_range.2 (by omega),by omega⟩)
 simp only [List.length_map,List.length_range] at h3
 exact ⟨h3,fun n hn=>by have:=hk n hn;unfold dH;omega⟩
theorem VY (Q:PM) (a b:Int):Er (dN Q a b 2):=by
 unfold dN
 repeat' split
 all_goals (unfold Er;omega)
theorem SX {p a k v er:Int}{L:List Int}(r:dP p a k v S L er S'):dH er:=by
 induction r with
 |done ho h h12=>
  rcases h with ⟨_,rfl,_⟩|⟨_,_,_,rfl,_⟩|⟨_,_,_,rfl,_⟩|⟨_,_,x,_,_,rfl,_,_⟩
  all_goals first|exact Er.i64 (VY _ _ _) | (unfold dH;omega)
 |nobody ho h hv=>unfold dH;omega
 |self ho h hv he=>unfold dH;omega
 |goes ho h hv he hx h1 hne r ih=>exact ih
theorem WX:eB 3 0 67:=fun {w m H S q A p o cb nv tv ns ts word on} h hk ho hq sg hn ht hi hs g hw=>by
 obtain ⟨a,b,v,rfl⟩:=ZP hn
 obtain rfl:=List.eq_nil_of_length_eq_zero ht
 refine (Yi (R:=fun L c w'=>∃S2,dP p a b v S L c S2∧pO w m H q A S2 w') g (by omega) (fun V b9=>((h.below b9).Oa ho hq a b v (uq (hi a (by simp)))).mono ?_) yI).mono ?_
 ·rintro y w' ⟨vw,er,rfl,L,S',A',r,YK,k',st⟩
  have hf:=F3 h r
  obtain ⟨ad,cap,rfl,hL⟩:=BO.row YK.row
  exact ⟨ad,L,cap,er,rfl,by omega,hf.2,hL,⟨S',r,(pO.mk k' (by omega) st).before b9⟩,st.wt⟩
 ·rintro e w' ⟨L,c,h1,S2,r,h3⟩
  have hf:=F3 h r
  have hc:=SX r
  have hl:=iG hf.2
  have he:=jQ hc
  refine ⟨Fy word L c,S2,?_,⟨L,c,r,rfl⟩,h3,?_⟩
  ·unfold Fy
   rcases h1 with ⟨rfl,rfl⟩|⟨h0,rfl,rfl⟩|⟨h0,h2,h4,h5,ad,cap,rfl,h6⟩
   ·rw [if_pos rfl];exact rfl
   ·rw [if_neg h0,if_pos rfl];exact ⟨rfl,hc⟩
   ·rw [if_neg h0,if_neg h2];exact ⟨ad,cap,rfl,h6,h4,h5,hc⟩
  ·unfold Fy
   repeat' split
   ·simp only [gy,List.length_append];omega
   ·simp only [gy];omega
   ·simp only [gy,Lp,List.length_append,List.length_cons,List.length_nil];omega
theorem Tq (h:KN w m H S q A) (N:Ns) (x a:Int):(bR S.D N x a).1.length≤256:=by
 unfold bR
 split
 ·split
  ·simp
  ·rename_i e he
   split
   ·simp
   ·split
    ·unfold eU
     split
     ·rename_i bb xx hT
      split
      ·simp
      ·have:=(h.1.inv.core.sm.2 _ _ _ hT).2
       simp only [List.length_take,List.length_drop]
       omega
     ·simp
    ·rename_i hk
     split
     ·simp
     ·rename_i pp hp
      obtain ⟨_,_,y,hy,hy2,_⟩:=(h.1.inv.core.gF _ _ he).pipe hk
      rw [hp] at hy
      cases hy
      simp only [List.length_take]
      omega
 ·simp
theorem aax:eB 2 0 64:=fun {w m H S q A p o cb nv tv ns ts word on} h hk ho hq sg hn ht hi hs g hw=>by
 obtain ⟨a,b,rfl⟩:=Dx hn
 obtain rfl:=List.eq_nil_of_length_eq_zero ht
 have hl:=Tq h (au S o.j) a b
 refine (abj (R:=fun z c w'=>∃S2,(z=(bR S.D (au S o.j) a b).1∧c=(bR S.D (au S o.j) a b).2.1∧S2=S.files (bR S.D (au S o.j) a b).2.2 o.j (au S o.j))∧pO w m H q A S2 w') g (by omega) (fun V b9=>((h.below b9).Tp ho a b).mono ?_) yI).mono ?_
 ·rintro y w' ⟨rfl,A',k',st⟩
  exact ⟨_,_,rfl,by omega,⟨_,⟨rfl,rfl,rfl⟩,(pO.mk k' (by omega) st).before b9⟩,st.wt⟩
 ·rintro e w' ⟨z,c,h1,S2,⟨rfl,rfl,rfl⟩,h3⟩
  have hc:=Er.i64 (ac7 S.D (au S o.j) (a:=a) (b:=b))
  exact ⟨_,_,sH h1 hc,⟨rfl,rfl⟩,h3,o6 hc fun _=>by have:=Cj (bR S.D (au S o.j) a b).1;simp only [List.length_append,List.length_cons,List.length_nil];omega⟩
theorem O5 (h:KN w m H S q A) (hq:q≤400) (x:Int):(o7 S.D.T x).length≤800∧∀z∈o7 S.D.T x,z.length≤12:=by
 unfold o7
 split
 ·rename_i C hC
  have h1:=h.1.inv.core.sm.1 _ _ hC
  refine ⟨by rw [Pd];omega,fun z hz=>?_⟩
  unfold uz uN at hz
  obtain ⟨y,hy,rfl⟩:=List.mem_map.1 (List.mem_mergeSort.1 hz)
  exact (dU (h.1.inv.core.lv.toTrOk.name _ _ _ hC hy)).2
 ·simp
theorem Uq (t:az) {N:List az}(h:∀x∈N,x.length≤12):(uA (t :: N)).length≤t.length+13*N.length:=by
 unfold uA
 rw [Lib.join_cons,List.length_append]
 have:(Lib.joinTail [32] N).length≤13*N.length:=by
  unfold Lib.joinTail
  induction N with
  |nil=>simp
  |cons x N ih=>
   have h1:=h x List.mem_cons_self
   have h2:=ih fun y hy=>h y (List.mem_cons_of_mem _ hy)
   simp only [List.map_cons,List.flatten_cons,List.length_append,List.length_cons,List.length_nil] at h2 ⊢
   omega
 omega
theorem aaB:eB 0 1 56:=fun {w m H S q A p o cb nv tv ns ts word on} h hk ho hq sg hn ht hi hs g hw=>by
 obtain rfl:=List.eq_nil_of_length_eq_zero hn
 obtain ⟨s,rfl⟩:=sw ht
 have hf:=O5 h hq (aF S.D.T s).1
 refine (abp (R:=fun N c w'=>∃S2,(N=o7 S.D.T (aF S.D.T s).1∧c=mZ S.D.T s∧S2=S)∧pO w m H q A S2 w') g (by omega) (fun V b9=>((h.below b9).1.Uf ho hq s (hs s (by simp))).mono ?_) yI).mono ?_
 ·rintro y w' ⟨hL,bb⟩
  have hx:pO w m H q A S w':=(pO.same (h.below b9) bb).before b9
  rcases hL with ⟨h0,rfl⟩|⟨h0,v,C,hC,rfl,hT⟩
  ·exact ⟨_,_,mZ S.D.T s,0,by rw [ax h0],fun z=>absurd z h0,⟨S,⟨rfl,rfl,rfl⟩,hx⟩,.below A bb⟩
  ·have hN:o7 S.D.T (aF S.D.T s).1=uz C:=by unfold o7;rw [hC]
   exact ⟨v,_,0,_,by rw [aB],fun _=>⟨by rw [hN];exact hT,by omega,fun z hz=>by have:=hf.2 z hz;omega⟩,⟨S,⟨rfl,h0.symm,rfl⟩,hx⟩,.below A bb⟩
 ·rintro e w' ⟨N,c,h1,S2,⟨rfl,rfl,rfl⟩,h3⟩
  have hc:=Er.i64 (Xz S2.D.T s)
  exact ⟨_,_,sH h1 hc,⟨rfl,rfl⟩,h3,o6 hc fun _=>by
   have:=Uq word hf.2
   have:=hf.1
   omega⟩
end
structure Good (S:KS):Prop where
 pg:jh S
 lie:QN S
theorem KN.good {w:World}{m:Int}{H:KH}{S:KS}{q:Nat}{A:Nat→Prop}(h:KN w m H S q A):Good S:=by
 refine ⟨fun P hP=>?_,h.lie⟩
 obtain ⟨j,hj,rfl⟩:=List.getElem_of_mem hP
 have:=(h.1.pages (o:=⟨j,fun _=>0,0⟩) (by show j<S.Ts.length;rw [←h.lie.len];exact hj)).1
 change lN S.n (aC S j) at this
 rw [pQ hj] at this
 exact this
noncomputable def nP (S:KS) (p:Int):KS:=if p=1 then S.procs (iZ S.P 1) else S
inductive ja (S:KS) (p:Int) (ws:List az):wZ→KS→Prop
 |no (h:ws=[]∨∃x rest,ws=x :: rest∧bq x df=none):ja S p ws (.bad 3) S
 |nobody {x:az}{rest:List az}{y:az×Nat}(hw:ws=x :: rest) (hf:bq x df=some y) (ho:S.O p=none):ja S p ws (.bad 7) S
 |ends {x:az}{rest:List az}{y:az×Nat}{o:Ow}(hw:ws=x :: rest) (hf:bq x df=some y) (ho:S.O p=some o) (h1:p≠1) (hs:aO S.P p≠0):ja S p ws (.say [101,110,100,101,100]) (dD (S.procs (dS S.P p)) p o (100+aO S.P p))
 |form {x:az}{rest:List az}{y:az×Nat}{o:Ow}(hw:ws=x :: rest) (hf:bq x df=some y) (ho:S.O p=some o) (hq:p=1∨aO S.P p=0) (hp:gK y.1 rest=none):ja S p ws (.bad 3) (nP S p)
 |tell {x:az}{rest:List az}{y:az×Nat}{o:Ow}{ns:List Int}{ts:List az}{on:Bool}{r:wZ}{S':KS}(hw:ws=x :: rest) (hf:bq x df=some y) (ho:S.O p=some o) (hq:p=1∨aO S.P p=0) (hp:gK y.1 rest=some (ns,ts,on)) (hr:yD y.2 (nP S p) p o x ns ts on r S'):ja S p ws r S'
inductive jB (k:Nat) (S:KS) (word:az) (ns:List Int):wZ→KS→Prop
 |free {a b:Nat}(hk:k=40) (ha:p9 S.D.E a) (hb:dF S.D.T b):jB k S word ns (.say (word ++ aQ [((S.n-used (bI S.Ms) S.n:Nat):Int),(a:Int),(b:Int)])) S
 |BK {x:Int}(hk:k=41) (hn:ns=[x]) (ho:S.O x=none):jB k S word ns (.bad 7) S
 |has {x:Int}{o:Ow}(hk:k=41) (hn:ns=[x]) (ho:S.O x=some o):jB k S word ns (.say (word ++ aQ [((bX (aC S o.j):Nat):Int),((gM (aC S o.j):Nat):Int),((ak (au S o.j):Nat):Int)])) S
 |QY (hk:k=42):jB k S word ns (.say Rp) S
 |BI {x:Int}(hk:k=43) (hn:ns=[x]) (h:¬(1≤x∧x≤256)):jB k S word ns (.bad 2) S
 |new {x:Nat}(hk:k=43) (hn:ns=[(x:Int)]) (h:1≤x∧x≤256):jB k S word ns (.say word) (eG x)
 |si (hk:k=44):jB k S word ns (.say (word ++ aQ (mY (aH S.P) (nN S.P)))) S
inductive ji (S:KS) (line:az):wZ→KS→Prop
 |empty (h:bJ line=[]):ji S line (.say [111,107]) S
 |call {x:az}{rest:List az}{p:Int}{r:wZ}{S':KS}(h:bJ line=x :: rest) (hn:gQ x=some p) (hs:ja S p rest r S'):ji S line r S'
 |bad {x:az}{rest:List az}(h:bJ line=x :: rest) (hn:gQ x=none) (hf:bq x dJ=none∨∃y,bq x dJ=some y∧gK y.1 rest=none):ji S line (.bad 3) S
 |thing {x:az}{rest:List az}{y:az×Nat}{ns:List Int}{ts:List az}{on:Bool}{r:wZ}{S':KS}(h:bJ line=x :: rest) (hn:gQ x=none) (hf:bq x dJ=some y) (hp:gK y.1 rest=some (ns,ts,on)) (ht:jB y.2 S x ns r S'):ji S line r S'
section
variable {S1 S2 Dq S2':KS}{r1 r2:wZ}{p:Int}{ws:List az}{k:Nat}{word line:az}{ns:List Int}
theorem Ci (n:Nat):I4 (eG n) (eG n):=by
 have h0:∀f,0≤f→bI (eG n).Ms f=0:=fun f hf=>by
  show bI [lG] f=0
  have h1:sh lG f=0:=qD hf
  simp [bI,h1]
 refine ⟨id,rfl,rfl,rfl,rfl,rfl,?_,fun f g hf _ h=>?_,fun f hf h=>?_,fun _ _ _ _=>rfl⟩
 ·show [lG]=[lG].map (mX id)
  have:mX id lG=lG:=by funext a;rfl
  rw [List.map_singleton,this]
 ·rw [h0 f hf] at h;omega
 ·rw [h0 f hf] at h;omega
theorem Good.sig (g:Good S1) (p:Int):Good (nP S1 p):=by
 unfold nP
 split
 ·exact ⟨g.pg,g.lie.len,g.lie.lt,g.lie.inj⟩
 ·exact g
theorem Ma (h:I4 S1 S2) (p:Int):I4 (nP S1 p) (nP S2 p):=by
 obtain ⟨π,h⟩:=h
 unfold nP
 split
 ·rw [h.P];exact ⟨π,h.procs _⟩
 ·exact ⟨π,h⟩
theorem YT (S:KS) (p:Int):(nP S p).O=S.O:=by unfold nP;split<;>rfl
theorem nU {x:az}{rest:List az}{y:az×Nat}(h:ws=[]∨∃x rest,ws=x :: rest∧bq x df=none) (hw:ws=x :: rest) (hf:bq x df=some y):False:=by
 rcases h with rfl|⟨x',rest',rfl,h⟩
 ·cases hw
 ·cases hw;rw [h] at hf;cases hf
theorem uL {x x':az}{rest rest':List az}{y y':az×Nat}{T:Lm}(hw:ws=x :: rest) (hf:bq x T=some y) (hw':ws=x' :: rest') (hf':bq x' T=some y'):x=x'∧rest=rest'∧y=y':=by
 subst hw
 cases hw'
 rw [hf] at hf'
 exact ⟨rfl,rfl,Option.some.inj hf'⟩
theorem ja.ZE (hs:I4 S1 S2) (g:Good S1) (h1:ja S1 p ws r1 Dq) (h2:ja S2 p ws r2 S2'):r1=r2∧I4 Dq S2':=by
 have hs':=hs
 obtain ⟨π,hf⟩:=hs'
 have eP:=hf.P
 have eO:=hf.O
 cases h1 with
 |no h=>
  cases h2 with
  |no h'=>exact ⟨rfl,hs⟩
  |nobody hw hf'=>exact (nU h hw hf').elim
  |ends hw hf'=>exact (nU h hw hf').elim
  |form hw hf'=>exact (nU h hw hf').elim
  |tell hw hf'=>exact (nU h hw hf').elim
 |nobody hw hf' ho=>
  cases h2 with
  |no h'=>exact (nU h' hw hf').elim
  |nobody hw hf'=>exact ⟨rfl,hs⟩
  |ends _ _ ho'=>rw [eO,ho] at ho';cases ho'
  |form _ _ ho'=>rw [eO,ho] at ho';cases ho'
  |tell _ _ ho'=>rw [eO,ho] at ho';cases ho'
 |ends hw hf' ho h1 hs9=>
  cases h2 with
  |no h'=>exact (nU h' hw hf').elim
  |nobody _ _ ho'=>rw [eO,ho] at ho';cases ho'
  |ends _ _ ho' h1' Nn=>
   rw [eO,ho] at ho';cases ho'
   rw [eP]
   exact ⟨rfl,π,aX.ends (hf.procs (dS S1.P p)) (g.lie.ms ho) _ _⟩
  |form _ _ _ hq=>rw [eP] at hq;rcases hq with hq|hq;exact absurd hq h1;exact absurd hq hs9
  |tell _ _ _ hq=>rw [eP] at hq;rcases hq with hq|hq;exact absurd hq h1;exact absurd hq hs9
 |form hw hf' ho hq hp=>
  cases h2 with
  |no h'=>exact (nU h' hw hf').elim
  |nobody _ _ ho'=>rw [eO,ho] at ho';cases ho'
  |ends _ _ _ h1' Nn=>rw [eP] at Nn;rcases hq with hq|hq;exact absurd hq h1';exact absurd hq Nn
  |form=>exact ⟨rfl,Ma hs p⟩
  |tell hw' QX _ _ hp'=>
   obtain ⟨rfl,rfl,rfl⟩:=uL hw hf' hw' QX
   rw [hp] at hp';cases hp'
 |tell hw hf' ho hq hp hr=>
  cases h2 with
  |no h'=>exact (nU h' hw hf').elim
  |nobody _ _ ho'=>rw [eO,ho] at ho';cases ho'
  |ends _ _ _ h1' Nn=>rw [eP] at Nn;rcases hq with hq|hq;exact absurd hq h1';exact absurd hq Nn
  |form hw' QX _ _ hp'=>
   obtain ⟨rfl,rfl,rfl⟩:=uL hw hf' hw' QX
   rw [hp] at hp';cases hp'
  |tell hw' QX ho' _ hp' hr'=>
   obtain ⟨rfl,rfl,rfl⟩:=uL hw hf' hw' QX
   rw [hp] at hp';cases hp'
   rw [eO,ho] at ho';cases ho'
   exact (Gj _).nY (Ma hs p) (g.sig p).pg (g.sig p).lie (by rw [YT];exact ho) hr hr'
theorem jB.ZE (hs:I4 S1 S2) (g:Good S1) (h1:jB k S1 word ns r1 Dq) (h2:jB k S2 word ns r2 S2'):r1=r2∧I4 Dq S2':=by
 have hs':=hs
 obtain ⟨π,hf⟩:=hs'
 have eP:=hf.P
 have eO:=hf.O
 have eD:=hf.D
 cases h1 with
 |free hk ha hb=>
  cases h2 with
  |free _ ha' hb'=>
   rw [eD] at ha' hb'
   obtain rfl:=p9.one ha ha'
   obtain rfl:=p9.one (F:=S1.D.T) hb hb'
   rw [hf.n,hf.used g.pg]
   exact ⟨rfl,hs⟩
  |_=>exfalso;omega
 |BK hk hn ho=>
  cases h2 with
  |BK=>exact ⟨rfl,hs⟩
  |has _ hn' ho'=>subst hn;cases hn';rw [eO,ho] at ho';cases ho'
  |_=>exfalso;omega
 |has hk hn ho=>
  cases h2 with
  |BK _ hn' ho'=>subst hn;cases hn';rw [eO,ho] at ho';cases ho'
  |has _ hn' ho'=>
   subst hn;cases hn';rw [eO,ho] at ho';cases ho'
   rw [hf.res g.pg (g.lie.ms ho),hf.YH,hf.IU,RZ]
   exact ⟨rfl,hs⟩
  |_=>exfalso;omega
 |QY hk=>
  cases h2 with
  |QY=>exact ⟨rfl,hs⟩
  |_=>exfalso;omega
 |BI hk hn h=>
  cases h2 with
  |BI=>exact ⟨rfl,hs⟩
  |new _ hn' h'=>subst hn;cases hn';exfalso;omega
  |_=>exfalso;omega
 |new hk hn h=>
  cases h2 with
  |BI _ hn' h'=>subst hn;cases hn';exfalso;omega
  | @new x' _ hn' h'=>
   subst hn
   rename_i x _
   have:x=x':=by have:=(List.cons.inj hn').1;omega
   subst this
   exact ⟨rfl,Ci _⟩
  |_=>exfalso;omega
 |si hk=>
  cases h2 with
  |si=>rw [eP];exact ⟨rfl,hs⟩
  |_=>exfalso;omega
theorem ji.ZE (hs:I4 S1 S2) (g:Good S1) (h1:ji S1 line r1 Dq) (h2:ji S2 line r2 S2'):r1=r2∧I4 Dq S2':=by
 cases h1 with
 |empty h=>
  cases h2 with
  |empty=>exact ⟨rfl,hs⟩
  |call h'=>rw [h] at h';cases h'
  |bad h'=>rw [h] at h';cases h'
  |thing h'=>rw [h] at h';cases h'
 |call h hn hk=>
  cases h2 with
  |empty h'=>rw [h] at h';cases h'
  |call h' hn' hk'=>
   rw [h] at h';cases h'
   rw [hn] at hn';cases hn'
   exact hk.ZE hs g hk'
  |bad h' hn'=>rw [h] at h';cases h';rw [hn] at hn';cases hn'
  |thing h' hn'=>rw [h] at h';cases h';rw [hn] at hn';cases hn'
 |bad h hn hf=>
  cases h2 with
  |empty h'=>rw [h] at h';cases h'
  |call h' hn'=>rw [h] at h';cases h';rw [hn] at hn';cases hn'
  |bad=>exact ⟨rfl,hs⟩
  |thing h' hn' hf' hp'=>
   rw [h] at h';cases h'
   rcases hf with hf|⟨y,hf,hp⟩
   ·rw [hf] at hf';cases hf'
   ·rw [hf] at hf';cases hf';rw [hp] at hp';cases hp'
 |thing h hn hf hp ht=>
  cases h2 with
  |empty h'=>rw [h] at h';cases h'
  |call h' hn'=>rw [h] at h';cases h';rw [hn] at hn';cases hn'
  |bad h' hn' hf'=>
   rw [h] at h';cases h'
   rcases hf' with hf' | ⟨y,hf',hp'⟩
   ·rw [hf] at hf';cases hf'
   ·rw [hf] at hf';cases hf';rw [hp] at hp';cases hp'
  |thing h' hn' hf' hp' ht'=>
   rw [h] at h';cases h'
   rw [hf] at hf';cases hf'
   rw [hp] at hp';cases hp'
   exact ht.ZE hs g ht'
end
inductive iC:List az→az→KS→Prop
 |nil:iC [] [] (eG 32)
 |snoc {pre:List az}{out:az}{S:KS}{x:az}{r:wZ}{S':KS}(h:iC pre out S) (g:Good S) (hl:ji S x r S') (ha:(gy r).length≤50000):iC (pre ++ [x]) (out ++ (gy r ++ [10])) S'
theorem iC.ZE {L:List az}{o1 o2:az}{S1 S2:KS}(h1:iC L o1 S1) (h2:iC L o2 S2):o1=o2∧I4 S1 S2:=by
 induction h1 generalizing o2 S2 with
 |nil=>
  generalize hL:([]:List az)=L at h2
  cases h2 with
  |nil=>exact ⟨rfl,Ci 32⟩
  |snoc=>exact absurd hL.symm (by simp)
 | @snoc pre out S x r S' h g hl ha ih=>
  generalize hL:pre ++ [x]=L at h2
  cases h2 with
  |nil=>exact absurd hL (by simp)
  |snoc h' g' hl' _=>
   obtain ⟨e1,e2⟩:=List.append_inj' hL rfl
   subst e1
   cases e2
   obtain ⟨rfl,hs⟩:=ih h'
   obtain ⟨rfl,hs'⟩:=hl.ZE hs g hl'
   exact ⟨rfl,hs'⟩
theorem iC.pre {L:List az}{out:az}{S:KS}(h:iC L out S):∀ {A B:List az},L=A ++ B→∃o1 o2 S1,iC A o1 S1∧out=o1 ++ o2:=by
 induction h with
 |nil=>
  intro A B e
  obtain ⟨rfl,rfl⟩:=List.append_eq_nil_iff.1 e.symm
  exact ⟨[],[],_,.nil,rfl⟩
 | @snoc pre out S x r S' h g hl ha ih=>
  intro A B e
  rcases List.eq_nil_or_concat B with rfl|⟨B',z,rfl⟩
  ·rw [List.append_nil] at e
   subst e
   exact ⟨_,[],_,.snoc h g hl ha,(List.append_nil _).symm⟩
  ·rw [List.concat_eq_append,←List.append_assoc] at e
   obtain ⟨e1,_⟩:=List.append_inj' e rfl
   obtain ⟨o1,o2,S1,h1,rfl⟩:=ih e1
   exact ⟨o1,o2 ++ (gy r ++ [10]),S1,h1,by rw [List.append_assoc]⟩
theorem iC.len {L:List az}{out:az}{S:KS}(h:iC L out S):out.length≤L.length*50001:=by
 induction h with
 |nil=>simp
 |snoc h g hl ha ih=>simp only [List.length_append,List.length_cons,List.length_nil];omega
theorem iC.pieces {A B:List az}{o1 o2:az}{S1 S2:KS}(h:iC A o1 S1) (k:iC (A ++ B) o2 S2):∃z,o2=o1 ++ z:=by
 obtain ⟨x,z,S3,h3,rfl⟩:=k.pre rfl
 obtain ⟨rfl,_⟩:=h.ZE h3
 exact ⟨z,rfl⟩
structure CX (B:Nat) (w:World) (cb:Nat) (S:KS) (q:Nat) (m:Int) (H:KH) (A:Nat→Prop) (g1 g2:Nat):Prop where
 kn:KN w m H S q A
 ok:H.ok=true
 ck:Ck w cb H.kb g1 g2
 nc:¬A cb∧¬A g1∧¬A g2
 ne:cb≠g1∧cb≠g2
 big:9≤B∧B≤cb∧B≤g1∧B≤g2
 own:∀i,A i→B≤i
 gl:GL w
 sg:SG S
def CF (A:Nat→Prop) (cb g1 g2:Nat):Nat→Prop:=fun i=>A i∨i=cb∨i=g1∨i=g2
section
variable {B q q' cb g1 g2:Nat}{w w' W V V':World}{S S':KS}{m:Int}{H H':KH}{A A':Nat→Prop}{U:Nat→Nat→Int}{p:Int}{line:az}
theorem KX.wt {F:Nat→Prop}(h:KX w m H S U q A) (k:Wt F w w') (hF:∀i,F i→¬A i∧9≤i):KX w' m H S U q A:=by
 obtain ⟨G,k9,e⟩:=h
 exact ⟨G,k9.same k.size (fun i hi=>k.block i (k9.Bd i hi) (fun z=>(hF i z).1 ((e i).2 hi))) (k.block _ k9.qi (fun z=>absurd (hF _ z).2 (by decide))) (k.block _ k9.qm (fun z=>absurd (hF _ z).2 (by decide))) (k.block _ k9.jX (fun z=>absurd (hF _ z).2 (by decide))),e⟩
theorem CX.Vt (h:CX B w cb S q m H A g1 g2):cb<w.heap.size∧g1<w.heap.size∧g2<w.heap.size:=⟨(Array.getElem?_eq_some_iff.1 h.ck.blk).1,h.ck.t1.lt,h.ck.t2.lt⟩
theorem CX.foot (h:CX B w cb S q m H A g1 g2):∀i,CF A cb g1 g2 i→B≤i∧i<w.heap.size:=fun i hi=>by
 have:=h.Vt
 have:=h.big
 rcases hi with hi|rfl|rfl|rfl
 ·exact ⟨h.own i hi,h.kn.1.lt i hi⟩
 all_goals omega
theorem Ck.keep (h:Ck w cb H.kb g1 g2) (e1:w'.heap[cb]? = w.heap[cb]?) (e2:w'.heap[g1]? = w.heap[g1]?) (e3:w'.heap[g2]? = w.heap[g2]?):Ck w' cb H.kb g1 g2:=⟨e1.trans h.blk,h.t1.keep e2,h.t2.keep e3⟩
theorem CX.wt {F:Nat→Prop}(h:CX B w cb S q m H A g1 g2) (k:Wt F w w') (hF:∀i,F i→¬CF A cb g1 g2 i∧9≤i):CX B w' cb S q m H A g1 g2:=by
 obtain ⟨l1,l2,l3⟩:=h.Vt
 exact ⟨⟨h.kn.1.wt k fun i hi=>⟨fun z=>(hF i hi).1 (.inl z),(hF i hi).2⟩,h.kn.2⟩,h.ok,h.ck.keep (k.block _ l1 fun z=>(hF _ z).1 (.inr (.inl rfl))) (k.block _ l2 fun z=>(hF _ z).1 (.inr (.inr (.inl rfl)))) (k.block _ l3 fun z=>(hF _ z).1 (.inr (.inr (.inr rfl)))),h.nc,h.ne,h.big,h.own,h.gl.wt k fun i hi=>(hF i hi).2,h.sg⟩
theorem CX.step (h:CX B W cb S q m H A g1 g2) (b:Below W.heap.size W V) (st:Stp V V' A A') (hH:H'.kb=H.kb∧H'.ok=H.ok) (k:KN V' m H' S' q' A') (sg:SG S'):CX B V' cb S' q' m H' A' g1 g2∧Stp W V' (CF A cb g1 g2) (CF A' cb g1 g2)∧nk W.heap.size V V':=by
 obtain ⟨l1,l2,l3⟩:=h.Vt
 have hb:=b.size
 have hbig:=h.big
 have wt:Wt A W V':=(Wt.below A b).trans st.wt
 have hn:∀i,i<W.heap.size→¬A i→¬A' i:=fun i h1 h2 z=>by
  rcases st.own i z with z|z
  ·exact h2 z
  ·omega
 have gl:GL V':=h.gl.wt wt fun i hi=>Nat.le_trans hbig.1 (h.own i hi)
 have ck:Ck V' cb H.kb g1 g2:=h.ck.keep (wt.block _ l1 h.nc.1) (wt.block _ l2 h.nc.2.1) (wt.block _ l3 h.nc.2.2)
 rw [←hH.1] at ck
 refine ⟨⟨k,hH.2.trans h.ok,ck,⟨hn _ l1 h.nc.1,hn _ l2 h.nc.2.1,hn _ l3 h.nc.2.2⟩,h.ne,hbig,fun i hi=>?_,gl,sg⟩,⟨⟨wt.os,wt.tape,wt.output,wt.size,fun i hi hn=>wt.block i hi fun z=>hn (.inl z)⟩,fun i hi=>?_⟩,fun i h1 h2=>st.wt.block i h2 fun z=>?_,st.wt.size,gl⟩
 ·rcases st.own i hi with z|z
  ·exact h.own i z
  ·omega
 ·rcases hi with hi|hi
  ·rcases st.own i hi with z|z
   ·exact .inl (.inl z)
   ·exact .inr (by omega)
  ·exact .inl (.inr hi)
 ·have:=h.kn.1.lt i z
  omega
def VD (B:Nat) (W:World) (cb:Nat) (S:KS) (q:Nat) (m:Int) (A:Nat→Prop) (g1 g2:Nat) (line:az) (r:wZ) (V:World):Prop:=
 ∃S' q' H' A',ji S line r S'∧CX B V cb S' q' m H' A' g1 g2∧Stp W V (CF A cb g1 g2) (CF A' cb g1 g2)∧¬A' W.heap.size∧7*q'≤7*q+line.length+1∧(gy r).length≤50000
theorem CX.still (h:CX B W cb S q m H A g1 g2) (b:Below W.heap.size W V) {r:wZ}(hL:ji S line r S) (ha:(gy r).length≤50000):VD B W cb S q m A g1 g2 line r V:=by
 obtain ⟨h1,h2,_⟩:=h.step (V':=V) b (.refl V A) ⟨rfl,rfl⟩ (h.kn.below b) h.sg
 exact ⟨S,q,H,A,hL,h1,h2,fun z=>by have:=h.kn.1.lt _ z;omega,by omega,ha⟩
theorem CX.goes (h:CX B W cb S q m H A g1 g2) (b:Below W.heap.size W V) (hV:W.heap.size<V.heap.size) (st:Stp V V' A A') (hH:H'.kb=H.kb∧H'.ok=H.ok) (k:KN V' m H' S' q' A') (sg:SG S') {r:wZ}(hL:ji S line r S') (hq:7*q'≤7*q+line.length+1) (ha:(gy r).length≤50000):VD B W cb S q m A g1 g2 line r V'∧nk W.heap.size V V':=by
 obtain ⟨h1,h2,h3⟩:=h.step b st hH k sg
 exact ⟨⟨S',q',H',A',hL,h1,h2,fun z=>by
  rcases st.own _ z with z|z
  ·have:=h.kn.1.lt _ z;omega
  ·omega,hq,ha⟩,h3⟩
theorem CX.Zb (h:CX B W cb S q m H A g1 g2) (b:Below W.heap.size W V) (b2:Below V.heap.size V V'):nk W.heap.size V V':=
 ⟨fun i _ h2=>b2.block i h2,b2.size,h.gl.below (b.trans (b2.mono b.size))⟩
theorem CX.gv (h:CX B W cb S q m H A g1 g2) {A1:Nat→Prop}{S1:KS}{q1:Nat}{V0 V1:World}(b:Below W.heap.size W V) (st:Stp V V0 A A1) (k:KN V0 m H S1 q1 A1) (b1:Below V0.heap.size V0 V1) {nv tv:Value}{ns:List Int}{ts:List az}{n0:Nat}(hn0:V0.heap.size≤n0∨V0=V∧A1=A∧W.heap.size≤n0) (hn1:n0≤V1.heap.size) (hn:V1.ownsRow n0 3 1 nv ns.length (ns.map (Value.int .i64))) (ht:V1.ownsRow n0 9 1 tv ts.length (ts.map fun x=>tx x)):Gv V1 A1 cb H.kb nv tv ns ts:=by
 obtain ⟨l1,l2,l3⟩:=h.Vt
 have hbig:=h.big
 have hb:=b.size
 have lt1:=k.1.lt
 have ge1:∀i,A1 i→9≤i:=fun i hi=>by
  rcases st.own i hi with z|z
  ·exact Nat.le_trans hbig.1 (h.own i z)
  ·omega
 have nc:¬A1 cb:=fun z=>by
  rcases st.own _ z with z|z
  ·exact h.nc.1 z
  ·omega
 have hA:∀i,A1 i→i<n0:=fun i hi=>by
  rcases hn0 with h0|⟨_,rfl,h0⟩
  ·have:=lt1 i hi;omega
  ·have:=h.kn.1.lt i hi;omega
 have wt:Wt A W V0:=(Wt.below A b).trans st.wt
 have c0:V1.cell? ⟨cb,0,none⟩=some (wp H.kb):=by
  rw [b1.cell (p:=⟨cb,0,none⟩) (by have:=wt.size;show cb<V0.heap.size;omega)]
  refine wt.cell (p:=⟨cb,0,none⟩) ?_ h.nc.1
  rw [Lib.cell_of_heap h.ck.blk];rfl
 exact ⟨fun i hi=>Nat.lt_of_lt_of_le (lt1 i hi) b1.size,ge1,(h.gl.wt wt fun i hi=>Nat.le_trans hbig.1 (h.own i hi)).below b1,nc,c0,.row hn hA hn1,.row ht hA hn1⟩
end
def cn:az→Nat
 | []=>0
 |c :: l=>if c=78 then cn l+1 else cn l
def ct:az→Nat
 | []=>0
 |c :: l=>if c=78 then ct l else if c=89 then ct l else ct l+1
theorem iL:∀(fs:az) (xs:List az) (ns:List Int) (ts:List az) (on:Bool) {ns':List Int}{ts':List az}{on':Bool},fK fs xs ns ts on=some (ns',ts',on')→(∀n∈ns,dH n)→(fs.length=xs.length∧ns'.length=ns.length+cn fs∧ts'.length=ts.length+ct fs∧(∀n∈ns',dH n)∧∀t∈ts',t∈ts∨t∈xs)
 | [],[],ns,ts,on,ns',ts',on',h,hn=>by
  cases h
  exact ⟨rfl,rfl,rfl,hn,fun t ht=>.inl ht⟩
 | [],_ :: _,ns,ts,on,ns',ts',on',h,hn=>by simp [fK] at h
 |_ :: _,[],ns,ts,on,ns',ts',on',h,hn=>by simp [fK] at h
 |f :: fs,x :: xs,ns,ts,on,ns',ts',on',h,hn=>by
  unfold fK at h
  unfold cn ct
  split at h
  ·rename_i hf
   split at h
   ·rename_i n hx
    obtain ⟨h1,h2,h3,h4,h5⟩:=iL fs xs _ _ _ h (fun z hz=>by
     rcases List.mem_append.1 hz with hz|hz
     ·exact hn z hz
     ·rw [List.mem_singleton.1 hz];exact Gx hx)
    rw [if_pos hf,if_pos hf]
    refine ⟨by simp [h1],by rw [h2,List.length_append];simp;omega,h3,h4,fun t ht=>?_⟩
    rcases h5 t ht with z|z
    ·exact .inl z
    ·exact .inr (List.mem_cons_of_mem _ z)
   ·cases h
  ·rename_i hf
   rw [if_neg hf,if_neg hf]
   split at h
   ·rename_i hf2
    rw [if_pos hf2]
    have fin:∀ {on9},fK fs xs ns ts on9=some (ns',ts',on')→((f :: fs).length=(x :: xs).length∧ns'.length=ns.length+cn fs∧ts'.length=ts.length+ct fs∧(∀n∈ns',dH n)∧∀t∈ts',t∈ts∨t∈x :: xs):=fun {on9} h=>by
     obtain ⟨h1,h2,h3,h4,h5⟩:=iL fs xs _ _ _ h hn
     refine ⟨by simp [h1],h2,h3,h4,fun t ht=>?_⟩
     rcases h5 t ht with z|z
     ·exact .inl z
     ·exact .inr (List.mem_cons_of_mem _ z)
    split at h
    ·exact fin h
    ·split at h
     ·exact fin h
     ·cases h
   ·rename_i hf2
    rw [if_neg hf2]
    obtain ⟨h1,h2,h3,h4,h5⟩:=iL fs xs _ _ _ h hn
    refine ⟨by simp [h1],h2,by rw [h3,List.length_append];simp;omega,h4,fun t ht=>?_⟩
    rcases h5 t ht with z|z
    ·rcases List.mem_append.1 z with z|z
     ·exact .inl z
     ·rw [List.mem_singleton.1 z];exact .inr List.mem_cons_self
    ·exact .inr (List.mem_cons_of_mem _ z)
theorem wQ {x:az}{y:az×Nat}:∀ {L:Lm},bq x L=some y→(x,y)∈L
 | [],h=>by cases h
 |z :: L,h=>by
  unfold bq at h
  split at h
  ·rename_i e
   cases h
   rw [e]
   exact List.mem_cons_self
  ·exact List.mem_cons_of_mem _ (wQ h)
theorem K8:∀z∈df,4≤z.1.length+z.2.1.length:=by decide
theorem Qq {x:az}{y:az×Nat}(h:bq x df=some y):eB (cn y.1) (ct y.1) y.2:=by
 have:∃i j,eB i j y.2∧cn y.1=i∧ct y.1=j:=by
  refine wR (X:=fun y=>∃i j,eB i j y.2∧cn y.1=i∧ct y.1=j) ?_ h
  unfold df
  refine List.forall_mem_cons.2 ⟨⟨_,_,WU,by decide,by decide⟩,?_⟩
  refine List.forall_mem_cons.2 ⟨⟨_,_,aav,by decide,by decide⟩,?_⟩
  refine List.forall_mem_cons.2 ⟨⟨_,_,WW,by decide,by decide⟩,?_⟩
  refine List.forall_mem_cons.2 ⟨⟨_,_,TI,by decide,by decide⟩,?_⟩
  refine List.forall_mem_cons.2 ⟨⟨_,_,WX,by decide,by decide⟩,?_⟩
  refine List.forall_mem_cons.2 ⟨⟨_,_,aaw,by decide,by decide⟩,?_⟩
  refine List.forall_mem_cons.2 ⟨⟨_,_,TJ,by decide,by decide⟩,?_⟩
  refine List.forall_mem_cons.2 ⟨⟨_,_,aax,by decide,by decide⟩,?_⟩
  refine List.forall_mem_cons.2 ⟨⟨_,_,OU,by decide,by decide⟩,?_⟩
  refine List.forall_mem_cons.2 ⟨⟨_,_,aay,by decide,by decide⟩,?_⟩
  refine List.forall_mem_cons.2 ⟨⟨_,_,aaz,by decide,by decide⟩,?_⟩
  refine List.forall_mem_cons.2 ⟨⟨_,_,WY,by decide,by decide⟩,?_⟩
  refine List.forall_mem_cons.2 ⟨⟨_,_,aaA,by decide,by decide⟩,?_⟩
  refine List.forall_mem_cons.2 ⟨⟨_,_,Ki,by decide,by decide⟩,?_⟩
  refine List.forall_mem_cons.2 ⟨⟨_,_,o_load,by decide,by decide⟩,?_⟩
  refine List.forall_mem_cons.2 ⟨⟨_,_,aaB,by decide,by decide⟩,?_⟩
  refine List.forall_mem_cons.2 ⟨⟨_,_,aaC,by decide,by decide⟩,?_⟩
  refine List.forall_mem_cons.2 ⟨⟨_,_,WZ,by decide,by decide⟩,?_⟩
  refine List.forall_mem_cons.2 ⟨⟨_,_,aaD,by decide,by decide⟩,?_⟩
  refine List.forall_mem_cons.2 ⟨⟨_,_,TK,by decide,by decide⟩,?_⟩
  refine List.forall_mem_cons.2 ⟨⟨_,_,aaE,by decide,by decide⟩,?_⟩
  refine List.forall_mem_cons.2 ⟨⟨_,_,aaF,by decide,by decide⟩,?_⟩
  refine List.forall_mem_cons.2 ⟨⟨_,_,aaG,by decide,by decide⟩,?_⟩
  refine List.forall_mem_cons.2 ⟨⟨_,_,aaH,by decide,by decide⟩,?_⟩
  refine List.forall_mem_cons.2 ⟨⟨_,_,adg,by decide,by decide⟩,?_⟩
  refine List.forall_mem_cons.2 ⟨⟨_,_,W9,by decide,by decide⟩,?_⟩
  refine List.forall_mem_cons.2 ⟨⟨_,_,TL,by decide,by decide⟩,?_⟩
  exact fun z hz=>absurd hz List.not_mem_nil
 obtain ⟨i,j,h1,e1,e2⟩:=this
 rw [e1,e2]
 exact @h1
theorem Gb:∀l:List (List UInt8),l.length≤(l.map fun w=>w.length+1).sum
 | []=>by simp
 |a :: l=>by
  have:=Gb l
  rw [List.map_cons,List.sum_cons,List.length_cons]
  omega
theorem Uj {line x z:az}{rest:List az}{y:az×Nat}{p:Int}{ns:List Int}{ts:List az}{on:Bool}(hw:bJ line=x :: z :: rest) (hn:gQ x=some p) (hf:bq z df=some y) (hp:gK y.1 rest=some (ns,ts,on)):6≤line.length:=by
 have h1:=BR line
 rw [hw] at h1
 have h2:4≤z.length+y.1.length:=K8 _ (wQ hf)
 obtain ⟨h3,_⟩:=iL _ _ _ _ _ hp (fun n hn=>by cases hn)
 have h4:=Gb rest
 have h5:x≠[]:=by
  rintro rfl
  have:gQ []=none:=by decide
  rw [this] at hn
  cases hn
 have h6:=List.length_pos_iff.2 h5
 simp only [List.map_cons,List.sum_cons] at h1
 omega
section
variable {B q q' cb g1 g2:Nat}{w w' W V V':World}{S S':KS}{m:Int}{H H':KH}{A A':Nat→Prop}{p:Int}{line:az}
theorem zW (P:Ps) (n:Int):0≤aO P n∧aO P n≤8:=by
 unfold aO
 split
 ·omega
 ·cases h:sigs.find? (Vo P n) with
  |none=>simp
  |some x=>
   have:=List.mem_of_find?_eq_some h
   simp only [Option.getD_some]
   unfold sigs at this
   simp only [List.mem_cons,List.not_mem_nil,or_false] at this
   omega
theorem SG.take (h:SG S) (n:Int):SG (S.procs (dS S.P n)):=h.Fx (S':=S.procs _) rfl rfl fun k z hz=>by
 change dS S.P n k=some z at hz
 unfold dS at hz
 split at hz
 ·exact .inr ⟨z,hz,rfl⟩
 ·refine uQ ?_ hz;intro q;rfl
theorem SG.sig (h:SG S) (p:Int):SG (nP S p):=by
 unfold nP
 split
 ·refine h.Fx (S':=S.procs _) rfl rfl fun k z hz=>?_
  change iZ S.P 1 k=some z at hz
  unfold iZ kK at hz
  refine uQ ?_ hz;intro q;rfl
 ·exact h
def acT (V:World) (m:Int) (H:KH) (S:KS) (q:Nat) (A:Nat→Prop) (p:Int) (z:Bool) (e:Int) (V1:World):Prop:=
 (e=7∧z=false∧S.O p=none∧Below V.heap.size V V1)∨∃o,e=0∧S.O p=some o∧∃A1,Stp V V1 A A1∧((z=true∧p≠1∧aO S.P p≠0∧KN V1 m H (dD (S.procs (dS S.P p)) p o (100+aO S.P p)) q A1)∨(z=false∧(p=1∨aO S.P p=0)∧KN V1 m H (nP S p) q A1))
theorem Wo (h:KN V m H S q A) (hk:H.ok=true) (hq:q≤400) (hp:dH p) {V0:World}(b:Below V0.heap.size V0 V):Calls Tryz.prog 76 #[wp H.kb,.int .i64 p] V (SO A (acT V0 m H S q A p) V):=by
 cases ho:S.O p with
 |none=>
  refine (h.1.Oh ho (uq hp)).mono ?_
  rintro y w' ⟨rfl,rfl⟩
  exact ⟨false,7,rfl,.inl ⟨rfl,rfl,ho,b⟩,(Stp.refl _ A).wt⟩
 |some o=>
  by_cases h1:p=1
  ·subst h1
   refine (h.JW hk ho).mono ?_
   rintro y w' ⟨rfl,A',k,st⟩
   exact ⟨false,0,rfl,.inr ⟨o,rfl,ho,A',Stp.after b st,.inr ⟨rfl,.inl rfl,by unfold nP;rw [if_pos rfl];exact k⟩⟩,st.wt⟩
  ·by_cases hs:aO S.P p=0
   ·refine (h.H6 hk ho hs).mono ?_
    rintro y w' ⟨rfl,A',k,st⟩
    exact ⟨false,0,rfl,.inr ⟨o,rfl,ho,A',Stp.after b st,.inr ⟨rfl,.inr hs,by unfold nP;rw [if_neg h1];exact k⟩⟩,st.wt⟩
   ·refine (h.H5 hk ho (by omega) h1 hs (zW _ _).2).mono ?_
    rintro y w' ⟨rfl,A',k,st⟩
    exact ⟨true,0,rfl,.inr ⟨o,rfl,ho,A',Stp.after b st,.inl ⟨rfl,h1,hs,k⟩⟩,st.wt⟩
theorem YP.wv {F:Nat→Prop}{v:Value}{ws:List az}(h:YP F w v ws) (hlt:∀n,n<ws.length→∀blk off,w.cell? ⟨blk,off,none⟩≠none→blk<w.heap.size):WV w v ws:=by
 obtain ⟨blk,off,ad,cap,rfl,hc,ha,hA,hcs⟩:=h
 refine ⟨ad,cap,rfl,hc,?_⟩
 by_cases he:ws=[]
 ·exact .inl he
 ·refine .inr ⟨blk,off,ha he,?_,hcs⟩
  have h0:=List.length_pos_iff.2 he
  exact hlt 0 h0 blk (off+0) (by rw [hcs 0 h0];simp)
theorem CX.serve (h:CX B W cb S q m H A g1 g2) (hq:q≤400) (hl:line.length≤3000) {x:az}{rest:List az}(hws:bJ line=x :: rest) (hn:gQ x=some p) (b:Below W.heap.size W V) (hV:W.heap.size<V.heap.size) {v:Value}(hv:YP (fun i=>i<W.heap.size) V v rest) :
 Calls Tryz.prog 30 #[wp cb,.int .i64 p,v] V fun e w'=>∃r,xV w' r e∧VD B W cb S q m A g1 g2 line r w'∧nk W.heap.size V w':=by
 obtain ⟨l1,l2,l3⟩:=h.Vt
 have hbig:=h.big
 have hb:=b.size
 have hA:∀i,A i→i<W.heap.size:=h.kn.1.lt
 have hwl:∀z∈rest,z.length≤3000:=fun z hz=>Nat.le_trans (zl (s:=line) (by rw [hws];exact List.mem_cons_of_mem _ hz)) hl
 have hp:=Gx hn
 have Vj:=h.kn.below b
 have mk:∀ {w':World},Below V.heap.size V w'→∀ {c:Int},dH c→ja S p rest (.bad c) S→∃r,xV w' r (thrown (eQ c))∧VD B W cb S q m A g1 g2 line r w'∧nk W.heap.size V w':=fun {w'} b1 {c} hc hk=>
  ⟨.bad c,⟨rfl,hc⟩,h.still (b.trans (b1.mono hb)) (.call hws hn hk) (by have:=jQ hc;simp only [gy];omega),h.Zb b b1⟩
 have txw:∀V',Wt A V V'→WV V' v rest:=fun V' k=>by
  have hv':YP A V v rest:=by
   obtain ⟨blk,off,ad,cap,e,hc,ha,QI,hcs⟩:=hv
   exact ⟨blk,off,ad,cap,e,hc,ha,fun z=>QI (hA _ z),hcs⟩
  have hv2:YP A V' v rest:=FH.wt hv' k
  exact YP.wv hv2 fun n _ blk off hne=>by
   cases hc:V'.cell? ⟨blk,off,none⟩ with
   |none=>exact absurd hc hne
   |some u=>exact World.block_lt_of_cell? V' _ hc
 refine Te (A:=A) (kb:=H.kb) (g:=g2) (R:=acT V m H S q A p) (Post:=fun e w'=>∃r,xV w' r e∧VD B W cb S q m A g1 g2 line r w'∧nk W.heap.size V w') ⟨?_,?_,?_,?_,?_,?_⟩ (fun i hi=>Nat.lt_of_lt_of_le (hA i hi) hb) (fun i hi=>Nat.le_trans hbig.1 (h.own i hi)) (h.gl.below b) h.nc.1 ?_ ?_ (h.ck.t2.keep (b.block _ l3)) (txw V ⟨rfl,rfl,rfl,Nat.le_refl _,fun _ _ _=>rfl⟩) txw (fun z hz=>Nat.le_trans (hwl z hz) (by omega))
 ·exact fun V1 b1=>Wo (Vj.below b1) h.ok hq hp b1
 ·exact fun V1 b1 hno=>mk b1 (by unfold dH;omega) (.no hno)
 ·rintro z rest' y hw hf V1 zb e he hR
  rcases hR with ⟨rfl,_,ho,b1⟩|⟨o,h0,_⟩
  ·exact mk b1 (by unfold dH;omega) (.nobody hw hf ho)
  ·exact absurd h0 he
 ·rintro z rest' y hw hf V1 hR
  rcases hR with ⟨h7,_⟩|⟨o,_,ho,A1,st,⟨_,hp1,hs,k⟩|⟨h0,_⟩⟩
  ·omega
  ·have ht:=zW S.P p
   obtain ⟨r1,r2⟩:=h.goes b hV st ⟨rfl,rfl⟩ k ((h.sg.take p).ends (by unfold dH;omega)) (.call hws hn (.ends hw hf ho hp1 hs)) (by omega) (by simp [gy])
   exact ⟨.say _,rfl,r1,r2⟩
  ·cases h0
 ·rintro z rest' y hw hf IV V0 V1 hR b1
  rcases hR with ⟨h7,_⟩|⟨o,_,ho,A1,st,⟨h0,_⟩|⟨_,hq9,k⟩⟩
  ·omega
  ·cases h0
  ·obtain ⟨r1,r2⟩:=h.goes b hV (st.trans (.below b1)) ⟨rfl,rfl⟩ (k.below b1) (h.sg.sig p) (.call hws hn (.form hw hf ho hq9 IV)) (by omega) (by have:=jQ (c:=3) (by unfold dH;omega);simp only [gy];omega)
   exact ⟨.bad 3,⟨rfl,by unfold dH;omega⟩,r1,r2⟩
 ·rintro z rest' y ns ts on hw hf IV V0 V1 nv tv hR b1 hnv htv
  rcases hR with ⟨h7,_⟩|⟨o,_,ho,A1,st,⟨h0,_⟩|⟨_,hq9,k⟩⟩
  ·omega
  ·cases h0
  ·obtain ⟨e1,e2,e3,e4,e5⟩:=iL _ _ _ _ _ IV (fun n hn=>by cases hn)
   have ajD:=Uj (by rw [hws,hw]) hn hf IV
   have gv:=h.gv b st k b1 (.inl (Nat.le_refl _)) b1.size hnv htv
   have hzl:z.length≤3000:=hwl z (by rw [hw];exact List.mem_cons_self)
   refine (Qq hf (k.below b1) h.ok (by rw [YT];exact ho) hq (h.sg.sig p) (by simpa using e2) (by simpa using e3) e4 (fun t ht=>?_) gv hzl).mono ?_
   ·rcases e5 t ht with z9|z9
    ·cases z9
    ·have:=hwl t (by rw [hw];exact List.mem_cons_of_mem _ z9);omega
   ·rintro e w' ⟨r,S',hE,hr,⟨H',A',hH,kn,st2⟩,ha⟩
    obtain ⟨r1,r2⟩:=h.goes b hV (st.trans ((Stp.below b1).trans st2)) hH kn ((Gj _).keep hr (h.sg.sig p) e4) (.call hws hn (.tell hw hf ho hq9 IV hr)) (by omega) ha
    refine ⟨⟨r,hE,r1,r2⟩,?_⟩
    rcases vg hE with ⟨t,_,rfl⟩|⟨v9,rfl⟩
    ·exact .inl ⟨t,rfl⟩
    ·exact .inr ⟨v9,rfl⟩
 ·rw [b.cell (p:=⟨cb,0,none⟩) l1,Lib.cell_of_heap h.ck.blk];rfl
 ·rw [b.cell (p:=⟨cb,2,none⟩) l1,Lib.cell_of_heap h.ck.blk];rfl
end
section
variable {B q q' cb g1 g2:Nat}{w w' W V V':World}{S S':KS}{m:Int}{H H':KH}{A A':Nat→Prop}{p:Int}{line x:az}{nv tv:Value}{ns:List Int}{ts:List az}{on:Bool}
theorem CX.fresh (h:CX B W cb S q m H A g1 g2) (b:Below W.heap.size W V) (b1:Below V.heap.size V w) (hA':∀i,A' i→V.heap.size≤i) (hV:W.heap.size<V.heap.size) (k:KN w m H' S' 0 A') (hk:H'.ok=true) (sg:SG S') (b2:Below w.heap.size (w.setCell ⟨cb,0,none⟩ (wp H'.kb)) w') {r:wZ}(hL:ji S line r S') (ha:(gy r).length≤50000):VD B W cb S q m A g1 g2 line r w'∧nk W.heap.size V w':=by
 obtain ⟨l1,l2,l3⟩:=h.Vt
 have hbig:=h.big
 have hb:=b.size
 have hb1:=b1.size
 have bW:Below W.heap.size W w:=b.trans (b1.mono hb)
 have hsz:(w.setCell ⟨cb,0,none⟩ (wp H'.kb)).heap.size=w.heap.size:=by simp [World.setCell]
 have b2':Below (w.setCell ⟨cb,0,none⟩ (wp H'.kb)).heap.size (w.setCell ⟨cb,0,none⟩ (wp H'.kb)) w':=by rw [hsz];exact b2
 have kw:Wt (fun i=>i=cb) w w':=by
  refine ⟨b2.os,b2.tape,b2.output,by have:=b2.size;omega,fun i hi hn=>?_⟩
  rw [b2.block i hi]
  exact Below.heap_setCell _ _ _ _ hn
 have hF:∀i,i=cb→¬A' i∧9≤i:=fun i e=>⟨fun z=>by have:=hA' i z;omega,by omega⟩
 have kn:KN w' m H' S' 0 A':=⟨k.1.wt kw hF,k.2⟩
 have gl:GL w':=(h.gl.below bW).wt kw fun i e=>(hF i e).2
 have afY:w.heap[cb]? = some (.cells #[wp H.kb,.map (some g1),.map (some g2)] 70):=(bW.block cb l1).trans h.ck.blk
 have ck:Ck w' cb H'.kb g1 g2:=by
  refine ⟨?_,h.ck.t1.keep ?_,h.ck.t2.keep ?_⟩
  ·rw [b2.block cb (by omega)]
   simp [World.setCell,Array.getElem?_modify,afY]
  ·rw [kw.block g1 (by omega) (fun e=>h.ne.1 e.symm)];exact bW.block g1 l2
  ·rw [kw.block g2 (by omega) (fun e=>h.ne.2 e.symm)];exact bW.block g2 l3
 have hsw:=kw.size
 refine ⟨⟨S',0,H',A',hL,⟨kn,hk,ck,⟨fun z=>by have:=hA' _ z;omega,fun z=>by have:=hA' _ z;omega,fun z=>by have:=hA' _ z;omega⟩,h.ne,hbig,fun i hi=>by have:=hA' i hi;omega,gl,sg⟩,⟨⟨kw.os.trans bW.os,kw.tape.trans bW.tape,kw.output.trans bW.output,Nat.le_trans bW.size hsw,fun i hi hn=>?_⟩,fun i hi=>?_⟩,fun z=>by have:=hA' _ z;omega,by omega,ha⟩,fun i h1 h2=>?_,by omega,gl⟩
 ·rw [kw.block i (by omega) (fun e=>hn (.inr (.inl e)))];exact bW.block i hi
 ·rcases hi with hi|hi
  ·exact .inr (by have:=hA' i hi;omega)
  ·exact .inl (.inr hi)
 ·rw [kw.block i (by omega) (by omega)];exact b1.block i h2
theorem GR {n:Nat}(h:n≤256):SG (eG n):=by
 refine ⟨fun f k=>by show _≤(0:Int)∧(0:Int)≤_;omega,fun k z hz=>?_,h⟩
 change gW k=some z at hz
 unfold gW at hz
 split at hz
 ·cases hz;exact i0
 ·cases hz
theorem Uw:Rp.length≤50000:=Nat.le_of_ble_eq_true rfl
theorem CX.thing (h:CX B W cb S q m H A g1 g2) (hl:line.length≤3000) {rest:List az}{y:az×Nat}(hws:bJ line=x :: rest) (hn:gQ x=none) (hf:bq x dJ=some y) (IV:gK y.1 rest=some (ns,ts,on)) (b:Below W.heap.size W V) (hV:W.heap.size<V.heap.size) (hnv:V.ownsRow W.heap.size 3 1 nv ns.length (ns.map (Value.int .i64))) (htv:V.ownsRow W.heap.size 9 1 tv ts.length (ts.map fun x=>tx x)) :
 Calls Tryz.prog y.2 #[wp cb,dR 0 x nv tv on] V fun e w'=>∃r,xV w' r e∧VD B W cb S q m A g1 g2 line r w'∧nk W.heap.size V w':=by
 obtain ⟨l1,l2,l3⟩:=h.Vt
 have hb:=b.size
 have hbig:=h.big
 have hx:x.length≤3000:=Nat.le_trans (zl (s:=line) (by rw [hws];exact List.mem_cons_self)) hl
 have gv:Gv V A cb H.kb nv tv ns ts:=h.gv b (.refl V A) (h.kn.below b) (Below.refl _ _) (.inr ⟨rfl,rfl,Nat.le_refl _⟩) hb hnv htv
 obtain ⟨_,e2,_,e4,_⟩:=iL _ _ _ _ _ IV (fun n hn=>by cases hn)
 have Vj:∀V1,Below V.heap.size V V1→KX V1 m H S (kZ S) q A:=fun V1 b1=>(h.kn.below (b.trans (b1.mono hb))).1
 have MF:∀ {r:wZ}{S':KS},jB y.2 S x ns r S'→ji S line r S':=fun ht=>.thing hws hn hf IV ht
 have still:∀ {w':World}{r:wZ},Below V.heap.size V w'→jB y.2 S x ns r S→(gy r).length≤50000→VD B W cb S q m A g1 g2 line r w'∧nk W.heap.size V w':=fun b1 ht ha=>⟨h.still (b.trans (b1.mono hb)) (MF ht) ha,h.Zb b b1⟩
 have Ee:∀L:List Int,(∀n∈L,dH n)→L.length≤100→(gy (.say (x ++ aQ L))).length≤50000:=fun L hL hl=>by
  have:=iG hL
  simp only [gy,List.length_append]
  omega
 have hm:=wQ hf
 unfold dJ at hm
 simp only [List.mem_cons,List.not_mem_nil,or_false,Prod.mk.injEq] at hm
 rcases hm with ⟨_,rfl⟩|⟨_,rfl⟩|⟨_,rfl⟩|⟨_,rfl⟩|⟨_,rfl⟩
 ·have hi:∀n∈aH S.P,dH n∧dH (nN S.P n):=fun n hn=>⟨Ei hn,by
   have Vi:=h.kn.1.Vi
   unfold nN
   cases hp:S.P n with
   |none=>exact i0
   |some z=>
    have:=Vi.st n z hp
    simp only [Option.map_some,Option.getD_some]
    unfold dH
    omega⟩
  refine (abl gv (by omega) (L:=aH S.P) (st:=nN S.P) (fun V1 b1=>((Vj V1 b1).si).mono ?_) (fun V1 n hn b1=>(Vj V1 b1).state n (uq (Ei hn))) (by have:=lH S.P;omega) hi).mono ?_
  ·rintro y w' ⟨pb,pc,rfl,hc,_,hlt,hh,b9⟩
   exact ⟨pb,pc,rfl,hc,hlt,fun i hi=>by
    have h9:=(hh i (by simpa using hi)).1
    rw [Nat.zero_add] at h9
    rw [h9]
    simp [hi,encZ],b9⟩
  ·rintro e w' ⟨rfl,b9⟩
   obtain ⟨r1,r2⟩:=still b9 (.si rfl) (Ee _ (fun z hz=>by
    unfold mY at hz
    obtain ⟨n,hn,h9⟩:=List.mem_flatMap.1 hz
    have:=hi n hn
    simp only [List.mem_cons,List.not_mem_nil,or_false] at h9
    rcases h9 with rfl|rfl
    ·exact this.1
    ·exact this.2) (by rw [wG];have:=lH S.P;omega))
   exact ⟨.say _,rfl,r1,r2⟩
 ·obtain ⟨a,rfl⟩:=sw (l:=ns) (by rw [e2];rfl)
  have hcz:V.frozen? ⟨cb,0,none⟩=false:=by
   have:=(b.block cb l1).trans h.ck.blk
   exact Lib.frozen_of_heap this 0
  by_cases ha:1≤a∧a≤256
  ·obtain ⟨k,rfl⟩:∃k:Nat,a=(k:Int):=⟨a.toNat,by omega⟩
   refine (MU gv hcz (by omega) (by omega) (Rn:=fun kb V1=>∃H' A',H'.kb=kb∧KN V1 m H' (eG k) 0 A'∧(∀i,A' i→V.heap.size≤i)∧H'.ok=true) (N:=fun _=>False) (Y:=True) (.inr ⟨trivial,fun V1 b1=>?_⟩)).mono ?_
   ·have k1:=Vj V1 b1
    refine (vH V1 k (by omega) (by omega) k1.ml k1.er k1.tab).mono ?_
    rintro y w' ⟨H',A',rfl,kn,hA',b9,hk⟩
    exact ⟨_,rfl,⟨H',A',rfl,kn,fun i hi=>Nat.le_trans b1.size (hA' i hi),hk.trans h.ok⟩,b9⟩
   ·rintro e w' (⟨_,hc,_⟩|⟨_,kb,V1,rfl,b1,⟨H',A',rfl,kn,hA',hk⟩,b9⟩)
    ·exact hc.elim
    ·obtain ⟨r1,r2⟩:=h.fresh b b1 hA' hV kn hk (GR (by omega)) b9 (MF (.new rfl rfl (by omega))) (r:=.say x) (by simp only [gy];omega)
     exact ⟨.say x,rfl,r1,r2⟩
  ·refine (MU gv hcz (by omega) (by omega) (Rn:=fun _ _=>True) (N:=fun c=>c=2) (Y:=False) (.inl ⟨2,rfl,by omega,fun V1 _=>Fa V1 a ha⟩)).mono ?_
   rintro e w' (⟨_,rfl,rfl,b9⟩|⟨hx,_⟩)
   ·obtain ⟨r1,r2⟩:=still b9 (.BI rfl rfl ha) (by have:=jQ (c:=2) (by unfold dH;omega);simp only [gy];omega)
    exact ⟨.bad 2,⟨rfl,by unfold dH;omega⟩,r1,r2⟩
   ·exact hx.elim
 ·refine abt.mono ?_
  rintro e w' ⟨rfl,b9⟩
  obtain ⟨r1,r2⟩:=still b9 (.QY rfl) (by simp only [gy];exact Uw)
  exact ⟨.say _,rfl,r1,r2⟩
 ·obtain ⟨a,rfl⟩:=sw (l:=ns) (by rw [e2];rfl)
  cases ho:S.O a with
  |none=>
   refine (Zn (R:=fun L c w'=>(L=[0,0,0]∧c=7)∧Below V.heap.size V w') gv (by omega) (fun V1 b1=>((Vj V1 b1).aa3 ho (uq (e4 a (by simp)))).mono ?_) (fun _ _ _ _ h1 b2=>⟨h1.1,h1.2.trans (b2.mono h1.2.size)⟩)).mono ?_
   ·rintro y w' ⟨rfl,rfl⟩
    exact ⟨[0,0,0],7,rfl,rfl,fun z=>by omega,⟨⟨rfl,rfl⟩,b1⟩,(Stp.refl _ A).wt⟩
   ·rintro e w' ⟨L,c,ht,⟨rfl,rfl⟩,b9⟩
    obtain ⟨r1,r2⟩:=still b9 (.BK rfl rfl ho) (by have:=jQ (c:=7) (by unfold dH;omega);simp only [gy];omega)
    rcases ht with ⟨h0,_⟩|⟨_,rfl⟩
    ·omega
    ·exact ⟨.bad 7,⟨rfl,by unfold dH;omega⟩,r1,r2⟩
  |some o=>
   have hi:∀n∈[((bX (aC S o.j):Nat):Int),((gM (aC S o.j):Nat):Int),((ak (au S o.j):Nat):Int)],dH n:=fun n hn=>by
    have h1:=ry (aC S o.j)
    have h2:=WB (aC S o.j)
    have h3:=wo (h.kn.1.oW o.j)
    simp only [List.mem_cons,List.not_mem_nil,or_false] at hn
    unfold dH
    omega
   refine (Zn (R:=fun L c w'=>(L=[((bX (aC S o.j):Nat):Int),((gM (aC S o.j):Nat):Int),((ak (au S o.j):Nat):Int)]∧c=0)∧Below V.heap.size V w') gv (by omega) (fun V1 b1=>((Vj V1 b1).nz ho).mono ?_) (fun _ _ _ _ h1 b2=>⟨h1.1,h1.2.trans (b2.mono h1.2.size)⟩)).mono ?_
   ·rintro y w' ⟨rfl,b9⟩
    exact ⟨_,0,rfl,rfl,fun _=>hi,⟨⟨rfl,rfl⟩,b1.trans (b9.mono b1.size)⟩,.below A b9⟩
   ·rintro e w' ⟨L,c,ht,⟨rfl,rfl⟩,b9⟩
    obtain ⟨r1,r2⟩:=still b9 (.has rfl rfl ho) (Ee _ hi (by simp))
    rcases ht with ⟨_,rfl⟩|⟨h0,_⟩
    ·exact ⟨.say _,rfl,r1,r2⟩
    ·exact absurd rfl h0
 ·obtain ⟨n,hN⟩:=h.kn.1.yF
  obtain ⟨k,hT⟩:=h.kn.1.gQ
  have hi:∀z∈[((S.n-used (bI S.Ms) S.n:Nat):Int),(n:Int),(k:Int)],dH z:=fun z hz=>by
   have h1:=hN.few h.kn.1.inv.core.jW.n0 h.kn.1.inv.core.jW.e
   have h2:=h.kn.1.inv.core.jW.n1
   have h3:k≤64:=by
    obtain ⟨ks,h1,rfl,h3⟩:=hT
    have:=lD (b:=(List.range 64).map (fun i:Nat=>(i:Int))) h1 (fun x hx=>by
     have h4:=h.kn.1.inv.core.lv.toTrOk.key x ((h3 x).1 hx)
     exact List.mem_map.2 ⟨x.toNat,List.mem_range.2 (by omega),by omega⟩)
    simpa using this
   have h4:=h.sg.n
   simp only [List.mem_cons,List.not_mem_nil,or_false] at hz
   unfold dH
   omega
  refine (abu gv (by omega) (fun V1 b1=>(Vj V1 b1).left) (fun V1 b1=>(Vj V1 b1).rf hN) (fun V1 b1=>(Vj V1 b1).oC hT) hi).mono ?_
  rintro e w' ⟨rfl,b9⟩
  obtain ⟨r1,r2⟩:=still b9 (.free rfl hN hT) (Ee _ hi (by simp))
  exact ⟨.say _,rfl,r1,r2⟩
end
section
variable {B q cb g1 g2:Nat}{w W:World}{S:KS}{m:Int}{H:KH}{A:Nat→Prop}{line:az}
theorem CX.answer (h:CX B W cb S q m H A g1 g2) (hq:q≤400) (hl:line.length≤3000):Nc W cb line (VD B W cb S q m A g1 g2 line) where
 cl:=fun r V V' ⟨S',q',H',A',hL,hc,st,hn,h7,ha⟩ k=>by
  have hl:=h.Vt
  have hbig:=h.big
  refine ⟨S',q',H',A',hL,hc.wt k (fun i hi=>?_),⟨⟨k.os.trans st.wt.os,k.tape.trans st.wt.tape,k.output.trans st.wt.output,Nat.le_trans st.wt.size k.size,fun i hi I7=>?_⟩,st.own⟩,hn,h7,ha⟩
  ·subst hi
   refine ⟨fun z=>?_,by omega⟩
   rcases z with z|z|z|z
   ·exact hn z
   all_goals omega
  ·rw [k.block i (Nat.lt_of_lt_of_le hi st.wt.size) (by omega)];exact st.wt.block i hi I7
 gl:=h.gl
 big:=by have:=h.Vt;have:=h.big;omega
 tab:=⟨g1,by rw [Lib.cell_of_heap h.ck.blk];rfl,h.ck.t1⟩
 empty:=fun hw V b=>h.still b (.empty hw) (by simp [gy])
 serve:=fun x rest p hw hn V v b hV hv=>h.serve hq hl hw hn b hV hv
 bad:=fun ⟨x,rest,hw,hn,hf⟩ V b=>h.still b (.bad hw hn hf) (by have:=jQ (c:=3) (by unfold dH;omega);simp only [gy];omega)
 tell:=fun x rest y ns ts on hw hn hf hp V nv tv b hV hnv htv=>h.thing hl hw hn hf hp b hV hnv htv
end
theorem CJ:∀l:List UInt8,((bL l).map fun x=>x.length+1).sum=l.length+1
 | []=>rfl
 |c :: l=>by
  have ih:=CJ l
  unfold bL
  split
  ·simp only [List.map_cons,List.sum_cons,List.length_cons,List.length_nil,ih];omega
  ·cases h:bL l with
   |nil=>rw [h] at ih;simp at ih
   |cons x t=>
    rw [h] at ih
    simp only [List.map_cons,List.sum_cons,List.length_cons] at ih ⊢
    omega
def CKW (w0:World) (cb:Nat) (pre:List az) (out:az) (F:Nat→Prop) (W:World):Prop:=
 ∃S q m H A g1 g2,iC pre out S∧CX w0.heap.size W cb S q m H A g1 g2∧(∀i,F i↔CF A cb g1 g2 i)∧7*q≤(pre.map fun x:List UInt8=>x.length+1).sum
theorem U4 (w0:World) (z0:az) (hz:z0.length≤2600):LF w0 z0 (CKW w0) where
 keep:=fun cb pre out F W W' B ⟨S,q,m,H,A,g1,g2,hr,hc,hF,h7⟩ k hB=>⟨S,q,m,H,A,g1,g2,hr,hc.wt k (fun i hi=>⟨fun z=>(hB i hi).1 ((hF i).2 z),(hB i hi).2⟩),hF,h7⟩
 foot:=fun cb pre out F W ⟨S,q,m,H,A,g1,g2,hr,hc,hF,h7⟩ i hi=>hc.foot i ((hF i).1 hi)
 ans:=fun cb pre x t out F W ⟨S,q,m,H,A,g1,g2,hr,hc,hF,h7⟩ hl=>by
  have hs:=CJ z0
  rw [hl] at hs
  simp only [List.map_append,List.sum_append,List.map_cons,List.sum_cons] at hs
  refine (Qt (hc.answer (line:=x) (by omega) (by omega)) (by omega)).mono ?_
  rintro e W' ⟨r,rfl,S',q',H',A',hL,hc',st,_,h7',ha⟩
  refine ⟨gy r,CF A' cb g1 g2,rfl,by omega,⟨S',q',m,H',A',g1,g2,.snoc hr hc.kn.good hL ha,hc',fun i=>Iff.rfl,?_⟩,?_⟩
  ·simp only [List.map_append,List.sum_append,List.map_cons,List.sum_cons,List.map_nil,List.sum_nil]
   omega
  ·exact ⟨⟨st.wt.os,st.wt.tape,st.wt.output,st.wt.size,fun i hi hn=>st.wt.block i hi fun z=>hn ((hF i).2 z)⟩,fun i hi=>by
    rcases st.own i hi with z|z
    ·exact .inl ((hF i).2 z)
    ·exact .inr z⟩
theorem Qn (w:World) {m:Int}(hG:9≤w.heap.size) (gl:GL w) (hm:w.cell? ⟨4,0,none⟩=some (.int .i64 m)) (ht:ni w):Sj w (CKW w):=by
 have hN:=vH (ok:=true) w 32 (by omega) (by omega) hm gl.er ⟨ht.lt,fun _=>ht⟩
 rw [show ((32:Nat):Int)=32 from rfl] at hN
 refine hN.mono ?_
 rintro e w1 ⟨H,A,rfl,kn,hA,b1,hok⟩
 refine ⟨H.kb,rfl,(Ip w1 H.kb).mono ?_⟩
 rintro e w2 ⟨cb,g1,g2,rfl,ck,⟨h1,h2,h3,h4,h5⟩,b2⟩
 have hb1:=b1.size
 have lt:=kn.1.lt
 have b12:Below w.heap.size w w2:=b1.trans (b2.mono hb1)
 exact ⟨cb,CF A cb g1 g2,rfl,⟨eG 32,0,m,H,A,g1,g2,.nil,⟨kn.below b2,hok,ck,⟨fun z=>by have:=lt _ z;omega,fun z=>by have:=lt _ z;omega,fun z=>by have:=lt _ z;omega⟩,⟨h4,h5⟩,⟨hG,by omega,by omega,by omega⟩,hA,gl.below b12,GR (by omega)⟩,fun i=>Iff.rfl,by simp⟩,b12⟩
theorem H9 (w:World) {m:Int}(hG:9≤w.heap.size) (gl:GL w) (hm:w.cell? ⟨4,0,none⟩=some (.int .i64 m)) (ht:ni w) (text:az) (hl:text.length≤2600) :
 Calls Tryz.prog 4 #[tx text] w fun e w'=>∃out S,e=.returned (tx out)∧iC (oh text) out S∧Below w.heap.size w w':=by
 refine (J2 hl hG (U4 w _ (Nat.le_trans (wz text) hl)) (Qn w hG gl hm ht)).mono ?_
 rintro e w' ⟨cb,out,F,V,rfl,⟨S,q,m,H,A,g1,g2,hr,_⟩,b⟩
 exact ⟨out,S,rfl,hr,b⟩
section
variable {S S':KS}{p:Int}{o:Ow}{line x z:az}{rest:List az}{y:az×Nat}{ns:List Int}{ts:List az}{on:Bool}{r:wZ}{pre:List az}{out:az}
theorem iC.last (h:iC (pre ++ [x]) out S'):∃o1 S r,iC pre o1 S∧ji S x r S'∧out=o1 ++ (gy r ++ [10]):=by
 generalize hL:pre ++ [x]=L at h
 cases h with
 |nil=>exact absurd hL (by simp)
 |snoc h g hl _=>
  obtain ⟨e1,e2⟩:=List.append_inj' hL rfl
  subst e1
  cases e2
  exact ⟨_,_,_,h,hl,rfl⟩
theorem iC.none (h:iC [] out S):out=[]∧S=eG 32:=by
 generalize hL:([]:List az)=L at h
 cases h with
 |nil=>exact ⟨rfl,rfl⟩
 |snoc=>exact absurd hL.symm (by simp)
theorem ji.calls (h:ji S line r S') (hw:bJ line=x :: rest) (hn:gQ x=some p):ja S p rest r S':=by
 cases h with
 |empty h'=>rw [hw] at h';cases h'
 |call h' hn' hs=>rw [hw] at h';cases h';rw [hn] at hn';cases hn';exact hs
 |bad h' hn'=>rw [hw] at h';cases h';rw [hn] at hn';cases hn'
 |thing h' hn'=>rw [hw] at h';cases h';rw [hn] at hn';cases hn'
theorem ji.things (h:ji S line r S') (hw:bJ line=x :: rest) (hn:gQ x=none) (hf:bq x dJ=some y) (hp:gK y.1 rest=some (ns,ts,on)):jB y.2 S x ns r S':=by
 cases h with
 |empty h'=>rw [hw] at h';cases h'
 |call h' hn' hs=>rw [hw] at h';cases h';rw [hn] at hn';cases hn'
 |bad h' hn' hf'=>
  rw [hw] at h';cases h'
  rcases hf' with hf' | ⟨y',hf',hp'⟩
  ·rw [hf] at hf';cases hf'
  ·rw [hf] at hf';cases hf';rw [hp] at hp';cases hp'
 |thing h' hn' hf' hp' ht=>
  rw [hw] at h';cases h'
  rw [hf] at hf';cases hf'
  rw [hp] at hp';cases hp'
  exact ht
theorem ji.af0 (h:ji S line r S') (hw:bJ line=x :: rest) (hn:gQ x=none) (hf:bq x dJ=none):r=.bad 3∧S'=S:=by
 cases h with
 |empty h'=>rw [hw] at h';cases h'
 |call h' hn' hs=>rw [hw] at h';cases h';rw [hn] at hn';cases hn'
 |bad=>exact ⟨rfl,rfl⟩
 |thing h' hn' hf'=>rw [hw] at h';cases h';rw [hf] at hf';cases hf'
theorem ja.tells {ws:List az}(h:ja S p ws r S') (hw:ws=z :: rest) (hf:bq z df=some y) (ho:S.O p=some o) (hq:p=1∨aO S.P p=0) (hp:gK y.1 rest=some (ns,ts,on)):yD y.2 (nP S p) p o z ns ts on r S':=by
 cases h with
 |no h'=>exact (nU h' hw hf).elim
 |nobody _ _ ho'=>rw [ho] at ho';cases ho'
 |ends _ _ _ h1 hs=>rcases hq with hq|hq;exact absurd hq h1;exact absurd hq hs
 |form hw' hf' _ _ hp'=>
  obtain ⟨rfl,rfl,rfl⟩:=uL hw hf hw' hf'
  rw [hp] at hp';cases hp'
 |tell hw' hf' ho' _ hp' hr=>
  obtain ⟨rfl,rfl,rfl⟩:=uL hw hf hw' hf'
  rw [hp] at hp';cases hp'
  rw [ho] at ho';cases ho'
  exact hr
theorem ja.adA {ws:List az}(h:ja S p ws r S') (hw:ws=z :: rest) (hf:bq z df=some y) (ho:S.O p=some o) (h1:p≠1) (hs:aO S.P p≠0):r=.say [101,110,100,101,100]∧S'=dD (S.procs (dS S.P p)) p o (100+aO S.P p):=by
 cases h with
 |no h'=>exact (nU h' hw hf).elim
 |nobody _ _ ho'=>rw [ho] at ho';cases ho'
 |ends _ _ ho'=>rw [ho] at ho';cases ho';exact ⟨rfl,rfl⟩
 |form _ _ _ hq=>rcases hq with hq|hq;exact absurd hq h1;exact absurd hq hs
 |tell _ _ _ hq=>rcases hq with hq|hq;exact absurd hq h1;exact absurd hq hs
end
abbrev o1:Ow:=⟨0,firstM,0⟩
abbrev o2:Ow:=⟨1,firstM,0⟩
def QE:Ps:=iZ gW 1
def Lg:Ps:=fU QE 1 2
def pj3:Ps:=kC (iZ Lg 1) 2 8
def pj4:Ps:=dI (dS pj3 2) 2 108
theorem uW:aL QE=2:=by decide
theorem aam:(aH QE).length<24:=by decide
theorem zz:aO Lg 2=0:=by decide
theorem Mh:eX (iZ Lg 1) 2 8=0:=by decide
theorem Gq:aO pj3 2=8:=by decide
theorem WK:aH pj4=[1,2]:=by decide
theorem Y1:nN pj4 1=1∧nN pj4 2=2:=by decide
noncomputable def Ng:KS:=gL ((eG 32).procs QE) 1 o1
theorem ZM:Ng.P=Lg:=by
 show fU QE 1 (aL QE)=Lg
 rw [uW];rfl
theorem ac5:Ng.O 1=some o1:=by
 show kL (eG 32).O (aL QE) ⟨1,firstM,0⟩ 1=_
 rw [uW];rfl
theorem YV:Ng.O 2=some o2:=by
 show kL (eG 32).O (aL QE) ⟨1,firstM,0⟩ 2=_
 rw [uW];rfl
theorem RJ:kv Ng o2 0 2 3=0:=by
 have e:aC Ng 1=lG:=rfl
 have e1:iW lG 0 2 3=0:=by decide +kernel
 unfold kv
 rw [e,if_neg (not_not_intro e1),if_pos]
 rw [show bX lG=0 from rG]
 decide
noncomputable def xX:KS:=ku Ng o2 0 2 3
theorem qz:xX=Ng.space 1 P1 Ng.W:=by
 unfold xX ku
 rw [if_pos RJ]
 have e:aC Ng 1=lG:=rfl
 have e1:iW lG 0 2 3=0:=by decide +kernel
 have Bg:jJ lG 0 2 3=P1:=by unfold jJ;rw [if_pos e1];rfl
 rw [e,Bg]
theorem Jo:xX.Ms=[lG,P1]:=by rw [qz];rfl
theorem Jm:xX.O 2=some o2:=by rw [qz];exact YV
theorem YX:xX.n=32:=by rw [qz];rfl
theorem aco {x:Int}(hx:0≤x) (P:PM):bI [lG,P] x=sh P x:=by
 unfold bI
 simp only [List.map_cons,List.map_nil,List.sum_cons,List.sum_nil]
 rw [show sh lG x=0 from qD hx];omega
theorem Ti {went:List Int}{er:Int}{S':KS}(h:dP 2 0 1 7 xX went er S'):went=[]∧er=0∧∃f:Nat,f<32∧∃D2:Nat→Nat→Int,D2 f 1=7∧S'=xX.space 1 (dE P1 0 (3,(f:Int))) D2:=by
 have hO:=Jm
 have hm:aC xX 1=P1:=by unfold aC;rw [Jo];rfl
 have ht:∀x,0≤x→bI xX.Ms x=0:=fun x hx=>by rw [Jo,aco hx,Rv hx]
 have hn:=YX
 have hz:∀x,0≤x→sh P1 x+iY xX 1 x=0:=fun x hx=>by
  unfold iY;rw [ht x hx,Rv hx,Nat.zero_sub]
 have hs:∀ {er P' D'},uo xX.n (aC xX 1) (iY xX 1) xX.W 0 1 7 er P' D'→∃f:Nat,f<32∧er=0∧P'=dE P1 0 (3,(f:Int))∧D' f 1=7:=fun {er P' D'} hr=>by
  rw [hm,hn] at hr
  rcases hr with ⟨h,_⟩|⟨_,h,_⟩|⟨_,_,h,_⟩|⟨_,_,f,hf1,hf2,h4,h5,h6⟩
  ·exact absurd (RA acV).1 h
  ·exact absurd (JI 0) h
  ·exfalso
   rw [JP (t':=fun _=>0) hz,BU] at h;omega
  ·exact ⟨f,hf1,h4,by rw [h5,adK],by rw [h6];simp [upd]⟩
 cases h with
 |done ho hr h12=>
  rw [hO] at ho
  cases ho
  obtain ⟨f,h1,rfl,rfl,h4⟩:=hs hr
  exact ⟨rfl,rfl,f,h1,_,h4,rfl⟩
 |nobody ho hr hv=>
  rw [hO] at ho
  cases ho
  obtain ⟨f,h1,h2,_⟩:=hs hr
  omega
 |self ho hr hv he=>
  rw [hO] at ho
  cases ho
  obtain ⟨f,h1,h2,_⟩:=hs hr
  omega
 |goes ho hr=>
  rw [hO] at ho
  cases ho
  obtain ⟨f,h1,h2,_⟩:=hs hr
  omega
def FM:az:=[49,32,102,111,114,107,10,50,32,109,97,112,32,48,32,50,32,51,10,50,32,115,116,111,114,101,32,48,32,49,32,55,10,50,32,108,111,97,100,32,48,32,49,10,102,114,101,101,10,49,32,107,105,108,108,32,50,32,56,10,50,32,102,111,114,107,10,112,105,100,115,10,120,10]
def Lx:az:=[102,111,114,107,32,50,10,109,97,112,10,115,116,111,114,101,10,108,111,97,100,32,55,10,102,114,101,101,32,51,49,32,48,32,49,10,107,105,108,108,10,101,110,100,101,100,10,112,105,100,115,32,49,32,49,32,50,32,50,10,101,114,114,111,114,32,51,10]
abbrev l1:az:=[49,32,102,111,114,107]
abbrev l2:az:=[50,32,109,97,112,32,48,32,50,32,51]
abbrev l3:az:=[50,32,115,116,111,114,101,32,48,32,49,32,55]
abbrev l4:az:=[50,32,108,111,97,100,32,48,32,49]
abbrev l5:az:=[102,114,101,101]
abbrev l6:az:=[49,32,107,105,108,108,32,50,32,56]
abbrev l7:az:=[50,32,102,111,114,107]
abbrev l8:az:=[112,105,100,115]
abbrev l9:az:=[120]
theorem Kj:oh FM=[l1,l2,l3,l4,l5,l6,l7,l8] ++ [l9]:=by kernel_rfl
theorem w1:bJ l1=[[49],[102,111,114,107]]:=by kernel_rfl
theorem w2:bJ l2=[[50],[109,97,112],[48],[50],[51]]:=by kernel_rfl
theorem w3:bJ l3=[[50],[115,116,111,114,101],[48],[49],[55]]:=by kernel_rfl
theorem w4:bJ l4=[[50],[108,111,97,100],[48],[49]]:=by kernel_rfl
theorem w5:bJ l5=[[102,114,101,101]]:=by kernel_rfl
theorem w6:bJ l6=[[49],[107,105,108,108],[50],[56]]:=by kernel_rfl
theorem w7:bJ l7=[[50],[102,111,114,107]]:=by kernel_rfl
theorem w8:bJ l8=[[112,105,100,115]]:=by kernel_rfl
theorem w9:bJ l9=[[120]]:=by kernel_rfl
theorem Sb:bq [102,111,114,107] df=some ([],51):=by kernel_rfl
theorem adx:bq [109,97,112] df=some ([78,78,78],58):=by kernel_rfl
theorem XX:bq [115,116,111,114,101] df=some ([78,78,78],67):=by kernel_rfl
theorem aa8:bq [108,111,97,100] df=some ([78,78],57):=by kernel_rfl
theorem aba:bq [102,114,101,101] dJ=some ([],40):=by kernel_rfl
theorem aa9:bq [107,105,108,108] df=some ([78,78],53):=by kernel_rfl
theorem aa7:bq [112,105,100,115] dJ=some ([],44):=by kernel_rfl
theorem n_1:gQ [49]=some 1:=by kernel_rfl
theorem n_2:gQ [50]=some 2:=by kernel_rfl
theorem Wx:yD 51=rT rV:=rfl
theorem aai:yD 58=rT Nl:=rfl
theorem Tk:yD 67=Jk:=rfl
theorem Wv:yD 57=rT FO:=rfl
theorem Ww:yD 53=rT FP:=rfl
theorem Ur {α:Type} {F:Int→Option α}{n:Nat}(h:p9 F n) (hF:∀x,F x=none):n=0:=by
 obtain ⟨ks,_,rfl,h⟩:=h
 cases ks with
 |nil=>rfl
 |cons x l=>have:=(h x).1 List.mem_cons_self;rw [hF] at this;cases this
theorem TH {n:Nat}(h:dF jd n):n=1:=dF.one h ⟨[0],by simp,rfl,fun x=>by
 unfold jd
 by_cases e:x=0
 ·simp [e]
 ·simp [e]⟩
noncomputable def vN (f:Nat) (D:Nat→Nat→Int):KS:=xX.space 1 (dE P1 0 (3,(f:Int))) D
section
variable {f:Nat}{D:Nat→Nat→Int}
theorem RN:(vN f D).Ms=[lG,dE P1 0 (3,(f:Int))]:=by
 show xX.Ms.set 1 _=_
 rw [Jo];rfl
theorem YW:(vN f D).P=Lg:=by
 show xX.P=Lg
 rw [qz];exact ZM
theorem aah:(vN f D).O 1=some o1:=by
 show xX.O 1=some o1
 rw [qz];exact ac5
theorem RL:(vN f D).O 2=some o2:=Jm
theorem Gi (hD:D f 1=7):jf (aC (vN f D) o2.j) (vN f D).W 0 1=7∧dN (aC (vN f D) o2.j) 0 1 1=0:=by
 have hm:aC (vN f D) 1=dE P1 0 (3,(f:Int)):=by unfold aC;rw [RN];rfl
 have hu:=(RA (acU (f:Int))).2
 constructor
 ·show jf (aC (vN f D) 1) D 0 1=7
  rw [hm]
  unfold jf
  rw [if_pos hu]
  unfold wd
  rw [mh (acU (f:Int)),if_neg (by simp only;omega)]
  simpa using hD
 ·show dN (aC (vN f D) 1) 0 1 1=0
  rw [hm];exact hu
theorem Tj (hf:f<32):(vN f D).n-used (bI (vN f D).Ms) (vN f D).n=31:=by
 have hn:(vN f D).n=32:=YX
 rw [hn]
 have h0:used (fun _=>0) 32=0:=BU 32
 have hf0:(0:Int)≤(f:Int):=by omega
 have ht:∀x,0≤x→bI (vN f D).Ms x=if (f:Int)=x then 1 else 0:=fun x hx=>by rw [RN,aco hx,adJ hf0 hx]
 rw [NI (t:=fun _=>0) hf rfl (by rw [ht _ hf0,if_pos rfl];decide) (fun x hx hne=>by rw [ht x hx,if_neg (fun h=>hne h.symm)]),h0]
end
theorem answers:[] ++ (gy (.say ([102,111,114,107] ++ aQ [2])) ++ [10]) ++ (gy (gJ 0 [109,97,112]) ++ [10]) ++ (gy (Fy [115,116,111,114,101] [] 0) ++ [10]) ++ (gy (gJ 0 ([108,111,97,100] ++ aQ [7])) ++ [10]) ++ (gy (.say ([102,114,101,101] ++ aQ [31,0,1])) ++ [10]) ++ (gy (gJ 0 [107,105,108,108]) ++ [10]) ++ (gy (.say [101,110,100,101,100]) ++ [10]) ++ (gy (.say ([112,105,100,115] ++ aQ [1,1,2,2])) ++ [10]) ++ (gy (.bad 3) ++ [10])=Lx:=by kernel_rfl
theorem TR {out:az}{S:KS}(h:iC (oh FM) out S):out=Lx:=by
 rw [Kj] at h
 obtain ⟨q8,S8,r9,h8,k9,rfl⟩:=h.last
 obtain ⟨q7,S7,r8,h7,k8,rfl⟩:=iC.last (pre:=[l1,l2,l3,l4,l5,l6,l7]) h8
 obtain ⟨q6,S6,r7,h6,k7,rfl⟩:=iC.last (pre:=[l1,l2,l3,l4,l5,l6]) h7
 obtain ⟨q5,S5,r6,h5,k6,rfl⟩:=iC.last (pre:=[l1,l2,l3,l4,l5]) h6
 obtain ⟨q4,S4,r5,h4,k5,rfl⟩:=iC.last (pre:=[l1,l2,l3,l4]) h5
 obtain ⟨q3,S3,r4,h3,k4,rfl⟩:=iC.last (pre:=[l1,l2,l3]) h4
 obtain ⟨q2,S2,r3,h2,k3,rfl⟩:=iC.last (pre:=[l1,l2]) h3
 obtain ⟨q1,S1,r2,h1,k2,rfl⟩:=iC.last (pre:=[l1]) h2
 obtain ⟨q0,S0,r1,h0,k1,rfl⟩:=iC.last (pre:=[]) h1
 obtain ⟨rfl,rfl⟩:=h0.none
 have t1:=(k1.calls w1 n_1).tells rfl Sb (o:=o1) rfl (.inl rfl) rfl
 rw [Wx] at t1
 obtain ⟨e1,e2⟩:=t1
 have hs1:nP (eG 32) 1=(eG 32).procs QE:=if_pos rfl
 rw [hs1] at e1 e2
 unfold rV at e1 e2
 rw [show ((eG 32).procs QE).P=QE from rfl,if_pos aam] at e1 e2
 rw [uW] at e1
 have e2:S1=Ng:=e2
 subst e1 e2
 have t2:=(k2.calls w2 n_2).tells rfl adx YV (.inr (by rw [ZM];exact zz)) (ns:=[0,2,3]) (ts:=[]) (on:=false) (by kernel_rfl)
 rw [aai] at t2
 obtain ⟨e1,e2⟩:=t2
 have hs2:nP Ng 2=Ng:=if_neg (by omega)
 rw [hs2] at e1 e2
 have e1:r2=gJ (kv Ng o2 0 2 3) [109,97,112]:=e1
 have e2:S2=xX:=e2
 rw [RJ] at e1
 subst e1 e2
 have hP2:xX.P=Lg:=by rw [qz];exact ZM
 have t3:=(k3.calls w3 n_2).tells rfl XX Jm (.inr (by rw [hP2];exact zz)) (ns:=[0,1,7]) (ts:=[]) (on:=false) (by kernel_rfl)
 rw [Tk] at t3
 obtain ⟨went,er,hS,e1⟩:=t3
 have hs3:nP xX 2=xX:=if_neg (by omega)
 rw [hs3] at hS
 obtain ⟨rfl,rfl,f,hf,D,hD,e2⟩:=Ti hS
 have e2:S3=vN f D:=e2
 subst e1 e2
 have t4:=(k4.calls w4 n_2).tells rfl aa8 RL (.inr (by rw [YW];exact zz)) (ns:=[0,1]) (ts:=[]) (on:=false) (by kernel_rfl)
 rw [Wv] at t4
 obtain ⟨e1,e2⟩:=t4
 have hs4:nP (vN f D) 2=vN f D:=if_neg (by omega)
 rw [hs4] at e1 e2
 have e1:r4=gJ (dN (aC (vN f D) o2.j) 0 1 1) ([108,111,97,100] ++ aQ [jf (aC (vN f D) o2.j) (vN f D).W 0 1]):=e1
 rw [(Gi hD).1,(Gi hD).2] at e1
 have e2:S4=vN f D:=e2
 subst e1 e2
 have t5:=k5.things w5 (by kernel_rfl) aba (ns:=[]) (ts:=[]) (on:=false) rfl
 have t5:r5=.say ([102,114,101,101] ++ aQ [31,0,1])∧S5=vN f D:=by
  cases t5 with
  | @free a b _ ha hb=>
   have ha0:a=0:=Ur ha fun x=>by
    show xX.D.E x=none
    rw [qz];rfl
   have hb1:b=1:=by
    refine TH ?_
    change dF xX.D.T b at hb
    rw [qz] at hb
    exact hb
   subst ha0 hb1
   rw [Tj hf]
   exact ⟨rfl,rfl⟩
  |BK hk=>exact absurd hk (by decide)
  |has hk=>exact absurd hk (by decide)
  |QY hk=>exact absurd hk (by decide)
  |BI hk=>exact absurd hk (by decide)
  |new hk=>exact absurd hk (by decide)
  |si hk=>exact absurd hk (by decide)
 obtain ⟨e1,e2⟩:=t5
 subst e1 e2
 have t6:=(k6.calls w6 n_1).tells rfl aa9 aah (.inl rfl) (ns:=[2,8]) (ts:=[]) (on:=false) (by kernel_rfl)
 rw [Ww] at t6
 obtain ⟨e1,e2⟩:=t6
 have hs6:nP (vN f D) 1=(vN f D).procs (iZ Lg 1):=by unfold nP;rw [if_pos rfl,YW]
 rw [hs6] at e1 e2
 have e1:r6=gJ (eX (iZ Lg 1) 2 8) [107,105,108,108]:=e1
 have e2:S6=((vN f D).procs (iZ Lg 1)).procs (if eX (iZ Lg 1) 2 8=0 then kC (iZ Lg 1) 2 8 else iZ Lg 1):=e2
 rw [Mh] at e1
 rw [if_pos Mh] at e2
 have e2:S6=(vN f D).procs pj3:=e2
 subst e1 e2
 obtain ⟨e1,e2⟩:=(k7.calls w7 n_2).adA rfl Sb (o:=o2) (RL (f:=f) (D:=D)) (by omega) (by show aO pj3 2≠0;rw [Gq];omega)
 subst e1
 have hP7:S7.P=pj4:=by
  rw [e2]
  show dI (dS pj3 2) 2 (100+aO pj3 2)=pj4
  rw [Gq];rfl
 have t8:=k8.things w8 (by kernel_rfl) aa7 (ns:=[]) (ts:=[]) (on:=false) rfl
 have t8:r8=.say ([112,105,100,115] ++ aQ [1,1,2,2]):=by
  cases t8 with
  |si _=>
   rw [hP7,WK]
   unfold mY
   simp only [List.flatMap_cons,List.flatMap_nil,Y1.1,Y1.2]
   rfl
  |free hk=>exact absurd hk (by decide)
  |BK hk=>exact absurd hk (by decide)
  |has hk=>exact absurd hk (by decide)
  |QY hk=>exact absurd hk (by decide)
  |BI hk=>exact absurd hk (by decide)
  |new hk=>exact absurd hk (by decide)
 subst t8
 obtain ⟨e9,_⟩:=k9.af0 w9 (by kernel_rfl) (by kernel_rfl)
 subst e9
 exact answers
structure Met (w:World) (m:Int):Prop where
 big:9≤w.heap.size
 gl:GL w
 ml:w.cell? ⟨4,0,none⟩=some (.int .i64 m)
 tab:ni w
section
variable {w w':World}{m:Int}
theorem Met.below (h:Met w m) (b:Below w.heap.size w w'):Met w' m:=
 ⟨Nat.le_trans h.big b.size,h.gl.below b,by rw [b.cell (p:=⟨4,0,none⟩) (World.block_lt_of_cell? w _ h.ml)];exact h.ml,h.tab.keep (b.block _ h.tab.lt)⟩
theorem Met.run (h:Met w m) (text:az) (hl:text.length≤2600):Calls Tryz.prog 4 #[tx text] w fun e w'=>∃out S,e=.returned (tx out)∧iC (oh text) out S∧Below w.heap.size w w':=
 H9 w h.big h.gl h.ml h.tab text hl
theorem Ox {text out:az}{S:KS}(hl:text.length≤2600) (h:iC (oh text) out S):out.length≤200000000:=by
 have h1:=h.len
 have h2:(oh text).length≤text.length+1:=Nat.le_trans (tJ _) (by have:=wz text;omega)
 omega
theorem OH (h:Met w m) (a b:az) (ha:a.length≤2500) (hb:b.length≤2500) (hab:a.length+b.length≤2500) :
 Calls Tryz.prog 3 #[tx a,tx b] w fun e w'=>e=.returned (.bool true)∧Below w.heap.size w w':=by
 have h1:Calls Tryz.prog 4 #[tx FM] w fun e w'=>e=.returned (tx Lx)∧Below w.heap.size w w':=(h.run FM (by decide)).mono fun e w' ⟨out,S,e1,hr,b9⟩=>by
  rw [TR hr] at e1
  exact ⟨e1,b9⟩
 have h2:∀V,Below w.heap.size w V→Calls Tryz.prog 4 #[tx (a ++ [10])] V fun e w'=>∃out S,e=.returned (tx out)∧iC (oh (a ++ [10])) out S∧Below V.heap.size V w':=fun V b9=>(h.below b9).run _ (by simp;omega)
 have h3:∀V o S,iC (oh (a ++ [10])) o S→Below w.heap.size w V→Calls Tryz.prog 4 #[tx (a ++ [10] ++ b)] V fun e w'=>∃z,e=.returned (tx (o ++ z))∧(o ++ z).length≤200000000∧Below V.heap.size V w':=fun V o S ho b9=>((h.below b9).run _ (by simp;omega)).mono fun e w' ⟨out,S2,e1,hr,b8⟩=>by
  have hsh:=Ox (by simp;omega) hr
  obtain ⟨L,hL⟩:=SN a b
  rw [hL] at hr
  obtain ⟨z,rfl⟩:=ho.pieces hr
  exact ⟨z,e1,hsh,b8⟩
 have H2:Aside _:=h2
 have H3:Aside _:=h3
 have la:((a.length:Nat):Int)≤2500:=by omega
 have lb:((b.length:Nat):Int)≤2500:=by omega
 have lab:(a.length:Int)+(b.length:Int)≤2500:=by omega
 have acR:=nW a [10]
 have acQ:=nW (a ++ [10]) b
 have k1:¬9223372036854775807<a.length+1:=by omega
 have k2:¬9223372036854775807<(a ++ [10]).length+b.length:=by simp;omega
 clear h2 h3 h
 go_enter Tryz.func3,Tryz.ntmps3
 go_upto_region 3 with fail
 simp only [List.append_eq,List.cons_append,List.nil_append]
 unfold FM Lx at h1
 go_upto_if 24 with (go_at_call 4;refine h1.mono ?_;rintro e w1 ⟨rfl,b1⟩)
 clear h1
 generalize tx [102,111,114,107,32,50,10,109,97,112,10,115,116,111,114,101,10,108,111,97,100,32,55,10,102,114,101,101,32,51,49,32,48,32,49,10,107,105,108,108,10,101,110,100,101,100,10,112,105,100,115,32,49,32,49,32,50,32,50,10,101,114,114,111,114,32,51,10]=big
 have h2:=H2.out w1 b1
 go_upto_region 5 with fail
 go_upto_region 6 with (go_at_call 4;refine h2.mono ?_;rintro e w2 ⟨out,S,rfl,hr,b2⟩;have h3:=H3.out w2 out S hr (b1.trans (b2.mono b1.size)))
 clear h2 hr acR k1
 go_upto_region 7 with (go_at_call 4;refine h3.mono ?_;rintro e w3 ⟨z,rfl,hl,b3⟩)
 have e1:((out.length:Nat):Int)≤(((out ++ z).length:Nat):Int):=by rw [List.length_append];omega
 have e2:(⟨(out ++ z).toArray⟩:ByteArray).extract 0 out.length=⟨out.toArray⟩:=by
  apply ByteArray.ext
  simp
 have e3:out.length≤(out ++ z).length:=by rw [List.length_append];omega
 have bb:Below w.heap.size w w3:=b1.trans ((b2.trans (b3.mono b2.size)).mono b1.size)
 clear h3 H2 H3 acQ k2 la lb lab ha hb hab
 generalize out ++ z=Y at *
 go_wp2
 go_ret
 exact ⟨rfl,bb⟩
theorem Ij (a b:az) (h:2500<a.length∨2500<b.length∨2500<a.length+b.length) :
 Calls Tryz.prog 3 #[tx a,tx b] w fun e w'=>e=.returned (.bool true)∧w'=w:=by
 by_cases h1:2500<a.length
 ·have la:(2500:Int)<((a.length:Nat):Int):=by omega
  clear h
  go_enter Tryz.func3,Tryz.ntmps3
  go_wp2
  go_ret
  exact ⟨rfl,rfl⟩
 ·have la:¬(2500:Int)<((a.length:Nat):Int):=by omega
  by_cases h2:2500<b.length
  ·have lb:(2500:Int)<((b.length:Nat):Int):=by omega
   clear h
   go_enter Tryz.func3,Tryz.ntmps3
   go_wp2
   go_ret
   exact ⟨rfl,rfl⟩
  ·have lb:¬(2500:Int)<((b.length:Nat):Int):=by omega
   have lab:(2500:Int)<(a.length:Int)+(b.length:Int):=by omega
   clear h
   go_enter Tryz.func3,Tryz.ntmps3
   go_wp2
   go_ret
   exact ⟨rfl,rfl⟩
theorem Ke (h:Met w m) (a b:az):Calls Tryz.prog 3 #[tx a,tx b] w fun e w'=>e=.returned (.bool true)∧Below w.heap.size w w':=by
 by_cases hl:2500<a.length∨2500<b.length∨2500<a.length+b.length
 ·exact (Ij a b hl).mono fun e w' ⟨h1,h2⟩=>⟨h1,by rw [h2];exact Below.refl _ _⟩
 ·exact OH h a b (by omega) (by omega) (by omega)
end
end Go.Proofs.YtippochapiolpaaGreatDoor
namespace Go.Proofs.YtippochapiolpaaGreatDoor
open Go.ChangeShapes Go.WideShapes Go.ChangeAt Go.RowKit
theorem WR:ownKnob Tryz.prog.godebug=none:=by kernel_rfl
theorem et:Tryz.prog.globalNamed "errors.errorType" = some 0:=by kernel_rfl
theorem aat:((List.range 412).filter fun t=>Tryz.prog.rowNamed t [101,114,114,111,114])=[28]:=by kernel_rfl
theorem NV:Tryz.prog.types.size=412:=by kernel_rfl
theorem PG {W:World}(h:handlesMet Tryz.prog [("errors.errorType",Rows.laid_errors_errorType)] W):W.cell? ⟨0,0,none⟩=some iB:=by
 obtain ⟨name,u,ty,e1,e2,e3,e4,e5⟩:=h _ (List.mem_singleton.2 rfl)
 have en:name=[101,114,114,111,114]:=(Option.some.inj e1).symm
 subst en
 have hu:u=208:=Option.some.inj (Eq.trans (Eq.symm e2) (by kernel_rfl))
 subst hu
 have hm:ty∈(List.range 412).filter fun t=>Tryz.prog.rowNamed t [101,114,114,111,114]:=List.mem_filter.2 ⟨List.mem_range.2 (by rw [←NV];exact e3),e4⟩
 rw [aat] at hm
 obtain rfl:=List.mem_singleton.1 hm
 have hh:typeHandle Tryz.prog 28=.pointer (some ⟨9,28,none⟩):=by kernel_rfl
 rw [hh] at e5
 simpa using World.var?_cell et e5 0
theorem O9 {W:World}(h:W.ShapedOpen Tryz.prog):∃m,W.cell? ⟨4,0,none⟩=some (.int .i64 m):=
 cell_of_shapedOpen_int (t:=3) (zero:=#[.int .i64 0]) h (of_decide_eq_true (by kernel_rfl)) (by kernel_rfl) rfl (by kernel_rfl) (by kernel_rfl) Tryz.underlying3
def ME (d:DataW Unit):Array Value:=match d with
 |.agg l=>(l.flatMap fun x=>match x with
  |.lit (.int k n)=>[Value.int k n]
  |.agg l2=>l2.map fun y=>match y with
   |.lit (.int k n)=>Value.int k n
   |_=>.nilIface
  |_=>[]).toArray
 |_=>#[]
theorem uf {H:Type}{enc:TypeId×Value→H}{a:Assume}{C:Checked}{os:Os}{f:FuncId}{fn:Func}{s:ChangeSpec}{conds:List PathCond}{apart fresh handsOn again:Bool}{X:World→Array Value→Prop}
 (hX:∀(w w':World) (args:Array Value),w.heap=w'.heap→X w args→X w' args)
 (own:ownKnob C.prog.godebug=none) (started:os.Started) (noInit:C.prog.inits.idxOf? f=none) (hfn:C.prog.funcs[f]? = some fn)
 (witness:∃(w:World) (tape:Tape) (i:Input),w.os=os∧(w.forCall tape i).Shaped C.prog∧i.vars=[]∧Input.okWide C.prog (w.forCall tape i) .any w.heap.size f i∧
   ((s.pre enc C.prog fn conds apart (w.forCall tape i).memory i.args∧X (w.forCall tape i).memory i.args)∧sizedMet enc C.prog fn (OpenSpec.ofChange s) apart (w.forCall tape i).memory i.args)∧a.holds C.prog (lone (Frame.enter C.prog f i.args .normal) [] (w.forCall tape i)))
 (contract:∀(W:World) (base:Nat) (args:Array Value) (ds gs:List (DataW H)) (before:List MemPlace),
   (∀(j:Nat) t v,fn.params[j]? = some t→args[j]? = some v→Value.okWide C.prog W .any base t v)→
   DataW.Whole enc C.prog fn.params.toList s.vars apart W args.toList ds gs before→
   X W args→W.ShapedOpen C.prog→
   Calls C.prog f args W fun e W'=>∃v,e=.returned v∧s.post enc C.prog fn apart fresh handsOn again W args v W') :
 ReturnsInHanded a C os f .any (fun w args=>(s.pre enc C.prog fn conds apart w args∧X w args)∧sizedMet enc C.prog fn (OpenSpec.ofChange s) apart w args) (s.post enc C.prog fn apart fresh handsOn again):=by
 refine returnsInHanded_of_calls own started noInit witness ?_
 intro w tape i _ hsh _ hok hpre _
 obtain ⟨_,_,_,fn',hfn',_,_,_,_,hval⟩:=hok
 have e:fn'=fn:=Option.some.inj (hfn'.symm.trans hfn)
 subst e
 obtain ⟨⟨⟨ds,gs,before,hw,hc⟩,hx⟩,hz⟩:=hpre
 have hw':=DataW.Whole.of_heap (w':=w.forCall tape i) (by rfl) hw
 refine (contract (w.forCall tape i) w.heap.size i.args ds gs before hval hw' (hX _ _ _ (by rfl) hx) hsh).mono fun e W' ⟨v,he,hp⟩=>?_
 subst he
 exact ChangeSpec.post_blind hp
end Go.Proofs.YtippochapiolpaaGreatDoor
namespace Go.Proofs.YtippochapiolpaaGreatDoor
open Go.ChangeShapes Go.WideShapes Go.ChangeAt Go.RowKit Go.ChangeMaps
def zF (d:DataW Unit):Array Value:=match d with
 |.agg l=>(l.map fun x=>match x with
  |.lit (.int k n)=>Value.int k n
  |_=>.nilIface).toArray
 |_=>#[]
theorem jF {W:World}{x:String×DataW Unit}{r:List (String×DataW Unit)}(h:laidMet Tryz.prog (x :: r) W):laidMet Tryz.prog r W:=by
 obtain ⟨ps,⟨g,t,cs,fuel,p,q,h1,h2,h3,h4,h5,rfl⟩,hn,hk⟩:=h
 exact ⟨q,h5,(List.nodup_append.1 hn).2.1,fun b off hb=>hk b off (List.mem_append_right _ hb)⟩
theorem Kk:(Rows.laid_math_bits_deBruijn64tab:DataW Unit)=.agg (Lib.deBruijn64tab.map fun (n:Nat)=>.lit (.int .u8 (n:Int))):=by kernel_rfl
theorem JS {W:World}{r:List (String×DataW Unit)}{name:String}(bt:Tryz.prog.globalNamed name=some 8) (h:laidMet Tryz.prog ((name,Rows.laid_math_bits_deBruijn64tab) :: r) W):ni W:=by
 obtain ⟨ps,⟨g,t,cs,fuel,p,q,hg,ht,hv,htr,_,_⟩,_,_⟩:=h
 obtain rfl:349=t:=Option.some.inj (Eq.trans (Eq.symm (show (Tryz.prog.globals[8]?).map (·.type)=some 349 by kernel_rfl)) (by rw [←Option.some.inj (bt.symm.trans hg)] at ht;exact ht))
 rw [Kk] at htr
 obtain ⟨xs,m,_,hx,hlen,hxl,hf⟩:=DataW.trod_array Tryz.underlying349 htr
 have hxs:Lib.deBruijn64tab.map (fun (n:Nat)=>(.lit (.int .u8 (n:Int)):DataW Unit))=xs.map (·.1):=by
  have:=congrArg Prod.fst hx
  simpa using this
 intro j hj
 have hj':j<64:=hj
 have hfj:=hf j hj'
 have hjx:j<xs.length:=by omega
 rw [List.getElem?_eq_getElem hjx,show Tryz.prog.cellsOf 5=1 by kernel_rfl,Nat.mul_one] at hfj
 obtain ⟨n0,e0,e1,_⟩:=DataW.trod_int Tryz.underlying5 hfj
 have hn:(n0:Int)=((Lib.deBruijn64tab.getD j 0:Nat):Int):=by
  have h1:(Lib.deBruijn64tab.map (fun (n:Nat)=>(.lit (.int .u8 (n:Int)):DataW Unit)))[j]? = (xs.map (·.1))[j]? := by rw [hxs]
  rw [List.getElem?_map,List.getElem?_map,List.getElem?_eq_getElem hjx,List.getElem?_eq_getElem hj,e1] at h1
  simp only [Option.map_some,Option.some.injEq,DataW.lit.injEq,Lit.int.injEq,true_and] at h1
  rw [←h1,List.getD_eq_getElem?_getD,List.getElem?_eq_getElem hj];rfl
 rw [World.var?_cell bt hv j,←hn]
 have h2:(cs.toList.drop j)[0]? = some (.int .u8 n0):=by
  have:((cs.toList.drop j).take 1)[0]? = some (.int .u8 n0):=by rw [e0];rfl
  rwa [List.getElem?_take_of_lt (by omega)] at this
 rw [List.getElem?_drop,Nat.add_zero,Array.getElem?_toList] at h2
 exact h2
theorem AO {W:World}{n nm:String}{d:DataW Unit}{r:List (String×DataW Unit)}{g:Nat}(h:laidMet Tryz.prog ((n,.iface nm d) :: r) W) (hg:Tryz.prog.globalNamed n=some g) (ht:(Tryz.prog.globals[g]?).map (·.type)=some 28):∃u v,W.cell? ⟨g,0,none⟩=some (.iface u v):=by
 obtain ⟨ps,⟨g0,t0,cs0,f0,p0,q0,hg0,ht0,hv0,hd0,_,e0⟩,_,_⟩:=h
 obtain rfl:=Option.some.inj (hg.symm.trans hg0)
 obtain rfl:=Option.some.inj (ht.symm.trans ht0)
 subst e0
 obtain ⟨l0⟩:=cs0
 obtain ⟨f1,u,v,rfl,_,_⟩:=iface_of_trod Tryz.underlying28 hd0
 exact ⟨u,v,by simpa using World.var?_cell hg0 hv0 0⟩
def uK:List (String×DataW Unit):=Rows.deskPiecesRow.laid.filter fun x=>x.2.handleName?.isNone
theorem vC {W:World}(h:laidMetH Tryz.prog Rows.deskPiecesRow.laid W):laidMet Tryz.prog uK W∧handlesMet Tryz.prog [("errors.errorType",Rows.laid_errors_errorType)] W:=h
def xq (k:Nat):String:=((uK.drop k).map (·.1)).headD ""
def Zj (k:Nat):String×DataW Unit:=(uK.drop k).headD ("",.agg [])
theorem Ka:uK=Zj 0 :: (xq 1,Rows.laid_math_bits_deBruijn64tab) :: (xq 2,Lib.tabData .u64 Lib.pow10Tab) :: Zj 3 :: (xq 4,Rows.laid_strconv_ErrRange) :: (xq 5,Rows.laid_strconv_ErrSyntax) :: uK.drop 6:=by kernel_rfl
theorem OM:Tryz.prog.globalNamed (xq 1)=some 8:=by kernel_rfl
theorem OL:Tryz.prog.globalNamed (xq 4)=some 6:=by kernel_rfl
theorem OJ:Tryz.prog.globalNamed (xq 5)=some 5:=by kernel_rfl
theorem OI:xq 2=Eh:=by kernel_rfl
theorem Kc {W:World}(h:laidMetH Tryz.prog Rows.deskPiecesRow.laid W):ni W∧Pow W∧(∃u v,W.cell? ⟨6,0,none⟩=some (.iface u v))∧∃u v,W.cell? ⟨5,0,none⟩=some (.iface u v):=by
 have h1:=(vC h).1
 rw [Ka] at h1
 have h2:=jF h1
 have h3:=jF h2
 have h5:=jF (jF h3)
 have h6:=jF h5
 rw [OI] at h3
 exact ⟨JS OM h2,Lib.tabIs_of_head rD (t:=256) (e:=202) (n:=20) (by kernel_rfl) Tryz.underlying256 Tryz.underlying202 (by kernel_rfl) (by kernel_rfl) h3,AO h5 OL (by kernel_rfl),AO h6 OJ (by kernel_rfl)⟩
def RP:List UInt8:=[118,97,108,117,101,32,111,117,116,32,111,102,32,114,97,110,103,101]
def LZ:List UInt8:=[105,110,118,97,108,105,100,32,115,121,110,116,97,120]
noncomputable def acz:Nat:=(World.holding Tryz.prog default ⟨#[],#[],[]⟩).heap.size
noncomputable def Y9 (os:Os):World:={ World.holding Tryz.prog os ⟨#[.cells #[tx RP] 347,.cells #[tx LZ] 347],#[],[]⟩ with heap:=(((((((((World.holding Tryz.prog os ⟨#[.cells #[tx RP] 347,.cells #[tx LZ] 347],#[],[]⟩).heap.modify 0 fun | .cells _ t frozen=>.cells #[iB] t frozen|o=>o).modify 1 fun | .cells _ t frozen=>.cells (zF Rows.laid_internal_strconv_uint64pow10) t frozen|o=>o).modify 7 fun | .cells _ t frozen=>.cells (zF Rows.laid_math_bits_deBruijn32tab) t frozen|o=>o).modify 8 fun | .cells _ t frozen=>.cells (zF Rows.laid_math_bits_deBruijn64tab) t frozen|o=>o).modify 3 fun | .cells _ t frozen=>.cells (ME Rows.laid_unicode_utf8_acceptRanges) t frozen|o=>o).modify 2 fun | .cells _ t frozen=>.cells (ME Rows.laid_unicode_utf8_first) t frozen|o=>o).modify 6 fun | .cells _ t frozen=>.cells #[.iface 345 (.pointer (some ⟨acz,0,none⟩))] t frozen|o=>o).modify 5 fun | .cells _ t frozen=>.cells #[.iface 345 (.pointer (some ⟨acz+1,0,none⟩))] t frozen|o=>o) }
theorem Pp (os:Os) (args:Array Value):laidMetH Tryz.prog Rows.deskPiecesRow.laid ((Y9 os).forCall (fun _ _=>0) ⟨#[],args,[]⟩).memory:=
 laidMetH_of_parts (laidMet_of_run' 8 (by kernel_rfl) (by kernel_rfl)) (by kernel_rfl)
theorem Bu (os:Os) (started:os.Started) (H:Type) (enc:TypeId×Value→H) :
 ReturnsInHanded {} Tryz.checked os 3 .any (fun w args=>(Rows.deskPiecesSpec.pre enc Tryz.prog Tryz.f3 [] false w args∧laidMetH Tryz.prog Rows.deskPiecesRow.laid w)∧sizedMet enc Tryz.prog Tryz.f3 (OpenSpec.ofChange Rows.deskPiecesSpec) false w args)
  (Rows.deskPiecesSpec.post enc Tryz.prog Tryz.f3 false true false false):=by
 refine uf (C:=Tryz.checked) (X:=fun w _=>laidMetH Tryz.prog Rows.deskPiecesRow.laid w) (fun _ _ _ hh h=>h.of_heap hh) WR started (by kernel_rfl) Tryz.func3
  (ChangeSpec.witness_at (enc:=enc) (C:=Tryz.checked) (os:=os) (X:=fun w _=>laidMetH Tryz.prog Rows.deskPiecesRow.laid w) false (Y9 os) #[.string ⟨#[]⟩,.string ⟨#[]⟩] 8 rfl (by kernel_rfl) (by kernel_rfl) (by kernel_rfl) (by kernel_rfl) (by kernel_rfl) (Pp os _)) ?_
 intro W base args ds gs before hval0 hW hL hsh
 have hval:∀(j:Nat) t v,Tryz.f3.params[j]? = some t→args[j]? = some v→Value.okWide Tryz.prog W .any base t v:=hval0
 have hW':=hW
 obtain ⟨p,q,hA0,hV0,rfl,hfz,hnd⟩:=hW
 have hA:DataW.TrodAll enc Tryz.prog W 0 (fun _=>true) true Tryz.f3.params.toList args.toList ds p:=hA0
 have hV:DataW.TrodVars enc Tryz.prog W (fun _=>true) [] gs q:=hV0
 rw [Tryz.params3] at hA hval
 obtain ⟨v0,vs0,d0,ds0,p0,q0,hargs,rfl,rfl,h0,r0⟩:=trodAll_cons hA
 obtain ⟨v1,vs1,d1,ds1,p1,q1,rfl,rfl,rfl,h1,r1⟩:=trodAll_cons r0
 obtain ⟨rfl,rfl,rfl⟩:=trodAll_nil r1
 obtain rfl:args=#[v0,v1]:=by cases args;simp_all
 obtain ⟨s0,rfl,rfl,rfl,hw0⟩:=open_string Tryz.underlying9 (hval 0 9 v0 rfl rfl) h0
 obtain ⟨s1,rfl,rfl,rfl,hw1⟩:=open_string Tryz.underlying9 (hval 1 9 v1 rfl rfl) h1
 have hg:=PG (vC hL).2
 obtain ⟨hT,hpw,hr,hs⟩:=Kc hL
 obtain ⟨m,hm⟩:=O9 hsh
 obtain ⟨rfl,rfl⟩:gs=[]∧q=[]:=by
  cases gs with
  |nil=>exact ⟨rfl,hV⟩
  |cons g r=>exact absurd hV (by intro h;cases h)
 have key:Calls Tryz.prog 3 #[.string s0,.string s1] W fun e w'=>e=.returned (.bool true)∧Below W.heap.size W w':=by
  rw [show s0=⟨s0.data.toList.toArray⟩ by simp,show s1=⟨s1.data.toList.toArray⟩ by simp]
  have hbig:9≤W.heap.size:=hT.lt
  exact Ke ⟨hbig,⟨hpw,hg,hs,hr⟩,hm,hT⟩ _ _
 refine key.mono fun e W' ⟨he,vK⟩=>?_
 subst he
 exact ⟨_,rfl,_,_,_,[],_,[],hW',trodAll_mk1 (shut_bool Tryz.underlying4 _),trodAll_cons_mk (shut_string Tryz.underlying9 hw0) (trodAll_cons_mk (shut_string Tryz.underlying9 hw1) trodAll_mk0),rfl,vK.frame _,fun h=>by cases h⟩
end Go.Proofs.YtippochapiolpaaGreatDoor

/- Ours. -/
import Derived.Test.YtippochapiolpaaGreatDoorZList
import Derived.Test.YtippochapiolpaaGreatDoorHSess2
import Derived.HandedShaped
import Derived.Test.YtippochapiolpaaGreatDoorCards
import Derived.Test.YtippochapiolpaaGreatDoorTie
set_option maxHeartbeats 4000000
set_option maxRecDepth 100000
namespace Go.Proofs.YtippochapiolpaaGreatDoor
open List(append_inj' append_nil eq_nil_of_length_eq_zero forall_mem_cons length_append length_cons length_nil map_append map_cons map_nil mem_cons mem_cons_of_mem mem_cons_self mem_map mem_range mem_singleton not_mem_nil range sum_cons sum_nil)
open Go.Proofs.Tryz(f3 func3 ntmps3 prog underlying9)
open Nat(le_refl le_trans)
open Option(getD_some map_some)
section
section
variable {π:Int→Int} {P:PM}{a n pr:Int}{i:Nat}
theorem Jv(π:Int->Int)(P:PM)(a:Int)(i:Nat):iO (mX π P) a i=iO P a i:=sumTo_congr i 0 fun x _ _=>by rw[Mm]
theorem Mq(π:Int->Int)(P:PM)(a n b:Int):iV (mX π P) a n b=iV P a n b:=by unfold iV;rw[Jv]
theorem Xh(π:Int->Int)(P:PM)(a n b:Int):jJ (mX π P) a n b=mX π (jJ P a n b):=by
 unfold jJ;rw[Mq];split
 ·funext x;unfold mX fo;by_cases e:a<=x/\x<a+n.toNat
  ·simp only[if_pos e];rfl
  ·simp only[if_neg e]
 ·rfl
theorem RX(π:Int->Int)(P:PM)(a n:Int):ui (mX π P) a n=ui P a n:=by unfold ui;rw[Jv]
theorem aaG(π:Int->Int)(P:PM)(a n:Int):Bc (mX π P) a n=mX π (Bc P a n):=by
 unfold Bc;rw[RX];split
 ·funext x;unfold mX jI;by_cases e:a<=x/\x<a+n.toNat
  ·simp only[if_pos e];rfl
  ·simp only[if_neg e]
 ·rfl
theorem Mo(π:Int->Int)(P:PM)(a n b:Int):mQ (mX π P) a n b=mQ P a n b:=by unfold mQ;rw[Jv]
theorem Xg(π:Int->Int)(P:PM)(a n b:Int):nR (mX π P) a n b=mX π (nR P a n b):=by
 unfold nR;rw[Mo];split
 ·funext x;unfold mX iL;by_cases e:a<=x/\x<a+n.toNat
  ·simp only[if_pos e];cases P x<;>rfl
  ·simp only[if_neg e]
 ·rfl
def BP(Q P:PM):Prop:=∀a,aR Q a=-1\/aR Q a=aR P a
theorem UC(P:PM):BP lG P:=fun _=>.inl rfl
theorem PS(P:PM)(a n b:Int):BP (jJ P a n b) P:=fun x=>by
 unfold jJ;split
 ·by_cases e:a<=x/\x<a+n.toNat
  ·left;unfold aR fo;rw[if_pos e]
  ·right;unfold aR fo;rw[if_neg e]
 ·exact .inr rfl
theorem UB(P:PM)(a n:Int):BP (Bc P a n) P:=fun x=>by
 unfold Bc;split
 ·by_cases e:a<=x/\x<a+n.toNat
  ·left;unfold aR jI;rw[if_pos e]
  ·right;unfold aR jI;rw[if_neg e]
 ·exact .inr rfl
theorem PQ(P:PM)(a n b:Int):BP (nR P a n b) P:=fun x=>by
 unfold nR;split
 ·right;unfold aR iL;by_cases e:a<=x/\x<a+n.toNat
  ·rw[if_pos e];cases P x<;>rfl
  ·rw[if_neg e]
 ·exact .inr rfl
end
section
variable {S S' S1:KS}{π:Int→Int} {f a k v n pr p:Int}{j:Nat}{o:Ow}
theorem NV(a:j<S.Ms.length){Q:PM}(b:BP Q (aC S j))(c:0<=f)(h:0<bI (S.Ms.set j Q) f):0<bI S.Ms f:=by
 have g:=LW a Q f;have d:sh Q f<=sh (aC S j) f:=sumTo_le 64 0 fun i _ _=>by
  rcases b i with e|e
  ·rw[e,if_neg (by omega)];omega
  ·rw[e];omega
 omega
theorem aX.few(h:aX π S S')(b:j<S.Ms.length){Q:PM}(d:BP Q (aC S j)):aX π (S.space j Q S.W) (S'.space j (mX π Q) S'.W):=h.space fun _ c a=>NV b d c a
theorem aX.Yw(h:aX π S S')(j:Nat):au S' j=au S j:=by unfold au;rw[h.Ts]
theorem aX.procs(h:aX π S S')(a:Ps):aX π (S.procs a) (S'.procs a):=⟨h.n,rfl,h.D,h.Ts,h.O,h.ms,h.inj,h.pos,h.w⟩
theorem aX.files(h:aX π S S')(D':DS)(j:Nat)(a:Ns):aX π (S.files D' j a) (S'.files D' j a):=⟨h.n,h.P,rfl,by show S'.Ts.set j a=S.Ts.set j a;rw[h.Ts],h.O,h.ms,h.inj,h.pos,h.w⟩
theorem aX.tree(h:aX π S S')(T':Wd):aX π (S.tree T') (S'.tree T'):=⟨h.n,h.P,by show { S'.D with T:=T' }={ S.D with T:=T' };rw[h.D],h.Ts,h.O,h.ms,h.inj,h.pos,h.w⟩
theorem aX.own(h:aX π S S')(p:Int)(o:Ow):aX π (S.own p o) (S'.own p o):=⟨h.n,h.P,h.D,h.Ts,by show kL S'.O p o=kL S.O p o;rw[h.O],h.ms,h.inj,h.pos,h.w⟩
theorem aX.drop(h:aX π S S')(p:Int):aX π (S.drop p) (S'.drop p):=⟨h.n,h.P,h.D,h.Ts,by show jK S'.O p=jK S.O p;rw[h.O],h.ms,h.inj,h.pos,h.w⟩
theorem aX.clear(h:aX π S S')(a:j<S.Ms.length):aX π (S.space j lG S.W) (S'.space j lG S'.W):=h.few a (UC _)
theorem aX.ends(h:aX π S S')(a:o.j<S.Ms.length)(p c:Int):aX π (dB S p o c) (dB S' p o c):=by
 unfold dB;rw[h.P,h.D,h.Yw];exact((((h.procs (dG S.P p c)).clear a).files _ _ _).drop p)
theorem aX.exec(h:aX π S S')(a:o.j<S.Ms.length):aX π (sQ S o) (sQ S' o):=by
 unfold sQ;rw[h.D,h.Yw];exact(h.clear a).files _ _ _
theorem aX.born(h:aX π S S')(d:j<S.Ms.length):aX π (S.born j) (S'.born j):=by
 have c:∀f,0<bI (S.Ms++[aC S j]) f->0<bI S.Ms f:=fun f m=>by
  have o:bI (S.Ms++[aC S j]) f=bI S.Ms f+sh (aC S j) f:=by unfold bI;simp
  have n:=RA (S:=S) (FQ d) f;omega
 refine⟨h.n,h.P,by show jf S'.D (au S' j)=jf S.D (au S j);rw[h.D,h.Yw],by show S'.Ts++[au S' j]=S.Ts++[au S j];rw[h.Ts,h.Yw],h.O,?_,fun f g b l a i e=>h.inj f g b l (c f a) (c g i) e,fun f b a=>h.pos f b (c f a),fun f k b a=>h.w f k b (c f a)⟩;show S'.Ms++[aC S' j]=(S.Ms++[aC S j]).map (mX π);rw[map_append,<-h.ms,h.IU];rfl
theorem aX.fork(h:aX π S S')(a:o.j<S.Ms.length)(p:Int):aX π (gK S p o) (gK S' p o):=by
 unfold gK;rw[h.P,h.Ts];exact((h.procs (fP S.P p (aL S.P))).born a).own _ _
theorem aX.YX(h:aX π S S')(o:Ow)(a n b:Int):kv S' o a n b=kv S o a n b:=by unfold kv;rw[h.IU,Mq,RY]
theorem aX.afg(h:aX π S S')(c:o.j<S.Ms.length)(a n b:Int):aX π (ku S o a n b) (ku S' o a n b):=by
 unfold ku;rw[h.YX];split
 ·rw[h.IU,Xh];exact h.few c (PS _ _ _ _)
 ·exact h
theorem aX.un9(h:aX π S S')(b:o.j<S.Ms.length)(a n:Int):aX π (Dr S o a n) (Dr S' o a n):=by
 unfold Dr;rw[h.IU,aaG];exact h.few b (UB _ _ _)
theorem aX.afb(h:aX π S S')(c:j<S.Ms.length)(a n b:Int):aX π (S.space j (nR (aC S j) a n b) S.W) (S'.space j (nR (aC S' j) a n b) S'.W):=by
 rw[h.IU,Xg];exact h.few c (PQ _ _ _ _)
theorem aX.res(h:aX π S S')(ok:jg S)(b:j<S.Ms.length):gL (aC S' j)=gL (aC S j):=by
 rw[h.IU];refine aaH fun a d=>?_;have c:=vT (FQ b) (ok.at b) d;exact(h.pos _ c.1 c.2).1
theorem aX.load(h:aX π S S')(ok:jg S)(c:j<S.Ms.length)(a k:Int):je (aC S' j) S'.W a k=je (aC S j) S.W a k:=by
 unfold je wd;rw[h.IU,Ju,yZ];split
 ·by_cases e:aR (aC S j) a=-1
  ·rw[if_pos e,if_pos rfl,if_pos e]
  ·have b:=vT (FQ c) (ok.at c) e;have d:=h.pos _ b.1 b.2;rw[if_neg e,if_neg (by omega),if_neg e];exact h.w _ _ b.1 b.2
 ·rfl
theorem aX.JH(h:aX π S S')(ok:jg S)(l:QK S):dO S'=dO S:=by
 unfold dO;rw[h.P];refine congrArg (fun f=>(aH S.P).filterMap f) (funext fun x=>?_);unfold fI;split
 ·rfl
 ·rw[h.O];have a:∀o,S.O x=some o->gL (aC S' o.j)=gL (aC S o.j):=fun o b=>h.res ok (by rw[l.len];exact l.lt _ _ b);generalize S.O x=y at a;cases y with
  |none=>simp only[Option.map_none]
  |some o=>simp only[map_some,a o rfl]
theorem lN.no(n:Nat):lN n lG:=⟨fun a h=>(by cases h),fun a p h=>(by cases h),fun _=>.inl rfl⟩
theorem jg.ends(ok:jg S)(o:Ow)(p c:Int):jg (dB S p o c):=fun P a=>by
 have a:P∈S.Ms.set o.j lG:=a;rcases List.mem_or_eq_of_mem_set a with b|b
 ·exact ok P b
 ·rw[b];exact .no _
theorem dN.nY{d:List Int}{q:Int}(r:dN p a k v S d q S1):∀ {S':KS}{g:List Int}{m:Int}{n:KS},dN p a k v S' g m n->I4 S S'->jg S->QK S->d=g/\q=m/\I4 S1 n:=by
 induction r with
 | @done S o q P' D' ho h h12=>
  intro S' g m n i j c l;obtain⟨π,b⟩:=j;have e:o.j<S.Ms.length:=by rw[l.len];exact l.lt _ _ ho
  cases i with
  |done ho' h' Jh=>
   rw[b.O,ho] at ho';obtain rfl:=Option.some.inj ho';obtain⟨t,s⟩:=h.nY b c e h';exact⟨rfl,t,s⟩
  |nobody ho' h' hv'=>
   rw[b.O,ho] at ho';obtain rfl:=Option.some.inj ho';exact absurd (h.nY b c e h').1 h12
  |self ho' h' hv' he'=>
   rw[b.O,ho] at ho';obtain rfl:=Option.some.inj ho';exact absurd (h.nY b c e h').1 h12
  |goes ho' h' hv' he' hx' h1' hne' r''=>
   rw[b.O,ho] at ho';obtain rfl:=Option.some.inj ho';exact absurd (h.nY b c e h').1 h12
 | @nobody S o ho h hv=>
  intro S' g m n i j c l;obtain⟨π,b⟩:=j;have e:o.j<S.Ms.length:=by rw[l.len];exact l.lt _ _ ho
  have f:=b.JH c l;cases i with
  |done ho' h' Jh=>
   rw[b.O,ho] at ho';obtain rfl:=Option.some.inj ho';exact absurd (h.nY b c e h').1.symm Jh
  |nobody ho' h' hv'=>exact⟨rfl,rfl,π,b⟩
  |self ho' h' hv' he'=>rw[f] at hv';exact absurd hv' hv
  |goes ho' h' hv' he' hx' h1' hne' r''=>rw[f] at hv';exact absurd hv' hv
 | @self S o ho h hv he=>
  intro S' g m n i j c l;obtain⟨π,b⟩:=j;have e:o.j<S.Ms.length:=by rw[l.len];exact l.lt _ _ ho
  have f:=b.JH c l;cases i with
  |done ho' h' Jh=>
   rw[b.O,ho] at ho';obtain rfl:=Option.some.inj ho';exact absurd (h.nY b c e h').1.symm Jh
  |nobody ho' h' hv'=>rw[f] at hv';exact absurd hv hv'
  |self ho' h' hv' he'=>
   rw[b.O,ho] at ho';obtain rfl:=Option.some.inj ho';exact⟨rfl,rfl,π,b.ends e p 108⟩
  |goes ho' h' hv' he' hx' h1' hne' r''=>rw[f,he] at he';exact absurd he'.symm hne'
 | @goes S o x ox d q S1 ho h hv he hx h1 hne r ih=>
  intro S' g m n i j c l;obtain⟨π,b⟩:=j;have e:o.j<S.Ms.length:=by rw[l.len];exact l.lt _ _ ho
  have f:=b.JH c l;cases i with
  |done ho' h' Jh=>
   rw[b.O,ho] at ho';obtain rfl:=Option.some.inj ho';exact absurd (h.nY b c e h').1.symm Jh
  |nobody ho' h' hv'=>rw[f] at hv';exact absurd hv hv'
  |self ho' h' hv' he'=>rw[f,he] at he';exact absurd he' hne
  | @goes _ o' x' ox' g m _ ho' h' hv' he' hx' h1' hne' r''=>
   rw[f,he] at he';subst he';rw[b.O,hx] at hx';obtain rfl:=Option.some.inj hx';obtain⟨t,s,u⟩:=ih r'' ⟨π,b.ends (by rw[l.len];exact l.lt _ _ hx) x 108⟩ (c.ends ox x 108) (l.ends 108);exact⟨by rw[t],s,u⟩
end
end
section
open Go.RowKit Go.Maps
def gG(c:Int)(t:az):wZ:=if c=0 then .say t else .bad c
noncomputable section
structure SG (S:KS):Prop where
 w:DC S.W
 c:∀n q,S.P n=some q->dF q.code
 n:S.n<=256
abbrev vM:=KS->Int->Ow->az->List Int->List az->Bool->wZ×KS
abbrev Rel:=KS->Int->Ow->az->List Int->List az->Bool->wZ->KS->Prop
def rT(f:vM):Rel:=fun S p o w ns ts on r S'=>r=(f S p o w ns ts on).1/\S'=(f S p o w ns ts on).2
structure kM (f:vM):Prop where
 nY:∀ {π S S' p o w ns ts on},aX π S S'->jg S->QK S->S.O p=some o->(f S' p o w ns ts on).1=(f S p o w ns ts on).1/\aX π (f S p o w ns ts on).2 (f S' p o w ns ts on).2
 keep:∀ {S p o w ns ts on},SG S->(∀n∈ns,dF n)->SG (f S p o w ns ts on).2
structure Bo (ρ:Rel):Prop where
 nY:∀ {S1 S2 p o w ns ts on r1 r2 Dq S2'},I4 S1 S2->jg S1->QK S1->S1.O p=some o->ρ S1 p o w ns ts on r1 Dq->ρ S2 p o w ns ts on r2 S2'->r1=r2/\I4 Dq S2'
 keep:∀ {S p o w ns ts on r S'},ρ S p o w ns ts on r S'->SG S->(∀n∈ns,dF n)->SG S'
theorem kM.rel{f:vM}(h:kM f):Bo (rT f) where
 nY:=fun⟨π,b⟩ a l c ⟨o,n⟩ ⟨m,k⟩=>by
  obtain⟨j,i⟩:=h.nY b a l c;exact⟨o.trans (j.symm.trans m.symm),by rw[n,k];exact⟨π,i⟩⟩
 keep:=fun⟨_,e⟩ g d=>by rw[e];exact h.keep g d
section
variable {S S':KS}{p c:Int}{o:Ow}{π:Int→Int}
theorem SG.same(h:SG S)(a:S'.W=S.W)(b:S'.P=S.P)(c:S'.n=S.n):SG S':=⟨by rw[a];exact h.w,by rw[b];exact h.c,by rw[c];exact h.n⟩
theorem SG.Fx(h:SG S)(c:S'.W=S.W)(f:S'.n=S.n)(e:∀n q,S'.P n=some q->dF q.code\/∃a,S.P n=some a/\a.code=q.code):SG S':=⟨by rw[c];exact h.w,fun n q d=>by
 rcases e n q d with b|⟨a,b,g⟩
 ·exact b
 ·rw[<-g];exact h.c n a b,by rw[f];exact h.n⟩
theorem Db{P:Ps}{n:Int}{q:Pr}(b:dF c)(h:dG P p c n=some q):dF q.code\/∃a,P n=some a/\a.code=q.code:=by
 unfold dG at h;obtain⟨a,d,rfl⟩:=Option.map_eq_some_iff.1 h;simp only[lT];repeat' split
 all_goals first|exact .inl b|exact .inr ⟨a,d,rfl⟩
theorem uQ{P:Ps}{n k:Int}{q:Pr}{f:Pr->Pr}(b:∀q,(f q).code=q.code)(h:vP P k f n=some q):dF q.code\/∃a,P n=some a/\a.code=q.code:=by
 unfold vP at h;split at h
 ·obtain⟨a,c,rfl⟩:=Option.map_eq_some_iff.1 h;exact .inr ⟨a,c,(b a).symm⟩
 ·exact .inr ⟨q,h,rfl⟩
theorem i0:dF 0:=by unfold dF;omega
theorem SG.ends(h:SG S)(b:dF c):SG (dB S p o c):=h.Fx rfl rfl fun _ _ a=>Db b a
theorem M7{ns:List Int}(h:∀n∈ns,dF n)(i:Nat):dF (ns.getD i 0):=by
 rw[List.getD_eq_getElem?_getD];cases e:ns[i]? with
 |none=>exact i0
 |some x=>exact h x (List.mem_of_getElem? e)
theorem QK.ms(l:QK S)(a:S.O p=some o):o.j<S.Ms.length:=by rw[l.len];exact l.lt p o a
end
def FR:vM:=fun S p o w ns _ _=>(gG (sP p) w,sO S p o (ns.getD 0 0))
theorem UE:kM FR where
 nY:=fun h _ l a=>⟨rfl,by
  unfold FR sO;split
  ·exact h
  ·exact h.ends (l.ms a) _ _⟩
 keep:=fun h b=>by
  unfold FR sO;split
  ·exact h
  ·exact h.ends (M7 b 0)
def Rs:vM:=fun S _ o w _ _ _=>(gG 0 w,sQ S o)
theorem UG:kM Rs where
 nY:=fun h _ l a=>⟨rfl,h.exec (l.ms a)⟩
 keep:=fun h _=>h.same rfl rfl rfl
def FP:vM:=fun S _ _ w ns _ _=>(gG (eH S.P (ns.getD 0 0) (ns.getD 1 0)) w,S.procs (if eH S.P (ns.getD 0 0) (ns.getD 1 0)=0 then kC S.P (ns.getD 0 0) (ns.getD 1 0) else S.P))
theorem Un:kM FP where
 nY:=fun h _ _ _=>by
  unfold FP;rw[h.P];exact⟨rfl,h.procs _⟩
 keep:=fun {S p o w b c d} h _=>h.Fx (S':=S.procs _) rfl rfl fun n q a=>by
  change (if eH S.P (b.getD 0 0) (b.getD 1 0)=0 then kC S.P (b.getD 0 0) (b.getD 1 0) else S.P) n=some q at a;split at a
  ·unfold kC at a;refine uQ ?_ a;intro q;split<;>rfl
  ·exact .inr ⟨q,a,rfl⟩
def yn:vM:=fun S p _ w ns _ on=>(gG (bN S.P p (ns.getD 0 0)) w,S.procs (if bN S.P p (ns.getD 0 0)=0 then fE S.P p (ns.getD 0 0) on else S.P))
theorem Kv:kM yn where
 nY:=fun h _ _ _=>by
  unfold yn;rw[h.P];exact⟨rfl,h.procs _⟩
 keep:=fun {S p o w b d c} h _=>h.Fx (S':=S.procs _) rfl rfl fun n q a=>by
  change (if bN S.P p (b.getD 0 0)=0 then fE S.P p (b.getD 0 0) c else S.P) n=some q at a;split at a
  ·unfold fE at a;refine uQ ?_ a;intro q;rfl
  ·exact .inr ⟨q,a,rfl⟩
def Jy:vM:=fun S p o w ns _ _=>(gG (qd (ns.getD 0 0) (ns.getD 1 0)) w,Lx S p o (ns.getD 0 0) (ns.getD 1 0))
theorem Pf:kM Jy where
 nY:=fun h _ _ _=>⟨rfl,h.own _ _⟩
 keep:=fun h _=>h.same rfl rfl rfl
def uS:vM:=fun S p o w ns _ _=>(gG (Jj (ns.getD 0 0)) w,yL S p o (ns.getD 0 0))
theorem Ld:kM uS where
 nY:=fun h _ _ _=>⟨rfl,by
  unfold uS yL;split
  ·exact h.own _ _
  ·exact h⟩
 keep:=fun h _=>by
  unfold uS yL;split
  ·exact h.same rfl rfl rfl
  ·exact h
def Nk:vM:=fun S _ o w ns _ _=>(gG (kv S o (ns.getD 0 0) (ns.getD 1 0) (ns.getD 2 0)) w,ku S o (ns.getD 0 0) (ns.getD 1 0) (ns.getD 2 0))
theorem Xo:kM Nk where
 nY:=fun h _ l a=>⟨by unfold Nk;rw[h.YX],h.afg (l.ms a) _ _ _⟩
 keep:=fun h _=>by
  unfold Nk ku;split
  ·exact h.same rfl rfl rfl
  ·exact h
def DI:vM:=fun S _ o w ns _ _=>(gG (ui (aC S o.j) (ns.getD 0 0) (ns.getD 1 0)) w,Dr S o (ns.getD 0 0) (ns.getD 1 0))
theorem NQ:kM DI where
 nY:=fun h _ l a=>⟨by unfold DI;rw[h.IU,RX],h.un9 (l.ms a) _ _⟩
 keep:=fun h _=>h.same rfl rfl rfl
def uV:vM:=fun S _ o w ns _ _=>(gG (mQ (aC S o.j) (ns.getD 0 0) (ns.getD 1 0) (ns.getD 2 0)) w,S.space o.j (nR (aC S o.j) (ns.getD 0 0) (ns.getD 1 0) (ns.getD 2 0)) S.W)
theorem Ig:kM uV where
 nY:=fun h _ l a=>⟨by unfold uV;rw[h.IU,Mo],h.afb (l.ms a) _ _ _⟩
 keep:=fun h _=>h.same rfl rfl rfl
def FT:vM:=fun S _ o w ns _ _=>(gG (jA S o (ns.getD 0 0) (ns.getD 1 0)) w,jO S o (ns.getD 0 0) (ns.getD 1 0))
theorem aX.eqs{π:Int->Int}{S S':KS}(h:aX π S S'):∃a W,S'={ S with Ms:=a,W:=W }:=by
 obtain⟨n,P,D,g,a,W,O⟩:=S';obtain⟨f,e,d,c,b,_⟩:=h;cases f;cases e;cases d;cases c;cases b
 exact⟨a,W,rfl⟩
theorem UK:kM FT where
 nY:=fun {π S c p o w g d f} h _ _ _=>by
  have e:∀o a b,jA c o a b=jA S o a b:=fun _ _ _=>by obtain⟨i,W,rfl⟩:=h.eqs;rfl
  unfold FT jO;simp only[e,h.D,h.Yw];refine⟨trivial,?_⟩;split
  ·exact h.files _ _ _
  ·exact h
 keep:=fun h _=>by
  unfold FT jO;split
  ·exact h.same rfl rfl rfl
  ·exact h
def Rh:vM:=fun S _ o w ns _ on=>(gG (if aJ (au S o.j) (ns.getD 0 0)=true then 0 else 7) w,S.files S.D o.j (kR (au S o.j) (ns.getD 0 0) on))
theorem T9:kM Rh where
 nY:=fun h _ _ _=>by
  obtain⟨a,W,rfl⟩:=h.eqs;exact⟨rfl,h.files _ _ _⟩
 keep:=fun h _=>h.same rfl rfl rfl
def JF:vM:=fun S _ o w ns _ _=>(gG (if aJ (au S o.j) (ns.getD 0 0)=true then 0 else 7) w,uR S o (ns.getD 0 0))
theorem Qi:kM JF where
 nY:=fun h _ _ _=>by
  obtain⟨a,W,rfl⟩:=h.eqs;exact⟨rfl,h.files _ _ _⟩
 keep:=fun h _=>h.same rfl rfl rfl
def Q8:vM:=fun S _ o w ns _ _=>(gG (kg S.D (au S o.j) (ns.getD 0 0) (ns.getD 1 0)) w,S.files (kr S.D (au S o.j) (ns.getD 0 0) (ns.getD 1 0)) o.j (au S o.j))
theorem Tf:kM Q8 where
 nY:=fun h _ _ _=>by
  obtain⟨a,W,rfl⟩:=h.eqs;exact⟨rfl,h.files _ _ _⟩
 keep:=fun h _=>h.same rfl rfl rfl
def Ri:vM:=fun S _ _ w _ ts _=>(gG (ky S.D.T (ts.getD 0 []) (ts.getD 1 [])) w,S.tree (kS S.D.T (ts.getD 0 []) (ts.getD 1 [])))
theorem Ug:kM Ri where
 nY:=fun h _ _ _=>by
  obtain⟨a,W,rfl⟩:=h.eqs;exact⟨rfl,h.tree _⟩
 keep:=fun h _=>h.same rfl rfl rfl
def D7:vM:=fun S _ _ w _ ts _=>(gG (dR S.D.T (ts.getD 0 [])) w,S.tree (fC S.D.T (ts.getD 0 [])))
theorem JR:kM D7 where
 nY:=fun h _ _ _=>by
  obtain⟨a,W,rfl⟩:=h.eqs;exact⟨rfl,h.tree _⟩
 keep:=fun h _=>h.same rfl rfl rfl
def Ef:vM:=fun S _ _ w _ ts _=>(gG (eQ S.D.T (ts.getD 0 []) (ts.getD 1 [])) w,S.tree (fD S.D.T (ts.getD 0 []) (ts.getD 1 [])))
theorem J4:kM Ef where
 nY:=fun h _ _ _=>by
  obtain⟨a,W,rfl⟩:=h.eqs;exact⟨rfl,h.tree _⟩
 keep:=fun h _=>h.same rfl rfl rfl
def rV:vM:=fun S p o w _ _ _=>if (aH S.P).length<24 then (.say (w++aQ [aL S.P]),gK S p o) else (.bad 12,S)
theorem Ux:kM rV where
 nY:=fun h _ l b=>by
  unfold rV;rw[h.P];split
  ·exact⟨rfl,h.fork (l.ms b) _⟩
  ·exact⟨rfl,h⟩
 keep:=fun {S p o w e c d} h _=>by
  unfold rV;split
  ·refine h.Fx (S':=gK S p o) rfl rfl fun n q a=>?_;change nZ S.P (aL S.P) _ n=some q at a;unfold nZ at a;split at a
   ·cases a;exact .inl i0
   ·exact .inr ⟨q,a,rfl⟩
  ·exact h
def Lp:vM:=fun S p _ w _ _ _=>(gG (bC S.P p).2.2.1 (w++aQ [(bC S.P p).1,(bC S.P p).2.1]),S.procs (bC S.P p).2.2.2)
theorem VO(P:Ps)(p:Int)(n:Int)(q:Pr)(h:(bC P p).2.2.2 n=some q):P n=some q:=by
 unfold bC at h;revert h;repeat' split
 all_goals intro h
 all_goals first
  |exact h
  |(simp only[uu] at h;split at h;cases h;exact h)
theorem Sw:kM Lp where
 nY:=fun h _ _ _=>by
  unfold Lp;rw[h.P];exact⟨rfl,h.procs _⟩
 keep:=fun {S p o w d b c} h _=>h.Fx (S':=S.procs _) rfl rfl fun n q a=>.inr ⟨q,VO S.P p n q a,rfl⟩
def FO:vM:=fun S _ o w ns _ _=>(gG (dL (aC S o.j) (ns.getD 0 0) (ns.getD 1 0) 1) (w++aQ [je (aC S o.j) S.W (ns.getD 0 0) (ns.getD 1 0)]),S)
theorem Ud:kM FO where
 nY:=fun h a l b=>by
  unfold FO;rw[h.load a (l.ms b),h.IU,Ju];exact⟨rfl,h⟩
 keep:=fun h _=>h
def QY:vM:=fun S _ o w ns _ _=>(gG (rW S o (ns.getD 0 0)) (w++aQ [ng S o (ns.getD 0 0)]),uB S o (ns.getD 0 0))
theorem XZ:kM QY where
 nY:=fun {π S a p o w d b c} h _ _ _=>by
  have e:∀o n,lS a o n↔lS S o n:=fun _ _=>by obtain⟨f,W,rfl⟩:=h.eqs;exact Iff.rfl
  unfold QY uB rW ng;simp only[e,h.D,h.Yw];refine⟨trivial,?_⟩;split
  ·exact h.files _ _ _
  ·exact h
 keep:=fun h _=>by
  unfold QY uB;split
  ·exact h.same rfl rfl rfl
  ·exact h
def yO:vM:=fun S p o w ns ts _=>(gG (xW S o (ns.getD 0 0) (ts.getD 0 [])).2.1 (w++aQ [(xW S o (ns.getD 0 0) (ts.getD 0 [])).1]),jY S p o (ns.getD 0 0) (ts.getD 0 []))
def YR:vM:=fun S _ o w ns _ _=>(gG (bR S.D (au S o.j) (ns.getD 0 0) (ns.getD 1 0)).2.1 (w++[32]++qx (bR S.D (au S o.j) (ns.getD 0 0) (ns.getD 1 0)).1),S.files (bR S.D (au S o.j) (ns.getD 0 0) (ns.getD 1 0)).2.2 o.j (au S o.j))
theorem Tt:kM YR where
 nY:=fun h _ _ _=>by
  obtain⟨a,W,rfl⟩:=h.eqs;exact⟨rfl,h.files _ _ _⟩
 keep:=fun h _=>h.same rfl rfl rfl
def o7(T:Wd)(x:Int):List az:=match T x with
 |some (.dir C)=>uz C
 |_=>[]
def YY:vM:=fun S _ _ w _ ts _=>(gG (mZ S.D.T (ts.getD 0 [])) (uA (w::o7 S.D.T (aF S.D.T (ts.getD 0 [])).1)),S)
theorem Uf:kM YY where
 nY:=fun h _ _ _=>by
  obtain⟨a,W,rfl⟩:=h.eqs;exact⟨rfl,h⟩
 keep:=fun h _=>h
theorem Nz:kM yO where
 nY:=fun {π S b p o w f c d} h _ _ _=>by
  have e:∀x s,xW b o x s=xW S o x s:=fun _ _=>by obtain⟨g,W,rfl⟩:=h.eqs;rfl
  unfold yO jY;simp only[e,h.Yw,h.P];refine⟨trivial,?_⟩;split
  ·exact(h.files _ _ _).procs _
  ·exact h.files _ _ _
 keep:=fun {S p o w f c d} h _=>by
  unfold yO jY;dsimp only;split
  ·refine h.Fx (S':=(S.files _ _ _).procs _) rfl rfl fun n q a=>?_;change (if eH S.P p 5=0 then kC S.P p 5 else S.P) n=some q at a;split at a
   ·unfold kC at a;refine uQ ?_ a;intro q;split<;>rfl
   ·exact .inr ⟨q,a,rfl⟩
  ·exact h.same rfl rfl rfl
end
def Fy(w:az)(went:List Int)(er:Int):wZ:=if er=0 then .say (w++aQ went) else if went=[] then .bad er else .lost went er
def Jk:Rel:=fun S p _ w ns _ _ r S'=>∃went er,dN p (ns.getD 0 0) (ns.getD 1 0) (ns.getD 2 0) S went er S'/\r=Fy w went er
def YV:Rel:=fun S _ o w ns ts on r S'=>∃n k x c,p9 S.D.E n/\dD S.D.T k/\FV S o n k (ts.getD 0 []) (ns.getD 0 0) on x c S'/\r=gG c (w++aQ [x])
def YT:Rel:=fun S _ o w _ _ _ r S'=>∃n x y c,p9 S.D.E n/\uC S o n x y c S'/\r=gG c (w++aQ [x,y])
def RZ:Rel:=fun S _ _ w _ ts _ r S'=>∃k c T',dD S.D.T k/\Q5 S.D.T k (ts.getD 0 []) c T'/\S'=S.tree T'/\r=gG c w
theorem dN.codes{S S':KS}{p a k v l:Int}{b:List Int}(r:dN p a k v S b l S')(h:∀n q,S.P n=some q->dF q.code):∀n q,S'.P n=some q->dF q.code:=by
 have e:∀(S:KS) (p:Int) (o:Ow),(∀n q,S.P n=some q->dF q.code)->∀n q,(dB S p o 108).P n=some q->dF q.code:=fun S p o i n q g=>by
  rcases Db (c:=108) (by unfold dF;omega) g with d|⟨f,d,j⟩
  ·exact d
  ·rw[<-j];exact i n f d
 induction r with
 |done ho h' h12=>exact h
 |nobody ho h' hv=>exact h
 |self ho h' hv hh=>exact e _ _ _ h
 |goes ho h' hv hh hx d hne r ih=>exact ih (e _ _ _ h)
theorem dN.frames{S S':KS}{p a k v c:Int}{b:List Int}(r:dN p a k v S b c S'):S'.n=S.n:=by
 induction r with
 |goes ho h hv he hx h1 hne r ih=>exact ih
 |_=>rfl
theorem Oa:Bo Jk where
 nY:=fun f e l _ ⟨a,i,b,k⟩ ⟨m,n,d,j⟩=>by
  obtain⟨rfl,rfl,h⟩:=b.nY d f e l;exact⟨k.trans j.symm,h⟩
 keep:=fun⟨a,i,b,_⟩ c g=>⟨b.Zz c.w (M7 g 2),b.codes c.c,by rw[b.frames];exact c.n⟩
theorem TF:Bo YV where
 nY:=fun {v M p o w I D H G E O u} ⟨π,d⟩ _ _ _ ⟨n,k,x,c,s,r,q,m⟩ ⟨J,K,C,L,f,e,a,l⟩=>by
  obtain⟨N,W,rfl⟩:=d.eqs;obtain rfl:=p9.one s f;obtain rfl:=p9.one (F:=v.D.T) r e;rcases q with⟨i,rfl,rfl,rfl⟩|⟨i,B,z,t,rfl⟩
  ·rcases a with⟨b,rfl,rfl,rfl⟩|⟨b,_⟩
   ·exact⟨m.trans l.symm,π,d⟩
   ·exact absurd b i
  ·rcases a with⟨b,_⟩|⟨b,A,y,g,rfl⟩
   ·exact absurd i b
   ·obtain⟨rfl,rfl,rfl,rfl⟩:=t.one g;exact⟨m.trans l.symm,π,d.files _ _ _⟩
 keep:=fun⟨n,k,x,c,_,_,h,_⟩ j _=>by
  rcases h with⟨_,_,_,rfl⟩|⟨_,B,z,_,rfl⟩
  ·exact j
  ·exact j.same rfl rfl rfl
theorem Tz:Bo YT where
 nY:=fun {L K p o w H D G F E N t} ⟨π,f⟩ _ _ _ ⟨n,x,y,c,r,q,l⟩ ⟨I,C,B,J,g,b,k⟩=>by
  obtain⟨M,W,rfl⟩:=f.eqs;obtain rfl:=p9.one r g;rcases q with⟨j,rfl,rfl,rfl,rfl⟩|⟨j,A,v,s,rfl⟩
  ·rcases b with⟨e,rfl,rfl,rfl,rfl⟩|⟨e,_⟩
   ·exact⟨l.trans k.symm,π,f⟩
   ·exact absurd e j
  ·rcases b with⟨e,_⟩|⟨e,z,u,d,rfl⟩
   ·exact absurd j e
   ·rcases s with⟨i,rfl,rfl,rfl,rfl,rfl⟩|⟨i,rfl,rfl,rfl,rfl,rfl⟩
    ·rcases d with⟨a,rfl,rfl,rfl,rfl,rfl⟩|⟨a,_⟩
     ·exact⟨l.trans k.symm,π,f.files _ _ _⟩
     ·exact absurd i a
    ·rcases d with⟨a,_⟩|⟨a,rfl,rfl,rfl,rfl,rfl⟩
     ·exact absurd a i
     ·exact⟨l.trans k.symm,π,f.files _ _ _⟩
 keep:=fun⟨n,x,y,c,_,h,_⟩ m _=>by
  rcases h with⟨_,_,_,_,rfl⟩|⟨_,A,v,_,rfl⟩
  ·exact m
  ·exact m.same rfl rfl rfl
theorem O7:Bo RZ where
 nY:=fun {A J p o w H C G E D L y} ⟨π,j⟩ _ _ _ ⟨k,c,x,r,q,u,t⟩ ⟨I,v,i,f,a,h,s⟩=>by
  obtain⟨K,W,rfl⟩:=j.eqs;obtain rfl:=p9.one (F:=A.D.T) r f;have n:c=v/\x=i:=by
   rcases q with⟨g,rfl,rfl⟩|⟨g,rfl,z,l,rfl⟩
   ·rcases a with⟨b,rfl,rfl⟩|⟨b,_⟩
    ·exact⟨rfl,rfl⟩
    ·exact absurd b g
   ·rcases a with⟨b,_⟩|⟨b,rfl,B,d,rfl⟩
    ·exact absurd g b
    ·obtain rfl:=l.same d;exact⟨rfl,rfl⟩
  obtain⟨rfl,rfl⟩:=n;subst u h;exact⟨t.trans s.symm,π,j.tree _⟩
 keep:=fun⟨_,_,_,_,_,e,_⟩ m _=>by
  subst e;exact m.same rfl rfl rfl
noncomputable def yD(k:Nat):Rel:=
 if k=45 then rT uS else if k=46 then rT JF else if k=47 then rT QY else if k=48 then rT FT else
 if k=49 then rT Rs else if k=50 then rT FR else if k=51 then rT rV else if k=52 then rT yn else
 if k=53 then rT FP else if k=54 then rT Jy else if k=55 then rT Ri else if k=56 then rT YY else
 if k=57 then rT FO else if k=58 then rT Nk else if k=59 then rT Rh else if k=60 then RZ else
 if k=61 then YV else if k=62 then YT else if k=63 then rT uV else if k=64 then rT YR else
 if k=65 then rT Ef else if k=66 then rT Q8 else if k=67 then Jk else if k=68 then rT D7 else
 if k=69 then rT DI else if k=70 then rT Lp else if k=71 then rT yO else fun _ _ _ _ _ _ _ _ _=>False
theorem Bo.ite{c:Prop}[Decidable c]{a b:Rel}(e:Bo a)(d:Bo b):Bo (if c then a else b):=by
 split
 ·exact e
 ·exact d
theorem Gj(k:Nat):Bo (yD k):=
 .ite Ld.rel <| .ite Qi.rel <| .ite XZ.rel <| .ite UK.rel <| .ite UG.rel <| .ite UE.rel <| .ite Ux.rel <| .ite Kv.rel <| .ite Un.rel <|
 .ite Pf.rel <| .ite Ug.rel <| .ite Uf.rel <| .ite Ud.rel <| .ite Xo.rel <| .ite T9.rel <| .ite O7 <| .ite TF <| .ite Tz <| .ite Ig.rel <|
 .ite Tt.rel <| .ite J4.rel <| .ite Tf.rel <| .ite Oa <| .ite JR.rel <| .ite NQ.rel <| .ite Sw.rel <| .ite Nz.rel ⟨fun _ _ _ _ h=>h.elim,fun h=>h.elim⟩
def Er(c:Int):Prop:=0<=c/\c<=20
theorem Er.i64{c:Int}(h:Er c):dF c:=by unfold Er at h;unfold dF;omega
theorem afI(n:Nat)(h:n<=20):Er (n:Int):=by unfold Er;omega
theorem Ep:∀(l:List Nm) (T:Wd) (x:Int),Er (fG T x l).2
 | [],T,x=>by unfold fG;exact afI 0 (by omega)
 |n::l,T,x=>by
  unfold fG;repeat' split
  all_goals first|exact Ep l T _|(unfold Er;omega)
theorem Ew(T:Wd)(p:az):Er (aF T p).2:=by
 unfold aF;split
 ·unfold Er;omega
 ·exact Ep _ _ _
theorem qE(T:Wd)(p:az):Er (ae T p).2.2:=by
 unfold ae;repeat' split
 all_goals first|exact Ep _ _ _|(unfold Er;dsimp only;omega)
theorem Ey(T:Wd)(x:Int):Er (bF T x):=by
 unfold bF;split<;>unfold Er<;>omega
theorem XI(T:Wd)(x b:Int):Er (dV T x b):=by
 unfold dV;split
 ·split<;>unfold Er<;>omega
 ·exact Ey T x
theorem MB(T:Wd)(s:Nat)(p:az):Er (aY T s p):=by
 have:=qE T p;unfold aY;repeat' split
 all_goals first|assumption|(unfold Er;omega)
theorem NT(T:Wd)(p:az):Er (dR T p):=by
 have:=qE T p;unfold dR;repeat' split
 all_goals first|assumption|(unfold Er;omega)
theorem Xx(T:Wd)(p q:az):Er (ky T p q):=by
 have:=Ew T p;have:=qE T q;unfold ky;repeat' split
 all_goals first|assumption|(unfold Er;omega)
theorem Oz(T:Wd)(p q:az):Er (eQ T p q):=by
 have:=qE T p;have:=qE T q;unfold eQ;repeat' split
 all_goals first|assumption|(unfold Er;omega)
theorem Xu(T:Wd)(p:az):Er (mZ T p):=by
 have:=Ew T p;unfold mZ;repeat' split
 all_goals first|assumption|(unfold Er;omega)
section
variable {S:KS}{o:Ow}{P:Ps}{a b c p:Int}{s:az}{on:Bool}
theorem XT(p:Int):Er (sP p):=by unfold sP;split<;>unfold Er<;>omega
theorem Xz:Er (eH P a b):=by
 unfold eH;repeat' split
 all_goals (unfold Er;omega)
theorem Px:Er (bN P a b):=by
 unfold bN;repeat' split
 all_goals (unfold Er;omega)
theorem aaN:Er (qd a b):=by
 unfold qd;repeat' split
 all_goals (unfold Er;omega)
theorem abt:Er (Jj a):=by unfold Jj;split<;>unfold Er<;>omega
theorem Xq(Q:PM):Er (iV Q a b c):=by
 unfold iV;repeat' split
 all_goals (unfold Er;omega)
theorem aaM:Er (kv S o a b c):=by
 have:=Xq (a:=a) (b:=b) (c:=c) (aC S o.j);unfold kv;repeat' split
 all_goals first|assumption|(unfold Er;omega)
theorem acS(Q:PM):Er (ui Q a b):=by
 unfold ui;repeat' split
 all_goals (unfold Er;omega)
theorem aad(Q:PM):Er (mQ Q a b c):=by
 unfold mQ;repeat' split
 all_goals (unfold Er;omega)
theorem Z4(Q:PM):Er (dL Q a b 1):=by
 unfold dL;repeat' split
 all_goals (unfold Er;omega)
theorem X4:Er (jA S o a b):=by
 unfold jA fu;repeat' split
 all_goals (unfold Er;omega)
theorem Gg{q:Bool}:Er (if q=true then 0 else 7):=by split<;>unfold Er<;>omega
theorem Wm(D:DS)(N:Ns):Er (kg D N a b):=by
 unfold kg;repeat' split
 all_goals (unfold Er;omega)
theorem VP:Er (bC P p).2.2.1:=by
 unfold bC;repeat' split
 all_goals dsimp only
 all_goals first|(unfold Er;omega) | (split<;>unfold Er<;>omega)
theorem aa5:Er (rW S o a):=by
 unfold rW jH;repeat' split
 all_goals (unfold Er;omega)
theorem ZY(F:Int)(B:az):Er (Le F B s):=by
 unfold Le;repeat' split
 all_goals (unfold Er;omega)
theorem aab(F:Int)(B:az):Er (IQ F B a):=by
 unfold IQ;repeat' split
 all_goals (unfold Er;omega)
theorem NB(T:Wd):Er (cZ T a b s):=by
 have:=Ey T a;unfold cZ;repeat' split
 all_goals first|assumption|(unfold Er;omega)
theorem Tv(T:Wd):Er (jw T a b c):=by
 have:=Ey T a;unfold jw;repeat' split
 all_goals first|assumption|(unfold Er;omega)
theorem acP(D:DS)(N:Ns):Er (bZ D N a s b).2.1:=by
 unfold bZ;repeat' split
 all_goals first|exact NB _|exact ZY _ _|(unfold Er;dsimp only;omega)
theorem acX(D:DS)(N:Ns):Er (bR D N a b).2.1:=by
 unfold bR;repeat' split
 all_goals first|exact Tv _|exact aab _ _|(unfold Er;dsimp only;omega)
end
def OpO(w:World)(m:Int)(H:KH)(q:Nat)(A:Nat->Prop)(k:Nat)(S:KS)(p:Int)(o:Ow)(word:az)(ns:List Int)(ts:List az)(on:Bool)(e:Ending)(w':World):Prop:=
 ∃r S',xV w' r e/\yD k S p o word ns ts on r S'/\pO w m H q A S' w'/\(gp r).length<=50000
def dX(i j k:Nat):Prop:=∀ {w:World}{m:Int}{H:KH}{S:KS}{q:Nat}{A:Nat->Prop}{p:Int}{o:Ow}{cb:Nat}{nv tv:Value}{ns:List Int}{ts:List az}{word:az}{on:Bool},KN w m H S q A->H.ok=true->S.O p=some o->q<=400->SG S->ns.length=i->ts.length=j->(∀n∈ns,dF n)->(∀x∈ts,x.length<100000)->Gv w A cb H.kb nv tv ns ts->word.length<=3000->
 Calls prog k #[wp cb,gH p word nv tv on] w (OpO w m H q A k S p o word ns ts on)
theorem sw{α:Type}{l:List α}(h:l.length=1):∃a,l=[a]:=List.length_eq_one_iff.1 h
theorem Dx{α:Type}{l:List α}(h:l.length=2):∃a b,l=[a,b]:=by
 match l,h with
 | [a,b],_=>exact⟨a,b,rfl⟩
theorem ZG{α:Type}{l:List α}(h:l.length=3):∃a b c,l=[a,b,c]:=by
 match l,h with
 | [a,b,c],_=>exact⟨a,b,c,rfl⟩
theorem sH{t:az}{c:Int}{e:Ending}{w:World}(h:TO t c e)(a:dF c):xV w (gG c t) e:=by
 unfold gG;rcases h with⟨rfl,rfl⟩|⟨b,rfl⟩
 ·rw[if_pos rfl];exact rfl
 ·rw[if_neg b];exact⟨rfl,a⟩
theorem jQ{c:Int}(b:dF c):(vX c).length<=28:=by
 have:=iF (L:=[c]) (fun n a=>by rw[mem_singleton.1 a];exact b);unfold vX;unfold aQ at this;simp only[List.flatMap_cons,List.flatMap_nil,append_nil,length_append,length_cons,length_nil] at this ⊢;omega
theorem o6{c:Int}{t:az}(b:dF c)(a:c=0->t.length<=50000):(gp (gG c t)).length<=50000:=by
 unfold gG;split
 ·exact a (by assumption)
 ·have:=jQ b;exact le_trans this (by omega)
section
variable {w w' V:World}{m:Int}{H:KH}{S S':KS}{q q':Nat}{A:Nat→Prop}{c:Int}{p:Int}{o:Ow}{word t:az}{ns:List Int}{ts:List az}{on:Bool}{k:Nat}{e:Ending}
theorem kQ(b:Below w.heap.size w V){fn:Nat}{args:Array Value}{v:Value}(h:Calls prog fn args V fun y a=>y=.returned v/\∃d,KN a m H S' q' d/\Stp V a A d)(g:v=aI c:=by rfl)(i:q'<=q+1:=by omega):Calls prog fn args V (XO A (fun e a=>e=c/\pO w m H q A S' a) V):=
 h.mono fun y a ⟨e,d,k,f⟩=>⟨c,by rw[e,g],⟨rfl,(pO.mk k i f).before b⟩,f.wt⟩
theorem IX:∀(e:Int) (V V':World),(e=c/\pO w m H q A S' V)->Below V.heap.size V V'->e=c/\pO w m H q A S' V':=fun _ _ _ h b=>⟨h.1,h.2.vK b⟩
theorem er0:Er 0:=by unfold Er;omega
theorem iR{f:vM}(g:yD k=rT f)(i:f S p o word ns ts on=(gG c t,S'))(a:dF c)(d:t.length<=50000)(h:∃b,TO t b e/\b=c/\pO w m H q A S' w'):OpO w m H q A k S p o word ns ts on e w':=by
 obtain⟨_,l,rfl,j⟩:=h;exact⟨_,_,sH l a,by rw[g];unfold rT;rw[i];exact⟨rfl,rfl⟩,j,o6 a fun _=>d⟩
theorem aax:dX 1 0 50:=fun {w m H S q A p o E v r x s b u} h C j i t l d D B g y=>by
 obtain⟨a,rfl⟩:=sw l;obtain rfl:=eq_nil_of_length_eq_zero d;exact(ZO (.inl ⟨rfl,rfl⟩) g (by omega) (fun V c=>have k:=h.below c;kQ c (k.UD j i a)) IX).mono fun e n z=>iR (f:=FR) rfl rfl (Er.i64 (XT _)) (by omega) z
theorem aay:dX 0 0 49:=fun {w m H S q A p o D u n v r a t} h B i d s j c C y g x=>by
 obtain rfl:=eq_nil_of_length_eq_zero j;obtain rfl:=eq_nil_of_length_eq_zero c;exact(abh g (by omega) (fun V b=>have k:=h.below b;kQ b (k.UF i d)) IX).mono fun e l z=>iR (f:=Rs) rfl rfl (Er.i64 (er0)) (by omega) z
theorem aav:dX 2 0 53:=fun {w m H S q A p o F x s y t c v} h E j D u l i n C g B=>by
 obtain⟨a,b,rfl⟩:=Dx l;obtain rfl:=eq_nil_of_length_eq_zero i;exact(QZ (.inl ⟨rfl,rfl⟩) g (by omega) (fun V d=>have k:=h.below d;kQ d (k.Um j a b (uq (n a (by simp))))) IX).mono fun e r z=>iR (f:=FP) rfl rfl (Er.i64 (Xz)) (by omega) z
theorem TJ:dX 1 0 52:=fun {w m H S q A p o E u r v s b d} h C j B t l i D y g x=>by
 obtain⟨a,rfl⟩:=sw l;obtain rfl:=eq_nil_of_length_eq_zero i;exact(acF (.inl ⟨rfl,rfl⟩) g (by omega) (fun V c=>have k:=h.below c;kQ c (k.Ku j a d)) IX).mono fun e n z=>iR (f:=yn) rfl rfl (Er.i64 (Px)) (by omega) z
theorem WT:dX 2 0 54:=fun {w m H S q A p o F v r x s c u} h D j C t l i E B g y=>by
 obtain⟨a,b,rfl⟩:=Dx l;obtain rfl:=eq_nil_of_length_eq_zero i;exact(QZ (.inr (.inl ⟨rfl,rfl⟩)) g (by omega) (fun V d=>have k:=h.below d;kQ d (k.Pe j a b)) IX).mono fun e n z=>iR (f:=Jy) rfl rfl (Er.i64 (aaN)) (by omega) z
theorem TK:dX 1 0 45:=fun {w m H S q A p o E u n v r b t} h C i B s j d D y g x=>by
 obtain⟨a,rfl⟩:=sw j;obtain rfl:=eq_nil_of_length_eq_zero d;exact(ZO (.inr (.inl ⟨rfl,rfl⟩)) g (by omega) (fun V c=>have k:=h.below c;kQ c (k.Lc i a)) IX).mono fun e l z=>iR (f:=uS) rfl rfl (Er.i64 (abt)) (by omega) z
theorem Ki:dX 3 0 58:=fun {w m H S q A p o G y t B u d x} h F l E v n j r D g C=>by
 obtain⟨a,b,c,rfl⟩:=ZG n;obtain rfl:=eq_nil_of_length_eq_zero j;exact(acE (.inl ⟨rfl,rfl⟩) g (by omega) (fun V i=>have k:=h.below i;kQ i (k.Xn l a b c (r b (by simp)).2)) IX).mono fun e s z=>iR (f:=Nk) rfl rfl (Er.i64 (aaM)) (by omega) z
theorem WQ:dX 2 0 69:=fun {w m H S q A p o F x s y t c v} h E j D u l i n C g B=>by
 obtain⟨a,b,rfl⟩:=Dx l;obtain rfl:=eq_nil_of_length_eq_zero i;exact(QZ (.inr (.inr (.inl ⟨rfl,rfl⟩))) g (by omega) (fun V d=>have k:=h.below d;kQ d (k.NN j a b (n b (by simp)).2)) IX).mono fun e r z=>iR (f:=DI) rfl rfl (Er.i64 (acS _)) (by omega) z
theorem OT:dX 3 0 63:=fun {w m H S q A p o G y t B u d x} h F l E v n j r D g C=>by
 obtain⟨a,b,c,rfl⟩:=ZG n;obtain rfl:=eq_nil_of_length_eq_zero j;exact(acE (.inr (⟨rfl,rfl⟩)) g (by omega) (fun V i=>have k:=h.below i;kQ i (k.Ie l a b c (r b (by simp)).2)) IX).mono fun e s z=>iR (f:=uV) rfl rfl (Er.i64 (aad _)) (by omega) z
theorem aaz:dX 2 0 48:=fun {w m H S q A p o F x s y t c v} h D l j u n i E C g B=>by
 obtain⟨a,b,rfl⟩:=Dx n;obtain rfl:=eq_nil_of_length_eq_zero i;exact(QZ (.inr (.inr (.inr (.inl ⟨rfl,rfl⟩)))) g (by omega) (fun V d=>have k:=h.below d;kQ d (k.UJ l j a b)) IX).mono fun e r z=>iR (f:=FT) rfl rfl (Er.i64 (X4)) (by omega) z
theorem aas:dX 1 0 59:=fun {w m H S q A p o E u r v s b d} h C j B t l i D y g x=>by
 obtain⟨a,rfl⟩:=sw l;obtain rfl:=eq_nil_of_length_eq_zero i;exact(acF (.inr (⟨rfl,rfl⟩)) g (by omega) (fun V c=>have k:=h.below c;kQ c (k.TZ j a d)) IX).mono fun e n z=>iR (f:=Rh) rfl rfl (Er.i64 (Gg)) (by omega) z
theorem WU:dX 1 0 46:=fun {w m H S q A p o E v r x s b u} h C j i t l d D B g y=>by
 obtain⟨a,rfl⟩:=sw l;obtain rfl:=eq_nil_of_length_eq_zero d;exact(ZO (.inr (.inr (⟨rfl,rfl⟩))) g (by omega) (fun V c=>have k:=h.below c;kQ c (k.Qh j i a)) IX).mono fun e n z=>iR (f:=JF) rfl rfl (Er.i64 (Gg)) (by omega) z
theorem aao:dX 2 0 66:=fun {w m H S q A p o F v r x s c u} h D j C t l i E B g y=>by
 obtain⟨a,b,rfl⟩:=Dx l;obtain rfl:=eq_nil_of_length_eq_zero i;exact(QZ (.inr (.inr (.inr (.inr (⟨rfl,rfl⟩))))) g (by omega) (fun V d=>have k:=h.below d;kQ d (k.Te j a b)) IX).mono fun e n z=>iR (f:=Q8) rfl rfl (Er.i64 (Wm _ _)) (by omega) z
theorem aau:dX 0 2 55:=fun {w m H S q A p o F y r B u a x} h D j i v l d E b g C=>by
 obtain rfl:=eq_nil_of_length_eq_zero l;obtain⟨s,t,rfl⟩:=Dx d;exact(acC (.inl ⟨rfl,rfl⟩) g (by omega) (fun V c=>have k:=h.below c;kQ c (k.zG j i s t (b s (by simp)) (b t (by simp)))) IX).mono fun e n z=>iR (f:=Ri) rfl rfl (Er.i64 (Xx _ _ _)) (by omega) z
theorem TH:dX 0 1 68:=fun {w m H S q A p o E x r y t a v} h C j i u l c D d g B=>by
 obtain rfl:=eq_nil_of_length_eq_zero l;obtain⟨s,rfl⟩:=sw c;exact(acD (.inr (⟨rfl,rfl⟩)) g (by omega) (fun V b=>have k:=h.below b;kQ b (k.sV j i s (d s (by simp)))) IX).mono fun e n z=>iR (f:=D7) rfl rfl (Er.i64 (NT _ _)) (by omega) z
theorem TI:dX 0 2 65:=fun {w m H S q A p o F y r B u a x} h D j i v l d E b g C=>by
 obtain rfl:=eq_nil_of_length_eq_zero l;obtain⟨s,t,rfl⟩:=Dx d;exact(acC (.inr (⟨rfl,rfl⟩)) g (by omega) (fun V c=>have k:=h.below c;kQ c (k.sZ j i s t (b s (by simp)) (b t (by simp)))) IX).mono fun e n z=>iR (f:=Ef) rfl rfl (Er.i64 (Oz _ _ _)) (by omega) z
end
section
variable {w w' V:World}{m:Int}{H:KH}{S S':KS}{q q':Nat}{A:Nat→Prop}{c:Int}{p:Int}{o:Ow}{word t:az}{ns:List Int}{ts:List az}{on:Bool}{k:Nat}{e:Ending}{L:List Int}
theorem yI{T:Type}{X:T->Int->KS->Prop}:∀(L:T) (c:Int) (V V':World),(∃S',X L c S'/\pO w m H q A S' V)->Below V.heap.size V V'->∃S',X L c S'/\pO w m H q A S' V':=fun _ _ _ _ ⟨S',x,n⟩ b=>⟨S',x,n.vK b⟩
theorem xc(b:Below w.heap.size w V){fn:Nat}{args:Array Value}(j:Nat){X:List Int->Int->KS->Prop}(h:Calls prog fn args V fun y d=>∃L c S',y=.returned (.tuple ((L.map (Value.int .i64))++[aI c]).toArray)/\L.length=j/\(c=0->∀n∈L,dF n)/\X L c S'/\∃q' a f,(a.kb=H.kb/\a.ok=H.ok)/\q'<=q+1/\KN d m a S' q' f/\Stp V d A f):Calls prog fn args V (XN j A (fun L c d=>∃S',X L c S'/\pO w m H q A S' d) V):=
 h.mono fun _ _ ⟨L,c,S',e,l,o,x,_,a,f,p,i,k,g⟩=>⟨L,c,e,l,o,⟨S',x,pO.before ⟨a,f,p,k.more i,g⟩ b⟩,g.wt⟩
theorem rq{f:vM}(d:yD k=rT f){L0:List Int}{c0:Int}(i:f S p o word ns ts on=(gG c0 (word++aQ L0),S'))(a:dF c0)(g:c0=0->∀n∈L0,dF n)(t:L0.length<=100)(s:word.length<=3000)(h:∃L c,TO (word++aQ L) c e/\∃b,(L=L0/\c=c0/\b=S')/\pO w m H q A b w'):OpO w m H q A k S p o word ns ts on e w':=by
 obtain⟨_,_,l,_,⟨rfl,rfl,rfl⟩,j⟩:=h;exact⟨_,_,sH l a,by rw[d];unfold rT;rw[i];exact⟨rfl,rfl⟩,j,o6 a fun r=>by have:=iF (g r);rw[length_append];omega⟩
theorem WS:dX 0 1 60:=fun {w m H S q A p o O K F L G l J} h i C B I D x N z g M=>by
 obtain rfl:=eq_nil_of_length_eq_zero D;obtain⟨s,rfl⟩:=sw x;obtain⟨k,i⟩:=h.1.gP;refine(acD (.inl ⟨rfl,rfl⟩) (R:=fun c f=>∃a,Q5 S.D.T k s c a/\pO w m H q A (S.tree a) f) g (by omega) (fun V u=>?_) (fun _ _ _ ⟨a,j,d⟩ b=>⟨a,j,d.vK b⟩)).mono ?_
 ·refine((h.below u).O6 C B i s (z s (by simp))).mono ?_;rintro y f ⟨c,a,rfl,r,P,v,n⟩;exact⟨c,rfl,⟨a,r,(pO.mk v (by omega) n).before u⟩,n.wt⟩
 ·rintro e f ⟨c,j,a,d,E⟩;have t:dF c:=by
   rcases d with⟨_,rfl,_⟩|⟨_,rfl,_⟩
   ·exact Er.i64 (MB _ _ _)
   ·exact i0
  exact⟨_,_,sH j t,⟨k,c,a,i,d,rfl,rfl⟩,E,o6 t fun _=>by omega⟩
theorem Ei{n:Int}(a:n∈aH S.P):dF n:=by
 unfold aH at a;obtain⟨c,_⟩:=List.mem_filter.1 a;obtain⟨i,b,rfl⟩:=mem_map.1 c;have:=mem_range.1 b;unfold dF;omega
theorem aaw:dX 0 0 51:=fun {w m H S q A p o Q K F M G t J} h O v C I b B P N g u=>by
 obtain rfl:=eq_nil_of_length_eq_zero b;obtain rfl:=eq_nil_of_length_eq_zero B;rcases Nat.lt_or_ge (aH S.P).length 24 with l|l
 ·have x:dF (aL S.P):=by
   unfold aL;cases hf:((range 24).map (fun i:Nat=>(i:Int)+1)).find? (fun n=>!(S.P n).isSome) with
   |none=>exact i0
   |some n=>
    obtain⟨i,D,rfl⟩:=mem_map.1 (List.mem_of_find?_eq_some hf);have:=mem_range.1 D;simp only[getD_some];unfold dF;omega
  refine(Sc (R:=fun L c a=>∃j,(L=[aL S.P]/\c=0/\j=gK S p o)/\pO w m H q A j a) g (by omega) (fun V d=>xc d 1 (((h.below d).XM v C l).mono ?_)) yI).mono fun e a z=>rq (f:=rV) rfl (by unfold rV;rw[if_pos l];rfl) i0 (fun _ n b=>by rw[mem_singleton.1 b];exact x) (by simp) u z;rintro y a ⟨rfl,E,s,e,k,r⟩;exact⟨_,0,_,rfl,rfl,fun _ n b=>by rw[mem_singleton.1 b];exact x,⟨rfl,rfl,rfl⟩,_,E,s,e,le_refl _,k,r⟩
 ·refine(Sc (R:=fun L c a=>∃j,(L=[0]/\c=12/\j=S)/\pO w m H q A j a) g (by omega) (fun V d=>xc d 1 (((h.below d).PK v l).mono ?_)) yI).mono fun e a z=>rq (f:=rV) rfl (L0:=[0]) (c0:=12) (S':=S) (by unfold rV;rw[if_neg (by omega)];rfl) (by unfold dF;omega) (fun h=>by omega) (by simp) u z;rintro y a ⟨rfl,s,k,r⟩;exact⟨[0],12,_,rfl,rfl,fun h=>by omega,⟨rfl,rfl,rfl⟩,_,H,s,⟨rfl,rfl⟩,by omega,k,r⟩
theorem aan:dX 0 0 70:=fun {w m H S q A p o P I E J F d G} h N x M t B v O K g u=>by
 obtain rfl:=eq_nil_of_length_eq_zero B;obtain rfl:=eq_nil_of_length_eq_zero v;have j:∀n∈[(bC S.P p).1,(bC S.P p).2.1],dF n:=by
  unfold bC;split
  ·simp[i0]
  ·cases hf:(aH S.P).find? (BL S.P p) with
   |none=>simp[i0]
   |some n=>
    have C:=List.mem_of_find?_eq_some hf;have b:dF (BM S.P n):=by
     unfold BM;cases hp:S.P n with
     |none=>exact i0
     |some y=>exact t.c n y hp
    intro z i;simp only[mem_cons,not_mem_nil,or_false] at i;rcases i with rfl|rfl
    ·exact Ei C
    ·exact b
 refine(aa7 (R:=fun L c a=>∃r,(L=[(bC S.P p).1,(bC S.P p).2.1]/\c=(bC S.P p).2.2.1/\r=S.procs (bC S.P p).2.2.2)/\pO w m H q A r a) g (by omega) (fun V l=>xc l 2 (((h.below l).Sv x).mono ?_)) yI).mono fun e a z=>rq (f:=Lp) rfl rfl (Er.i64 VP) (fun _=>j) (by simp) u z;rintro y a ⟨rfl,D,k,s⟩;exact⟨_,_,_,rfl,rfl,fun _=>j,⟨rfl,rfl,rfl⟩,_,H,D,⟨rfl,rfl⟩,by omega,k,s⟩
theorem o_load:dX 2 0 57:=fun {w m H S q A p o M F C G D k E} h K x J t i v B I g u=>by
 obtain⟨a,b,rfl⟩:=Dx i;obtain rfl:=eq_nil_of_length_eq_zero v;have l:∀n∈[je (aC S o.j) S.W a b],dF n:=fun n i=>by rw[mem_singleton.1 i];exact t.w.load _ _ _
 refine(abd (R:=fun L c d=>∃s,(L=[je (aC S o.j) S.W a b]/\c=dL (aC S o.j) a b 1/\s=S)/\pO w m H q A s d) g (by omega) (fun V j=>xc j 1 (((h.below j).1.Uc x a b (uq (B a (by simp)))).mono ?_)) yI).mono fun e d z=>rq (f:=FO) rfl rfl (Er.i64 (Z4 _)) (fun _=>l) (by simp) u z;rintro y d ⟨rfl,r⟩;exact⟨_,_,_,rfl,rfl,fun _=>l,⟨rfl,rfl,rfl⟩,q,H,A,⟨rfl,rfl⟩,by omega,(h.below j).below r,.below r⟩
theorem mG(N:Ns)(a:N.length=8):dF (ai N):=by
 have:∀N:Ns,-1<=ai N/\ai N<=N.length:=fun N=>by
  induction N with
  |nil=>simp[ai]
  |cons x N ih=>
   unfold ai;simp only[length_cons];repeat' split
   all_goals omega
 have:=this N;unfold dF;omega
theorem ac4:dX 1 0 47:=fun {w m H S q A p o N F B G C i E} h K v J D d u M I g t=>by
 obtain⟨a,rfl⟩:=sw d;obtain rfl:=eq_nil_of_length_eq_zero u;have j:∀n∈[ng S o a],dF n:=fun n d=>by
  rw[mem_singleton.1 d];unfold ng jr;repeat' split
  ·exact mG _ (h.1.oW _)
  ·exact i0
  ·exact i0
 refine(adv (R:=fun L c b=>∃r,(L=[ng S o a]/\c=rW S o a/\r=uB S o a)/\pO w m H q A r b) g (by omega) (fun V l=>xc l 1 (((h.below l).XY v a).mono ?_)) yI).mono fun e b z=>rq (f:=QY) rfl rfl (Er.i64 aa5) (fun _=>j) (by simp) t z;rintro y b ⟨rfl,x,k,s⟩;exact⟨_,_,_,rfl,rfl,fun _=>j,⟨rfl,rfl,rfl⟩,_,H,x,⟨rfl,rfl⟩,le_refl _,k,s⟩
theorem WO:dX 1 1 71:=fun {w m H S q A p o P J E K F j I} h N C M G i x O B g v=>by
 obtain⟨a,rfl⟩:=sw i;obtain⟨s,rfl⟩:=sw x;have d:=B s (by simp);have l:∀n∈[(xW S o a s).1],dF n:=fun n i=>by
  rw[mem_singleton.1 i];have:0<=(xW S o a s).1/\(xW S o a s).1<=100000:=by
   unfold xW bZ Nc;repeat' split
   all_goals constructor<;>simp<;>omega
  unfold dF;omega
 refine(Yb (R:=fun L c b=>∃t,(L=[(xW S o a s).1]/\c=(xW S o a s).2.1/\t=jY S p o a s)/\pO w m H q A t b) g (by omega) (fun V r=>xc r 1 (((h.below r).Nw C a s d).mono ?_)) yI).mono fun e b z=>rq (f:=yO) rfl rfl (Er.i64 (acP _ _)) (fun _=>l) (by simp) v z;rintro y b ⟨rfl,D,k,u⟩;exact⟨_,_,_,rfl,rfl,fun _=>l,⟨rfl,rfl,rfl⟩,_,H,D,⟨rfl,rfl⟩,le_refl _,k,u⟩
theorem aar:dX 1 1 61:=fun {w m H S q A p o Z T O U P t j} h X J I Q d E Y F g W=>by
 obtain⟨a,rfl⟩:=sw d;obtain⟨s,rfl⟩:=sw E;obtain⟨n,z⟩:=h.1.yF;obtain⟨k,v⟩:=h.1.gP;have u:∀x c b,FV S o n k s a j x c b->dF x/\dF c:=fun x c b G=>by
  rcases G with⟨_,rfl,rfl,_⟩|⟨_,D',N',f,_⟩
  ·exact⟨i0,by unfold dF;omega⟩
  ·cases f
   ·exact⟨i0,by unfold dF;omega⟩
   ·exact⟨i0,by unfold dF;omega⟩
   ·exact⟨i0,Er.i64 (Ew _ _)⟩
   ·exact⟨i0,Er.i64 (XI _ _ _)⟩
   ·exact⟨mG _ (h.1.oW _),i0⟩
   ·exact⟨i0,Er.i64 (MB _ _ _)⟩
   ·exact⟨mG _ (h.1.oW _),i0⟩
 refine(abb (R:=fun L c i=>∃b,(∃x,L=[x]/\FV S o n k s a j x c b)/\pO w m H q A b i) g (by omega) (fun V B=>xc B 1 (((h.below B).Uz J I z v s (F s (by simp)) a j).mono ?_)) yI).mono ?_
 ·rintro y i ⟨x,c,S',rfl,r,N,D,C⟩;exact⟨_,c,_,rfl,rfl,fun _ n d=>by rw[mem_singleton.1 d];exact(u _ _ _ r).1,⟨x,rfl,r⟩,_,H,N,⟨rfl,rfl⟩,le_refl _,D,C⟩
 ·rintro e i ⟨L,c,M,b,⟨x,rfl,r⟩,K⟩;have l:=u _ _ _ r;exact⟨_,_,sH M l.2,⟨n,k,x,c,z,v,r,rfl⟩,K,o6 l.2 fun _=>by have:=iF (L:=[x]) (fun n d=>by rw[mem_singleton.1 d];exact l.1);rw[length_append];simp only[length_cons,length_nil] at this;omega⟩
theorem aaq:dX 0 0 62:=fun {w m H S q A p o X O J P K i N} h U D C M E v W T g Q=>by
 obtain rfl:=eq_nil_of_length_eq_zero E;obtain rfl:=eq_nil_of_length_eq_zero v;obtain⟨n,l⟩:=h.1.yF;have k:∀x y c a,uC S o n x y c a->(∀z∈[x,y],dF z)/\dF c:=fun x y c a B=>by
  rcases B with⟨_,rfl,rfl,rfl,_⟩|⟨_,D',Z,f,_⟩
  ·exact⟨by simp[i0],by unfold dF;omega⟩
  ·rcases f with⟨_,rfl,rfl,rfl,_,_⟩|⟨_,rfl,rfl,rfl,_,_⟩
   ·exact⟨by simp[i0],by unfold dF;omega⟩
   ·refine⟨fun z j=>?_,i0⟩;simp only[mem_cons,not_mem_nil,or_false] at j;rcases j with rfl|rfl
    ·exact mG _ (h.1.oW _)
    ·refine mG _ ?_;unfold dI addN;repeat' split
     all_goals first|exact h.1.oW _|(rw[List.length_set];exact h.1.oW _)
 refine(aa9 (R:=fun L c b=>∃a,(∃x y,L=[x,y]/\uC S o n x y c a)/\pO w m H q A a b) g (by omega) (fun V s=>xc s 2 (((h.below s).zA D C l).mono ?_)) yI).mono ?_
 ·rintro z b ⟨x,y,c,Y,rfl,r,I,u,t⟩;exact⟨_,c,_,rfl,rfl,fun _=>(k _ _ _ _ r).1,⟨x,y,rfl,r⟩,_,H,I,⟨rfl,rfl⟩,le_refl _,u,t⟩
 ·rintro e b ⟨L,c,G,a,⟨x,y,rfl,r⟩,F⟩;have d:=k _ _ _ _ r;exact⟨_,_,sH G d.2,⟨n,x,y,c,l,r,rfl⟩,F,o6 d.2 fun _=>by have:=iF d.1;rw[length_append];simp only[length_cons,length_nil] at this;omega⟩
theorem dN.went{p a k v e:Int}{L:List Int}(r:dN p a k v S L e S'):L.Nodup/\∀n∈L,(S.O n).isSome=true:=by
 induction r with
 |done ho h h12=>exact⟨List.nodup_nil,fun n b=>by cases b⟩
 |nobody ho h hv=>exact⟨List.nodup_nil,fun n b=>by cases b⟩
 |self ho h hv he=>exact⟨by simp,fun n b=>by rw[mem_singleton.1 b,ho];rfl⟩
 | @goes S o x ox L e S' ho h hv he hx h1 hne r ih=>
  obtain⟨g,d⟩:=ih;have c:∀n,((dB S x ox 108).O n).isSome=true->n≠x/\(S.O n).isSome=true:=fun n b=>by
   change (jK S.O x n).isSome=true at b;unfold jK at b;split at b
   ·cases b
   ·exact⟨by assumption,b⟩
  exact⟨List.nodup_cons.2 ⟨fun f=>(c _ (d _ f)).1 rfl,g⟩,fun n b=>by
   rcases mem_cons.1 b with rfl|b
   ·rw[hx];rfl
   ·exact(c n (d n b)).2⟩
theorem F3(h:KN w m H S q A){p a k v s:Int}{L:List Int}(r:dN p a k v S L s S'):L.length<=24/\∀n∈L,dF n:=by
 obtain⟨l,j⟩:=r.went;have d:∀n∈L,1<=n/\n<=24:=fun n c=>by
  obtain⟨o,g⟩:=Option.isSome_iff_exists.1 (j n c);exact h.1.key g
 have e:=lD (b:=(range 24).map (fun i:Nat=>(i:Int)+1)) l (fun x f=>by
  have:=d x f;exact mem_map.2 ⟨(x-1).toNat,mem_range.2 (by omega),by omega⟩)
 simp only[List.length_map,List.length_range] at e;exact⟨e,fun n c=>by have:=d n c;unfold dF;omega⟩
theorem VT(Q:PM)(a b:Int):Er (dL Q a b 2):=by
 unfold dL;repeat' split
 all_goals (unfold Er;omega)
theorem SV{p a k v b:Int}{L:List Int}(r:dN p a k v S L b S'):dF b:=by
 induction r with
 |done ho h h12=>
  rcases h with⟨_,rfl,_⟩|⟨_,_,_,rfl,_⟩|⟨_,_,_,rfl,_⟩|⟨_,_,x,_,_,rfl,_,_⟩;all_goals first|exact Er.i64 (VT _ _ _) | (unfold dF;omega)
 |nobody ho h hv=>unfold dF;omega
 |self ho h hv he=>unfold dF;omega
 |goes ho h hv he hx h1 hne r ih=>exact ih
theorem WR:dX 3 0 67:=fun {w m H S q A p o cb Z U ns W f Y} h hk C B X D z E hs g hw=>by
 obtain⟨a,b,v,rfl⟩:=ZG D;obtain rfl:=eq_nil_of_length_eq_zero z;refine(Yc (R:=fun L c j=>∃i,dN p a b v S L c i/\pO w m H q A i j) g (by omega) (fun V u=>((h.below u).N9 C B a b v (uq (E a (by simp)))).mono ?_) yI).mono ?_
 ·rintro y j ⟨T,O,rfl,L,Q,A',r,P,x,t⟩;have k:=F3 h r;obtain⟨s,d,rfl,F⟩:=BO.row P.row;exact⟨s,L,d,O,rfl,by omega,k.2,F,⟨Q,r,(pO.mk x (by omega) t).before u⟩,t.wt⟩
 ·rintro e j ⟨L,c,N,i,r,K⟩;have k:=F3 h r;have l:=SV r;have hl:=iF k.2;have he:=jQ l;refine⟨Fy f L c,i,?_,⟨L,c,r,rfl⟩,K,?_⟩
  ·unfold Fy;rcases N with⟨rfl,rfl⟩|⟨n,rfl,rfl⟩|⟨n,M,J,I,s,d,rfl,G⟩
   ·rw[if_pos rfl];exact rfl
   ·rw[if_neg n,if_pos rfl];exact⟨rfl,l⟩
   ·rw[if_neg n,if_neg M];exact⟨s,d,rfl,G,J,I,l⟩
  ·unfold Fy;repeat' split
   ·simp only[gp,length_append];omega
   ·simp only[gp];omega
   ·simp only[gp,Lm,length_append,length_cons,length_nil];omega
theorem Tp(h:KN w m H S q A)(N:Ns)(x a:Int):(bR S.D N x a).1.length<=256:=by
 unfold bR;split
 ·split
  ·simp
  ·rename_i e g
   split
   ·simp
   ·split
    ·unfold eG;split
     ·rename_i l j i
      split
      ·simp
      ·have:=(h.1.inv.core.sm.2 _ _ _ i).2;simp only[List.length_take,List.length_drop];omega
     ·simp
    ·rename_i f
     split
     ·simp
     ·rename_i k d
      obtain⟨_,_,y,b,c,_⟩:=(h.1.inv.core.gz _ _ g).pipe f;rw[d] at b;cases b
      simp only[List.length_take];omega
 ·simp
theorem aap:dX 2 0 64:=fun {w m H S q A p o N E x F B i D} h L s J C t r M I g G=>by
 obtain⟨a,b,rfl⟩:=Dx t;obtain rfl:=eq_nil_of_length_eq_zero r;have K:=Tp h (au S o.j) a b;refine(aa8 (R:=fun z c d=>∃f,(z=(bR S.D (au S o.j) a b).1/\c=(bR S.D (au S o.j) a b).2.1/\f=S.files (bR S.D (au S o.j) a b).2.2 o.j (au S o.j))/\pO w m H q A f d) g (by omega) (fun V l=>((h.below l).Tn s a b).mono ?_) yI).mono ?_
 ·rintro y d ⟨rfl,O,n,j⟩;exact⟨_,_,rfl,by omega,⟨_,⟨rfl,rfl,rfl⟩,(pO.mk n (by omega) j).before l⟩,j.wt⟩
 ·rintro e d ⟨z,c,v,f,⟨rfl,rfl,rfl⟩,u⟩;have k:=Er.i64 (acX S.D (au S o.j) (a:=a) (b:=b));exact⟨_,_,sH v k,⟨rfl,rfl⟩,u,o6 k fun _=>by have:=Cj (bR S.D (au S o.j) a b).1;simp only[length_append,length_cons,length_nil];omega⟩
theorem O4(h:KN w m H S q A)(d:q<=400)(x:Int):(o7 S.D.T x).length<=800/\∀z∈o7 S.D.T x,z.length<=12:=by
 unfold o7;split
 ·rename_i C b
  have e:=h.1.inv.core.sm.1 _ _ b;refine⟨by rw[Pb];omega,fun z a=>?_⟩;unfold uz uN at a;obtain⟨y,c,rfl⟩:=mem_map.1 (List.mem_mergeSort.1 a);exact(dQ (h.1.inv.core.lv.toTrOk.name _ _ _ b c)).2
 ·simp
theorem Uo(t:az){N:List az}(h:∀x∈N,x.length<=12):(uA (t::N)).length<=t.length+13*N.length:=by
 unfold uA;rw[Lib.join_cons,length_append];have:(Lib.joinTail [32] N).length<=13*N.length:=by
  unfold Lib.joinTail;induction N with
  |nil=>simp
  |cons x N ih=>
   have c:=h x mem_cons_self;have b:=ih fun y a=>h y (mem_cons_of_mem _ a);simp only[map_cons,List.flatten_cons,length_append,length_cons,length_nil] at b ⊢;omega
 omega
theorem aat:dX 0 1 56:=fun {w m H S q A p o Y Q L T M a P} h W B n O D u X x g U=>by
 obtain rfl:=eq_nil_of_length_eq_zero D;obtain⟨s,rfl⟩:=sw u;have i:=O4 h n (aF S.D.T s).1;refine(abe (R:=fun N c b=>∃f,(N=o7 S.D.T (aF S.D.T s).1/\c=mZ S.D.T s/\f=S)/\pO w m H q A f b) g (by omega) (fun V k=>((h.below k).1.Ue B n s (x s (by simp))).mono ?_) yI).mono ?_
 ·rintro y b ⟨G,j⟩;have l:pO w m H q A S b:=(pO.same (h.below k) j).before k;rcases G with⟨d,rfl⟩|⟨d,v,C,I,rfl,E⟩
  ·exact⟨_,_,mZ S.D.T s,0,by rw[ax d],fun z=>absurd z d,⟨S,⟨rfl,rfl,rfl⟩,l⟩,.below A j⟩
  ·have F:o7 S.D.T (aF S.D.T s).1=uz C:=by unfold o7;rw[I]
   exact⟨v,_,0,_,by rw[aB],fun _=>⟨by rw[F];exact E,by omega,fun z t=>by have:=i.2 z t;omega⟩,⟨S,⟨rfl,d.symm,rfl⟩,l⟩,.below A j⟩
 ·rintro e b ⟨N,c,K,f,⟨rfl,rfl,rfl⟩,J⟩;have r:=Er.i64 (Xu f.D.T s);exact⟨_,_,sH K r,⟨rfl,rfl⟩,J,o6 r fun _=>by
   have:=Uo a i.2;have:=i.1;omega⟩
end
structure Good (S:KS):Prop where
 pg:jg S
 lie:QK S
theorem KN.good{w:World}{m:Int}{H:KH}{S:KS}{q:Nat}{A:Nat->Prop}(h:KN w m H S q A):Good S:=by
 refine⟨fun P b=>?_,h.lie⟩;obtain⟨j,a,rfl⟩:=List.getElem_of_mem b;have:=(h.1.pages (o:=⟨j,fun _=>0,0⟩) (by show j<S.Ts.length;rw[<-h.lie.len];exact a)).1;change lN S.n (aC S j) at this;rw[pQ a] at this;exact this
noncomputable def nP(S:KS)(p:Int):KS:=if p=1 then S.procs (iY S.P 1) else S
inductive iZ (S:KS) (p:Int) (ws:List az):wZ->KS->Prop
 |no (h:ws=[]\/∃x rest,ws=x::rest/\bq x df=none):iZ S p ws (.bad 3) S
 |nobody {x:az}{rest:List az}{y:az×Nat}(hw:ws=x::rest) (hf:bq x df=some y) (ho:S.O p=none):iZ S p ws (.bad 7) S
 |ends {x:az}{rest:List az}{y:az×Nat}{o:Ow}(hw:ws=x::rest) (hf:bq x df=some y) (ho:S.O p=some o) (h1:p≠1) (hs:aO S.P p≠0):iZ S p ws (.say [101,110,100,101,100]) (dB (S.procs (dP S.P p)) p o (100+aO S.P p))
 |form {x:az}{rest:List az}{y:az×Nat}{o:Ow}(hw:ws=x::rest) (hf:bq x df=some y) (ho:S.O p=some o) (hq:p=1\/aO S.P p=0) (hp:gJ y.1 rest=none):iZ S p ws (.bad 3) (nP S p)
 |tell {x:az}{rest:List az}{y:az×Nat}{o:Ow}{ns:List Int}{ts:List az}{on:Bool}{r:wZ}{S':KS}(hw:ws=x::rest) (hf:bq x df=some y) (ho:S.O p=some o) (hq:p=1\/aO S.P p=0) (hp:gJ y.1 rest=some (ns,ts,on)) (hr:yD y.2 (nP S p) p o x ns ts on r S'):iZ S p ws r S'
inductive jB (k:Nat) (S:KS) (word:az) (ns:List Int):wZ->KS->Prop
 |free {a b:Nat}(hk:k=40) (ha:p9 S.D.E a) (hb:dD S.D.T b):jB k S word ns (.say (word++aQ [((S.n-used (bI S.Ms) S.n:Nat):Int),(a:Int),(b:Int)])) S
 |BK {x:Int}(hk:k=41) (hn:ns=[x]) (ho:S.O x=none):jB k S word ns (.bad 7) S
 |has {x:Int}{o:Ow}(hk:k=41) (hn:ns=[x]) (ho:S.O x=some o):jB k S word ns (.say (word++aQ [((bX (aC S o.j):Nat):Int),((gL (aC S o.j):Nat):Int),((ak (au S o.j):Nat):Int)])) S
 |QW (hk:k=42):jB k S word ns (.say Ro) S
 |BI {x:Int}(hk:k=43) (hn:ns=[x]) (h:¬(1<=x/\x<=256)):jB k S word ns (.bad 2) S
 |new {x:Nat}(hk:k=43) (hn:ns=[(x:Int)]) (h:1<=x/\x<=256):jB k S word ns (.say word) (dZ x)
 |si (hk:k=44):jB k S word ns (.say (word++aQ (mY (aH S.P) (nN S.P)))) S
inductive jh (S:KS) (line:az):wZ->KS->Prop
 |empty (h:bJ line=[]):jh S line (.say [111,107]) S
 |call {x:az}{rest:List az}{p:Int}{r:wZ}{S':KS}(h:bJ line=x::rest) (hn:gP x=some p) (hs:iZ S p rest r S'):jh S line r S'
 |bad {x:az}{rest:List az}(h:bJ line=x::rest) (hn:gP x=none) (hf:bq x dH=none\/∃y,bq x dH=some y/\gJ y.1 rest=none):jh S line (.bad 3) S
 |thing {x:az}{rest:List az}{y:az×Nat}{ns:List Int}{ts:List az}{on:Bool}{r:wZ}{S':KS}(h:bJ line=x::rest) (hn:gP x=none) (hf:bq x dH=some y) (hp:gJ y.1 rest=some (ns,ts,on)) (ht:jB y.2 S x ns r S'):jh S line r S'
section
variable {S1 S2 Dq S2':KS}{r1 r2:wZ}{p:Int}{ws:List az}{k:Nat}{word line:az}{ns:List Int}
theorem Ci(n:Nat):I4 (dZ n) (dZ n):=by
 have c:∀f,0<=f->bI (dZ n).Ms f=0:=fun f b=>by
  show bI [lG] f=0;have d:sh lG f=0:=qD b;simp[bI,d]
 refine⟨id,rfl,rfl,rfl,rfl,rfl,?_,fun f g b _ h=>?_,fun f b h=>?_,fun _ _ _ _=>rfl⟩
 ·show [lG]=[lG].map (mX id);have:mX id lG=lG:=by funext a;rfl
  rw[List.map_singleton,this]
 ·rw[c f b] at h;omega
 ·rw[c f b] at h;omega
theorem Good.sig(g:Good S1)(p:Int):Good (nP S1 p):=by
 unfold nP;split
 ·exact⟨g.pg,g.lie.len,g.lie.lt,g.lie.inj⟩
 ·exact g
theorem L9(h:I4 S1 S2)(p:Int):I4 (nP S1 p) (nP S2 p):=by
 obtain⟨π,h⟩:=h;unfold nP;split
 ·rw[h.P];exact⟨π,h.procs _⟩
 ·exact⟨π,h⟩
theorem YK(S:KS)(p:Int):(nP S p).O=S.O:=by unfold nP;split<;>rfl
theorem nU{x:az}{a:List az}{y:az×Nat}(h:ws=[]\/∃x a,ws=x::a/\bq x df=none)(c:ws=x::a)(d:bq x df=some y):False:=by
 rcases h with rfl|⟨e,b,rfl,h⟩
 ·cases c
 ·cases c;rw[h] at d;cases d
theorem uL{x x':az}{b a:List az}{y e:az×Nat}{T:Lj}(f:ws=x::b)(g:bq x T=some y)(d:ws=x'::a)(c:bq x' T=some e):x=x'/\b=a/\y=e:=by
 subst f;cases d
 rw[g] at c;exact⟨rfl,rfl,Option.some.inj c⟩
theorem iZ.Zu(c:I4 S1 S2)(g:Good S1)(f:iZ S1 p ws r1 Dq)(d:iZ S2 p ws r2 S2'):r1=r2/\I4 Dq S2':=by
 have i:=c;obtain⟨π,j⟩:=i;have e:=j.P;have b:=j.O;cases f with
 |no h=>
  cases d with
  |no h'=>exact⟨rfl,c⟩
  |nobody hw hf'=>exact(nU h hw hf').elim
  |ends hw hf'=>exact(nU h hw hf').elim
  |form hw hf'=>exact(nU h hw hf').elim
  |tell hw hf'=>exact(nU h hw hf').elim
 |nobody hw hf' ho=>
  cases d with
  |no h'=>exact(nU h' hw hf').elim
  |nobody hw hf'=>exact⟨rfl,c⟩
  |ends _ _ ho'=>rw[b,ho] at ho';cases ho'
  |form _ _ ho'=>rw[b,ho] at ho';cases ho'
  |tell _ _ ho'=>rw[b,ho] at ho';cases ho'
 |ends hw hf' ho f hs9=>
  cases d with
  |no h'=>exact(nU h' hw hf').elim
  |nobody _ _ ho'=>rw[b,ho] at ho';cases ho'
  |ends _ _ ho' h1' Nl=>
   rw[b,ho] at ho';cases ho'
   rw[e];exact⟨rfl,π,aX.ends (j.procs (dP S1.P p)) (g.lie.ms ho) _ _⟩
  |form _ _ _ a=>rw[e] at a;rcases a with a|a;exact absurd a f;exact absurd a hs9
  |tell _ _ _ a=>rw[e] at a;rcases a with a|a;exact absurd a f;exact absurd a hs9
 |form hw hf' ho a hp=>
  cases d with
  |no h'=>exact(nU h' hw hf').elim
  |nobody _ _ ho'=>rw[b,ho] at ho';cases ho'
  |ends _ _ _ h1' Nl=>rw[e] at Nl;rcases a with a|a;exact absurd a h1';exact absurd a Nl
  |form=>exact⟨rfl,L9 c p⟩
  |tell hw' QV _ _ hp'=>
   obtain⟨rfl,rfl,rfl⟩:=uL hw hf' hw' QV;rw[hp] at hp';cases hp'
 |tell hw hf' ho a hp hr=>
  cases d with
  |no h'=>exact(nU h' hw hf').elim
  |nobody _ _ ho'=>rw[b,ho] at ho';cases ho'
  |ends _ _ _ h1' Nl=>rw[e] at Nl;rcases a with a|a;exact absurd a h1';exact absurd a Nl
  |form hw' QV _ _ hp'=>
   obtain⟨rfl,rfl,rfl⟩:=uL hw hf' hw' QV;rw[hp] at hp';cases hp'
  |tell hw' QV ho' _ hp' hr'=>
   obtain⟨rfl,rfl,rfl⟩:=uL hw hf' hw' QV;rw[hp] at hp';cases hp'
   rw[b,ho] at ho';cases ho'
   exact(Gj _).nY (L9 c p) (g.sig p).pg (g.sig p).lie (by rw[YK];exact ho) hr hr'
theorem jB.Zu(b:I4 S1 S2)(g:Good S1)(f:jB k S1 word ns r1 Dq)(c:jB k S2 word ns r2 S2'):r1=r2/\I4 Dq S2':=by
 have d:=b;obtain⟨π,a⟩:=d;have i:=a.P;have e:=a.O;have j:=a.D;cases f with
 |free hk ha hb=>
  cases c with
  |free _ ha' hb'=>
   rw[j] at ha' hb';obtain rfl:=p9.one ha ha';obtain rfl:=p9.one (F:=S1.D.T) hb hb';rw[a.n,a.used g.pg];exact⟨rfl,b⟩
  |_=>exfalso;omega
 |BK hk hn ho=>
  cases c with
  |BK=>exact⟨rfl,b⟩
  |has _ hn' ho'=>subst hn;cases hn';rw[e,ho] at ho';cases ho'
  |_=>exfalso;omega
 |has hk hn ho=>
  cases c with
  |BK _ hn' ho'=>subst hn;cases hn';rw[e,ho] at ho';cases ho'
  |has _ hn' ho'=>
   subst hn;cases hn';rw[e,ho] at ho';cases ho'
   rw[a.res g.pg (g.lie.ms ho),a.Yw,a.IU,RY];exact⟨rfl,b⟩
  |_=>exfalso;omega
 |QW hk=>
  cases c with
  |QW=>exact⟨rfl,b⟩
  |_=>exfalso;omega
 |BI hk hn h=>
  cases c with
  |BI=>exact⟨rfl,b⟩
  |new _ hn' h'=>subst hn;cases hn';exfalso;omega
  |_=>exfalso;omega
 |new hk hn h=>
  cases c with
  |BI _ hn' h'=>subst hn;cases hn';exfalso;omega
  | @new x' _ hn' h'=>
   subst hn
   rename_i x _
   have:x=x':=by have:=(List.cons.inj hn').1;omega
   subst this;exact⟨rfl,Ci _⟩
  |_=>exfalso;omega
 |si hk=>
  cases c with
  |si=>rw[i];exact⟨rfl,b⟩
  |_=>exfalso;omega
theorem jh.Zu(d:I4 S1 S2)(g:Good S1)(i:jh S1 line r1 Dq)(f:jh S2 line r2 S2'):r1=r2/\I4 Dq S2':=by
 cases i with
 |empty h=>
  cases f with
  |empty=>exact⟨rfl,d⟩
  |call h'=>rw[h] at h';cases h'
  |bad h'=>rw[h] at h';cases h'
  |thing h'=>rw[h] at h';cases h'
 |call h hn hk=>
  cases f with
  |empty h'=>rw[h] at h';cases h'
  |call h' hn' hk'=>
   rw[h] at h';cases h'
   rw[hn] at hn';cases hn'
   exact hk.Zu d g hk'
  |bad h' hn'=>rw[h] at h';cases h';rw[hn] at hn';cases hn'
  |thing h' hn'=>rw[h] at h';cases h';rw[hn] at hn';cases hn'
 |bad h hn c=>
  cases f with
  |empty h'=>rw[h] at h';cases h'
  |call h' hn'=>rw[h] at h';cases h';rw[hn] at hn';cases hn'
  |bad=>exact⟨rfl,d⟩
  |thing h' hn' a b=>
   rw[h] at h';cases h'
   rcases c with c|⟨y,c,e⟩
   ·rw[c] at a;cases a
   ·rw[c] at a;cases a;rw[e] at b;cases b
 |thing h hn c e ht=>
  cases f with
  |empty h'=>rw[h] at h';cases h'
  |call h' hn'=>rw[h] at h';cases h';rw[hn] at hn';cases hn'
  |bad h' hn' a=>
   rw[h] at h';cases h'
   rcases a with a | ⟨y,a,b⟩
   ·rw[c] at a;cases a
   ·rw[c] at a;cases a;rw[e] at b;cases b
  |thing h' hn' a b ht'=>
   rw[h] at h';cases h'
   rw[c] at a;cases a
   rw[e] at b;cases b
   exact ht.Zu d g ht'
end
inductive iB:List az->az->KS->Prop
 |nil:iB [] [] (dZ 32)
 |snoc {pre:List az}{out:az}{S:KS}{x:az}{r:wZ}{S':KS}(h:iB pre out S) (g:Good S) (hl:jh S x r S') (ha:(gp r).length<=50000):iB (pre++[x]) (out++(gp r++[10])) S'
theorem iB.Zu{L:List az}{e b:az}{f d:KS}(j:iB L e f)(a:iB L b d):e=b/\I4 f d:=by
 induction j generalizing b d with
 |nil=>
  generalize hL:([]:List az)=L at a;cases a with
  |nil=>exact⟨rfl,Ci 32⟩
  |snoc=>exact absurd hL.symm (by simp)
 | @snoc pre out S x r S' h g hl ha ih=>
  generalize hL:pre++[x]=L at a;cases a with
  |nil=>exact absurd hL (by simp)
  |snoc h' g' hl' _=>
   obtain⟨l,k⟩:=append_inj' hL rfl;subst l;cases k
   obtain⟨rfl,i⟩:=ih h';obtain⟨rfl,c⟩:=hl.Zu i g hl';exact⟨rfl,c⟩
theorem iB.pre{L:List az}{a:az}{S:KS}(h:iB L a S):∀ {A B:List az},L=A++B->∃o1 o2 b,iB A o1 b/\a=o1++o2:=by
 induction h with
 |nil=>
  intro A B e;obtain⟨rfl,rfl⟩:=List.append_eq_nil_iff.1 e.symm;exact⟨[],[],_,.nil,rfl⟩
 | @snoc pre a S x r S' h g hl ha ih=>
  intro A B e;rcases List.eq_nil_or_concat B with rfl|⟨f,z,rfl⟩
  ·rw[append_nil] at e;subst e;exact⟨_,[],_,.snoc h g hl ha,(append_nil _).symm⟩
  ·rw[List.concat_eq_append,<-List.append_assoc] at e;obtain⟨d,_⟩:=append_inj' e rfl;obtain⟨o1,o2,b,c,rfl⟩:=ih d;exact⟨o1,o2++(gp r++[10]),b,c,by rw[List.append_assoc]⟩
theorem iB.len{L:List az}{a:az}{S:KS}(h:iB L a S):a.length<=L.length*50001:=by
 induction h with
 |nil=>simp
 |snoc h g hl ha ih=>simp only[length_append,length_cons,length_nil];omega
theorem iB.pieces{A B:List az}{b a:az}{e d:KS}(h:iB A b e)(k:iB (A++B) a d):∃z,a=b++z:=by
 obtain⟨x,z,f,c,rfl⟩:=k.pre rfl;obtain⟨rfl,_⟩:=h.Zu c;exact⟨z,rfl⟩
structure CX (B:Nat) (w:World) (cb:Nat) (S:KS) (q:Nat) (m:Int) (H:KH) (A:Nat->Prop) (g1 g2:Nat):Prop where
 kn:KN w m H S q A
 ok:H.ok=true
 ck:Ck w cb H.kb g1 g2
 nc:¬A cb/\¬A g1/\¬A g2
 ne:cb≠g1/\cb≠g2
 big:9<=B/\B<=cb/\B<=g1/\B<=g2
 own:∀i,A i->B<=i
 gl:GL w
 sg:SG S
def CF(A:Nat->Prop)(cb g1 g2:Nat):Nat->Prop:=fun i=>A i\/i=cb\/i=g1\/i=g2
section
variable {B q q' cb g1 g2:Nat}{w w' W V V':World}{S S':KS}{m:Int}{H H':KH}{A A':Nat→Prop}{U:Nat→Nat→Int}{p:Int}{line:az}
theorem KX.wt{F:Nat->Prop}(h:KX w m H S U q A)(k:Wt F w w')(hF:∀i,F i->¬A i/\9<=i):KX w' m H S U q A:=by
 obtain⟨G,a,e⟩:=h;exact⟨G,a.same k.size (fun i b=>k.block i (a.Bd i b) (fun z=>(hF i z).1 ((e i).2 b))) (k.block _ a.qi (fun z=>absurd (hF _ z).2 (by decide))) (k.block _ a.qm (fun z=>absurd (hF _ z).2 (by decide))) (k.block _ a.jX (fun z=>absurd (hF _ z).2 (by decide))),e⟩
theorem CX.Vn(h:CX B w cb S q m H A g1 g2):cb<w.heap.size/\g1<w.heap.size/\g2<w.heap.size:=⟨(Array.getElem?_eq_some_iff.1 h.ck.blk).1,h.ck.t1.lt,h.ck.t2.lt⟩
theorem CX.foot(h:CX B w cb S q m H A g1 g2):∀i,CF A cb g1 g2 i->B<=i/\i<w.heap.size:=fun i a=>by
 have:=h.Vn;have:=h.big;rcases a with a|rfl|rfl|rfl
 ·exact⟨h.own i a,h.kn.1.lt i a⟩
 all_goals omega
theorem Ck.keep(h:Ck w cb H.kb g1 g2)(c:w'.heap[cb]? = w.heap[cb]?)(b:w'.heap[g1]? = w.heap[g1]?)(a:w'.heap[g2]? = w.heap[g2]?):Ck w' cb H.kb g1 g2:=⟨c.trans h.blk,h.t1.keep b,h.t2.keep a⟩
theorem CX.wt{F:Nat->Prop}(h:CX B w cb S q m H A g1 g2)(k:Wt F w w')(hF:∀i,F i->¬CF A cb g1 g2 i/\9<=i):CX B w' cb S q m H A g1 g2:=by
 obtain⟨d,c,b⟩:=h.Vn;exact⟨⟨h.kn.1.wt k fun i a=>⟨fun z=>(hF i a).1 (.inl z),(hF i a).2⟩,h.kn.2⟩,h.ok,h.ck.keep (k.block _ d fun z=>(hF _ z).1 (.inr (.inl rfl))) (k.block _ c fun z=>(hF _ z).1 (.inr (.inr (.inl rfl)))) (k.block _ b fun z=>(hF _ z).1 (.inr (.inr (.inr rfl)))),h.nc,h.ne,h.big,h.own,h.gl.wt k fun i a=>(hF i a).2,h.sg⟩
theorem CX.step(h:CX B W cb S q m H A g1 g2)(b:Below W.heap.size W V)(st:Stp V V' A A')(n:H'.kb=H.kb/\H'.ok=H.ok)(k:KN V' m H' S' q' A')(r:SG S'):CX B V' cb S' q' m H' A' g1 g2/\Stp W V' (CF A cb g1 g2) (CF A' cb g1 g2)/\nk W.heap.size V V':=by
 obtain⟨l,j,g⟩:=h.Vn;have t:=b.size;have d:=h.big;have c:Wt A W V':=(Wt.below A b).trans st.wt;have e:∀i,i<W.heap.size->¬A i->¬A' i:=fun i s f z=>by
  rcases st.own i z with z|z
  ·exact f z
  ·omega
 have o:GL V':=h.gl.wt c fun i a=>le_trans d.1 (h.own i a);have p:Ck V' cb H.kb g1 g2:=h.ck.keep (c.block _ l h.nc.1) (c.block _ j h.nc.2.1) (c.block _ g h.nc.2.2);rw[<-n.1] at p;refine⟨⟨k,n.2.trans h.ok,p,⟨e _ l h.nc.1,e _ j h.nc.2.1,e _ g h.nc.2.2⟩,h.ne,d,fun i a=>?_,o,r⟩,⟨⟨c.os,c.tape,c.output,c.size,fun i a e=>c.block i a fun z=>e (.inl z)⟩,fun i a=>?_⟩,fun i s f=>st.wt.block i f fun z=>?_,st.wt.size,o⟩
 ·rcases st.own i a with z|z
  ·exact h.own i z
  ·omega
 ·rcases a with a|a
  ·rcases st.own i a with z|z
   ·exact .inl (.inl z)
   ·exact .inr (by omega)
  ·exact .inl (.inr a)
 ·have:=h.kn.1.lt i z;omega
def Vy(B:Nat)(W:World)(cb:Nat)(S:KS)(q:Nat)(m:Int)(A:Nat->Prop)(g1 g2:Nat)(line:az)(r:wZ)(V:World):Prop:=
 ∃S' q' H' A',jh S line r S'/\CX B V cb S' q' m H' A' g1 g2/\Stp W V (CF A cb g1 g2) (CF A' cb g1 g2)/\¬A' W.heap.size/\7*q'<=7*q+line.length+1/\(gp r).length<=50000
theorem CX.still(h:CX B W cb S q m H A g1 g2)(b:Below W.heap.size W V){r:wZ}(c:jh S line r S)(a:(gp r).length<=50000):Vy B W cb S q m A g1 g2 line r V:=by
 obtain⟨e,d,_⟩:=h.step (V':=V) b (.refl V A) ⟨rfl,rfl⟩ (h.kn.below b) h.sg;exact⟨S,q,H,A,c,e,d,fun z=>by have:=h.kn.1.lt _ z;omega,by omega,a⟩
theorem CX.goes(h:CX B W cb S q m H A g1 g2)(b:Below W.heap.size W V)(l:W.heap.size<V.heap.size)(st:Stp V V' A A')(f:H'.kb=H.kb/\H'.ok=H.ok)(k:KN V' m H' S' q' A')(a:SG S'){r:wZ}(e:jh S line r S')(c:7*q'<=7*q+line.length+1)(d:(gp r).length<=50000):Vy B W cb S q m A g1 g2 line r V'/\nk W.heap.size V V':=by
 obtain⟨j,i,g⟩:=h.step b st f k a;exact⟨⟨S',q',H',A',e,j,i,fun z=>by
  rcases st.own _ z with z|z
  ·have:=h.kn.1.lt _ z;omega
  ·omega,c,d⟩,g⟩
theorem CX.Y2(h:CX B W cb S q m H A g1 g2)(b:Below W.heap.size W V)(a:Below V.heap.size V V'):nk W.heap.size V V':=
 ⟨fun i _ c=>a.block i c,a.size,h.gl.below (b.trans (a.mono b.size))⟩
theorem CX.gv(h:CX B W cb S q m H A g1 g2){A1:Nat->Prop}{E:KS}{u:Nat}{d e:World}(b:Below W.heap.size W V)(st:Stp V d A A1)(k:KN d m H E u A1)(o:Below d.heap.size d e){s r:Value}{ns:List Int}{ts:List az}{n0:Nat}(l:d.heap.size<=n0\/d=V/\A1=A/\W.heap.size<=n0)(g:n0<=e.heap.size)(y:e.ownsRow n0 3 1 s ns.length (ns.map (Value.int .i64)))(w:e.ownsRow n0 9 1 r ts.length (ts.map fun x=>tx x)):Gv e A1 cb H.kb s r ns ts:=by
 obtain⟨I,G,F⟩:=h.Vn;have c:=h.big;have J:=b.size;have f:=k.1.lt;have n:∀i,A1 i->9<=i:=fun i a=>by
  rcases st.own i a with z|z
  ·exact le_trans c.1 (h.own i z)
  ·omega
 have v:¬A1 cb:=fun z=>by
  rcases st.own _ z with z|z
  ·exact h.nc.1 z
  ·omega
 have t:∀i,A1 i->i<n0:=fun i a=>by
  rcases l with C|⟨_,rfl,C⟩
  ·have:=f i a;omega
  ·have:=h.kn.1.lt i a;omega
 have j:Wt A W d:=(Wt.below A b).trans st.wt;have D:e.cell? ⟨cb,0,none⟩=some (wp H.kb):=by
  rw[o.cell (p:=⟨cb,0,none⟩) (by have:=j.size;show cb<d.heap.size;omega)];refine j.cell (p:=⟨cb,0,none⟩) ?_ h.nc.1;rw[Lib.cell_of_heap h.ck.blk];rfl
 exact⟨fun i a=>Nat.lt_of_lt_of_le (f i a) o.size,n,(h.gl.wt j fun i a=>le_trans c.1 (h.own i a)).below o,v,D,.row y t g,.row w t g⟩
end
def cn:az->Nat
 | []=>0
 |c::l=>if c=78 then cn l+1 else cn l
def ct:az->Nat
 | []=>0
 |c::l=>if c=78 then ct l else if c=89 then ct l else ct l+1
theorem iK:∀(d:az) (xs:List az) (ns:List Int) (ts:List az) (on:Bool) {b:List Int}{a:List az}{c:Bool},fH d xs ns ts on=some (b,a,c)->(∀n∈ns,dF n)->(d.length=xs.length/\b.length=ns.length+cn d/\a.length=ts.length+ct d/\(∀n∈b,dF n)/\∀t∈a,t∈ts\/t∈xs)
 | [],[],ns,ts,on,b,a,c,h,hn=>by
  cases h
  exact⟨rfl,rfl,rfl,hn,fun t e=>.inl e⟩
 | [],_::_,ns,ts,on,b,a,c,h,hn=>by simp[fH] at h
 |_::_,[],ns,ts,on,b,a,c,h,hn=>by simp[fH] at h
 |f::d,x::xs,ns,ts,on,b,a,c,h,hn=>by
  unfold fH at h;unfold cn ct;split at h
  ·rename_i k
   split at h
   ·rename_i n s
    obtain⟨q,p,o,m,l⟩:=iK d xs _ _ _ h (fun z j=>by
     rcases List.mem_append.1 j with j|j
     ·exact hn z j
     ·rw[mem_singleton.1 j];exact Gx s)
    rw[if_pos k,if_pos k];refine⟨by simp[q],by rw[p,length_append];simp;omega,o,m,fun t e=>?_⟩;rcases l t e with z|z
    ·exact .inl z
    ·exact .inr (mem_cons_of_mem _ z)
   ·cases h
  ·rename_i k
   rw[if_neg k,if_neg k];split at h
   ·rename_i g
    rw[if_pos g];have r:∀ {i},fH d xs ns ts i=some (b,a,c)->((f::d).length=(x::xs).length/\b.length=ns.length+cn d/\a.length=ts.length+ct d/\(∀n∈b,dF n)/\∀t∈a,t∈ts\/t∈x::xs):=fun {i} h=>by
     obtain⟨q,p,o,m,l⟩:=iK d xs _ _ _ h hn;refine⟨by simp[q],p,o,m,fun t e=>?_⟩;rcases l t e with z|z
     ·exact .inl z
     ·exact .inr (mem_cons_of_mem _ z)
    split at h
    ·exact r h
    ·split at h
     ·exact r h
     ·cases h
   ·rename_i g
    rw[if_neg g];obtain⟨q,p,o,m,l⟩:=iK d xs _ _ _ h hn;refine⟨by simp[q],p,by rw[o,length_append];simp;omega,m,fun t e=>?_⟩;rcases l t e with z|z
    ·rcases List.mem_append.1 z with z|z
     ·exact .inl z
     ·rw[mem_singleton.1 z];exact .inr mem_cons_self
    ·exact .inr (mem_cons_of_mem _ z)
theorem wQ{x:az}{y:az×Nat}:∀ {L:Lj},bq x L=some y->(x,y)∈L
 | [],h=>by cases h
 |z::L,h=>by
  unfold bq at h;split at h
  ·rename_i e
   cases h
   rw[e];exact mem_cons_self
  ·exact mem_cons_of_mem _ (wQ h)
theorem K7:∀z∈df,4<=z.1.length+z.2.1.length:=by decide
theorem Qo{x:az}{y:az×Nat}(h:bq x df=some y):dX (cn y.1) (ct y.1) y.2:=by
 have:∃i j,dX i j y.2/\cn y.1=i/\ct y.1=j:=by
  refine wR (X:=fun y=>∃i j,dX i j y.2/\cn y.1=i/\ct y.1=j) ?_ h;unfold df;refine forall_mem_cons.2 ⟨⟨_,_,WO,by decide,by decide⟩,?_⟩;refine forall_mem_cons.2 ⟨⟨_,_,aan,by decide,by decide⟩,?_⟩;refine forall_mem_cons.2 ⟨⟨_,_,WQ,by decide,by decide⟩,?_⟩;refine forall_mem_cons.2 ⟨⟨_,_,TH,by decide,by decide⟩,?_⟩;refine forall_mem_cons.2 ⟨⟨_,_,WR,by decide,by decide⟩,?_⟩;refine forall_mem_cons.2 ⟨⟨_,_,aao,by decide,by decide⟩,?_⟩;refine forall_mem_cons.2 ⟨⟨_,_,TI,by decide,by decide⟩,?_⟩;refine forall_mem_cons.2 ⟨⟨_,_,aap,by decide,by decide⟩,?_⟩;refine forall_mem_cons.2 ⟨⟨_,_,OT,by decide,by decide⟩,?_⟩;refine forall_mem_cons.2 ⟨⟨_,_,aaq,by decide,by decide⟩,?_⟩;refine forall_mem_cons.2 ⟨⟨_,_,aar,by decide,by decide⟩,?_⟩;refine forall_mem_cons.2 ⟨⟨_,_,WS,by decide,by decide⟩,?_⟩;refine forall_mem_cons.2 ⟨⟨_,_,aas,by decide,by decide⟩,?_⟩;refine forall_mem_cons.2 ⟨⟨_,_,Ki,by decide,by decide⟩,?_⟩;refine forall_mem_cons.2 ⟨⟨_,_,o_load,by decide,by decide⟩,?_⟩;refine forall_mem_cons.2 ⟨⟨_,_,aat,by decide,by decide⟩,?_⟩;refine forall_mem_cons.2 ⟨⟨_,_,aau,by decide,by decide⟩,?_⟩;refine forall_mem_cons.2 ⟨⟨_,_,WT,by decide,by decide⟩,?_⟩;refine forall_mem_cons.2 ⟨⟨_,_,aav,by decide,by decide⟩,?_⟩;refine forall_mem_cons.2 ⟨⟨_,_,TJ,by decide,by decide⟩,?_⟩;refine forall_mem_cons.2 ⟨⟨_,_,aaw,by decide,by decide⟩,?_⟩;refine forall_mem_cons.2 ⟨⟨_,_,aax,by decide,by decide⟩,?_⟩;refine forall_mem_cons.2 ⟨⟨_,_,aay,by decide,by decide⟩,?_⟩;refine forall_mem_cons.2 ⟨⟨_,_,aaz,by decide,by decide⟩,?_⟩;refine forall_mem_cons.2 ⟨⟨_,_,ac4,by decide,by decide⟩,?_⟩;refine forall_mem_cons.2 ⟨⟨_,_,WU,by decide,by decide⟩,?_⟩;refine forall_mem_cons.2 ⟨⟨_,_,TK,by decide,by decide⟩,?_⟩;exact fun z a=>absurd a not_mem_nil
 obtain⟨i,j,b,d,c⟩:=this;rw[d,c];exact @b
theorem Gb:∀l:List (List UInt8),l.length<=(l.map fun w=>w.length+1).sum
 | []=>by simp
 |a::l=>by
  have:=Gb l;rw[map_cons,sum_cons,length_cons];omega
theorem Ui{line x z:az}{a:List az}{y:az×Nat}{p:Int}{ns:List Int}{ts:List az}{on:Bool}(d:bJ line=x::z::a)(b:gP x=some p)(f:bq z df=some y)(e:gJ y.1 a=some (ns,ts,on)):6<=line.length:=by
 have c:=BR line;rw[d] at c;have k:4<=z.length+y.1.length:=K7 _ (wQ f);obtain⟨j,_⟩:=iK _ _ _ _ _ e (fun n b=>by cases b);have i:=Gb a;have g:x≠[]:=by
  rintro rfl;have:gP []=none:=by decide
  rw[this] at b;cases b
 have h:=List.length_pos_iff.2 g;simp only[map_cons,sum_cons] at c;omega
section
variable {B q q' cb g1 g2:Nat}{w w' W V V':World}{S S':KS}{m:Int}{H H':KH}{A A':Nat→Prop}{p:Int}{line:az}
theorem zW(P:Ps)(n:Int):0<=aO P n/\aO P n<=8:=by
 unfold aO;split
 ·omega
 ·cases h:sigs.find? (Vj P n) with
  |none=>simp
  |some x=>
   have:=List.mem_of_find?_eq_some h;simp only[getD_some];unfold sigs at this;simp only[mem_cons,not_mem_nil,or_false] at this;omega
theorem SG.take(h:SG S)(n:Int):SG (S.procs (dP S.P n)):=h.Fx (S':=S.procs _) rfl rfl fun k z a=>by
 change dP S.P n k=some z at a;unfold dP at a;split at a
 ·exact .inr ⟨z,a,rfl⟩
 ·refine uQ ?_ a;intro q;rfl
theorem SG.sig(h:SG S)(p:Int):SG (nP S p):=by
 unfold nP;split
 ·refine h.Fx (S':=S.procs _) rfl rfl fun k z a=>?_;change iY S.P 1 k=some z at a;unfold iY kK at a;refine uQ ?_ a;intro q;rfl
 ·exact h
def acJ(V:World)(m:Int)(H:KH)(S:KS)(q:Nat)(A:Nat->Prop)(p:Int)(z:Bool)(e:Int)(V1:World):Prop:=
 (e=7/\z=false/\S.O p=none/\Below V.heap.size V V1)\/∃o,e=0/\S.O p=some o/\∃A1,Stp V V1 A A1/\((z=true/\p≠1/\aO S.P p≠0/\KN V1 m H (dB (S.procs (dP S.P p)) p o (100+aO S.P p)) q A1)\/(z=false/\(p=1\/aO S.P p=0)/\KN V1 m H (nP S p) q A1))
theorem Wh(h:KN V m H S q A)(g:H.ok=true)(l:q<=400)(j:dF p){i:World}(b:Below i.heap.size i V):Calls prog 76 #[wp H.kb,.int .i64 p] V (SO A (acJ i m H S q A p) V):=by
 cases ho:S.O p with
 |none=>
  refine(h.1.Og ho (uq j)).mono ?_;rintro y f ⟨rfl,rfl⟩;exact⟨false,7,rfl,.inl ⟨rfl,rfl,ho,b⟩,(Stp.refl _ A).wt⟩
 |some o=>
  by_cases e:p=1
  ·subst e;refine(h.JW g ho).mono ?_;rintro y f ⟨rfl,c,k,a⟩;exact⟨false,0,rfl,.inr ⟨o,rfl,ho,c,Stp.after b a,.inr ⟨rfl,.inl rfl,by unfold nP;rw[if_pos rfl];exact k⟩⟩,a.wt⟩
  ·by_cases d:aO S.P p=0
   ·refine(h.H6 g ho d).mono ?_;rintro y f ⟨rfl,c,k,a⟩;exact⟨false,0,rfl,.inr ⟨o,rfl,ho,c,Stp.after b a,.inr ⟨rfl,.inr d,by unfold nP;rw[if_neg e];exact k⟩⟩,a.wt⟩
   ·refine(h.H5 g ho (by omega) e d (zW _ _).2).mono ?_;rintro y f ⟨rfl,c,k,a⟩;exact⟨true,0,rfl,.inr ⟨o,rfl,ho,c,Stp.after b a,.inl ⟨rfl,e,d,k⟩⟩,a.wt⟩
theorem YG.wv{F:Nat->Prop}{v:Value}{c:List az}(h:YG F w v c)(d:∀n,n<c.length->∀blk a,w.cell? ⟨blk,a,none⟩≠none->blk<w.heap.size):WV w v c:=by
 obtain⟨blk,a,k,f,rfl,i,j,l,b⟩:=h;refine⟨k,f,rfl,i,?_⟩;by_cases e:c=[]
 ·exact .inl e
 ·refine .inr ⟨blk,a,j e,?_,b⟩;have g:=List.length_pos_iff.2 e;exact d 0 g blk (a+0) (by rw[b 0 g];simp)
theorem CX.serve(h:CX B W cb S q m H A g1 g2)(hq:q<=400)(hl:line.length<=3000){x:az}{a:List az}(l:bJ line=x::a)(E:gP x=some p)(b:Below W.heap.size W V)(hV:W.heap.size<V.heap.size){v:Value}(hv:YG (fun i=>i<W.heap.size) V v a):Calls prog 30 #[wp cb,.int .i64 p,v] V fun e j=>∃r,xV j r e/\Vy B W cb S q m A g1 g2 line r j/\nk W.heap.size V j:=by
 obtain⟨l1,l2,l3⟩:=h.Vn;have U:=h.big;have hb:=b.size;have hA:∀i,A i->i<W.heap.size:=h.kn.1.lt;have G:∀z∈a,z.length<=3000:=fun z hz=>le_trans (zl (s:=line) (by rw[l];exact mem_cons_of_mem _ hz)) hl;have hp:=Gx E;have Ve:=h.kn.below b;have mk:∀ {j:World},Below V.heap.size V j->∀ {c:Int},dF c->iZ S p a (.bad c) S->∃r,xV j r (thrown (eF c))/\Vy B W cb S q m A g1 g2 line r j/\nk W.heap.size V j:=fun {j} d {c} J hk=>
  ⟨.bad c,⟨rfl,J⟩,h.still (b.trans (d.mono hb)) (.call l E hk) (by have:=jQ J;simp only[gp];omega),h.Y2 b d⟩
 have P:∀O,Wt A V O->WV O v a:=fun O k=>by
  have hv':YG A V v a:=by
   obtain⟨M,F,ad,cap,e,J,ha,QE,hcs⟩:=hv;exact⟨M,F,ad,cap,e,J,ha,fun z=>QE (hA _ z),hcs⟩
  have hv2:YG A O v a:=FH.wt hv' k;exact YG.wv hv2 fun n _ M F hne=>by
   cases J:O.cell? ⟨M,F,none⟩ with
   |none=>exact absurd J hne
   |some u=>exact World.block_lt_of_cell? O _ J
 refine Td (A:=A) (kb:=H.kb) (g:=g2) (R:=acJ V m H S q A p) (Post:=fun e j=>∃r,xV j r e/\Vy B W cb S q m A g1 g2 line r j/\nk W.heap.size V j) ⟨?_,?_,?_,?_,?_,?_⟩ (fun i hi=>Nat.lt_of_lt_of_le (hA i hi) hb) (fun i hi=>le_trans U.1 (h.own i hi)) (h.gl.below b) h.nc.1 ?_ ?_ (h.ck.t2.keep (b.block _ l3)) (P V ⟨rfl,rfl,rfl,le_refl _,fun _ _ _=>rfl⟩) P (fun z hz=>le_trans (G z hz) (by omega))
 ·exact fun X d=>Wh (Ve.below d) h.ok hq hp d
 ·exact fun X d hno=>mk d (by unfold dF;omega) (.no hno)
 ·rintro z f y w C X zb e he K;rcases K with⟨rfl,_,D,d⟩|⟨o,L,_⟩
  ·exact mk d (by unfold dF;omega) (.nobody w C D)
  ·exact absurd L he
 ·rintro z f y w C X K;rcases K with⟨h7,_⟩|⟨o,_,D,A1,N,⟨_,hp1,hs,k⟩|⟨L,_⟩⟩
  ·omega
  ·have ht:=zW S.P p;obtain⟨T,Q⟩:=h.goes b hV N ⟨rfl,rfl⟩ k ((h.sg.take p).ends (by unfold dF;omega)) (.call l E (.ends w C D hp1 hs)) (by omega) (by simp[gp]);exact⟨.say _,rfl,T,Q⟩
  ·cases L
 ·rintro z f y w C Y V0 X K d;rcases K with⟨h7,_⟩|⟨o,_,D,A1,N,⟨L,_⟩|⟨_,I,k⟩⟩
  ·omega
  ·cases L
  ·obtain⟨T,Q⟩:=h.goes b hV (N.trans (.below d)) ⟨rfl,rfl⟩ (k.below d) (h.sg.sig p) (.call l E (.form w C D I Y)) (by omega) (by have:=jQ (c:=3) (by unfold dF;omega);simp only[gp];omega);exact⟨.bad 3,⟨rfl,by unfold dF;omega⟩,T,Q⟩
 ·rintro z f y ns ts on w C Y V0 X nv tv K d hnv htv;rcases K with⟨h7,_⟩|⟨o,_,D,A1,N,⟨L,_⟩|⟨_,I,k⟩⟩
  ·omega
  ·cases L
  ·obtain⟨e1,e2,e3,e4,e5⟩:=iK _ _ _ _ _ Y (fun n E=>by cases E);have ajt:=Ui (by rw[l,w]) E C Y;have gv:=h.gv b N k d (.inl (le_refl _)) d.size hnv htv;have hzl:z.length<=3000:=G z (by rw[w];exact mem_cons_self);refine(Qo C (k.below d) h.ok (by rw[YK];exact D) hq (h.sg.sig p) (by simpa using e2) (by simpa using e3) e4 (fun t ht=>?_) gv hzl).mono ?_
   ·rcases e5 t ht with Z|Z
    ·cases Z
    ·have:=G t (by rw[w];exact mem_cons_of_mem _ Z);omega
   ·rintro e j ⟨r,S',hE,hr,⟨H',A',hH,kn,st2⟩,ha⟩;obtain⟨T,Q⟩:=h.goes b hV (N.trans ((Stp.below d).trans st2)) hH kn ((Gj _).keep hr (h.sg.sig p) e4) (.call l E (.tell w C D I Y hr)) (by omega) ha;refine⟨⟨r,hE,T,Q⟩,?_⟩;rcases vg hE with⟨t,_,rfl⟩|⟨v9,rfl⟩
    ·exact .inl ⟨t,rfl⟩
    ·exact .inr ⟨v9,rfl⟩
 ·rw[b.cell (p:=⟨cb,0,none⟩) l1,Lib.cell_of_heap h.ck.blk];rfl
 ·rw[b.cell (p:=⟨cb,2,none⟩) l1,Lib.cell_of_heap h.ck.blk];rfl
end
section
variable {B q q' cb g1 g2:Nat}{w w' W V V':World}{S S':KS}{m:Int}{H H':KH}{A A':Nat→Prop}{p:Int}{line x:az}{nv tv:Value}{ns:List Int}{ts:List az}{on:Bool}
theorem CX.fresh(h:CX B W cb S q m H A g1 g2)(b:Below W.heap.size W V)(p:Below V.heap.size V w)(a:∀i,A' i->V.heap.size<=i)(M:W.heap.size<V.heap.size)(k:KN w m H' S' 0 A')(D:H'.ok=true)(u:SG S')(g:Below w.heap.size (w.setCell ⟨cb,0,none⟩ (wp H'.kb)) w'){r:wZ}(I:jh S line r S')(G:(gp r).length<=50000):Vy B W cb S q m A g1 g2 line r w'/\nk W.heap.size V w':=by
 obtain⟨y,x,v⟩:=h.Vn;have j:=h.big;have F:=b.size;have E:=p.size;have f:Below W.heap.size W w:=b.trans (p.mono F);have l:(w.setCell ⟨cb,0,none⟩ (wp H'.kb)).heap.size=w.heap.size:=by simp[World.setCell]
 have L:Below (w.setCell ⟨cb,0,none⟩ (wp H'.kb)).heap.size (w.setCell ⟨cb,0,none⟩ (wp H'.kb)) w':=by rw[l];exact g
 have d:Wt (fun i=>i=cb) w w':=by
  refine⟨g.os,g.tape,g.output,by have:=g.size;omega,fun i c o=>?_⟩;rw[g.block i c];exact Below.heap_setCell _ _ _ _ o
 have hF:∀i,i=cb->¬A' i/\9<=i:=fun i e=>⟨fun z=>by have:=a i z;omega,by omega⟩;have C:KN w' m H' S' 0 A':=⟨k.1.wt d hF,k.2⟩;have t:GL w':=(h.gl.below f).wt d fun i e=>(hF i e).2;have s:w.heap[cb]? = some (.cells #[wp H.kb,.map (some g1),.map (some g2)] 70):=(f.block cb y).trans h.ck.blk;have K:Ck w' cb H'.kb g1 g2:=by
  refine⟨?_,h.ck.t1.keep ?_,h.ck.t2.keep ?_⟩
  ·rw[g.block cb (by omega)];simp[World.setCell,Array.getElem?_modify,s]
  ·rw[d.block g1 (by omega) (fun e=>h.ne.1 e.symm)];exact f.block g1 x
  ·rw[d.block g2 (by omega) (fun e=>h.ne.2 e.symm)];exact f.block g2 v
 have n:=d.size;refine⟨⟨S',0,H',A',I,⟨C,D,K,⟨fun z=>by have:=a _ z;omega,fun z=>by have:=a _ z;omega,fun z=>by have:=a _ z;omega⟩,h.ne,j,fun i c=>by have:=a i c;omega,t,u⟩,⟨⟨d.os.trans f.os,d.tape.trans f.tape,d.output.trans f.output,le_trans f.size n,fun i c o=>?_⟩,fun i c=>?_⟩,fun z=>by have:=a _ z;omega,by omega,G⟩,fun i N J=>?_,by omega,t⟩
 ·rw[d.block i (by omega) (fun e=>o (.inr (.inl e)))];exact f.block i c
 ·rcases c with c|c
  ·exact .inr (by have:=a i c;omega)
  ·exact .inl (.inr c)
 ·rw[d.block i (by omega) (by omega)];exact p.block i J
theorem GR{n:Nat}(h:n<=256):SG (dZ n):=by
 refine⟨fun f k=>by show _<=(0:Int)/\(0:Int)<=_;omega,fun k z a=>?_,h⟩;change gU k=some z at a;unfold gU at a;split at a
 ·cases a;exact i0
 ·cases a
theorem Uv:Ro.length<=50000:=Nat.le_of_ble_eq_true rfl
theorem CX.thing(h:CX B W cb S q m H A g1 g2)(hl:line.length<=3000){D:List az}{y:az×Nat}(K:bJ line=x::D)(w:gP x=none)(hf:bq x dH=some y)(IV:gJ y.1 D=some (ns,ts,on))(b:Below W.heap.size W V)(hV:W.heap.size<V.heap.size)(hnv:V.ownsRow W.heap.size 3 1 nv ns.length (ns.map (Value.int .i64)))(htv:V.ownsRow W.heap.size 9 1 tv ts.length (ts.map fun x=>tx x)):Calls prog y.2 #[wp cb,gH 0 x nv tv on] V fun e j=>∃r,xV j r e/\Vy B W cb S q m A g1 g2 line r j/\nk W.heap.size V j:=by
 obtain⟨l1,l2,l3⟩:=h.Vn;have hb:=b.size;have hbig:=h.big;have T:x.length<=3000:=le_trans (zl (s:=line) (by rw[K];exact mem_cons_self)) hl;have I:Gv V A cb H.kb nv tv ns ts:=h.gv b (.refl V A) (h.kn.below b) (Below.refl _ _) (.inr ⟨rfl,rfl,le_refl _⟩) hb hnv htv;obtain⟨_,e2,_,e4,_⟩:=iK _ _ _ _ _ IV (fun n w=>by cases w);have E:∀g,Below V.heap.size V g->KX g m H S (kZ S) q A:=fun g f=>(h.kn.below (b.trans (f.mono hb))).1;have ME:∀ {r:wZ}{S':KS},jB y.2 S x ns r S'->jh S line r S':=fun F=>.thing K w hf IV F;have d:∀ {j:World}{r:wZ},Below V.heap.size V j->jB y.2 S x ns r S->(gp r).length<=50000->Vy B W cb S q m A g1 g2 line r j/\nk W.heap.size V j:=fun f F U=>⟨h.still (b.trans (f.mono hb)) (ME F) U,h.Y2 b f⟩;have Ee:∀L:List Int,(∀n∈L,dF n)->L.length<=100->(gp (.say (x++aQ L))).length<=50000:=fun L hL hl=>by
  have:=iF hL;simp only[gp,length_append];omega
 have hm:=wQ hf;unfold dH at hm;simp only[mem_cons,not_mem_nil,or_false,Prod.mk.injEq] at hm;rcases hm with⟨_,rfl⟩|⟨_,rfl⟩|⟨_,rfl⟩|⟨_,rfl⟩|⟨_,rfl⟩
 ·have v:∀n∈aH S.P,dF n/\dF (nN S.P n):=fun n w=>⟨Ei w,by
   have Vd:=h.kn.1.Vd;unfold nN;cases hp:S.P n with
   |none=>exact i0
   |some z=>
    have:=Vd.st n z hp;simp only[map_some,getD_some];unfold dF;omega⟩
  refine(aba I (by omega) (L:=aH S.P) (st:=nN S.P) (fun g f=>((E g f).si).mono ?_) (fun g n w f=>(E g f).state n (uq (Ei w))) (by have:=lH S.P;omega) v).mono ?_
  ·rintro y j ⟨pb,pc,rfl,hc,_,hlt,hh,p⟩;exact⟨pb,pc,rfl,hc,hlt,fun i v=>by
    have O:=(hh i (by simpa using v)).1;rw[Nat.zero_add] at O;rw[O];simp[v,encZ],p⟩
  ·rintro e j ⟨rfl,p⟩;obtain⟨u,t⟩:=d p (.si rfl) (Ee _ (fun z Q=>by
    unfold mY at Q;obtain⟨n,w,O⟩:=List.mem_flatMap.1 Q;have:=v n w;simp only[mem_cons,not_mem_nil,or_false] at O;rcases O with rfl|rfl
    ·exact this.1
    ·exact this.2) (by rw[wG];have:=lH S.P;omega))
   exact⟨.say _,rfl,u,t⟩
 ·obtain⟨a,rfl⟩:=sw (l:=ns) (by rw[e2];rfl);have M:V.frozen? ⟨cb,0,none⟩=false:=by
   have:=(b.block cb l1).trans h.ck.blk;exact Lib.frozen_of_heap this 0
  by_cases U:1<=a/\a<=256
  ·obtain⟨k,rfl⟩:∃k:Nat,a=(k:Int):=⟨a.toNat,by omega⟩;refine(MS I M (by omega) (by omega) (Rn:=fun kb g=>∃J P,J.kb=kb/\KN g m J (dZ k) 0 P/\(∀i,P i->V.heap.size<=i)/\J.ok=true) (N:=fun _=>False) (Y:=True) (.inr ⟨trivial,fun g f=>?_⟩)).mono ?_
   ·have Z:=E g f;refine(vH g k (by omega) (by omega) Z.ml Z.er Z.tab).mono ?_;rintro y j ⟨J,P,rfl,X,G,p,hk⟩;exact⟨_,rfl,⟨J,P,rfl,X,fun i v=>le_trans f.size (G i v),hk.trans h.ok⟩,p⟩
   ·rintro e j (⟨_,hc,_⟩|⟨_,kb,g,rfl,f,⟨J,P,rfl,X,G,hk⟩,p⟩)
    ·exact hc.elim
    ·obtain⟨u,t⟩:=h.fresh b f G hV X hk (GR (by omega)) p (ME (.new rfl rfl (by omega))) (r:=.say x) (by simp only[gp];omega);exact⟨.say x,rfl,u,t⟩
  ·refine(MS I M (by omega) (by omega) (Rn:=fun _ _=>True) (N:=fun c=>c=2) (Y:=False) (.inl ⟨2,rfl,by omega,fun g _=>Fa g a U⟩)).mono ?_;rintro e j (⟨_,rfl,rfl,p⟩|⟨T,_⟩)
   ·obtain⟨u,t⟩:=d p (.BI rfl rfl U) (by have:=jQ (c:=2) (by unfold dF;omega);simp only[gp];omega);exact⟨.bad 2,⟨rfl,by unfold dF;omega⟩,u,t⟩
   ·exact T.elim
 ·refine abf.mono ?_;rintro e j ⟨rfl,p⟩;obtain⟨u,t⟩:=d p (.QW rfl) (by simp only[gp];exact Uv);exact⟨.say _,rfl,u,t⟩
 ·obtain⟨a,rfl⟩:=sw (l:=ns) (by rw[e2];rfl);cases ho:S.O a with
  |none=>
   refine(Ze (R:=fun L c j=>(L=[0,0,0]/\c=7)/\Below V.heap.size V j) I (by omega) (fun g f=>((E g f).aaV ho (uq (e4 a (by simp)))).mono ?_) (fun _ _ _ _ C b2=>⟨C.1,C.2.trans (b2.mono C.2.size)⟩)).mono ?_
   ·rintro y j ⟨rfl,rfl⟩;exact⟨[0,0,0],7,rfl,rfl,fun z=>by omega,⟨⟨rfl,rfl⟩,f⟩,(Stp.refl _ A).wt⟩
   ·rintro e j ⟨L,c,F,⟨rfl,rfl⟩,p⟩;obtain⟨u,t⟩:=d p (.BK rfl rfl ho) (by have:=jQ (c:=7) (by unfold dF;omega);simp only[gp];omega);rcases F with⟨h0,_⟩|⟨_,rfl⟩
    ·omega
    ·exact⟨.bad 7,⟨rfl,by unfold dF;omega⟩,u,t⟩
  |some o=>
   have v:∀n∈[((bX (aC S o.j):Nat):Int),((gL (aC S o.j):Nat):Int),((ak (au S o.j):Nat):Int)],dF n:=fun n w=>by
    have C:=ry (aC S o.j);have h2:=Wv (aC S o.j);have h3:=wo (h.kn.1.oW o.j);simp only[mem_cons,not_mem_nil,or_false] at w;unfold dF;omega
   refine(Ze (R:=fun L c j=>(L=[((bX (aC S o.j):Nat):Int),((gL (aC S o.j):Nat):Int),((ak (au S o.j):Nat):Int)]/\c=0)/\Below V.heap.size V j) I (by omega) (fun g f=>((E g f).nz ho).mono ?_) (fun _ _ _ _ C b2=>⟨C.1,C.2.trans (b2.mono C.2.size)⟩)).mono ?_
   ·rintro y j ⟨rfl,p⟩;exact⟨_,0,rfl,rfl,fun _=>v,⟨⟨rfl,rfl⟩,f.trans (p.mono f.size)⟩,.below A p⟩
   ·rintro e j ⟨L,c,F,⟨rfl,rfl⟩,p⟩;obtain⟨u,t⟩:=d p (.has rfl rfl ho) (Ee _ v (by simp));rcases F with⟨_,rfl⟩|⟨h0,_⟩
    ·exact⟨.say _,rfl,u,t⟩
    ·exact absurd rfl h0
 ·obtain⟨n,hN⟩:=h.kn.1.yF;obtain⟨k,hT⟩:=h.kn.1.gP;have v:∀z∈[((S.n-used (bI S.Ms) S.n:Nat):Int),(n:Int),(k:Int)],dF z:=fun z Q=>by
   have C:=hN.few h.kn.1.inv.core.jW.n0 h.kn.1.inv.core.jW.e;have h2:=h.kn.1.inv.core.jW.n1;have h3:k<=64:=by
    obtain⟨ks,C,rfl,h3⟩:=hT;have:=lD (b:=(range 64).map (fun i:Nat=>(i:Int))) C (fun x T=>by
     have h4:=h.kn.1.inv.core.lv.toTrOk.key x ((h3 x).1 T);exact mem_map.2 ⟨x.toNat,mem_range.2 (by omega),by omega⟩)
    simpa using this
   have h4:=h.sg.n;simp only[mem_cons,not_mem_nil,or_false] at Q;unfold dF;omega
  refine(abg I (by omega) (fun g f=>(E g f).left) (fun g f=>(E g f).rf hN) (fun g f=>(E g f).oC hT) v).mono ?_;rintro e j ⟨rfl,p⟩;obtain⟨u,t⟩:=d p (.free rfl hN hT) (Ee _ v (by simp));exact⟨.say _,rfl,u,t⟩
end
section
variable {B q cb g1 g2:Nat}{w W:World}{S:KS}{m:Int}{H:KH}{A:Nat→Prop}{line:az}
theorem CX.answer(h:CX B W cb S q m H A g1 g2)(C:q<=400)(n:line.length<=3000):Nb W cb line (Vy B W cb S q m A g1 g2 line) where
 cl:=fun r V T ⟨J,u,L,M,G,E,e,d,I,F⟩ k=>by
  have n:=h.Vn;have t:=h.big;refine⟨J,u,L,M,G,E.wt k (fun i g=>?_),⟨⟨k.os.trans e.wt.os,k.tape.trans e.wt.tape,k.output.trans e.wt.output,le_trans e.wt.size k.size,fun i g K=>?_⟩,e.own⟩,d,I,F⟩
  ·subst g;refine⟨fun z=>?_,by omega⟩;rcases z with z|z|z|z
   ·exact d z
   all_goals omega
  ·rw[k.block i (Nat.lt_of_lt_of_le g e.wt.size) (by omega)];exact e.wt.block i g K
 gl:=h.gl
 big:=by have:=h.Vn;have:=h.big;omega
 tab:=⟨g1,by rw[Lib.cell_of_heap h.ck.blk];rfl,h.ck.t1⟩
 empty:=fun f V b=>h.still b (.empty f) (by simp[gp])
 serve:=fun x a p f d V v b s w=>h.serve C n f d b s w
 bad:=fun⟨x,a,f,d,o⟩ V b=>h.still b (.bad f d o) (by have:=jQ (c:=3) (by unfold dF;omega);simp only[gp];omega)
 tell:=fun x a y R O P f d o D V Q N b s l j=>h.thing n f d o D b s l j
end
theorem CJ:∀l:List UInt8,((bL l).map fun x=>x.length+1).sum=l.length+1
 | []=>rfl
 |c::l=>by
  have a:=CJ l;unfold bL;split
  ·simp only[map_cons,sum_cons,length_cons,length_nil,a];omega
  ·cases h:bL l with
   |nil=>rw[h] at a;simp at a
   |cons x t=>
    rw[h] at a;simp only[map_cons,sum_cons,length_cons] at a ⊢;omega
def CKW(w0:World)(cb:Nat)(pre:List az)(out:az)(F:Nat->Prop)(W:World):Prop:=
 ∃S q m H A g1 g2,iB pre out S/\CX w0.heap.size W cb S q m H A g1 g2/\(∀i,F i↔CF A cb g1 g2 i)/\7*q<=(pre.map fun x:List UInt8=>x.length+1).sum
theorem UX(w0:World)(l:az)(L:l.length<=2600):LD w0 l (CKW w0) where
 keep:=fun p d f F W I B ⟨S,q,m,H,A,h,g,j,c,hF,o⟩ k u=>⟨S,q,m,H,A,h,g,j,c.wt k (fun i a=>⟨fun z=>(u i a).1 ((hF i).2 z),(u i a).2⟩),hF,o⟩
 foot:=fun p d f F W ⟨S,q,m,H,A,h,g,j,c,hF,o⟩ i a=>c.foot i ((hF i).1 a)
 ans:=fun p d x t f F W ⟨S,q,m,H,A,h,g,j,c,hF,o⟩ C=>by
  have s:=CJ l;rw[C] at s;simp only[map_append,List.sum_append,map_cons,sum_cons] at s;refine(Qr (c.answer (line:=x) (by omega) (by omega)) (by omega)).mono ?_;rintro e I ⟨r,rfl,J,w,K,v,E,n,b,_,G,D⟩;refine⟨gp r,CF v p h g,rfl,by omega,⟨J,w,m,K,v,h,g,.snoc j c.kn.good E D,n,fun i=>Iff.rfl,?_⟩,?_⟩
  ·simp only[map_append,List.sum_append,map_cons,sum_cons,map_nil,sum_nil];omega
  ·exact⟨⟨b.wt.os,b.wt.tape,b.wt.output,b.wt.size,fun i a y=>b.wt.block i a fun z=>y ((hF i).2 z)⟩,fun i a=>by
    rcases b.own i a with z|z
    ·exact .inl ((hF i).2 z)
    ·exact .inr z⟩
theorem Qk(w:World){m:Int}(t:9<=w.heap.size)(j:GL w)(s:w.cell? ⟨4,0,none⟩=some (.int .i64 m))(g:ni w):Si w (CKW w):=by
 have h:=vH (ok:=true) w 32 (by omega) (by omega) s j.er ⟨g.lt,fun _=>g⟩;rw[show ((32:Nat):Int)=32 from rfl] at h;refine h.mono ?_;rintro e r ⟨H,A,rfl,f,u,p,c⟩;refine⟨H.kb,rfl,(Ip r H.kb).mono ?_⟩;rintro e q ⟨n,l,k,rfl,y,⟨D,C,B,x,v⟩,o⟩;have d:=p.size;have b:=f.1.lt;have a:Below w.heap.size w q:=p.trans (o.mono d);exact⟨n,CF A n l k,rfl,⟨dZ 32,0,m,H,A,l,k,.nil,⟨f.below o,c,y,⟨fun z=>by have:=b _ z;omega,fun z=>by have:=b _ z;omega,fun z=>by have:=b _ z;omega⟩,⟨x,v⟩,⟨t,by omega,by omega,by omega⟩,u,j.below a,GR (by omega)⟩,fun i=>Iff.rfl,by simp⟩,a⟩
theorem H9(w:World){m:Int}(g:9<=w.heap.size)(k:GL w)(j:w.cell? ⟨4,0,none⟩=some (.int .i64 m))(h:ni w)(a:az)(f:a.length<=2600):Calls prog 4 #[tx a] w fun e d=>∃c S,e=.returned (tx c)/\iB (oh a) c S/\Below w.heap.size w d:=by
 refine(J2 f g (UX w _ (le_trans (wz a) f)) (Qk w g k j h)).mono ?_;rintro e d ⟨o,c,F,V,rfl,⟨S,q,m,H,A,n,l,i,_⟩,b⟩;exact⟨c,S,rfl,i,b⟩
section
variable {S S':KS}{p:Int}{o:Ow}{line x z:az}{rest:List az}{y:az×Nat}{ns:List Int}{ts:List az}{on:Bool}{r:wZ}{pre:List az}{out:az}
theorem iB.last(h:iB (pre++[x]) out S'):∃o1 S r,iB pre o1 S/\jh S x r S'/\out=o1++(gp r++[10]):=by
 generalize hL:pre++[x]=L at h;cases h with
 |nil=>exact absurd hL (by simp)
 |snoc h g hl _=>
  obtain⟨b,a⟩:=append_inj' hL rfl;subst b;cases a
  exact⟨_,_,_,h,hl,rfl⟩
theorem iB.none(h:iB [] out S):out=[]/\S=dZ 32:=by
 generalize hL:([]:List az)=L at h;cases h with
 |nil=>exact⟨rfl,rfl⟩
 |snoc=>exact absurd hL.symm (by simp)
theorem jh.calls(h:jh S line r S')(a:bJ line=x::rest)(b:gP x=some p):iZ S p rest r S':=by
 cases h with
 |empty h'=>rw[a] at h';cases h'
 |call h' hn' hs=>rw[a] at h';cases h';rw[b] at hn';cases hn';exact hs
 |bad h' hn'=>rw[a] at h';cases h';rw[b] at hn';cases hn'
 |thing h' hn'=>rw[a] at h';cases h';rw[b] at hn';cases hn'
theorem jh.things(h:jh S line r S')(c:bJ line=x::rest)(f:gP x=none)(d:bq x dH=some y)(e:gJ y.1 rest=some (ns,ts,on)):jB y.2 S x ns r S':=by
 cases h with
 |empty h'=>rw[c] at h';cases h'
 |call h' hn' hs=>rw[c] at h';cases h';rw[f] at hn';cases hn'
 |bad h' hn' a=>
  rw[c] at h';cases h'
  rcases a with a | ⟨g,a,b⟩
  ·rw[d] at a;cases a
  ·rw[d] at a;cases a;rw[e] at b;cases b
 |thing h' hn' a b ht=>
  rw[c] at h';cases h'
  rw[d] at a;cases a
  rw[e] at b;cases b
  exact ht
theorem jh.afQ(h:jh S line r S')(a:bJ line=x::rest)(b:gP x=none)(c:bq x dH=none):r=.bad 3/\S'=S:=by
 cases h with
 |empty h'=>rw[a] at h';cases h'
 |call h' hn' hs=>rw[a] at h';cases h';rw[b] at hn';cases hn'
 |bad=>exact⟨rfl,rfl⟩
 |thing h' hn' hf'=>rw[a] at h';cases h';rw[c] at hf';cases hf'
theorem iZ.tells{d:List az}(h:iZ S p d r S')(b:d=z::rest)(c:bq z df=some y)(f:S.O p=some o)(a:p=1\/aO S.P p=0)(e:gJ y.1 rest=some (ns,ts,on)):yD y.2 (nP S p) p o z ns ts on r S':=by
 cases h with
 |no h'=>exact(nU h' b c).elim
 |nobody _ _ ho'=>rw[f] at ho';cases ho'
 |ends _ _ _ h1 hs=>rcases a with a|a;exact absurd a h1;exact absurd a hs
 |form hw' hf' _ _ hp'=>
  obtain⟨rfl,rfl,rfl⟩:=uL b c hw' hf';rw[e] at hp';cases hp'
 |tell hw' hf' ho' _ hp' hr=>
  obtain⟨rfl,rfl,rfl⟩:=uL b c hw' hf';rw[e] at hp';cases hp'
  rw[f] at ho';cases ho'
  exact hr
theorem iZ.adq{b:List az}(h:iZ S p b r S')(f:b=z::rest)(g:bq z df=some y)(d:S.O p=some o)(e:p≠1)(c:aO S.P p≠0):r=.say [101,110,100,101,100]/\S'=dB (S.procs (dP S.P p)) p o (100+aO S.P p):=by
 cases h with
 |no h'=>exact(nU h' f g).elim
 |nobody _ _ ho'=>rw[d] at ho';cases ho'
 |ends _ _ ho'=>rw[d] at ho';cases ho';exact⟨rfl,rfl⟩
 |form _ _ _ a=>rcases a with a|a;exact absurd a e;exact absurd a c
 |tell _ _ _ a=>rcases a with a|a;exact absurd a e;exact absurd a c
end
abbrev o1:Ow:=⟨0,firstM,0⟩
abbrev o2:Ow:=⟨1,firstM,0⟩
def QC:Ps:=iY gU 1
def Lf:Ps:=fP QC 1 2
def pj3:Ps:=kC (iY Lf 1) 2 8
def pj4:Ps:=dG (dP pj3 2) 2 108
theorem uW:aL QC=2:=by decide
theorem aae:(aH QC).length<24:=by decide
theorem zz:aO Lf 2=0:=by decide
theorem Mg:eH (iY Lf 1) 2 8=0:=by decide
theorem Gq:aO pj3 2=8:=by decide
theorem WE:aH pj4=[1,2]:=by decide
theorem YS:nN pj4 1=1/\nN pj4 2=2:=by decide
noncomputable def Nf:KS:=gK ((dZ 32).procs QC) 1 o1
theorem ZC:Nf.P=Lf:=by
 show fP QC 1 (aL QC)=Lf;rw[uW];rfl
theorem acV:Nf.O 1=some o1:=by
 show kL (dZ 32).O (aL QC) ⟨1,firstM,0⟩ 1=_;rw[uW];rfl
theorem YM:Nf.O 2=some o2:=by
 show kL (dZ 32).O (aL QC) ⟨1,firstM,0⟩ 2=_;rw[uW];rfl
theorem RI:kv Nf o2 0 2 3=0:=by
 have e:aC Nf 1=lG:=rfl;have a:iV lG 0 2 3=0:=by decide +kernel
 unfold kv;rw[e,if_neg (not_not_intro a),if_pos];rw[show bX lG=0 from rG];decide
noncomputable def xX:KS:=ku Nf o2 0 2 3
theorem qz:xX=Nf.space 1 P1 Nf.W:=by
 unfold xX ku;rw[if_pos RI];have e:aC Nf 1=lG:=rfl;have a:iV lG 0 2 3=0:=by decide +kernel
 have b:jJ lG 0 2 3=P1:=by unfold jJ;rw[if_pos a];rfl
 rw[e,b]
theorem Jo:xX.Ms=[lG,P1]:=by rw[qz];rfl
theorem Jm:xX.O 2=some o2:=by rw[qz];exact YM
theorem YO:xX.n=32:=by rw[qz];rfl
theorem ab8{x:Int}(a:0<=x)(P:PM):bI [lG,P] x=sh P x:=by
 unfold bI;simp only[map_cons,map_nil,sum_cons,sum_nil];rw[show sh lG x=0 from qD a];omega
theorem Tg{b:List Int}{c:Int}{S':KS}(h:dN 2 0 1 7 xX b c S'):b=[]/\c=0/\∃f:Nat,f<32/\∃o:Nat->Nat->Int,o f 1=7/\S'=xX.space 1 (dC P1 0 (3,(f:Int))) o:=by
 have g:=Jm;have s:aC xX 1=P1:=by unfold aC;rw[Jo];rfl
 have q:∀x,0<=x->bI xX.Ms x=0:=fun x d=>by rw[Jo,ab8 d,Ru d]
 have r:=YO;have p:∀x,0<=x->sh P1 x+iX xX 1 x=0:=fun x d=>by
  unfold iX;rw[q x d,Ru d,Nat.zero_sub]
 have e:∀ {c l m},uo xX.n (aC xX 1) (iX xX 1) xX.W 0 1 7 c l m->∃f:Nat,f<32/\c=0/\l=dC P1 0 (3,(f:Int))/\m f 1=7:=fun {c l m} a=>by
  rw[s,r] at a;rcases a with⟨h,_⟩|⟨_,h,_⟩|⟨_,_,h,_⟩|⟨_,_,f,j,t,k,v,u⟩
  ·exact absurd (Rz acL).1 h
  ·exact absurd (JI 0) h
  ·exfalso;rw[JP (t':=fun _=>0) p,BU] at h;omega
  ·exact⟨f,j,k,by rw[v,adA],by rw[u];simp[upd]⟩
 cases h with
 |done ho a h12=>
  rw[g] at ho;cases ho
  obtain⟨f,i,rfl,rfl,k⟩:=e a;exact⟨rfl,rfl,f,i,_,k,rfl⟩
 |nobody ho a hv=>
  rw[g] at ho;cases ho
  obtain⟨f,i,n,_⟩:=e a;omega
 |self ho a hv he=>
  rw[g] at ho;cases ho
  obtain⟨f,i,n,_⟩:=e a;omega
 |goes ho a=>
  rw[g] at ho;cases ho
  obtain⟨f,i,n,_⟩:=e a;omega
def FM:az:=[49,32,102,111,114,107,10,50,32,109,97,112,32,48,32,50,32,51,10,50,32,115,116,111,114,101,32,48,32,49,32,55,10,50,32,108,111,97,100,32,48,32,49,10,102,114,101,101,10,49,32,107,105,108,108,32,50,32,56,10,50,32,102,111,114,107,10,112,105,100,115,10,120,10]
def Lv:az:=[102,111,114,107,32,50,10,109,97,112,10,115,116,111,114,101,10,108,111,97,100,32,55,10,102,114,101,101,32,51,49,32,48,32,49,10,107,105,108,108,10,101,110,100,101,100,10,112,105,100,115,32,49,32,49,32,50,32,50,10,101,114,114,111,114,32,51,10]
abbrev l1:az:=[49,32,102,111,114,107]
abbrev l2:az:=[50,32,109,97,112,32,48,32,50,32,51]
abbrev l3:az:=[50,32,115,116,111,114,101,32,48,32,49,32,55]
abbrev l4:az:=[50,32,108,111,97,100,32,48,32,49]
abbrev l5:az:=[102,114,101,101]
abbrev l6:az:=[49,32,107,105,108,108,32,50,32,56]
abbrev l7:az:=[50,32,102,111,114,107]
abbrev l8:az:=[112,105,100,115]
abbrev l9:az:=[120]
theorem Kj:oh FM=[l1,l2,l3,l4,l5,l6,l7,l8]++[l9]:=by kernel_rfl
theorem w1:bJ l1=[[49],[102,111,114,107]]:=by kernel_rfl
theorem w2:bJ l2=[[50],[109,97,112],[48],[50],[51]]:=by kernel_rfl
theorem w3:bJ l3=[[50],[115,116,111,114,101],[48],[49],[55]]:=by kernel_rfl
theorem w4:bJ l4=[[50],[108,111,97,100],[48],[49]]:=by kernel_rfl
theorem w5:bJ l5=[[102,114,101,101]]:=by kernel_rfl
theorem w6:bJ l6=[[49],[107,105,108,108],[50],[56]]:=by kernel_rfl
theorem w7:bJ l7=[[50],[102,111,114,107]]:=by kernel_rfl
theorem w8:bJ l8=[[112,105,100,115]]:=by kernel_rfl
theorem w9:bJ l9=[[120]]:=by kernel_rfl
theorem Sa:bq [102,111,114,107] df=some ([],51):=by kernel_rfl
theorem adn:bq [109,97,112] df=some ([78,78,78],58):=by kernel_rfl
theorem XQ:bq [115,116,111,114,101] df=some ([78,78,78],67):=by kernel_rfl
theorem aa0:bq [108,111,97,100] df=some ([78,78],57):=by kernel_rfl
theorem aa2:bq [102,114,101,101] dH=some ([],40):=by kernel_rfl
theorem aa1:bq [107,105,108,108] df=some ([78,78],53):=by kernel_rfl
theorem aaZ:bq [112,105,100,115] dH=some ([],44):=by kernel_rfl
theorem n_1:gP [49]=some 1:=by kernel_rfl
theorem n_2:gP [50]=some 2:=by kernel_rfl
theorem Wq:yD 51=rT rV:=rfl
theorem aaa:yD 58=rT Nk:=rfl
theorem Tj:yD 67=Jk:=rfl
theorem Wo:yD 57=rT FO:=rfl
theorem Wp:yD 53=rT FP:=rfl
theorem Uq{α:Type}{F:Int->Option α}{n:Nat}(h:p9 F n)(hF:∀x,F x=none):n=0:=by
 obtain⟨a,_,rfl,h⟩:=h;cases a with
 |nil=>rfl
 |cons x l=>have:=(h x).1 mem_cons_self;rw[hF] at this;cases this
theorem TG{n:Nat}(h:dD jc n):n=1:=dD.one h ⟨[0],by simp,rfl,fun x=>by
 unfold jc;by_cases e:x=0
 ·simp[e]
 ·simp[e]⟩
noncomputable def vN(f:Nat)(D:Nat->Nat->Int):KS:=xX.space 1 (dC P1 0 (3,(f:Int))) D
section
variable {f:Nat}{D:Nat→Nat→Int}
theorem RL:(vN f D).Ms=[lG,dC P1 0 (3,(f:Int))]:=by
 show xX.Ms.set 1 _=_;rw[Jo];rfl
theorem YN:(vN f D).P=Lf:=by
 show xX.P=Lf;rw[qz];exact ZC
theorem Z9:(vN f D).O 1=some o1:=by
 show xX.O 1=some o1;rw[qz];exact acV
theorem RJ:(vN f D).O 2=some o2:=Jm
theorem Gi(c:D f 1=7):je (aC (vN f D) o2.j) (vN f D).W 0 1=7/\dL (aC (vN f D) o2.j) 0 1 1=0:=by
 have b:aC (vN f D) 1=dC P1 0 (3,(f:Int)):=by unfold aC;rw[RL];rfl
 have a:=(Rz (acK (f:Int))).2;constructor
 ·show je (aC (vN f D) 1) D 0 1=7;rw[b];unfold je;rw[if_pos a];unfold wd;rw[mh (acK (f:Int)),if_neg (by simp only;omega)];simpa using c
 ·show dL (aC (vN f D) 1) 0 1 1=0;rw[b];exact a
theorem Ti(g:f<32):(vN f D).n-used (bI (vN f D).Ms) (vN f D).n=31:=by
 have e:(vN f D).n=32:=YO;rw[e];have i:used (fun _=>0) 32=0:=BU 32;have a:(0:Int)<=(f:Int):=by omega
 have d:∀x,0<=x->bI (vN f D).Ms x=if (f:Int)=x then 1 else 0:=fun x b=>by rw[RL,ab8 b,adz a b]
 rw[NH (t:=fun _=>0) g rfl (by rw[d _ a,if_pos rfl];decide) (fun x b c=>by rw[d x b,if_neg (fun h=>c h.symm)]),i]
end
theorem answers:[]++(gp (.say ([102,111,114,107]++aQ [2]))++[10])++(gp (gG 0 [109,97,112])++[10])++(gp (Fy [115,116,111,114,101] [] 0)++[10])++(gp (gG 0 ([108,111,97,100]++aQ [7]))++[10])++(gp (.say ([102,114,101,101]++aQ [31,0,1]))++[10])++(gp (gG 0 [107,105,108,108])++[10])++(gp (.say [101,110,100,101,100])++[10])++(gp (.say ([112,105,100,115]++aQ [1,1,2,2]))++[10])++(gp (.bad 3)++[10])=Lv:=by kernel_rfl
theorem TQ{e:az}{S:KS}(h:iB (oh FM) e S):e=Lv:=by
 rw[Kj] at h;obtain⟨q8,S8,r9,U,J,rfl⟩:=h.last;obtain⟨q7,S7,E,V,K,rfl⟩:=iB.last (pre:=[l1,l2,l3,l4,l5,l6,l7]) U;obtain⟨q6,C,r7,W,L,rfl⟩:=iB.last (pre:=[l1,l2,l3,l4,l5,l6]) V;obtain⟨q5,S5,F,X,M,rfl⟩:=iB.last (pre:=[l1,l2,l3,l4,l5]) W;obtain⟨q4,S4,G,Y,N,rfl⟩:=iB.last (pre:=[l1,l2,l3,l4]) X;obtain⟨q3,S3,H,Z,O,rfl⟩:=iB.last (pre:=[l1,l2,l3]) Y;obtain⟨q2,S2,r3,h2,P,rfl⟩:=iB.last (pre:=[l1,l2]) Z;obtain⟨q1,S1,I,h1,Q,rfl⟩:=iB.last (pre:=[l1]) h2;obtain⟨q0,S0,r1,h0,R,rfl⟩:=iB.last (pre:=[]) h1;obtain⟨rfl,rfl⟩:=h0.none;have z:=(R.calls w1 n_1).tells rfl Sa (o:=o1) rfl (.inl rfl) rfl;rw[Wq] at z;obtain⟨d,c⟩:=z;have n:nP (dZ 32) 1=(dZ 32).procs QC:=if_pos rfl;rw[n] at d c;unfold rV at d c;rw[show ((dZ 32).procs QC).P=QC from rfl,if_pos aae] at d c;rw[uW] at d;have c:S1=Nf:=c;subst d c;have y:=(Q.calls w2 n_2).tells rfl adn YM (.inr (by rw[ZC];exact zz)) (ns:=[0,2,3]) (ts:=[]) (on:=false) (by kernel_rfl);rw[aaa] at y;obtain⟨d,c⟩:=y;have m:nP Nf 2=Nf:=if_neg (by omega);rw[m] at d c;have d:I=gG (kv Nf o2 0 2 3) [109,97,112]:=d;have c:S2=xX:=c;rw[RI] at d;subst d c;have s:xX.P=Lf:=by rw[qz];exact ZC
 have w:=(P.calls w3 n_2).tells rfl XQ Jm (.inr (by rw[s];exact zz)) (ns:=[0,1,7]) (ts:=[]) (on:=false) (by kernel_rfl);rw[Tj] at w;obtain⟨t,er,A,d⟩:=w;have l:nP xX 2=xX:=if_neg (by omega);rw[l] at A;obtain⟨rfl,rfl,f,T,D,B,c⟩:=Tg A;have c:S3=vN f D:=c;subst d c;have v:=(O.calls w4 n_2).tells rfl aa0 RJ (.inr (by rw[YN];exact zz)) (ns:=[0,1]) (ts:=[]) (on:=false) (by kernel_rfl);rw[Wo] at v;obtain⟨d,c⟩:=v;have k:nP (vN f D) 2=vN f D:=if_neg (by omega);rw[k] at d c;have d:H=gG (dL (aC (vN f D) o2.j) 0 1 1) ([108,111,97,100]++aQ [je (aC (vN f D) o2.j) (vN f D).W 0 1]):=d;rw[(Gi B).1,(Gi B).2] at d;have c:S4=vN f D:=c;subst d c;have i:=N.things w5 (by kernel_rfl) aa2 (ns:=[]) (ts:=[]) (on:=false) rfl;have i:G=.say ([102,114,101,101]++aQ [31,0,1])/\S5=vN f D:=by
  cases i with
  | @free a b _ ha hb=>
   have q:a=0:=Uq ha fun x=>by
    show xX.D.E x=none;rw[qz];rfl
   have p:b=1:=by
    refine TG ?_;change dD xX.D.T b at hb;rw[qz] at hb;exact hb
   subst q p;rw[Ti T];exact⟨rfl,rfl⟩
  |BK hk=>exact absurd hk (by decide)
  |has hk=>exact absurd hk (by decide)
  |QW hk=>exact absurd hk (by decide)
  |BI hk=>exact absurd hk (by decide)
  |new hk=>exact absurd hk (by decide)
  |si hk=>exact absurd hk (by decide)
 obtain⟨d,c⟩:=i;subst d c;have u:=(M.calls w6 n_1).tells rfl aa1 Z9 (.inl rfl) (ns:=[2,8]) (ts:=[]) (on:=false) (by kernel_rfl);rw[Wp] at u;obtain⟨d,c⟩:=u;have j:nP (vN f D) 1=(vN f D).procs (iY Lf 1):=by unfold nP;rw[if_pos rfl,YN]
 rw[j] at d c;have d:F=gG (eH (iY Lf 1) 2 8) [107,105,108,108]:=d;have c:C=((vN f D).procs (iY Lf 1)).procs (if eH (iY Lf 1) 2 8=0 then kC (iY Lf 1) 2 8 else iY Lf 1):=c;rw[Mg] at d;rw[if_pos Mg] at c;have c:C=(vN f D).procs pj3:=c;subst d c;obtain⟨d,c⟩:=(L.calls w7 n_2).adq rfl Sa (o:=o2) (RJ (f:=f) (D:=D)) (by omega) (by show aO pj3 2≠0;rw[Gq];omega);subst d;have r:S7.P=pj4:=by
  rw[c];show dG (dP pj3 2) 2 (100+aO pj3 2)=pj4;rw[Gq];rfl
 have g:=K.things w8 (by kernel_rfl) aaZ (ns:=[]) (ts:=[]) (on:=false) rfl;have g:E=.say ([112,105,100,115]++aQ [1,1,2,2]):=by
  cases g with
  |si _=>
   rw[r,WE];unfold mY;simp only[List.flatMap_cons,List.flatMap_nil,YS.1,YS.2];rfl
  |free hk=>exact absurd hk (by decide)
  |BK hk=>exact absurd hk (by decide)
  |has hk=>exact absurd hk (by decide)
  |QW hk=>exact absurd hk (by decide)
  |BI hk=>exact absurd hk (by decide)
  |new hk=>exact absurd hk (by decide)
 subst g;obtain⟨e9,_⟩:=J.afQ w9 (by kernel_rfl) (by kernel_rfl);subst e9;exact answers
structure Met (w:World) (m:Int):Prop where
 big:9<=w.heap.size
 gl:GL w
 ml:w.cell? ⟨4,0,none⟩=some (.int .i64 m)
 tab:ni w
section
variable {w w':World}{m:Int}
theorem Met.below(h:Met w m)(b:Below w.heap.size w w'):Met w' m:=
 ⟨le_trans h.big b.size,h.gl.below b,by rw[b.cell (p:=⟨4,0,none⟩) (World.block_lt_of_cell? w _ h.ml)];exact h.ml,h.tab.keep (b.block _ h.tab.lt)⟩
theorem Met.run(h:Met w m)(a:az)(d:a.length<=2600):Calls prog 4 #[tx a] w fun e c=>∃b S,e=.returned (tx b)/\iB (oh a) b S/\Below w.heap.size w c:=
 H9 w h.big h.gl h.ml h.tab a d
theorem Ov{a b:az}{S:KS}(c:a.length<=2600)(h:iB (oh a) b S):b.length<=200000000:=by
 have e:=h.len;have d:(oh a).length<=a.length+1:=le_trans (tJ _) (by have:=wz a;omega);omega
theorem OG(h:Met w m)(a b:az)(I:a.length<=2500)(H:b.length<=2500)(q:a.length+b.length<=2500):Calls prog 3 #[tx a,tx b] w fun e d=>e=.returned (.bool true)/\Below w.heap.size w d:=by
 have r:Calls prog 4 #[tx FM] w fun e d=>e=.returned (tx Lv)/\Below w.heap.size w d:=(h.run FM (by decide)).mono fun e d ⟨c,S,j,f,k⟩=>by
  rw[TQ f] at j;exact⟨j,k⟩
 have i:∀V,Below w.heap.size w V->Calls prog 4 #[tx (a++[10])] V fun e d=>∃c S,e=.returned (tx c)/\iB (oh (a++[10])) c S/\Below V.heap.size V d:=fun V k=>(h.below k).run _ (by simp;omega);have g:∀V o S,iB (oh (a++[10])) o S->Below w.heap.size w V->Calls prog 4 #[tx (a++[10]++b)] V fun e d=>∃z,e=.returned (tx (o++z))/\(o++z).length<=200000000/\Below V.heap.size V d:=fun V o S G k=>((h.below k).run _ (by simp;omega)).mono fun e d ⟨c,R,j,f,M⟩=>by
  have p:=Ov (by simp;omega) f;obtain⟨L,J⟩:=SL a b;rw[J] at f;obtain⟨z,rfl⟩:=G.pieces f;exact⟨z,j,p,M⟩
 have x:Aside _:=i;have v:Aside _:=g;have D:((a.length:Nat):Int)<=2500:=by omega
 have C:((b.length:Nat):Int)<=2500:=by omega
 have n:(a.length:Int)+(b.length:Int)<=2500:=by omega
 have t:=nW a [10];have u:=nW (a++[10]) b;have F:¬9223372036854775807<a.length+1:=by omega
 have E:¬9223372036854775807<(a++[10]).length+b.length:=by simp;omega
 clear i g h;go_enter func3,ntmps3
 go_upto_region 3 with fail
 simp only[List.append_eq,List.cons_append,List.nil_append];unfold FM Lv at r;go_upto_if 24 with (go_at_call 4;refine r.mono ?_;rintro e B ⟨rfl,l⟩)
 clear r;generalize tx [102,111,114,107,32,50,10,109,97,112,10,115,116,111,114,101,10,108,111,97,100,32,55,10,102,114,101,101,32,51,49,32,48,32,49,10,107,105,108,108,10,101,110,100,101,100,10,112,105,100,115,32,49,32,49,32,50,32,50,10,101,114,114,111,114,32,51,10]=big;have i:=x.out B l;go_upto_region 5 with fail
 go_upto_region 6 with (go_at_call 4;refine i.mono ?_;rintro e A ⟨c,S,rfl,f,s⟩;have g:=v.out A c S f (l.trans (s.mono l.size)))
 clear i f t F;go_upto_region 7 with (go_at_call 4;refine g.mono ?_;rintro e y ⟨z,rfl,O,N⟩)
 have j:((c.length:Nat):Int)<=(((c++z).length:Nat):Int):=by rw[length_append];omega
 have Q:(⟨(c++z).toArray⟩:ByteArray).extract 0 c.length=⟨c.toArray⟩:=by
  apply ByteArray.ext
  simp
 have P:c.length<=(c++z).length:=by rw[length_append];omega
 have K:Below w.heap.size w y:=l.trans ((s.trans (N.mono s.size)).mono l.size);clear g x v u E D C n I H q;generalize c++z=Y at *;go_wp2;go_ret;exact⟨rfl,K⟩
theorem Ij(a b:az)(h:2500<a.length\/2500<b.length\/2500<a.length+b.length):Calls prog 3 #[tx a,tx b] w fun e c=>e=.returned (.bool true)/\c=w:=by
 by_cases j:2500<a.length
 ·have g:(2500:Int)<((a.length:Nat):Int):=by omega
  clear h;go_enter func3,ntmps3
  go_wp2;go_ret;exact⟨rfl,rfl⟩
 ·have g:¬(2500:Int)<((a.length:Nat):Int):=by omega
  by_cases i:2500<b.length
  ·have d:(2500:Int)<((b.length:Nat):Int):=by omega
   clear h;go_enter func3,ntmps3
   go_wp2;go_ret;exact⟨rfl,rfl⟩
  ·have d:¬(2500:Int)<((b.length:Nat):Int):=by omega
   have f:(2500:Int)<(a.length:Int)+(b.length:Int):=by omega
   clear h;go_enter func3,ntmps3
   go_wp2;go_ret;exact⟨rfl,rfl⟩
theorem Ke(h:Met w m)(a b:az):Calls prog 3 #[tx a,tx b] w fun e c=>e=.returned (.bool true)/\Below w.heap.size w c:=by
 by_cases d:2500<a.length\/2500<b.length\/2500<a.length+b.length
 ·exact(Ij a b d).mono fun e c ⟨g,f⟩=>⟨g,by rw[f];exact Below.refl _ _⟩
 ·exact OG h a b (by omega) (by omega) (by omega)
end
end
section
open Go.ChangeShapes Go.WideShapes Go.ChangeAt Go.RowKit
theorem WL:ownKnob prog.godebug=none:=by kernel_rfl
theorem et:prog.globalNamed "errors.errorType" = some 0:=by kernel_rfl
theorem aal:((range 412).filter fun t=>prog.rowNamed t [101,114,114,111,114])=[28]:=by kernel_rfl
theorem NU:prog.types.size=412:=by kernel_rfl
theorem PE{W:World}(h:handlesMet prog [("errors.errorType",Rows.laid_errors_errorType)] W):W.cell? ⟨0,0,none⟩=some iA:=by
 obtain⟨a,u,d,l,k,j,i,c⟩:=h _ (mem_singleton.2 rfl);have g:a=[101,114,114,111,114]:=(Option.some.inj l).symm;subst g;have e:u=208:=Option.some.inj (Eq.trans (Eq.symm k) (by kernel_rfl));subst e;have b:d∈(range 412).filter fun t=>prog.rowNamed t [101,114,114,111,114]:=List.mem_filter.2 ⟨mem_range.2 (by rw[<-NU];exact j),i⟩;rw[aal] at b;obtain rfl:=mem_singleton.1 b;have f:typeHandle prog 28=.pointer (some ⟨9,28,none⟩):=by kernel_rfl
 rw[f] at c;simpa using World.var?_cell et c 0
theorem O8{W:World}(h:W.ShapedOpen prog):∃m,W.cell? ⟨4,0,none⟩=some (.int .i64 m):=
 cell_of_shapedOpen_int (t:=3) (zero:=#[.int .i64 0]) h (of_decide_eq_true (by kernel_rfl)) (by kernel_rfl) rfl (by kernel_rfl) (by kernel_rfl) Tryz.underlying3
def MC(d:DataW Unit):Array Value:=match d with
 |.agg l=>(l.flatMap fun x=>match x with
  |.lit (.int k n)=>[Value.int k n]
  |.agg l2=>l2.map fun y=>match y with
   |.lit (.int k n)=>Value.int k n
   |_=>.nilIface
  |_=>[]).toArray
 |_=>#[]
theorem uf{H:Type}{enc:TypeId×Value->H}{a:Assume}{C:Checked}{os:Os}{f:FuncId}{fn:Func}{s:ChangeSpec}{n:List PathCond}{b m g o:Bool}{X:World->Array Value->Prop}
 (M:∀(w w':World) (args:Array Value),w.heap=w'.heap->X w args->X w' args)
 (y:ownKnob C.prog.godebug=none) (l:os.Started) (p:C.prog.inits.idxOf? f=none) (D:C.prog.funcs[f]? = some fn)
 (k:∃(w:World) (c:Tape) (i:Input),w.os=os/\(w.forCall c i).Shaped C.prog/\i.vars=[]/\Input.okWide C.prog (w.forCall c i) .any w.heap.size f i/\
   ((s.pre enc C.prog fn n b (w.forCall c i).memory i.args/\X (w.forCall c i).memory i.args)/\sizedMet enc C.prog fn (OpenSpec.ofChange s) b (w.forCall c i).memory i.args)/\a.holds C.prog (lone (Frame.enter C.prog f i.args .normal) [] (w.forCall c i)))
 (h:∀(W:World) (x:Nat) (args:Array Value) (ds E:List (DataW H)) (d:List MemPlace),
   (∀(j:Nat) t v,fn.params[j]? = some t->args[j]? = some v->Value.okWide C.prog W .any x t v)->
   DataW.Whole enc C.prog fn.params.toList s.vars b W args.toList ds E d->
   X W args->W.ShapedOpen C.prog->
   Calls C.prog f args W fun e G=>∃v,e=.returned v/\s.post enc C.prog fn b m g o W args v G) :
 ReturnsInHanded a C os f .any (fun w args=>(s.pre enc C.prog fn n b w args/\X w args)/\sizedMet enc C.prog fn (OpenSpec.ofChange s) b w args) (s.post enc C.prog fn b m g o):=by
 refine returnsInHanded_of_calls y l p k ?_;intro w c i _ A _ B r _;obtain⟨_,_,_,F,u,_,_,_,_,q⟩:=B;have e:F=fn:=Option.some.inj (u.symm.trans D);subst e;obtain⟨⟨⟨ds,E,d,J,O⟩,I⟩,N⟩:=r;have z:=DataW.Whole.of_heap (w':=w.forCall c i) (by rfl) J;refine(h (w.forCall c i) w.heap.size i.args ds E d q z (M _ _ _ (by rfl) I) A).mono fun e G ⟨v,L,K⟩=>?_;subst L;exact ChangeSpec.post_blind K
end
section
open Go.ChangeShapes Go.WideShapes Go.ChangeAt Go.RowKit Go.ChangeMaps
def zF(d:DataW Unit):Array Value:=match d with
 |.agg l=>(l.map fun x=>match x with
  |.lit (.int k n)=>Value.int k n
  |_=>.nilIface).toArray
 |_=>#[]
theorem jF{W:World}{x:String×DataW Unit}{r:List (String×DataW Unit)}(h:laidMet prog (x::r) W):laidMet prog r W:=by
 obtain⟨j,⟨g,t,o,c,p,q,n,m,l,k,i,rfl⟩,d,e⟩:=h;exact⟨q,i,(List.nodup_append.1 d).2.1,fun b a f=>e b a (List.mem_append_right _ f)⟩
theorem Kk:(Rows.laid_math_bits_deBruijn64tab:DataW Unit)=.agg (Lib.deBruijn64tab.map fun(n:Nat)=>.lit (.int .u8 (n:Int))):=by kernel_rfl
theorem JS{W:World}{r:List (String×DataW Unit)}{a:String}(y:prog.globalNamed a=some 8)(h:laidMet prog ((a,Rows.laid_math_bits_deBruijn64tab)::r) W):ni W:=by
 obtain⟨H,⟨g,t,x,w,p,q,D,s,B,b,_,_⟩,_,_⟩:=h;obtain rfl:349=t:=Option.some.inj (Eq.trans (Eq.symm (show (prog.globals[8]?).map (·.type)=some 349 by kernel_rfl)) (by rw[<-Option.some.inj (y.symm.trans D)] at s;exact s));rw[Kk] at b;obtain⟨e,m,_,A,u,z,E⟩:=DataW.trod_array Tryz.underlying349 b;have i:Lib.deBruijn64tab.map (fun(n:Nat)=>(.lit (.int .u8 (n:Int)):DataW Unit))=e.map (·.1):=by
  have:=congrArg Prod.fst A;simpa using this
 intro j l;have k:j<64:=l;have d:=E j k;have c:j<e.length:=by omega
 rw[List.getElem?_eq_getElem c,show prog.cellsOf 5=1 by kernel_rfl,Nat.mul_one] at d;obtain⟨f,G,F,_⟩:=DataW.trod_int Tryz.underlying5 d;have C:(f:Int)=((Lib.deBruijn64tab.getD j 0:Nat):Int):=by
  have o:(Lib.deBruijn64tab.map (fun(n:Nat)=>(.lit (.int .u8 (n:Int)):DataW Unit)))[j]? = (e.map (·.1))[j]? := by rw[i]
  rw[List.getElem?_map,List.getElem?_map,List.getElem?_eq_getElem c,List.getElem?_eq_getElem l,F] at o;simp only[map_some,Option.some.injEq,DataW.lit.injEq,Lit.int.injEq,true_and] at o;rw[<-o,List.getD_eq_getElem?_getD,List.getElem?_eq_getElem l];rfl
 rw[World.var?_cell y B j,<-C];have v:(x.toList.drop j)[0]? = some (.int .u8 f):=by
  have:((x.toList.drop j).take 1)[0]? = some (.int .u8 f):=by rw[G];rfl
  rwa[List.getElem?_take_of_lt (by omega)] at this
 rw[List.getElem?_drop,Nat.add_zero,Array.getElem?_toList] at v;exact v
theorem AO{W:World}{n nm:String}{d:DataW Unit}{r:List (String×DataW Unit)}{g:Nat}(h:laidMet prog ((n,.iface nm d)::r) W)(j:prog.globalNamed n=some g)(i:(prog.globals[g]?).map (·.type)=some 28):∃u v,W.cell? ⟨g,0,none⟩=some (.iface u v):=by
 obtain⟨o,⟨s,l,f,w,p,m,a,c,b,e,_,k⟩,_,_⟩:=h;obtain rfl:=Option.some.inj (j.symm.trans a);obtain rfl:=Option.some.inj (i.symm.trans c);subst k;obtain⟨q⟩:=f;obtain⟨t,u,v,rfl,_,_⟩:=iface_of_trod Tryz.underlying28 e;exact⟨u,v,by simpa using World.var?_cell a b 0⟩
def uK:List (String×DataW Unit):=Rows.deskPiecesRow.laid.filter fun x=>x.2.handleName?.isNone
theorem vC{W:World}(h:laidMetH prog Rows.deskPiecesRow.laid W):laidMet prog uK W/\handlesMet prog [("errors.errorType",Rows.laid_errors_errorType)] W:=h
def xq(k:Nat):String:=((uK.drop k).map (·.1)).headD ""
def Za(k:Nat):String×DataW Unit:=(uK.drop k).headD ("",.agg [])
theorem Ka:uK=Za 0::(xq 1,Rows.laid_math_bits_deBruijn64tab)::(xq 2,Lib.tabData .u64 Lib.pow10Tab)::Za 3::(xq 4,Rows.laid_strconv_ErrRange)::(xq 5,Rows.laid_strconv_ErrSyntax)::uK.drop 6:=by kernel_rfl
theorem OL:prog.globalNamed (xq 1)=some 8:=by kernel_rfl
theorem OJ:prog.globalNamed (xq 4)=some 6:=by kernel_rfl
theorem OI:prog.globalNamed (xq 5)=some 5:=by kernel_rfl
theorem OH:xq 2=Eh:=by kernel_rfl
theorem Kc{W:World}(h:laidMetH prog Rows.deskPiecesRow.laid W):ni W/\Pow W/\(∃u v,W.cell? ⟨6,0,none⟩=some (.iface u v))/\∃u v,W.cell? ⟨5,0,none⟩=some (.iface u v):=by
 have d:=(vC h).1;rw[Ka] at d;have c:=jF d;have a:=jF c;have b:=jF (jF a);have f:=jF b;rw[OH] at a;exact⟨JS OL c,Lib.tabIs_of_head rD (t:=256) (e:=202) (n:=20) (by kernel_rfl) Tryz.underlying256 Tryz.underlying202 (by kernel_rfl) (by kernel_rfl) a,AO b OJ (by kernel_rfl),AO f OI (by kernel_rfl)⟩
def RO:List UInt8:=[118,97,108,117,101,32,111,117,116,32,111,102,32,114,97,110,103,101]
def LY:List UInt8:=[105,110,118,97,108,105,100,32,115,121,110,116,97,120]
noncomputable def aci:Nat:=(World.holding prog default ⟨#[],#[],[]⟩).heap.size
noncomputable def Y0(os:Os):World:={ World.holding prog os ⟨#[.cells #[tx RO] 347,.cells #[tx LY] 347],#[],[]⟩ with heap:=(((((((((World.holding prog os ⟨#[.cells #[tx RO] 347,.cells #[tx LY] 347],#[],[]⟩).heap.modify 0 fun | .cells _ t frozen=>.cells #[iA] t frozen|o=>o).modify 1 fun | .cells _ t frozen=>.cells (zF Rows.laid_internal_strconv_uint64pow10) t frozen|o=>o).modify 7 fun | .cells _ t frozen=>.cells (zF Rows.laid_math_bits_deBruijn32tab) t frozen|o=>o).modify 8 fun | .cells _ t frozen=>.cells (zF Rows.laid_math_bits_deBruijn64tab) t frozen|o=>o).modify 3 fun | .cells _ t frozen=>.cells (MC Rows.laid_unicode_utf8_acceptRanges) t frozen|o=>o).modify 2 fun | .cells _ t frozen=>.cells (MC Rows.laid_unicode_utf8_first) t frozen|o=>o).modify 6 fun | .cells _ t frozen=>.cells #[.iface 345 (.pointer (some ⟨aci,0,none⟩))] t frozen|o=>o).modify 5 fun | .cells _ t frozen=>.cells #[.iface 345 (.pointer (some ⟨aci+1,0,none⟩))] t frozen|o=>o) }
theorem Po(os:Os)(args:Array Value):laidMetH prog Rows.deskPiecesRow.laid ((Y0 os).forCall (fun _ _=>0) ⟨#[],args,[]⟩).memory:=
 laidMetH_of_parts (laidMet_of_run' 8 (by kernel_rfl) (by kernel_rfl)) (by kernel_rfl)
theorem Bu(os:Os)(b:os.Started)(H:Type)(enc:TypeId×Value->H):ReturnsInHanded {} Tryz.checked os 3 .any (fun w a=>(Rows.deskPiecesSpec.pre enc prog f3 [] false w a/\laidMetH prog Rows.deskPiecesRow.laid w)/\sizedMet enc prog f3 (OpenSpec.ofChange Rows.deskPiecesSpec) false w a)
  (Rows.deskPiecesSpec.post enc prog f3 false true false false):=by
 refine uf (C:=Tryz.checked) (X:=fun w _=>laidMetH prog Rows.deskPiecesRow.laid w) (fun _ _ _ V h=>h.of_heap V) WL b (by kernel_rfl) func3
  (ChangeSpec.witness_at (enc:=enc) (C:=Tryz.checked) (os:=os) (X:=fun w _=>laidMetH prog Rows.deskPiecesRow.laid w) false (Y0 os) #[.string ⟨#[]⟩,.string ⟨#[]⟩] 8 rfl (by kernel_rfl) (by kernel_rfl) (by kernel_rfl) (by kernel_rfl) (by kernel_rfl) (Po os _)) ?_
 intro W i a ds B k d F J s;have c:∀(j:Nat) t v,f3.params[j]? = some t->a[j]? = some v->Value.okWide prog W .any i t v:=d;have y:=F;obtain⟨p,q,A,z,rfl,Z,T⟩:=F;have K:DataW.TrodAll enc prog W 0 (fun _=>true) true f3.params.toList a.toList ds p:=A;have G:DataW.TrodVars enc prog W (fun _=>true) [] B q:=z;rw[Tryz.params3] at K c;obtain⟨E,N,d0,ds0,p0,q0,x,rfl,rfl,h0,Q⟩:=trodAll_cons K;obtain⟨D,M,d1,ds1,p1,q1,rfl,rfl,rfl,h1,P⟩:=trodAll_cons Q;obtain⟨rfl,rfl,rfl⟩:=trodAll_nil P;obtain rfl:a=#[E,D]:=by cases a;simp_all
 obtain⟨s0,rfl,rfl,rfl,o⟩:=open_string underlying9 (c 0 9 E rfl rfl) h0;obtain⟨s1,rfl,rfl,rfl,n⟩:=open_string underlying9 (c 1 9 D rfl rfl) h1;have Y:=PE (vC J).2;obtain⟨I,u,S,R⟩:=Kc J;obtain⟨m,U⟩:=O8 s;obtain⟨rfl,rfl⟩:B=[]/\q=[]:=by
  cases B with
  |nil=>exact⟨rfl,G⟩
  |cons g r=>exact absurd G (by intro h;cases h)
 have l:Calls prog 3 #[.string s0,.string s1] W fun e L=>e=.returned (.bool true)/\Below W.heap.size W L:=by
  rw[show s0=⟨s0.data.toList.toArray⟩ by simp,show s1=⟨s1.data.toList.toArray⟩ by simp];have f:9<=W.heap.size:=I.lt;exact Ke ⟨f,⟨u,Y,R,S⟩,U,I⟩ _ _
 refine l.mono fun e W' ⟨he,O⟩=>?_;subst he;exact⟨_,rfl,_,_,_,[],_,[],y,trodAll_mk1 (shut_bool Tryz.underlying4 _),trodAll_cons_mk (shut_string underlying9 o) (trodAll_cons_mk (shut_string underlying9 n) trodAll_mk0),rfl,O.frame _,fun h=>by cases h⟩
end
end Go.Proofs.YtippochapiolpaaGreatDoor

/- Ours. -/
import Derived.Test.YtippochapiolpaaGreatDoorZFork
import Derived.Test.YtippochapiolpaaGreatDoorOApp
set_option maxHeartbeats 4000000
set_option maxRecDepth 100000
namespace Go.Proofs.YtippochapiolpaaGreatDoor
open Go.Proofs.Tryz(prog)
open List(Nodup append_nil getD_eq_getElem?_getD getElem?_eq_none getElem_mem length_set map_cons map_map map_set mem_cons mem_map not_mem_nil sum_cons)
open Go.World(block_lt_of_cell? cell?_of_block cell?_setCell_same frozen?_of_block)
open Nat(le_refl le_trans lt_of_lt_of_le)
section
open Go.RowKit Go.Maps
section
variable {w w' w1 w2:World}{m:Int}{H:KH}{S:KS}{U:Nat→Nat→Int}{q:Nat}{G:KG}{A:Nat→Prop}{p:Int}{o:Ow}
theorem Hd.nine{b s t:Nat}{U M:Nat->Int}{a:Int}(h:Hd w b s t U M a):w.cell? ⟨b,0,none⟩=some (wp s)/\w.cell? ⟨b,1,none⟩=some (wp t)/\w.cell? ⟨b,2,none⟩=some (.int .i64 (U 0))/\w.cell? ⟨b,3,none⟩=some (.int .i64 (U 1))/\w.cell? ⟨b,4,none⟩=some (.int .i64 (U 2))/\w.cell? ⟨b,5,none⟩=some (.int .i64 (M 0))/\w.cell? ⟨b,6,none⟩=some (.int .i64 (M 1))/\w.cell? ⟨b,7,none⟩=some (.int .i64 (M 2))/\w.cell? ⟨b,8,none⟩=some (.int .i64 a):=
 ⟨h.at 0,h.at 1,h.at 2,h.at 3,h.at 4,h.at 5,h.at 6,h.at 7,h.at 8⟩
def acN(w:World)(m:Int)(H:KH)(S:KS)(U:Nat->Nat->Int)(q:Nat)(A:Nat->Prop)(o:Ow)(s t b:Nat)(w':World):Prop:=
 ∃G',KM w' m (H.add S.Ts.length s t b) (S.born o.j) U (q+1) G'/\G'.κ b=5/\(∀p' o',S.O p'=some o'->H.hs o'.j<b)/\Hd w' b s t (U o.j) o.m o.eX/\Stp w w' A (fun i=>G'.κ i≠0)
theorem KX.adi(h:KX w m H S U q A)(g:S.O p=some o)(F:q<=400):Calls prog 161 #[wp (H.hs o.j),wp H.f] w fun y d=>∃s t b,y=.returned (wp b)/\acN w m H S U q A o s t b d:=by
 have N:=(h.hd g).nine;have I:Calls prog 229 #[wp (H.sp o.j)] w.drew fun y c=>∃s,y=.returned (wp s)/\(c.cell? ⟨H.hs o.j,0,none⟩=some (wp (H.sp o.j))/\c.cell? ⟨H.hs o.j,1,none⟩=some (wp (H.tb o.j))/\c.cell? ⟨H.hs o.j,2,none⟩=some (.int .i64 (U o.j 0))/\c.cell? ⟨H.hs o.j,3,none⟩=some (.int .i64 (U o.j 1))/\c.cell? ⟨H.hs o.j,4,none⟩=some (.int .i64 (U o.j 2))/\c.cell? ⟨H.hs o.j,5,none⟩=some (.int .i64 (o.m 0))/\c.cell? ⟨H.hs o.j,6,none⟩=some (.int .i64 (o.m 1))/\c.cell? ⟨H.hs o.j,7,none⟩=some (.int .i64 (o.m 2))/\c.cell? ⟨H.hs o.j,8,none⟩=some (.int .i64 o.eX))/\
  Calls prog 230 #[wp H.f,wp (H.tb o.j)] c fun y a=>∃t,y=.returned (wp t)/\(a.cell? ⟨H.hs o.j,0,none⟩=some (wp (H.sp o.j))/\a.cell? ⟨H.hs o.j,1,none⟩=some (wp (H.tb o.j))/\a.cell? ⟨H.hs o.j,2,none⟩=some (.int .i64 (U o.j 0))/\a.cell? ⟨H.hs o.j,3,none⟩=some (.int .i64 (U o.j 1))/\a.cell? ⟨H.hs o.j,4,none⟩=some (.int .i64 (U o.j 2))/\a.cell? ⟨H.hs o.j,5,none⟩=some (.int .i64 (o.m 0))/\a.cell? ⟨H.hs o.j,6,none⟩=some (.int .i64 (o.m 1))/\a.cell? ⟨H.hs o.j,7,none⟩=some (.int .i64 (o.m 2))/\a.cell? ⟨H.hs o.j,8,none⟩=some (.int .i64 o.eX))/\
   ((a.alloc (.cells #[wp s,wp t,.int .i64 (U o.j 0),.int .i64 (U o.j 1),.int .i64 (U o.j 2),.int .i64 (o.m 0),.int .i64 (o.m 1),.int .i64 (o.m 2),.int .i64 o.eX] 121)).cell? ⟨H.hs o.j,0,none⟩=some (wp (H.sp o.j))/\(a.alloc (.cells #[wp s,wp t,.int .i64 (U o.j 0),.int .i64 (U o.j 1),.int .i64 (U o.j 2),.int .i64 (o.m 0),.int .i64 (o.m 1),.int .i64 (o.m 2),.int .i64 o.eX] 121)).cell? ⟨H.hs o.j,1,none⟩=some (wp (H.tb o.j))/\(a.alloc (.cells #[wp s,wp t,.int .i64 (U o.j 0),.int .i64 (U o.j 1),.int .i64 (U o.j 2),.int .i64 (o.m 0),.int .i64 (o.m 1),.int .i64 (o.m 2),.int .i64 o.eX] 121)).cell? ⟨H.hs o.j,2,none⟩=some (.int .i64 (U o.j 0))/\(a.alloc (.cells #[wp s,wp t,.int .i64 (U o.j 0),.int .i64 (U o.j 1),.int .i64 (U o.j 2),.int .i64 (o.m 0),.int .i64 (o.m 1),.int .i64 (o.m 2),.int .i64 o.eX] 121)).cell? ⟨H.hs o.j,3,none⟩=some (.int .i64 (U o.j 1))/\(a.alloc (.cells #[wp s,wp t,.int .i64 (U o.j 0),.int .i64 (U o.j 1),.int .i64 (U o.j 2),.int .i64 (o.m 0),.int .i64 (o.m 1),.int .i64 (o.m 2),.int .i64 o.eX] 121)).cell? ⟨H.hs o.j,4,none⟩=some (.int .i64 (U o.j 2))/\(a.alloc (.cells #[wp s,wp t,.int .i64 (U o.j 0),.int .i64 (U o.j 1),.int .i64 (U o.j 2),.int .i64 (o.m 0),.int .i64 (o.m 1),.int .i64 (o.m 2),.int .i64 o.eX] 121)).cell? ⟨H.hs o.j,5,none⟩=some (.int .i64 (o.m 0))/\(a.alloc (.cells #[wp s,wp t,.int .i64 (U o.j 0),.int .i64 (U o.j 1),.int .i64 (U o.j 2),.int .i64 (o.m 0),.int .i64 (o.m 1),.int .i64 (o.m 2),.int .i64 o.eX] 121)).cell? ⟨H.hs o.j,6,none⟩=some (.int .i64 (o.m 1))/\(a.alloc (.cells #[wp s,wp t,.int .i64 (U o.j 0),.int .i64 (U o.j 1),.int .i64 (U o.j 2),.int .i64 (o.m 0),.int .i64 (o.m 1),.int .i64 (o.m 2),.int .i64 o.eX] 121)).cell? ⟨H.hs o.j,7,none⟩=some (.int .i64 (o.m 2))/\(a.alloc (.cells #[wp s,wp t,.int .i64 (U o.j 0),.int .i64 (U o.j 1),.int .i64 (U o.j 2),.int .i64 (o.m 0),.int .i64 (o.m 1),.int .i64 (o.m 2),.int .i64 o.eX] 121)).cell? ⟨H.hs o.j,8,none⟩=some (.int .i64 o.eX))/\
   Aside (acN w m H S U q A o s t a.heap.size (a.alloc (.cells #[wp s,wp t,.int .i64 (U o.j 0),.int .i64 (U o.j 1),.int .i64 (U o.j 2),.int .i64 (o.m 0),.int .i64 (o.m 1),.int .i64 (o.m 2),.int .i64 o.eX] 121))):=by
  obtain⟨G,k,e⟩:=h;have f:=k.below (bH w);have r:o.j<G.L.length:=by rw[k.Ll];exact k.lt p o g
  have R:=k.few;have hF:=f.al.uP (by rw[k.Ll];omega) r;rw[k.sp _ r] at hF;refine hF.mono ?_;rintro y c ⟨s,rfl,Q,j,E⟩;have l:s<c.heap.size:=by
   obtain⟨P,B,_,_⟩:=j;have:=(B.sp G.L.length (by simp)).sp.lt;simpa using this
  have u:Hd c (H.hs o.j) (H.sp o.j) (H.tb o.j) (U o.j) o.m o.eX:=by
   obtain⟨P,B,M,_⟩:=j;exact(f.hold p o g).keep (M.block _ (f.hold p o g).lt (fun z=>by have:=f.k1 _ z;have:=f.k5 p o g;omega))
  refine⟨s,rfl,u.nine,(f.y8 F g r j E l).mono ?_⟩;rintro y a ⟨t,rfl,i,O,D,L,n,C⟩;refine⟨t,rfl,i.nine,(i.below ((Below.refl _ a).alloc (le_refl _) _)).nine,O,D,L,n,?_,qY e (Stp.base (V:=w.drew) rfl rfl rfl rfl C)⟩;show (a.heap.push _)[a.heap.size]? = _;rw[Array.getElem?_push,if_pos rfl]
 generalize U o.j 0=u0 at *;generalize U o.j 1=u1 at *;generalize U o.j 2=u2 at *;generalize o.m 0=m0 at *;generalize o.m 1=m1 at *;generalize o.m 2=m2 at *;go_enter Tryz.func161,Tryz.ntmps161
 go_upto_region 1 with fail
 go_region_held3 (fun d=>d.cell? ⟨H.hs o.j,0,none⟩=some (wp (H.sp o.j))/\d.cell? ⟨H.hs o.j,1,none⟩=some (wp (H.tb o.j))/\d.cell? ⟨H.hs o.j,2,none⟩=some (.int .i64 u0)/\d.cell? ⟨H.hs o.j,3,none⟩=some (.int .i64 u1)/\d.cell? ⟨H.hs o.j,4,none⟩=some (.int .i64 u2)/\d.cell? ⟨H.hs o.j,5,none⟩=some (.int .i64 m0)/\d.cell? ⟨H.hs o.j,6,none⟩=some (.int .i64 m1)/\d.cell? ⟨H.hs o.j,7,none⟩=some (.int .i64 m2)/\d.cell? ⟨H.hs o.j,8,none⟩=some (.int .i64 o.eX)) (first|exact N|exact x|exact v) (first
  |(go_at_call 229;refine I.mono ?_;rintro e c ⟨s,rfl,x,J⟩)
  |(go_at_call 230;refine J.mono ?_;rintro e a ⟨t,rfl,x,v,K⟩))
 all_goals
  go_wp2_with fail
  go_ret;exact⟨s,t,a.heap.size,rfl,K.out⟩
end
def gK(S:KS)(p:Int)(o:Ow):KS:=((S.procs (fP S.P p (aL S.P))).born o.j).own (aL S.P) ⟨S.Ts.length,o.m,o.eX⟩
section
variable {w w' w1 w2:World}{m:Int}{H:KH}{S:KS}{U:Nat→Nat→Int}{q:Nat}{G:KG}{A:Nat→Prop}{p:Int}{o:Ow}
theorem LU(S:KS)(j i:Nat):au (S.born j) i=if i=S.Ts.length then au S j else au S i:=by
 show (S.Ts++[au S j]).getD i bQ=_;rw[getD_eq_getElem?_getD];by_cases e:i<S.Ts.length
 ·rw[List.getElem?_append_left e,if_neg (by omega)];unfold au;rw[getD_eq_getElem?_getD]
 ·rw[List.getElem?_append_right (by omega)];by_cases a:i=S.Ts.length
  ·rw[if_pos a,a];simp
  ·rw[if_neg a,getElem?_eq_none (by simp;omega)];unfold au;rw[getD_eq_getElem?_getD,getElem?_eq_none (by omega)]
theorem Mr(S:KS)(b:S.Ms.length=S.Ts.length)(j i:Nat):aC (S.born j) i=if i=S.Ts.length then aC S j else aC S i:=by
 show (S.Ms++[aC S j]).getD i lG=_;rw[getD_eq_getElem?_getD];by_cases e:i<S.Ms.length
 ·rw[List.getElem?_append_left e,if_neg (by omega)];unfold aC;rw[getD_eq_getElem?_getD]
 ·rw[List.getElem?_append_right (by omega)];by_cases a:i=S.Ts.length
  ·rw[if_pos a,a,b];simp
  ·rw[if_neg a,getElem?_eq_none (by simp;omega)];unfold aC;rw[getD_eq_getElem?_getD,getElem?_eq_none (by omega)]
theorem Ot(P:Ps)(p k x:Int):aD (fP P p k) x=if x=k then true else aD P x:=by
 unfold aD fP;by_cases e:x=k
 ·subst e;rw[kG (oN _ _ _),if_pos rfl];rfl
 ·rw[if_neg e];unfold nN;rw[qZ e]
theorem uh.y8(k:uh S)(g:S.O p=some o)(h:S.Ms.length=S.Ts.length)(i:S.O (aL S.P)=none):uh (gK S p o):=by
 have n:∀x a,(gK S p o).O x=some a->(x=aL S.P/\a=⟨S.Ts.length,o.m,o.eX⟩)\/(x≠aL S.P/\S.O x=some a):=fun x a e=>by
  have e:kL S.O (aL S.P) ⟨S.Ts.length,o.m,o.eX⟩ x=some a:=e;by_cases c:x=aL S.P
  ·rw[c,eB] at e;exact .inl ⟨c,(Option.some.inj e).symm⟩
  ·rw[iW c] at e;exact .inr ⟨c,e⟩
 refine⟨fun x=>?_,fun j m f=>?_,fun x a e=>?_⟩
 ·show (kL S.O (aL S.P) _ x).isSome=aD (fP S.P p (aL S.P)) x;rw[Ot];by_cases e:x=aL S.P
  ·rw[if_pos e,e,eB];rfl
  ·rw[if_neg e,iW e];exact k.run x
 ·have r:au (gK S p o) j=au ((S.procs (fP S.P p (aL S.P))).born o.j) j:=rfl;have q:aC (gK S p o) j=aC ((S.procs (fP S.P p (aL S.P))).born o.j) j:=rfl;have l:j<S.Ts.length+1:=by
   have:j<(S.Ts++[au S o.j]).length:=m;simpa using this
  have d:j≠S.Ts.length:=fun e=>f (aL S.P) ⟨S.Ts.length,o.m,o.eX⟩ (eB _ _ _) e.symm;rw[r,q,LU,Mr (S.procs (fP S.P p (aL S.P))) h];have b:¬j=(S.procs (fP S.P p (aL S.P))).Ts.length:=d;rw[if_neg b,if_neg b];refine k.gone j (by omega) (fun x a e z=>?_);by_cases c:x=aL S.P
  ·rw[c,i] at e;cases e
  ·exact f x a (by show kL S.O _ _ x=_;rw[iW c];exact e) z
 ·rcases n x a e with⟨_,rfl⟩|⟨_,e⟩
  ·exact k.fit p o g
  ·exact k.fit x a e
theorem KN.least(h:KN w m H S q A)(c:(aH S.P).length<24):uD S.P (aL S.P)/\aL S.P<=24/\S.O (aL S.P)=none:=by
 obtain⟨k,a,b⟩:=uD.ex h.1.Vd.YU c;rw[wN a b];refine⟨a,b,h.ac5.2 ?_⟩;unfold aD;rw[lY a.no];rfl
theorem KX.R8(h:KX w m H S U q A)(n:Int)(g:(Lit.int .i64 n).wf=true):Calls prog 160 #[wp H.t,.int .i64 n] w fun y a=>y=.returned (.tuple #[.int .i64 (oq S.P n (aH S.P).length),aI (lQ S.P n (aH S.P).length)])/\∃f,KX a m H (S.procs (oo S.P n (aH S.P).length)) U q f/\Stp w a A f:=by
 refine(h.proc (Q:=fun y d=>y=.returned (.tuple #[.int .i64 (oq S.P n (aH S.P).length),aI (lQ S.P n (aH S.P).length)])/\d=oo S.P n (aH S.P).length) (fun c b=>?_)).mono ?_
 ·have e:c=(aH S.P).length:=b.toQM.num.one h.Vd.YU;subst e;refine(b.fork n g).mono ?_;rintro y a ⟨rfl,t⟩;exact⟨_,⟨rfl,rfl⟩,t⟩
 ·rintro y a ⟨d,⟨rfl,rfl⟩,r⟩;exact⟨rfl,r⟩
theorem KN.PK(h:KN w m H S q A)(f:S.O p=some o)(k:24<=(aH S.P).length):Calls prog 98 #[wp H.kb,.int .i64 p] w fun y a=>y=.returned (.tuple #[.int .i64 0,eF 12])/\∃b,KN a m H S q b/\Stp w a A b:=by
 have hF:=h.1.ay f;have v:=h.1.c3;have j:aD S.P p=true:=by rw[<-h.2.run p,f];rfl
 have g:lQ S.P p (aH S.P).length=12:=by unfold lQ;rw[j,if_neg (by simp),if_pos k]
 have s:oq S.P p (aH S.P).length=0:=by unfold oq;rw[g,if_neg (by omega)]
 have r:oo S.P p (aH S.P).length=S.P:=by unfold oo;rw[g,if_neg (by omega)]
 have l:Calls prog 160 #[wp H.t,.int .i64 p] w fun y a=>y=.returned (.tuple #[.int .i64 0,eF 12])/\∃b,KN a m H S q b/\Stp w a A b:=by
  refine(h.1.R8 p (h.1.Yv f)).mono ?_;rintro y c ⟨rfl,t,i,d⟩;rw[g,s,ax (by omega)];rw[r] at i;exact⟨rfl,t,⟨i,h.2⟩,d⟩
 go_enter Tryz.func98,Tryz.ntmps98
 go_wp2_with (first
  |(go_at_call 127;refine hF.mono ?_;rintro e c ⟨rfl,u⟩;subst c)
  |(go_at_call 160;refine l.mono ?_;rintro e c ⟨rfl,n⟩))
 go_ret2;exact⟨rfl,n⟩
theorem KN.XM(h:KN w m H S q A)(v:S.O p=some o)(Z:q<=400)(hc:(aH S.P).length<24):Calls prog 98 #[wp H.kb,.int .i64 p] w fun y f=>y=.returned (.tuple #[.int .i64 (aL S.P),.nilIface])/\∃u C,(u.kb=H.kb/\u.ok=H.ok)/\KN f m u (gK S p o) (q+1) C/\Stp w f A C:=by
 have hF:=h.1.ay v;have c3:=h.1.c3;have Y:aD S.P p=true:=by rw[<-h.2.run p,v];rfl
 obtain⟨N,Vt,B⟩:=h.least hc;have M:=N.pos;have P:lQ S.P p (aH S.P).length=0:=by unfold lQ;rw[Y,if_neg (by simp),if_neg (by omega)]
 have e2:oq S.P p (aH S.P).length=aL S.P:=by unfold oq;rw[if_pos P]
 have e3:oo S.P p (aH S.P).length=fP S.P p (aL S.P):=by unfold oo;rw[if_pos P]
 have hX:Calls prog 160 #[wp H.t,.int .i64 p] w fun y f=>y=.returned (.tuple #[.int .i64 (aL S.P),.nilIface])/\(f.cell? ⟨H.kb,4,none⟩=some (.map (some H.gm))/\f.cell? ⟨H.kb,2,none⟩=some (wp H.f))/\
  Calls prog 161 #[wp (H.hs o.j),wp H.f] f.drew fun y d=>∃b,y=.returned (wp b)/\(d.cell? ⟨H.kb,4,none⟩=some (.map (some H.gm))/\d.cell? ⟨H.kb,2,none⟩=some (wp H.f))/\∃c,(Instr.mapUpdate 64 (.map (some H.gm)) (.int .i64 (aL S.P)) (wp b)).run prog d=.ok () c/\(c.cell? ⟨H.kb,4,none⟩=some (.map (some H.gm))/\c.cell? ⟨H.kb,2,none⟩=some (wp H.f))/\Aside (∃u C,(u.kb=H.kb/\u.ok=H.ok)/\KN c m u (gK S p o) (q+1) C/\Stp w c A C):=by
  refine(h.1.R8 p (h.1.Yv v)).mono ?_;rintro y x ⟨rfl,A1,J,G⟩;rw[P,e2,aB];rw[e3] at J;refine⟨rfl,J.JG (p:=p) (o:=o) v,((J.below (bH x)).adi (p:=p) (o:=o) v Z).mono ?_⟩;rintro y d ⟨s,t,b,rfl,G',K,h5,L,hd,F⟩;have D:(H.add S.Ts.length s t b).hs S.Ts.length=b:=if_pos rfl;have W:(H.add S.Ts.length s t b).sp S.Ts.length=s:=if_pos rfl;have U:(H.add S.Ts.length s t b).tb S.Ts.length=t:=if_pos rfl;have c2:d.cell? ⟨H.kb,4,none⟩=some (.map (some H.gm))/\d.cell? ⟨H.kb,2,none⟩=some (wp H.f):=⟨(KX.of K).c4,(KX.of K).c2⟩;obtain⟨c,l,G3,I,T⟩:=K.put (k:=aL S.P) B ⟨M,Vt⟩ (o':=⟨S.Ts.length,o.m,o.eX⟩) (by show S.Ts.length<(S.Ts++[_]).length;simp) (by show G'.κ ((H.add S.Ts.length s t b).hs S.Ts.length)=5;rw[D];exact h5) (fun j a r=>by
   have g:S.O j=some a:=r;have hl:=h.1.rR g;show (H.add S.Ts.length s t b).hs a.j≠(H.add S.Ts.length s t b).hs S.Ts.length;rw[D,show (H.add S.Ts.length s t b).hs a.j=H.hs a.j from if_neg (by omega)];have:=L j a g;omega) (U':=kZ S o.j) (by
   show Hd d ((H.add S.Ts.length s t b).hs S.Ts.length) ((H.add S.Ts.length s t b).sp S.Ts.length) ((H.add S.Ts.length s t b).tb S.Ts.length) (kZ S o.j) o.m o.eX;rw[D,W,U];exact hd)
  have n:(Instr.mapUpdate 64 (.map (some H.gm)) (.int .i64 (aL S.P)) (wp b)).run prog d=.ok () c:=by rw[<-D];exact l
  refine⟨b,rfl,c2,c,n,⟨(KX.of I).c4,(KX.of I).c2⟩,H.add S.Ts.length s t b,_,⟨rfl,rfl⟩,(KX.of I).toN (h.2.y8 v h.1.len B) (fun j a r k hk=>?_),(G.trans (Stp.base (V:=x.drew) rfl rfl rfl rfl F)).trans T⟩;have hO:(j=aL S.P/\a=⟨S.Ts.length,o.m,o.eX⟩)\/(j≠aL S.P/\S.O j=some a):=by
   have e:kL S.O (aL S.P) ⟨S.Ts.length,o.m,o.eX⟩ j=some a:=r;by_cases E:j=aL S.P
   ·rw[E,eB] at e;exact .inl ⟨E,(Option.some.inj e).symm⟩
   ·rw[iW E] at e;exact .inr ⟨E,e⟩
  have Q:∀i,au (gK S p o) i=if i=S.Ts.length then au S o.j else au S i:=fun i=>LU (S.procs (fP S.P p (aL S.P))) o.j i;have R:∀i,aC (gK S p o) i=if i=S.Ts.length then aC S o.j else aC S i:=fun i=>Mr (S.procs (fP S.P p (aL S.P))) h.1.len o.j i;rcases hO with⟨_,rfl⟩|⟨_,g⟩
  ·simp only[if_true];have O:kZ (gK S p o) S.Ts.length k=kZ S o.j k:=by
    unfold kZ;rw[Q,R,if_pos rfl,if_pos rfl]
   exact O.symm
  ·have hl:=h.1.rR g;simp only;rw[if_neg (by omega)];have O:kZ (gK S p o) a.j k=kZ S a.j k:=by
    unfold kZ;have z:¬a.j=S.Ts.length:=by omega
    rw[Q,R,if_neg z,if_neg z]
   exact O.symm
 generalize gK S p o=S2 at *;generalize aL S.P=X at *;go_enter Tryz.func98,Tryz.ntmps98
 go_upto_region 7 with (first
  |(go_at_call 127;refine hF.mono ?_;rintro e x ⟨rfl,hw⟩;subst x)
  |(go_at_call 160;refine hX.mono ?_;rintro e x ⟨rfl,c0,hC⟩))
 go_region_held3 (fun f=>f.cell? ⟨H.kb,4,none⟩=some (.map (some H.gm))/\f.cell? ⟨H.kb,2,none⟩=some (wp H.f)) (first|exact c0|exact c1|exact c9) (first
  |(go_at_call 161;refine hC.mono ?_;rintro e d ⟨b,rfl,c1,c,l,c9,hR⟩))
 all_goals
  go_wp2_with fail
  go_ret2;exact⟨rfl,hR.out⟩
end
section
variable {w w' w1 w2:World}{m:Int}{H:KH}{S:KS}{U:Nat→Nat→Int}{q:Nat}{G:KG}{A:Nat→Prop}{p:Int}{o:Ow}
def Jb(S:KS)(j:Nat)(n:Int):Nat->Nat->Int:=fun i=>if i=j then after (kZ S j) 1 n else kZ S i
def vL(A X:Nat->Prop):Nat->Prop:=fun i=>A i\/X i
theorem Stp.with{b X:Nat->Prop}(h:Stp w w' A b)(_hX:∀i,X i->i<w.heap.size):Stp w w' (vL A X) (vL b X):=
 ⟨⟨h.wt.os,h.wt.tape,h.wt.output,h.wt.size,fun i a c=>h.wt.block i a (fun z=>c (.inl z))⟩,fun i a=>by
  rcases a with z|z
  ·rcases h.own i z with y|y
   ·exact .inl (.inl y)
   ·exact .inr y
  ·exact .inl (.inr z)⟩
theorem LH{S:KS}{o:Ow}{n:Int}(d:1<=n/\n<=2)(b:(au S o.j).length=8):why (kZ S o.j) o.m 1 n=if ((ak (au S o.j):Nat):Int)+n<=o.m 1 then 0 else 4:=by
 have e:kZ S o.j (1:Int).toNat=((ak (au S o.j):Nat):Int):=rfl;have c:o.m (1:Int).toNat=o.m 1:=rfl;unfold why;rw[e,c];have:=wo b;by_cases a:((ak (au S o.j):Nat):Int)+n<=o.m 1
 ·rw[if_pos a,if_neg (by omega),if_neg (by omega),if_neg (by omega),if_neg (by omega)]
 ·rw[if_neg a,if_neg (by omega),if_neg (by omega),if_pos (by omega)]
theorem Ai{S:KS}{o:Ow}{n:Int}{D':DS}{N':Ns}(hj:o.j<S.Ts.length)(hu:((ak N':Nat):Int)=ak (au S o.j)+n)(i k:Nat)(hk:k<3):Jb S o.j n i k=kZ (S.files D' o.j N') i k:=by
 unfold Jb;by_cases e:i=o.j
 ·rw[if_pos e,e];unfold after put kZ;rw[gX hj,if_pos rfl,oD]
  match k,hk with
  |0,_=>rfl
  |1,_=>show ((ak (au S o.j):Nat):Int)+n=_;rw[<-hu];rfl
  |2,_=>rfl
 ·rw[if_neg e];unfold kZ;rw[gX hj,if_neg e,oD]
theorem KX.qG(h:KN w m H S q A)(ho:S.O p=some o){n:Int}(hn:1<=n/\n<=2){fn:Nat}{lb:Array Value}(ef:∀args w,(callFunc fn args).run prog w=.ok (.enter fn args) w){X:Nat->Prop}(hX:∀i,X i->i<w.heap.size){Q:Int->DS->Ns->World->Prop}
 (hQ:∀c D' N' w2 w3,Q c D' N' w2->w2.grownBy w3 (some (H.hs o.j))->Q c D' N' w3)
 (hdo:∀V,KX V m H S (Jb S o.j n) q A->Stp w V A A->Calls prog fn lb V fun y w2=>∃c D' N',y=.returned (aI c)/\Q c D' N' w2/\(c=0->((ak N':Nat):Int)=ak (au S o.j)+n)/\(c≠0->D'=S.D/\N'=au S o.j)/\∃A2,(∀i,X i->¬A2 i)/\KX w2 m H (S.files D' o.j N') (Jb S o.j n) (q+1) A2/\Stp V w2 (vL A X) (vL A2 X)) :
 Calls prog 150 #[wp (H.hs o.j),.int .i64 1,.int .i64 n,.func (.func fn) #[] lb] w fun y w'=>∃c,y=.returned (aI c)/\
  ((¬((ak (au S o.j):Nat):Int)+n<=o.m 1/\c=4/\∃A',KN w' m H S q A'/\Stp w w' A A')\/
   (((ak (au S o.j):Nat):Int)+n<=o.m 1/\∃D' N',Q c D' N' w'/\∃A',(∀i,X i->¬A' i)/\KN w' m H (S.files D' o.j N') (q+1) A'/\Stp w w' (vL A X) (vL A' X))):=by
 have hj:=h.1.rR ho;have hw:=LH (S:=S) (o:=o) hn (h.1.oW o.j);refine(h.1.hd ho).qG (h.1.Ji o.j) (h.2.fit p o ho).1 h.1.er (h.1.hne ho) 1 n ef (R:=fun c w'=>(¬((ak (au S o.j):Nat):Int)+n<=o.m 1/\c=4/\∃A',KN w' m H S q A'/\Stp w w' A A')\/
  (((ak (au S o.j):Nat):Int)+n<=o.m 1/\∃D' N',Q c D' N' w'/\∃A',(∀i,X i->¬A' i)/\KN w' m H (S.files D' o.j N') (q+1) A'/\Stp w w' (vL A X) (vL A' X))) (fun hne V hd g=>?_) (fun he V hd g=>?_)
 ·obtain⟨k',st⟩:=h.1.ZH ho hd g;rw[hw] at hne ⊢;split at hne
  ·exact absurd rfl hne
  ·rename_i hc
   rw[if_neg hc];refine .inl ⟨hc,rfl,A,k'.toN h.2 (fun p' o' ho' k hk=>?_),st⟩;by_cases ej:o'.j=o.j
   ·simp only[if_pos ej];rw[ej]
   ·simp only[if_neg ej]
 ·have hle:((ak (au S o.j):Nat):Int)+n<=o.m 1:=by
   rw[hw] at he;split at he
   ·assumption
   ·omega
  obtain⟨k',st⟩:=h.1.ZH ho hd g;refine(hdo V k' st).mono ?_;rintro y w2 ⟨c,D',N',rfl,hQ2,hc0,hc1,A2,nA,k2,st2⟩;refine⟨c,rfl,fun hc=>?_,fun hc=>⟨?_,fun i hi hiV=>?_,fun w3 hd3 g3=>?_⟩⟩
  ·subst hc;refine .inr ⟨hle,D',N',hQ2,A2,nA,k2.toN (h.2.files ho _ _) (fun p' o' ho' k hk=>Ai hj (hc0 rfl) _ _ hk),(st.with hX).trans st2⟩
  ·have:=k2.hd (p:=p) (o:=o) ho;unfold Jb at this;rw[if_pos rfl] at this;exact this
  ·refine st2.wt.block i hiV (fun z=>?_);rcases z with z|z
   ·have:=h.1.lt i z;omega
   ·have:=hX i z;omega
  ·obtain⟨rfl,rfl⟩:=hc1 hc;rw[pJ hj] at k2;obtain⟨k3,wW⟩:=k2.ZH (p:=p) (o:=o) ho hd3 g3;have hX2:∀i,X i->i<w2.heap.size:=fun i hi=>lt_of_lt_of_le (hX i hi) (le_trans st.wt.size st2.wt.size);refine .inr ⟨hle,S.D,au S o.j,hQ _ _ _ _ _ hQ2 g3,A2,nA,?_,((st.with hX).trans st2).trans (wW.with hX2)⟩;rw[pJ hj];refine k3.toN h.2 (fun p' o' ho' k hk=>?_);by_cases ej:o'.j=o.j
   ·simp only[if_pos ej];rw[ej]
   ·simp only[if_neg ej];unfold Jb;rw[if_neg ej]
end
section
variable {w w' w1 w2:World}{m:Int}{H:KH}{S:KS}{U:Nat→Nat→Int}{q:Nat}{G:KG}{A:Nat→Prop}{p:Int}{o:Ow}
theorem KM.same(h:KM w m H S U q G)(g:w.heap.size<=w'.heap.size)(r:∀i,G.κ i≠0->w'.heap[i]? = w.heap[i]?)(u:w'.heap[4]? = w.heap[4]?)(t:w'.heap[0]? = w.heap[0]?)(s:w'.heap[8]? = w.heap[8]?):KM w' m H S U q G:=by
 have b:∀i c,G.κ i=c->c≠0->w'.heap[i]? = w.heap[i]? := fun i c e v=>r i (by omega);have l:w'.cell? ⟨4,0,none⟩=some (.int .i64 m):=by
  rw[cell?_of_block (w:=w) (a:=⟨4,0,none⟩) u];exact h.kd.ml
 have k:w'.cell? ⟨0,0,none⟩=some iA:=by
  rw[cell?_of_block (w:=w) (a:=⟨0,0,none⟩) t];exact h.kd.er
 obtain⟨c,f⟩:=h.qj;obtain⟨z,n⟩:=h.map;exact { h with
  head:=(b _ 6 h.kk (by omega)).trans h.head
  al:=h.al.keep (fun i d=>b i 1 (h.k1 i d) (by omega)) (b _ 6 h.kE (by omega)) (b _ 6 h.kB (by omega)) (fun i d=>by
   rw[h.sp i d];exact b _ 6 (h.ks i (by rw[<-h.Ll];exact d)) (by omega))
  kd:=h.kd.keep (fun i d=>b i 2 (h.k2 i d) (by omega)) g l k
  qj:=⟨c,⟨f.toQM.keep (b _ 6 h.kt (by omega)) (b _ 3 h.k3 (by omega)),f.ok,f.dj⟩⟩
  map:=⟨z,n.keep (b _ 4 h.k4 (by omega))⟩
  hold:=fun p o j=>(h.hold p o j).keep (b _ 5 (h.k5 p o j) (by omega))
  tab:=h.tab.keep s
  Bd:=fun i d=>lt_of_lt_of_le (h.Bd i d) g }
def Out(w:World)(A:Nat->Prop)(x:Nat):Prop:=¬A x/\x≠4/\x≠0/\x≠8/\w.frozen? ⟨x,0,none⟩=false/\∃v,w.cell? ⟨x,0,none⟩=some v
theorem Out.p8{f:Nat->Prop}{x:Nat}(h:Out w A x)(st:Stp w w' A f):Out w' f x:=by
 obtain⟨e,k,j,i,g,v,d⟩:=h;obtain⟨c,n⟩:=st.cO d e;have b:x<w.heap.size:=block_lt_of_cell? w _ d;exact⟨n,k,j,i,by rw[frozen?_of_block (w:=w) (a:=⟨x,0,none⟩) (st.wt.block x b e)];exact g,v,c⟩
theorem KX.box(h:KX w m H S U q A){x:Nat}(c:Out w A x)(v:Value):KX (w.setCell ⟨x,0,none⟩ v) m H S U q A:=by
 obtain⟨G,k,e⟩:=h;obtain⟨j,g,f,d,_,_⟩:=c;have a:∀i,i≠x->(w.setCell ⟨x,0,none⟩ v).heap[i]? = w.heap[i]? := fun i b=>Below.heap_setCell _ _ _ _ (fun e=>b (by rw[e]));exact⟨G,k.same (by simp[World.setCell]) (fun i b=>a i (fun z=>by subst z;exact j ((e i).2 b))) (a _ (Ne.symm g)) (a _ (Ne.symm f)) (a _ (Ne.symm d)),e⟩
theorem Out.set{x y:Nat}(h:Out w A x)(v:Value):Out (w.setCell ⟨y,0,none⟩ v) A x:=by
 obtain⟨g,f,d,c,b,u,a⟩:=h;refine⟨g,f,d,c,by rw[World.frozen?_setCell];exact b,?_⟩;by_cases e:x=y
 ·subst e;exact⟨v,cell?_setCell_same _ _ _ a⟩
 ·exact⟨u,by rw[World.cell?_setCell_other _ _ _ _ (by intro z;simp only[Addr.mk.injEq,and_true] at z;exact e z.symm)];exact a⟩
theorem Out.got{x:Nat}(h:Out w A x)(v:Value):(w.setCell ⟨x,0,none⟩ v).cell? ⟨x,0,none⟩=some v:=by
 obtain⟨_,_,_,_,_,u,a⟩:=h;exact cell?_setCell_same _ _ _ a
theorem oM{x b o':Nat}{u:Value}(c:w.cell? ⟨b,o',none⟩=some u)(a:b≠x)(v:Value):(w.setCell ⟨x,0,none⟩ v).cell? ⟨b,o',none⟩=some u:=by
 rw[World.cell?_setCell_other _ _ _ _ (by intro z;simp only[Addr.mk.injEq,and_true] at z;exact a z.1.symm)];exact c
theorem L8{x:Nat}{c:Nat->Prop}(st:Stp w w1 A c)(v:Value)(_hx:x<w.heap.size):Stp w (w1.setCell ⟨x,0,none⟩ v) (vL A (fun i=>i=x)) (vL c (fun i=>i=x)):=
 ⟨⟨st.wt.os,st.wt.tape,st.wt.output,by simpa[World.setCell] using st.wt.size,fun i a b=>by
  rw[Below.heap_setCell _ _ _ _ (fun e=>b (.inr (by rw[e])))];exact st.wt.block i a (fun z=>b (.inl z))⟩,fun i a=>by
  rcases a with z|z
  ·rcases st.own i z with y|y
   ·exact .inl (.inl y)
   ·exact .inr y
  ·exact .inl (.inr z)⟩
theorem rP.set{x:Nat}{l:List (Nat×Value)}(h:rP w A l)(b:∀y∈l,y.1≠x)(v:Value):rP (w.setCell ⟨x,0,none⟩ v) A l:=fun y a=>⟨oM (h y a).1 (b y a) v,(h y a).2⟩
theorem KX.afL(h:KX w m H S U q A)(t:S.O p=some o)(x:Int){j k g b:Nat}(J:rP w A [(j,wp H.kb),(k,wp (H.hs o.j)),(g,.int .i64 x)])(I:Out w A b)(n:j≠b/\k≠b/\g≠b):Calls prog 151 #[wp j,wp k,wp g,wp b] w fun y a=>y=.returned (aI (jH (au S o.j) x))/\a.cell? ⟨b,0,none⟩=some (.int .i64 (jr (au S o.j) x))/\∃d,Out a d b/\KX a m H (S.files (lM S.D (au S o.j) x) o.j (lL (au S o.j) x)) U q d/\Stp w a (vL A (fun i=>i=b)) (vL d (fun i=>i=b)):=by
 have u:b<w.heap.size:=by obtain⟨_,_,_,_,_,v,z⟩:=I;exact block_lt_of_cell? w _ z
 have c:∀ {a:World}{d:Nat->Prop}{L:KS},KX a m H L U q d->L.O p=some o->rP a d [(j,wp H.kb),(k,wp (H.hs o.j)),(g,.int .i64 x)]->a.cell? ⟨j,0,none⟩=some (wp H.kb)/\a.cell? ⟨H.kb,2,none⟩=some (wp H.f)/\a.cell? ⟨k,0,none⟩=some (wp (H.hs o.j))/\a.cell? ⟨H.hs o.j,1,none⟩=some (wp (H.tb o.j))/\a.cell? ⟨g,0,none⟩=some (.int .i64 x):=fun s B D=>
  ⟨(D (j,_) (by simp)).1,s.c2,(D (k,_) (by simp)).1,(s.hd B).at 1,(D (g,_) (by simp)).1⟩
 have T:=c h t J;have P:Calls prog 152 #[wp H.f,wp (H.tb o.j),.int .i64 x] w.drew fun y a=>y=.returned (.tuple #[.int .i64 (jr (au S o.j) x),aI (jH (au S o.j) x)])/\(a.cell? ⟨j,0,none⟩=some (wp H.kb)/\a.cell? ⟨H.kb,2,none⟩=some (wp H.f)/\a.cell? ⟨k,0,none⟩=some (wp (H.hs o.j))/\a.cell? ⟨H.hs o.j,1,none⟩=some (wp (H.tb o.j))/\a.cell? ⟨g,0,none⟩=some (.int .i64 x))/\a.frozen? ⟨b,0,none⟩=false/\(∃v,a.cell? ⟨b,0,none⟩=some v)/\((a.setCell ⟨b,0,none⟩ (.int .i64 (jr (au S o.j) x))).cell? ⟨j,0,none⟩=some (wp H.kb)/\(a.setCell ⟨b,0,none⟩ (.int .i64 (jr (au S o.j) x))).cell? ⟨H.kb,2,none⟩=some (wp H.f)/\(a.setCell ⟨b,0,none⟩ (.int .i64 (jr (au S o.j) x))).cell? ⟨k,0,none⟩=some (wp (H.hs o.j))/\(a.setCell ⟨b,0,none⟩ (.int .i64 (jr (au S o.j) x))).cell? ⟨H.hs o.j,1,none⟩=some (wp (H.tb o.j))/\(a.setCell ⟨b,0,none⟩ (.int .i64 (jr (au S o.j) x))).cell? ⟨g,0,none⟩=some (.int .i64 x))/\
  Aside ((a.setCell ⟨b,0,none⟩ (.int .i64 (jr (au S o.j) x))).cell? ⟨b,0,none⟩=some (.int .i64 (jr (au S o.j) x))/\∃d,Out (a.setCell ⟨b,0,none⟩ (.int .i64 (jr (au S o.j) x))) d b/\KX (a.setCell ⟨b,0,none⟩ (.int .i64 (jr (au S o.j) x))) m H (S.files (lM S.D (au S o.j) x) o.j (lL (au S o.j) x)) U q d/\Stp w (a.setCell ⟨b,0,none⟩ (.int .i64 (jr (au S o.j) x))) (vL A (fun i=>i=b)) (vL d (fun i=>i=b))):=by
  refine((h.below (bH w)).afJ (h.rR t) x).mono ?_;rintro y a ⟨rfl,d,s,M⟩;have l:Stp w a A d:=Stp.base (V:=w.drew) rfl rfl rfl rfl M;have f:=I.p8 l;have r:=J.p8 l;obtain⟨v,z⟩:=f.2.2.2.2.2;have C:=r.set (x:=b) (fun y G=>by
   simp at G;rcases G with rfl|rfl|rfl<;>first|exact n.1|exact n.2.1|exact n.2.2) (.int .i64 (jr (au S o.j) x))
  have F:=s.box f (.int .i64 (jr (au S o.j) x));exact⟨rfl,c s t r,f.2.2.2.2.1,⟨v,z⟩,c F t C,f.got _,d,f.set _,F,L8 l _ u⟩
 generalize jH (au S o.j) x=E at *;generalize jr (au S o.j) x=K at *;generalize S.files (lM S.D (au S o.j) x) o.j (lL (au S o.j) x)=S2 at *;go_enter Tryz.func151,Tryz.ntmps151
 go_upto_region 1 with fail
 go_region_held3 (fun a=>a.cell? ⟨j,0,none⟩=some (wp H.kb)/\a.cell? ⟨H.kb,2,none⟩=some (wp H.f)/\a.cell? ⟨k,0,none⟩=some (wp (H.hs o.j))/\a.cell? ⟨H.hs o.j,1,none⟩=some (wp (H.tb o.j))/\a.cell? ⟨g,0,none⟩=some (.int .i64 x)) (first|exact T|exact R|exact Q) (first
  |(go_at_call 152;refine P.mono ?_;rintro e W ⟨rfl,R,Y,⟨X,N⟩,Q,O⟩))
 all_goals
  go_wp2_with fail
  go_ret;exact⟨rfl,O.out⟩
end
section
variable {w w' w1 w2 V:World}{m:Int}{H:KH}{S:KS}{U:Nat→Nat→Int}{q:Nat}{G:KG}{A A' X:Nat→Prop}{p:Int}{o:Ow}
theorem Stp.inner(a:Below w.heap.size w V)(st:Stp V w2 (vL A X) (vL A' X))(c:∀i,X i->w.heap.size<=i):Stp w w2 A A':=
 ⟨⟨st.wt.os.trans a.os,st.wt.tape.trans a.tape,st.wt.output.trans a.output,le_trans a.size st.wt.size,fun i b d=>by
  rw[st.wt.block i (lt_of_lt_of_le b a.size) (fun z=>by
   rcases z with z|z
   ·exact d z
   ·have:=c i z;omega)]
  exact a.block i b⟩,fun i b=>by
  rcases st.own i (.inl b) with z|z
  ·rcases z with z|z
   ·exact .inl z
   ·exact .inr (c i z)
  ·exact .inr (le_trans a.size z)⟩
theorem Stp.boxed{x:Nat}(st:Stp w w2 A A')(c:w.heap.size<=x)(v:Value):Stp w (w2.setCell ⟨x,0,none⟩ v) A A':=
 ⟨⟨st.wt.os,st.wt.tape,st.wt.output,by simpa[World.setCell] using st.wt.size,fun i b a=>by
  rw[Below.heap_setCell _ _ _ _ (fun e=>by simp only at e;omega)];exact st.wt.block i b a⟩,st.own⟩
theorem KN.box(h:KN w m H S q A){x:Nat}(a:Out w A x)(v:Value):KN (w.setCell ⟨x,0,none⟩ v) m H S q A:=⟨h.1.box a v,h.2⟩
theorem KX.Rc(h:KX w m H S U q A)(_hb:Below w.heap.size w V){x:Nat}(c:w.heap.size<=x){v:Value}(b:V.cell? ⟨x,0,none⟩=some v)(a:V.frozen? ⟨x,0,none⟩=false):Out V A x:=by
 obtain⟨G,k,e⟩:=h;have g:=k.qi;have f:=k.qm;have d:=k.jX;exact⟨fun z=>by have:=k.Bd x ((e x).1 z);omega,by omega,by omega,by omega,a,v,b⟩
theorem qK(c:Below w.heap.size w V){x:Nat}(b:x<w.heap.size)(h:w.frozen? ⟨x,0,none⟩=false):V.frozen? ⟨x,0,none⟩=false:=by
 rw[frozen?_of_block (w:=w) (a:=⟨x,0,none⟩) (c.block x b)];exact h
def lS(S:KS)(o:Ow)(n:Int):Prop:=((ak (au S o.j):Nat):Int)+n<=o.m 1
instance (S:KS) (o:Ow) (n:Int):Decidable (lS S o n):=by unfold lS;infer_instance
def rW(S:KS)(o:Ow)(x:Int):Int:=if lS S o 1 then jH (au S o.j) x else 4
def ng(S:KS)(o:Ow)(x:Int):Int:=if lS S o 1 then jr (au S o.j) x else 0
def uB(S:KS)(o:Ow)(x:Int):KS:=if lS S o 1 then S.files (lM S.D (au S o.j) x) o.j (lL (au S o.j) x) else S
theorem KN.XY(h:KN w m H S q A)(ho:S.O p=some o)(x:Int):Calls prog 94 #[wp H.kb,.int .i64 p,.int .i64 x] w fun y w'=>y=.returned (.tuple #[.int .i64 (ng S o x),aI (rW S o x)])/\∃A',KN w' m H (uB S o x) (q+1) A'/\Stp w w' A A':=by
 have hpay:∀(V:World) (xk xh xn xo:Nat),Below w.heap.size w V->rP V A [(xk,wp H.kb),(xh,wp (H.hs o.j)),(xn,.int .i64 x)]->xk≠xo/\xh≠xo/\xn≠xo->w.heap.size<=xo->Out V A xo->V.cell? ⟨xo,0,none⟩=some (.int .i64 0)->
  Calls prog 150 #[wp (H.hs o.j),.int .i64 1,.int .i64 1,.func (.func 151) #[] #[wp xk,wp xh,wp xn,wp xo]] V fun y w'=>y=.returned (aI (rW S o x))/\w'.cell? ⟨xo,0,none⟩=some (.int .i64 (ng S o x))/\w'.frozen? ⟨xo,0,none⟩=false/\(w'.setCell ⟨xo,0,none⟩ (.int .i64 (ng S o x))).cell? ⟨xo,0,none⟩=some (.int .i64 (ng S o x))/\Aside (∃A',KN (w'.setCell ⟨xo,0,none⟩ (.int .i64 (ng S o x))) m H (uB S o x) (q+1) A'/\Stp w (w'.setCell ⟨xo,0,none⟩ (.int .i64 (ng S o x))) A A'):=fun V xk xh xn xo bV bx hne hxo hout hz=>by
  have hxl:xo<V.heap.size:=block_lt_of_cell? V _ hz;refine(KX.qG (h.below bV) ho (n:=1) ⟨by omega,by omega⟩ (fn:=151) (lb:=#[wp xk,wp xh,wp xn,wp xo]) (fun args w=>by kernel_rfl) (X:=fun i=>i=xo) (fun i hi=>by rw[hi];exact hxl) (Q:=fun c D' N' w2=>c=jH (au S o.j) x/\D'=lM S.D (au S o.j) x/\N'=lL (au S o.j) x/\w2.cell? ⟨xo,0,none⟩=some (.int .i64 (jr (au S o.j) x))/\w2.frozen? ⟨xo,0,none⟩=false) ?_ ?_).mono ?_
  ·rintro c D' N' w2 w3 ⟨h1,h2,h3,h4,h5⟩ g;have hk:w3.heap[xo]? = w2.heap[xo]? := g.block xo (block_lt_of_cell? w2 _ h4) (fun e=>by
    have:=hout.1;have e2:=Option.some.inj e;have hA:=h.1;obtain⟨G,k,hκ⟩:=hA;exact this ((hκ xo).2 (by rw[e2,k.k5 p o ho];omega)))
   exact⟨h1,h2,h3,by rw[cell?_of_block (w:=w2) (a:=⟨xo,0,none⟩) hk];exact h4,by rw[frozen?_of_block (w:=w2) (a:=⟨xo,0,none⟩) hk];exact h5⟩
  ·intro V1 k1 st1;refine(k1.afL ho x (bx.p8 st1) (hout.p8 st1) hne).mono ?_;rintro y w2 ⟨rfl,hc,A2,hout2,k2,st2⟩;obtain⟨u1,u2⟩:=Sz (D:=S.D) (h.1.oW o.j) x;refine⟨_,_,_,rfl,⟨rfl,rfl,rfl,hc,hout2.2.2.2.2.1⟩,fun e=>?_,fun e=>?_,A2,fun i hi=>by rw[hi];exact hout2.1,k2.more (by omega),st2⟩
   ·rw[u1 e];rfl
   ·exact⟨(u2 e).2.1,(u2 e).2.2⟩
  ·rintro y w2 ⟨c,rfl,hR⟩;rcases hR with⟨hc,rfl,A2,k2,st2⟩|⟨hc,D',N',⟨rfl,rfl,rfl,h4,h5⟩,A2,nA,k2,st2⟩
   ·have hc':¬lS S o 1:=hc;have ho2:=hout.p8 st2;have hz2:w2.cell? ⟨xo,0,none⟩=some (.int .i64 0):=(st2.cO hz hout.1).1;unfold rW ng uB;rw[if_neg hc',if_neg hc',if_neg hc'];exact⟨rfl,hz2,ho2.2.2.2.2.1,ho2.got _,A2,(k2.more (by omega)).box ho2 _,(st2.after bV).boxed hxo _⟩
   ·have hc':lS S o 1:=hc;have ho2:Out w2 A2 xo:=⟨nA xo rfl,hout.2.1,hout.2.2.1,hout.2.2.2.1,h5,_,h4⟩;unfold rW ng uB;rw[if_pos hc',if_pos hc',if_pos hc'];exact⟨rfl,h4,h5,ho2.got _,A2,k2.box ho2 _,(Stp.inner bV st2 (fun i hi=>by rw[hi];exact hxo)).boxed hxo _⟩
 have hF:=fun W (hb:Below w.heap.size w W)=>(h.1.below hb).ay ho;have hA:=h.1.lt;have hO:=fun V (hb:Below w.heap.size w V) x v hx hc hf=>h.1.Rc (V:=V) hb (x:=x) hx (v:=v) hc hf;generalize rW S o x=E at *;generalize ng S o x=K at *;generalize uB S o x=S2 at *;have HP:Aside _:=hpay;have HF:Aside _:=hF;have HO:Aside _:=hO;go_enter Tryz.func94,Tryz.ntmps94
 go_upto_region 1 with fail
 obtain⟨b3,s3,c1,c2,c3⟩:=Q3 w (wp H.kb) (.int .i64 x) (.int .i64 0) 26 3 3;have f3:=(sG ((w.alloc (.cells #[wp H.kb] 26)).alloc (.cells #[.int .i64 x] 3)) (.int .i64 0) 3).2.2.2;rw[(Q4 w (wp H.kb) (.int .i64 x) 26 3).2.1] at f3;generalize ((w.alloc (.cells #[wp H.kb] 26)).alloc (.cells #[.int .i64 x] 3)).alloc (.cells #[.int .i64 0] 3)=W at *;have hF:=HF.out W b3;go_upto_region 4 with (go_at_call 127;refine hF.mono ?_;rintro e w1 ⟨rfl,hw⟩;subst w1)
 obtain⟨b4,s4,c4,_⟩:=sG W (wp (H.hs o.j)) 59;rw[s3] at c4;have d1:=dm b4 c1;have d2:=dm b4 c2;have d3:=dm b4 c3;have f4:=qK b4 (block_lt_of_cell? W _ c3) f3;generalize W.alloc (.cells #[wp (H.hs o.j)] 59)=V at *;have bV:Below w.heap.size w V:=b3.trans (b4.mono b3.size);have hP:=HP.out V w.heap.size (w.heap.size+1+1+1) (w.heap.size+1) (w.heap.size+1+1) bV (fun y hy=>by
  have hn:∀i,w.heap.size<=i->¬A i:=fun i hi z=>by have:=hA i z;omega
  simp only[mem_cons,not_mem_nil,or_false] at hy;rcases hy with rfl|rfl|rfl
  ·exact⟨d1,hn _ (le_refl _)⟩
  ·exact⟨c4,hn _ (by omega)⟩
  ·exact⟨d2,hn _ (by omega)⟩) ⟨by omega,by omega,by omega⟩ (by omega) (HO.out V bV _ _ (by omega) d3 f4) d3
 go_wp2_with (go_at_call 150;refine hP.mono ?_;rintro e w1 ⟨rfl,g1,g2,g3,hR⟩)
 refine bodyPost_ret (v:=.tuple #[.int .i64 K,aI E]) (by simp[results,Tryz.results94,go_sem,g3]) rfl ⟨rfl,hR.out⟩
end
section
variable {w w' w1 w2 V:World}{m:Int}{H:KH}{S:KS}{U:Nat→Nat→Int}{q:Nat}{G:KG}{A A' X:Nat→Prop}{p:Int}{o:Ow}
theorem KX.adm(h:KX w m H S U q A)(G:S.O p=some o)(Z:q<=400){n s:Nat}(hN:p9 S.D.E n)(Y:dD S.D.T s)(b:List UInt8)(hp:b.length<100000)(k:Int)(mk:Bool){t u xs l r d:Nat}(Q:rP w A [(t,wp H.kb),(u,wp (H.hs o.j)),(xs,tx b),(l,.int .i64 k),(r,.bool mk)])(P:Out w A d)(j:t≠d/\u≠d/\xs≠d/\l≠d/\r≠d):Calls prog 174 #[wp t,wp u,wp xs,wp l,wp r,wp d] w fun y a=>∃x c B z,y=.returned (aI c)/\iM S.D (au S o.j) n s b k mk x c B z/\a.cell? ⟨d,0,none⟩=some (.int .i64 x)/\∃A',Out a A' d/\KX a m H (S.files B o.j z) U (q+1) A'/\Stp w a (vL A (fun i=>i=d)) (vL A' (fun i=>i=d)):=by
 have I:d<w.heap.size:=by obtain⟨_,_,_,_,_,v,J⟩:=P;exact block_lt_of_cell? w _ J
 have f:∀ {a:World}{A':Nat->Prop}{R:KS}{W:Nat},KX a m H R U W A'->R.O p=some o->rP a A' [(t,wp H.kb),(u,wp (H.hs o.j)),(xs,tx b),(l,.int .i64 k),(r,.bool mk)]->a.cell? ⟨t,0,none⟩=some (wp H.kb)/\a.cell? ⟨H.kb,2,none⟩=some (wp H.f)/\a.cell? ⟨u,0,none⟩=some (wp (H.hs o.j))/\a.cell? ⟨H.hs o.j,1,none⟩=some (wp (H.tb o.j))/\a.cell? ⟨xs,0,none⟩=some (tx b)/\a.cell? ⟨l,0,none⟩=some (.int .i64 k)/\a.cell? ⟨r,0,none⟩=some (.bool mk):=fun E K F=>
  ⟨(F (t,_) (by simp)).1,E.c2,(F (u,_) (by simp)).1,(E.hd K).at 1,(F (xs,_) (by simp)).1,(F (l,_) (by simp)).1,(F (r,_) (by simp)).1⟩
 have c0:=f h G Q;have hM:Calls prog 175 #[wp H.f,wp (H.tb o.j),tx b,.int .i64 k,.bool mk] w.drew fun y a=>∃x c,y=.returned (.tuple #[.int .i64 x,aI c])/\(a.cell? ⟨t,0,none⟩=some (wp H.kb)/\a.cell? ⟨H.kb,2,none⟩=some (wp H.f)/\a.cell? ⟨u,0,none⟩=some (wp (H.hs o.j))/\a.cell? ⟨H.hs o.j,1,none⟩=some (wp (H.tb o.j))/\a.cell? ⟨xs,0,none⟩=some (tx b)/\a.cell? ⟨l,0,none⟩=some (.int .i64 k)/\a.cell? ⟨r,0,none⟩=some (.bool mk))/\a.frozen? ⟨d,0,none⟩=false/\(∃v,a.cell? ⟨d,0,none⟩=some v)/\((a.setCell ⟨d,0,none⟩ (.int .i64 x)).cell? ⟨t,0,none⟩=some (wp H.kb)/\(a.setCell ⟨d,0,none⟩ (.int .i64 x)).cell? ⟨H.kb,2,none⟩=some (wp H.f)/\(a.setCell ⟨d,0,none⟩ (.int .i64 x)).cell? ⟨u,0,none⟩=some (wp (H.hs o.j))/\(a.setCell ⟨d,0,none⟩ (.int .i64 x)).cell? ⟨H.hs o.j,1,none⟩=some (wp (H.tb o.j))/\(a.setCell ⟨d,0,none⟩ (.int .i64 x)).cell? ⟨xs,0,none⟩=some (tx b)/\(a.setCell ⟨d,0,none⟩ (.int .i64 x)).cell? ⟨l,0,none⟩=some (.int .i64 k)/\(a.setCell ⟨d,0,none⟩ (.int .i64 x)).cell? ⟨r,0,none⟩=some (.bool mk))/\
  Aside (∃B z,iM S.D (au S o.j) n s b k mk x c B z/\(a.setCell ⟨d,0,none⟩ (.int .i64 x)).cell? ⟨d,0,none⟩=some (.int .i64 x)/\∃A',Out (a.setCell ⟨d,0,none⟩ (.int .i64 x)) A' d/\KX (a.setCell ⟨d,0,none⟩ (.int .i64 x)) m H (S.files B o.j z) U (q+1) A'/\Stp w (a.setCell ⟨d,0,none⟩ (.int .i64 x)) (vL A (fun i=>i=d)) (vL A' (fun i=>i=d))):=by
  refine((h.below (bH w)).bF (h.rR G) Z hN Y b hp k mk).mono ?_;rintro y a ⟨B,z,⟨x,c,rfl,hF⟩,A',E,T⟩;have C:Stp w a A A':=Stp.base (V:=w.drew) rfl rfl rfl rfl T;have g:=P.p8 C;have D:=Q.p8 C;obtain⟨v,J⟩:=g.2.2.2.2.2;have L:=D.set (x:=d) (fun y O=>by
   simp at O;rcases O with rfl|rfl|rfl|rfl|rfl<;>first|exact j.1|exact j.2.1|exact j.2.2.1|exact j.2.2.2.1|exact j.2.2.2.2) (.int .i64 x)
  have N:=E.box g (.int .i64 x);exact⟨x,c,rfl,f E G D,g.2.2.2.2.1,⟨v,J⟩,f N G L,B,z,hF,g.got _,A',g.set _,N,L8 C _ I⟩
 go_enter Tryz.func174,Tryz.ntmps174
 go_upto_region 1 with fail
 go_region_held3 (fun a=>a.cell? ⟨t,0,none⟩=some (wp H.kb)/\a.cell? ⟨H.kb,2,none⟩=some (wp H.f)/\a.cell? ⟨u,0,none⟩=some (wp (H.hs o.j))/\a.cell? ⟨H.hs o.j,1,none⟩=some (wp (H.tb o.j))/\a.cell? ⟨xs,0,none⟩=some (tx b)/\a.cell? ⟨l,0,none⟩=some (.int .i64 k)/\a.cell? ⟨r,0,none⟩=some (.bool mk)) (first|exact c0|exact c1|exact c3) (first
  |(go_at_call 175;refine hM.mono ?_;rintro e w1 ⟨x,c,rfl,c1,f1,⟨v1,X⟩,c3,M⟩))
 all_goals
  go_wp2_with fail
  go_ret;obtain⟨B,z,M⟩:=M.out;exact⟨x,c,B,z,rfl,M⟩
def FV(S:KS)(o:Ow)(n s:Nat)(path:List UInt8)(pr:Int)(mk:Bool)(x c:Int)(S':KS):Prop:=(¬lS S o 1/\x=0/\c=4/\S'=S)\/(lS S o 1/\∃D' N',iM S.D (au S o.j) n s path pr mk x c D' N'/\S'=S.files D' o.j N')
theorem KN.Uz(h:KN w m H S q A)(ho:S.O p=some o)(hq:q<=400){n s:Nat}(hN:p9 S.D.E n)(hs:dD S.D.T s)(path:List UInt8)(hp:path.length<100000)(pr:Int)(mk:Bool):Calls prog 109 #[wp H.kb,.int .i64 p,tx path,.int .i64 pr,.bool mk] w fun y w'=>∃x c S',y=.returned (.tuple #[.int .i64 x,aI c])/\FV S o n s path pr mk x c S'/\∃A',KN w' m H S' (q+1) A'/\Stp w w' A A':=by
 have hpay:∀(V:World) (xk xh xs xp xm xo:Nat),Below w.heap.size w V->rP V A [(xk,wp H.kb),(xh,wp (H.hs o.j)),(xs,tx path),(xp,.int .i64 pr),(xm,.bool mk)]->xk≠xo/\xh≠xo/\xs≠xo/\xp≠xo/\xm≠xo->w.heap.size<=xo->Out V A xo->V.cell? ⟨xo,0,none⟩=some (.int .i64 0)->
  Calls prog 150 #[wp (H.hs o.j),.int .i64 1,.int .i64 1,.func (.func 174) #[] #[wp xk,wp xh,wp xs,wp xp,wp xm,wp xo]] V fun y w'=>∃x c,y=.returned (aI c)/\w'.cell? ⟨xo,0,none⟩=some (.int .i64 x)/\w'.frozen? ⟨xo,0,none⟩=false/\(w'.setCell ⟨xo,0,none⟩ (.int .i64 x)).cell? ⟨xo,0,none⟩=some (.int .i64 x)/\Aside (∃S',FV S o n s path pr mk x c S'/\∃A',KN (w'.setCell ⟨xo,0,none⟩ (.int .i64 x)) m H S' (q+1) A'/\Stp w (w'.setCell ⟨xo,0,none⟩ (.int .i64 x)) A A'):=fun V xk xh xs xp xm xo bV bx hne hxo hout hz=>by
  have hxl:xo<V.heap.size:=block_lt_of_cell? V _ hz;refine(KX.qG (h.below bV) ho (n:=1) ⟨by omega,by omega⟩ (fn:=174) (lb:=#[wp xk,wp xh,wp xs,wp xp,wp xm,wp xo]) (fun args w=>by kernel_rfl) (X:=fun i=>i=xo) (fun i hi=>by rw[hi];exact hxl) (Q:=fun c D' N' w2=>∃x,iM S.D (au S o.j) n s path pr mk x c D' N'/\w2.cell? ⟨xo,0,none⟩=some (.int .i64 x)/\w2.frozen? ⟨xo,0,none⟩=false) ?_ ?_).mono ?_
  ·rintro c D' N' w2 w3 ⟨x,h1,h4,h5⟩ g;have hk:w3.heap[xo]? = w2.heap[xo]? := g.block xo (block_lt_of_cell? w2 _ h4) (fun e=>by
    have:=hout.1;have e2:=Option.some.inj e;have hA:=h.1;obtain⟨G,k,hκ⟩:=hA;exact this ((hκ xo).2 (by rw[e2,k.k5 p o ho];omega)))
   exact⟨x,h1,by rw[cell?_of_block (w:=w2) (a:=⟨xo,0,none⟩) hk];exact h4,by rw[frozen?_of_block (w:=w2) (a:=⟨xo,0,none⟩) hk];exact h5⟩
  ·intro V1 k1 st1;refine(k1.adm ho hq hN hs path hp pr mk (bx.p8 st1) (hout.p8 st1) hne).mono ?_;rintro y w2 ⟨x,c,D',N',rfl,hF,hc,A2,hout2,k2,st2⟩;obtain⟨u1,u2⟩:=NJ (h.1.oW o.j) h.1.inv.core.jW.n0 hF;refine⟨_,_,_,rfl,⟨x,hF,hc,hout2.2.2.2.2.1⟩,fun e=>?_,fun e=>?_,A2,fun i hi=>by rw[hi];exact hout2.1,k2,st2⟩
   ·rw[u1 e];rfl
   ·exact⟨(u2 e).2.1,(u2 e).2.2⟩
  ·rintro y w2 ⟨c,rfl,hR⟩;rcases hR with⟨hc,rfl,A2,k2,st2⟩|⟨hc,D',N',⟨x,hF,h4,h5⟩,A2,nA,k2,st2⟩
   ·have ho2:=hout.p8 st2;have hz2:w2.cell? ⟨xo,0,none⟩=some (.int .i64 0):=(st2.cO hz hout.1).1;exact⟨0,4,rfl,hz2,ho2.2.2.2.2.1,ho2.got _,S,.inl ⟨hc,rfl,rfl,rfl⟩,A2,(k2.more (by omega)).box ho2 _,(st2.after bV).boxed hxo _⟩
   ·have ho2:Out w2 A2 xo:=⟨nA xo rfl,hout.2.1,hout.2.2.1,hout.2.2.2.1,h5,_,h4⟩;exact⟨x,c,rfl,h4,h5,ho2.got _,_,.inr ⟨hc,D',N',hF,rfl⟩,A2,k2.box ho2 _,(Stp.inner bV st2 (fun i hi=>by rw[hi];exact hxo)).boxed hxo _⟩
 have hF:=fun W (hb:Below w.heap.size w W)=>(h.1.below hb).ay ho;have hA:=h.1.lt;have hO:=fun V (hb:Below w.heap.size w V) x v hx hc hf=>h.1.Rc (V:=V) hb (x:=x) hx (v:=v) hc hf;have HP:Aside _:=hpay;have HF:Aside _:=hF;have HO:Aside _:=hO;go_enter Tryz.func109,Tryz.ntmps109
 go_upto_region 1 with fail
 obtain⟨b3,s3,c1,c2,c3⟩:=Q3 w (wp H.kb) (tx path) (.int .i64 pr) 26 9 3;generalize ((w.alloc (.cells #[wp H.kb] 26)).alloc (.cells #[tx path] 9)).alloc (.cells #[.int .i64 pr] 3)=W3 at *;obtain⟨b5,s5,c4,c5⟩:=Q4 W3 (.bool mk) (.int .i64 0) 4 3;have f5:=(sG (W3.alloc (.cells #[.bool mk] 4)) (.int .i64 0) 3).2.2.2;rw[(sG W3 (.bool mk) 4).2.1] at f5;rw[s3] at s5 c4 c5 f5;have c1':=dm b5 c1;have c2':=dm b5 c2;have c3':=dm b5 c3;generalize (W3.alloc (.cells #[.bool mk] 4)).alloc (.cells #[.int .i64 0] 3)=W at *;have bW:Below w.heap.size w W:=b3.trans (b5.mono b3.size);have hF:=HF.out W bW;go_upto_region 4 with (go_at_call 127;refine hF.mono ?_;rintro e w1 ⟨rfl,hw⟩;subst w1)
 obtain⟨b6,s6,c6,_⟩:=sG W (wp (H.hs o.j)) 59;rw[s5] at c6;have d1:=dm b6 c1';have d2:=dm b6 c2';have d3:=dm b6 c3';have d4:=dm b6 c4;have d5:=dm b6 c5;have f6:=qK b6 (block_lt_of_cell? W _ c5) f5;generalize W.alloc (.cells #[wp (H.hs o.j)] 59)=V at *;have bV:Below w.heap.size w V:=bW.trans (b6.mono bW.size);have hP:=HP.out V w.heap.size (w.heap.size+1+1+1+1+1) (w.heap.size+1) (w.heap.size+1+1) (w.heap.size+1+1+1) (w.heap.size+1+1+1+1) bV (fun y hy=>by
  have hn:∀i,w.heap.size<=i->¬A i:=fun i hi z=>by have:=hA i z;omega
  simp only[mem_cons,not_mem_nil,or_false] at hy;rcases hy with rfl|rfl|rfl|rfl|rfl
  ·exact⟨d1,hn _ (le_refl _)⟩
  ·exact⟨c6,hn _ (by omega)⟩
  ·exact⟨d2,hn _ (by omega)⟩
  ·exact⟨d3,hn _ (by omega)⟩
  ·exact⟨d4,hn _ (by omega)⟩) ⟨by omega,by omega,by omega,by omega,by omega⟩ (by omega) (HO.out V bV _ _ (by omega) d5 f6) d5
 go_wp2_with (go_at_call 150;refine hP.mono ?_;rintro e w1 ⟨x,c,rfl,g1,g2,g3,hR⟩)
 obtain⟨S',hF,hR⟩:=hR.out;refine bodyPost_ret (v:=.tuple #[.int .i64 x,aI c]) (by simp[results,Tryz.results109,go_sem,g3]) rfl ⟨x,c,S',rfl,hF,hR⟩
end
section
variable {w w' w1 w2 V:World}{m:Int}{H:KH}{S:KS}{U:Nat→Nat→Int}{q:Nat}{G:KG}{A A' X:Nat→Prop}{p:Int}{o:Ow}
theorem Gc{x y:Nat}{d:Nat->Prop}(st:Stp w w1 A d)(u v:Value){X:Nat->Prop}(c:X x/\X y):Stp w ((w1.setCell ⟨x,0,none⟩ u).setCell ⟨y,0,none⟩ v) (vL A X) (vL d X):=
 ⟨⟨st.wt.os,st.wt.tape,st.wt.output,by simpa[World.setCell] using st.wt.size,fun i b a=>by
  rw[Below.heap_setCell _ _ _ _ (fun e=>a (.inr (by simp only at e;rw[e];exact c.2))),Below.heap_setCell _ _ _ _ (fun e=>a (.inr (by simp only at e;rw[e];exact c.1)))];exact st.wt.block i b (fun z=>a (.inl z))⟩,fun i b=>by
  rcases b with z|z
  ·rcases st.own i z with y|y
   ·exact .inl (.inl y)
   ·exact .inr y
  ·exact .inl (.inr z)⟩
theorem KX.ac1(h:KX w m H S U q A)(B:S.O p=some o)(hq:q<=400){n:Nat}(hN:p9 S.D.E n){k l d b:Nat}(T:rP w A [(k,wp H.kb),(l,wp (H.hs o.j))])(M:Out w A d)(L:Out w A b)(r:k≠d/\l≠d/\k≠b/\l≠b/\d≠b):Calls prog 176 #[wp k,wp l,wp d,wp b] w fun y a=>∃x f c u t,y=.returned (aI c)/\rX S.D (au S o.j) n x f c u t/\(a.cell? ⟨d,0,none⟩=some (.int .i64 x)/\a.cell? ⟨b,0,none⟩=some (.int .i64 f)/\∃A',Out a A' d/\Out a A' b/\KX a m H (S.files u o.j t) U (q+1) A'/\Stp w a (vL A (fun i=>i=d\/i=b)) (vL A' (fun i=>i=d\/i=b))):=by
 have g:∀ {a:World}{A':Nat->Prop}{Z:KS}{q':Nat},KX a m H Z U q' A'->Z.O p=some o->rP a A' [(k,wp H.kb),(l,wp (H.hs o.j))]->a.cell? ⟨k,0,none⟩=some (wp H.kb)/\a.cell? ⟨H.kb,2,none⟩=some (wp H.f)/\a.cell? ⟨l,0,none⟩=some (wp (H.hs o.j))/\a.cell? ⟨H.hs o.j,1,none⟩=some (wp (H.tb o.j)):=fun D N Y=>
  ⟨(Y (k,_) (by simp)).1,D.c2,(Y (l,_) (by simp)).1,(D.hd N).at 1⟩
 have c0:=g h B T;have hM:Calls prog 177 #[wp H.f,wp (H.tb o.j)] w.drew fun y a=>∃x f c,y=.returned (.tuple #[.int .i64 x,.int .i64 f,aI c])/\(a.cell? ⟨k,0,none⟩=some (wp H.kb)/\a.cell? ⟨H.kb,2,none⟩=some (wp H.f)/\a.cell? ⟨l,0,none⟩=some (wp (H.hs o.j))/\a.cell? ⟨H.hs o.j,1,none⟩=some (wp (H.tb o.j)))/\(a.frozen? ⟨d,0,none⟩=false/\a.frozen? ⟨b,0,none⟩=false)/\(∃v,a.cell? ⟨d,0,none⟩=some v)/\(∃v,a.cell? ⟨b,0,none⟩=some v)/\(∃v,(a.setCell ⟨d,0,none⟩ (.int .i64 x)).cell? ⟨b,0,none⟩=some v)/\(∃v,(a.setCell ⟨b,0,none⟩ (.int .i64 f)).cell? ⟨d,0,none⟩=some v)/\((a.setCell ⟨d,0,none⟩ (.int .i64 x)).cell? ⟨k,0,none⟩=some (wp H.kb)/\(a.setCell ⟨d,0,none⟩ (.int .i64 x)).cell? ⟨H.kb,2,none⟩=some (wp H.f)/\(a.setCell ⟨d,0,none⟩ (.int .i64 x)).cell? ⟨l,0,none⟩=some (wp (H.hs o.j))/\(a.setCell ⟨d,0,none⟩ (.int .i64 x)).cell? ⟨H.hs o.j,1,none⟩=some (wp (H.tb o.j)))/\((a.setCell ⟨b,0,none⟩ (.int .i64 f)).cell? ⟨k,0,none⟩=some (wp H.kb)/\(a.setCell ⟨b,0,none⟩ (.int .i64 f)).cell? ⟨H.kb,2,none⟩=some (wp H.f)/\(a.setCell ⟨b,0,none⟩ (.int .i64 f)).cell? ⟨l,0,none⟩=some (wp (H.hs o.j))/\(a.setCell ⟨b,0,none⟩ (.int .i64 f)).cell? ⟨H.hs o.j,1,none⟩=some (wp (H.tb o.j)))/\(((a.setCell ⟨d,0,none⟩ (.int .i64 x)).setCell ⟨b,0,none⟩ (.int .i64 f)).cell? ⟨k,0,none⟩=some (wp H.kb)/\((a.setCell ⟨d,0,none⟩ (.int .i64 x)).setCell ⟨b,0,none⟩ (.int .i64 f)).cell? ⟨H.kb,2,none⟩=some (wp H.f)/\((a.setCell ⟨d,0,none⟩ (.int .i64 x)).setCell ⟨b,0,none⟩ (.int .i64 f)).cell? ⟨l,0,none⟩=some (wp (H.hs o.j))/\((a.setCell ⟨d,0,none⟩ (.int .i64 x)).setCell ⟨b,0,none⟩ (.int .i64 f)).cell? ⟨H.hs o.j,1,none⟩=some (wp (H.tb o.j)))/\(((a.setCell ⟨b,0,none⟩ (.int .i64 f)).setCell ⟨d,0,none⟩ (.int .i64 x)).cell? ⟨k,0,none⟩=some (wp H.kb)/\((a.setCell ⟨b,0,none⟩ (.int .i64 f)).setCell ⟨d,0,none⟩ (.int .i64 x)).cell? ⟨H.kb,2,none⟩=some (wp H.f)/\((a.setCell ⟨b,0,none⟩ (.int .i64 f)).setCell ⟨d,0,none⟩ (.int .i64 x)).cell? ⟨l,0,none⟩=some (wp (H.hs o.j))/\((a.setCell ⟨b,0,none⟩ (.int .i64 f)).setCell ⟨d,0,none⟩ (.int .i64 x)).cell? ⟨H.hs o.j,1,none⟩=some (wp (H.tb o.j)))/\
  Aside (∃u t,rX S.D (au S o.j) n x f c u t/\(((a.setCell ⟨d,0,none⟩ (.int .i64 x)).setCell ⟨b,0,none⟩ (.int .i64 f)).cell? ⟨d,0,none⟩=some (.int .i64 x)/\((a.setCell ⟨d,0,none⟩ (.int .i64 x)).setCell ⟨b,0,none⟩ (.int .i64 f)).cell? ⟨b,0,none⟩=some (.int .i64 f)/\∃A',Out ((a.setCell ⟨d,0,none⟩ (.int .i64 x)).setCell ⟨b,0,none⟩ (.int .i64 f)) A' d/\Out ((a.setCell ⟨d,0,none⟩ (.int .i64 x)).setCell ⟨b,0,none⟩ (.int .i64 f)) A' b/\KX ((a.setCell ⟨d,0,none⟩ (.int .i64 x)).setCell ⟨b,0,none⟩ (.int .i64 f)) m H (S.files u o.j t) U (q+1) A'/\Stp w ((a.setCell ⟨d,0,none⟩ (.int .i64 x)).setCell ⟨b,0,none⟩ (.int .i64 f)) (vL A (fun i=>i=d\/i=b)) (vL A' (fun i=>i=d\/i=b)))/\(((a.setCell ⟨b,0,none⟩ (.int .i64 f)).setCell ⟨d,0,none⟩ (.int .i64 x)).cell? ⟨d,0,none⟩=some (.int .i64 x)/\((a.setCell ⟨b,0,none⟩ (.int .i64 f)).setCell ⟨d,0,none⟩ (.int .i64 x)).cell? ⟨b,0,none⟩=some (.int .i64 f)/\∃A',Out ((a.setCell ⟨b,0,none⟩ (.int .i64 f)).setCell ⟨d,0,none⟩ (.int .i64 x)) A' d/\Out ((a.setCell ⟨b,0,none⟩ (.int .i64 f)).setCell ⟨d,0,none⟩ (.int .i64 x)) A' b/\KX ((a.setCell ⟨b,0,none⟩ (.int .i64 f)).setCell ⟨d,0,none⟩ (.int .i64 x)) m H (S.files u o.j t) U (q+1) A'/\Stp w ((a.setCell ⟨b,0,none⟩ (.int .i64 f)).setCell ⟨d,0,none⟩ (.int .i64 x)) (vL A (fun i=>i=d\/i=b)) (vL A' (fun i=>i=d\/i=b)))):=by
  refine((h.below (bH w)).ac0 (h.rR B) hq hN).mono ?_;rintro y a ⟨u,t,⟨x,f,c,rfl,K⟩,A',D,st⟩;have s:Stp w a A A':=Stp.base (V:=w.drew) rfl rfl rfl rfl st;have j:=M.p8 s;have z:=L.p8 s;have C:=T.p8 s;have F:∀y∈[(k,wp H.kb),(l,wp (H.hs o.j))],(y:Nat×Value).1≠d:=fun y J=>by
   simp at J;rcases J with rfl|rfl<;>first|exact r.1|exact r.2.1
  have E:∀y∈[(k,wp H.kb),(l,wp (H.hs o.j))],(y:Nat×Value).1≠b:=fun y J=>by
   simp at J;rcases J with rfl|rfl<;>first|exact r.2.2.1|exact r.2.2.2.1
  have R:=D.box j (.int .i64 x);have Q:=D.box z (.int .i64 f);have I:=R.box (z.set (y:=d) (.int .i64 x)) (.int .i64 f);have G:=Q.box (j.set (y:=b) (.int .i64 f)) (.int .i64 x);have X:=C.set (x:=d) F (.int .i64 x);have W:=C.set (x:=b) E (.int .i64 f);have P:=X.set (x:=b) E (.int .i64 f);have O:=W.set (x:=d) F (.int .i64 x);refine⟨x,f,c,rfl,g D B C,⟨j.2.2.2.2.1,z.2.2.2.2.1⟩,j.2.2.2.2.2,z.2.2.2.2.2,(z.set (y:=d) (.int .i64 x)).2.2.2.2.2,(j.set (y:=b) (.int .i64 f)).2.2.2.2.2,g R B X,g Q B W,g I B P,g G B O,u,t,K,⟨oM (j.got _) r.2.2.2.2 _,(z.set _).got _,A',(j.set _).set _,(z.set _).set _,I,Gc s _ _ ⟨.inl rfl,.inr rfl⟩⟩,⟨(j.set _).got _,oM (z.got _) (Ne.symm r.2.2.2.2) _,A',(j.set _).set _,(z.set _).set _,G,Gc s _ _ ⟨.inr rfl,.inl rfl⟩⟩⟩
 go_enter Tryz.func176,Tryz.ntmps176
 go_upto_region 1 with fail
 go_region_held3 (fun a=>a.cell? ⟨k,0,none⟩=some (wp H.kb)/\a.cell? ⟨H.kb,2,none⟩=some (wp H.f)/\a.cell? ⟨l,0,none⟩=some (wp (H.hs o.j))/\a.cell? ⟨H.hs o.j,1,none⟩=some (wp (H.tb o.j))) (first|exact c0|exact c1|exact c3|exact c4|exact c5|exact c6) (first
  |(go_at_call 177;refine hM.mono ?_;rintro e w1 ⟨x,f,c,rfl,c1,⟨f1,f2⟩,⟨v1,hv1⟩,⟨v2,hv2⟩,⟨v3,hv3⟩,⟨v4,hv4⟩,c3,c4,c5,c6,hR⟩))
 all_goals
  go_wp2_with fail
  go_ret;obtain⟨u,t,K,r1,r2⟩:=hR.out;first
   |exact⟨x,f,c,u,t,rfl,K,r1⟩
   |exact⟨x,f,c,u,t,rfl,K,r2⟩
def uC(S:KS)(o:Ow)(n:Nat)(x y c:Int)(S':KS):Prop:=(¬lS S o 2/\x=0/\y=0/\c=4/\S'=S)\/(lS S o 2/\∃D' N',rX S.D (au S o.j) n x y c D' N'/\S'=S.files D' o.j N')
theorem KN.zA(h:KN w m H S q A)(ho:S.O p=some o)(hq:q<=400){n:Nat}(hN:p9 S.D.E n):Calls prog 110 #[wp H.kb,.int .i64 p] w fun y w'=>∃x y9 c S',y=.returned (.tuple #[.int .i64 x,.int .i64 y9,aI c])/\uC S o n x y9 c S'/\∃A',KN w' m H S' (q+1) A'/\Stp w w' A A':=by
 have hpay:∀(V:World) (xk xh xa xb:Nat),Below w.heap.size w V->rP V A [(xk,wp H.kb),(xh,wp (H.hs o.j))]->xk≠xa/\xh≠xa/\xk≠xb/\xh≠xb/\xa≠xb->w.heap.size<=xa/\w.heap.size<=xb->Out V A xa->Out V A xb->V.cell? ⟨xa,0,none⟩=some (.int .i64 0)->V.cell? ⟨xb,0,none⟩=some (.int .i64 0)->
  Calls prog 150 #[wp (H.hs o.j),.int .i64 1,.int .i64 2,.func (.func 176) #[] #[wp xk,wp xh,wp xa,wp xb]] V fun y w'=>∃x y9 c,y=.returned (aI c)/\(w'.cell? ⟨xa,0,none⟩=some (.int .i64 x)/\w'.cell? ⟨xb,0,none⟩=some (.int .i64 y9)/\w'.frozen? ⟨xa,0,none⟩=false/\w'.frozen? ⟨xb,0,none⟩=false)/\Aside (∀W:World,W.heap=w'.heap->W.os=w'.os->W.tape=w'.tape->W.output=w'.output->(((W.setCell ⟨xa,0,none⟩ (.int .i64 x)).setCell ⟨xb,0,none⟩ (.int .i64 y9)).cell? ⟨xa,0,none⟩=some (.int .i64 x)/\((W.setCell ⟨xa,0,none⟩ (.int .i64 x)).setCell ⟨xb,0,none⟩ (.int .i64 y9)).cell? ⟨xb,0,none⟩=some (.int .i64 y9)/\Aside (∃S',uC S o n x y9 c S'/\∃A',KN ((W.setCell ⟨xa,0,none⟩ (.int .i64 x)).setCell ⟨xb,0,none⟩ (.int .i64 y9)) m H S' (q+1) A'/\Stp w ((W.setCell ⟨xa,0,none⟩ (.int .i64 x)).setCell ⟨xb,0,none⟩ (.int .i64 y9)) A A'))/\(((W.setCell ⟨xb,0,none⟩ (.int .i64 y9)).setCell ⟨xa,0,none⟩ (.int .i64 x)).cell? ⟨xa,0,none⟩=some (.int .i64 x)/\((W.setCell ⟨xb,0,none⟩ (.int .i64 y9)).setCell ⟨xa,0,none⟩ (.int .i64 x)).cell? ⟨xb,0,none⟩=some (.int .i64 y9)/\Aside (∃S',uC S o n x y9 c S'/\∃A',KN ((W.setCell ⟨xb,0,none⟩ (.int .i64 y9)).setCell ⟨xa,0,none⟩ (.int .i64 x)) m H S' (q+1) A'/\Stp w ((W.setCell ⟨xb,0,none⟩ (.int .i64 y9)).setCell ⟨xa,0,none⟩ (.int .i64 x)) A A'))):=fun V xk xh xa xb bV bx hne hxo QE Zt hz hy=>by
  have hxl:xa<V.heap.size:=block_lt_of_cell? V _ hz;have hyl:xb<V.heap.size:=block_lt_of_cell? V _ hy;have fin:∀(w2:World) (x y9 c:Int) (S':KS) (A2:Nat->Prop),w2.cell? ⟨xa,0,none⟩=some (.int .i64 x)->w2.cell? ⟨xb,0,none⟩=some (.int .i64 y9)->uC S o n x y9 c S'->KN w2 m H S' (q+1) A2->Stp w w2 A A2->Out w2 A2 xa->Out w2 A2 xb->∀W:World,W.heap=w2.heap->W.os=w2.os->W.tape=w2.tape->W.output=w2.output->(((W.setCell ⟨xa,0,none⟩ (.int .i64 x)).setCell ⟨xb,0,none⟩ (.int .i64 y9)).cell? ⟨xa,0,none⟩=some (.int .i64 x)/\((W.setCell ⟨xa,0,none⟩ (.int .i64 x)).setCell ⟨xb,0,none⟩ (.int .i64 y9)).cell? ⟨xb,0,none⟩=some (.int .i64 y9)/\Aside (∃S',uC S o n x y9 c S'/\∃A',KN ((W.setCell ⟨xa,0,none⟩ (.int .i64 x)).setCell ⟨xb,0,none⟩ (.int .i64 y9)) m H S' (q+1) A'/\Stp w ((W.setCell ⟨xa,0,none⟩ (.int .i64 x)).setCell ⟨xb,0,none⟩ (.int .i64 y9)) A A'))/\(((W.setCell ⟨xb,0,none⟩ (.int .i64 y9)).setCell ⟨xa,0,none⟩ (.int .i64 x)).cell? ⟨xa,0,none⟩=some (.int .i64 x)/\((W.setCell ⟨xb,0,none⟩ (.int .i64 y9)).setCell ⟨xa,0,none⟩ (.int .i64 x)).cell? ⟨xb,0,none⟩=some (.int .i64 y9)/\Aside (∃S',uC S o n x y9 c S'/\∃A',KN ((W.setCell ⟨xb,0,none⟩ (.int .i64 y9)).setCell ⟨xa,0,none⟩ (.int .i64 x)) m H S' (q+1) A'/\Stp w ((W.setCell ⟨xb,0,none⟩ (.int .i64 y9)).setCell ⟨xa,0,none⟩ (.int .i64 x)) A A')):=fun w2 x y9 c S' A2 ca cb hP k2 st2 oa ob W e1 e2 e3 e4=>by
   have bW:Below w2.heap.size w2 W:=⟨e2,e3,e4,by rw[e1];exact le_refl _,fun i _=>by rw[e1]⟩;have kW:=k2.below bW;have stW:Stp w W A A2:=st2.up e1 e2 e3 e4;have oaW:=oa.p8 (.below bW);have obW:=ob.p8 (.below bW);refine⟨⟨oM (oaW.got _) hne.2.2.2.2 _,(obW.set _).got _,S',hP,A2,(kW.box oaW _).box (obW.set _) _,(stW.boxed hxo.1 _).boxed hxo.2 _⟩,⟨(oaW.set _).got _,oM (obW.got _) (Ne.symm hne.2.2.2.2) _,S',hP,A2,(kW.box obW _).box (oaW.set _) _,(stW.boxed hxo.2 _).boxed hxo.1 _⟩⟩
  have Y3:∀ {w2 w3:World}{z:Nat}{v:Value},Out V A z->w2.cell? ⟨z,0,none⟩=some v->w2.grownBy w3 (some (H.hs o.j))->w3.heap[z]? = w2.heap[z]? := fun hz9 h4 g=>g.block _ (block_lt_of_cell? _ _ h4) (fun e=>by
   have:=hz9.1;have e2:=Option.some.inj e;obtain⟨G,k,hκ⟩:=h.1;exact this ((hκ _).2 (by rw[e2,k.k5 p o ho];omega)))
  refine(KX.qG (h.below bV) ho (n:=2) ⟨by omega,by omega⟩ (fn:=176) (lb:=#[wp xk,wp xh,wp xa,wp xb]) (fun args w=>by kernel_rfl) (X:=(fun i=>i=xa\/i=xb)) (fun i hi=>by rcases hi with rfl|rfl<;>assumption) (Q:=fun c D' N' w2=>∃x y9,rX S.D (au S o.j) n x y9 c D' N'/\w2.cell? ⟨xa,0,none⟩=some (.int .i64 x)/\w2.cell? ⟨xb,0,none⟩=some (.int .i64 y9)/\w2.frozen? ⟨xa,0,none⟩=false/\w2.frozen? ⟨xb,0,none⟩=false) ?_ ?_).mono ?_
  ·rintro c D' N' w2 w3 ⟨x,y9,h1,h4,h5,h6,h7⟩ g;have ka:=Y3 QE h4 g;have kb:=Y3 Zt h5 g;exact⟨x,y9,h1,by rw[cell?_of_block (w:=w2) (a:=⟨xa,0,none⟩) ka];exact h4,by rw[cell?_of_block (w:=w2) (a:=⟨xb,0,none⟩) kb];exact h5,by rw[frozen?_of_block (w:=w2) (a:=⟨xa,0,none⟩) ka];exact h6,by rw[frozen?_of_block (w:=w2) (a:=⟨xb,0,none⟩) kb];exact h7⟩
  ·intro V1 k1 st1;refine(k1.ac1 ho hq hN (bx.p8 st1) (QE.p8 st1) (Zt.p8 st1) hne).mono ?_;rintro y w2 ⟨x,y9,c,D',N',rfl,hP,ca,cb,A2,oa,ob,k2,st2⟩;obtain⟨u1,u2⟩:=NG (h.1.oW o.j) (fun z hz=>by rw[jb (h.1.rR ho)] at hz;exact h.1.inv.nn (h.1.rR ho) z hz) h.1.inv.core.jW.n0 hP;refine⟨_,_,_,rfl,⟨x,y9,hP,ca,cb,oa.2.2.2.2.1,ob.2.2.2.2.1⟩,fun e=>?_,fun e=>?_,A2,fun i hi=>by
    rcases hi with rfl|rfl
    ·exact oa.1
    ·exact ob.1,k2,st2⟩
   ·rw[u1 e];rfl
   ·exact⟨(u2 e).2.2.1,(u2 e).2.2.2⟩
  ·rintro y w2 ⟨c,rfl,hR⟩;rcases hR with⟨hc,rfl,A2,k2,st2⟩|⟨hc,D',N',⟨x,y9,hP,h4,h5,h6,h7⟩,A2,nA,k2,st2⟩
   ·have oa:=QE.p8 st2;have ob:=Zt.p8 st2;have za:w2.cell? ⟨xa,0,none⟩=some (.int .i64 0):=(st2.cO hz QE.1).1;have zb:w2.cell? ⟨xb,0,none⟩=some (.int .i64 0):=(st2.cO hy Zt.1).1;exact⟨0,0,4,rfl,⟨za,zb,oa.2.2.2.2.1,ob.2.2.2.2.1⟩,fin w2 0 0 4 S A2 za zb (.inl ⟨hc,rfl,rfl,rfl,rfl⟩) (k2.more (by omega)) (st2.after bV) oa ob⟩
   ·have oa:Out w2 A2 xa:=⟨nA xa (.inl rfl),QE.2.1,QE.2.2.1,QE.2.2.2.1,h6,_,h4⟩;have ob:Out w2 A2 xb:=⟨nA xb (.inr rfl),Zt.2.1,Zt.2.2.1,Zt.2.2.2.1,h7,_,h5⟩;exact⟨x,y9,c,rfl,⟨h4,h5,h6,h7⟩,fin w2 x y9 c _ A2 h4 h5 (.inr ⟨hc,D',N',hP,rfl⟩) k2 (Stp.inner bV st2 (fun i hi=>by rcases hi with rfl|rfl;exact hxo.1;exact hxo.2)) oa ob⟩
 have hF:=fun W (hb:Below w.heap.size w W)=>(h.1.below hb).ay ho;have hA:=h.1.lt;have hO:=fun V (hb:Below w.heap.size w V) x v hx hc hf=>h.1.Rc (V:=V) hb (x:=x) hx (v:=v) hc hf;have HP:Aside _:=hpay;have HF:Aside _:=hF;have HO:Aside _:=hO;go_enter Tryz.func110,Tryz.ntmps110
 go_upto_region 1 with fail
 obtain⟨b3,s3,c1,c2,c3⟩:=Q3 w (wp H.kb) (.int .i64 0) (.int .i64 0) 26 3 3;have f3:=(sG ((w.alloc (.cells #[wp H.kb] 26)).alloc (.cells #[.int .i64 0] 3)) (.int .i64 0) 3).2.2.2;rw[(Q4 w (wp H.kb) (.int .i64 0) 26 3).2.1] at f3;have f2:(((w.alloc (.cells #[wp H.kb] 26)).alloc (.cells #[.int .i64 0] 3)).alloc (.cells #[.int .i64 0] 3)).frozen? ⟨w.heap.size+1,0,none⟩=false:=by
  have:=(sG (w.alloc (.cells #[wp H.kb] 26)) (.int .i64 0) 3).2.2.2;rw[(sG w (wp H.kb) 26).2.1] at this;exact qK ((Below.refl _ _).alloc (le_refl _) _) (by rw[(Q4 w (wp H.kb) (.int .i64 0) 26 3).2.1];omega) this
 generalize ((w.alloc (.cells #[wp H.kb] 26)).alloc (.cells #[.int .i64 0] 3)).alloc (.cells #[.int .i64 0] 3)=W at *;have hF:=HF.out W b3;go_upto_region 4 with (go_at_call 127;refine hF.mono ?_;rintro e w1 ⟨rfl,hw⟩;subst w1)
 obtain⟨b4,s4,c4,_⟩:=sG W (wp (H.hs o.j)) 59;rw[s3] at c4;have d1:=dm b4 c1;have d2:=dm b4 c2;have d3:=dm b4 c3;have f4:=qK b4 (block_lt_of_cell? W _ c3) f3;have f5:=qK b4 (block_lt_of_cell? W _ c2) f2;generalize W.alloc (.cells #[wp (H.hs o.j)] 59)=V at *;have bV:Below w.heap.size w V:=b3.trans (b4.mono b3.size);have hP:=HP.out V w.heap.size (w.heap.size+1+1+1) (w.heap.size+1) (w.heap.size+1+1) bV (fun y hy=>by
  have hn:∀i,w.heap.size<=i->¬A i:=fun i hi z=>by have:=hA i z;omega
  simp only[mem_cons,not_mem_nil,or_false] at hy;rcases hy with rfl|rfl
  ·exact⟨d1,hn _ (le_refl _)⟩
  ·exact⟨c4,hn _ (by omega)⟩) ⟨by omega,by omega,by omega,by omega,by omega⟩ ⟨by omega,by omega⟩ (HO.out V bV _ _ (by omega) d2 f5) (HO.out V bV _ _ (by omega) d3 f4) d2 d3
 go_upto_region 5 with (go_at_call 150;refine hP.mono ?_;rintro e w1 ⟨x,y9,c,rfl,⟨g1,g2,g3,g4⟩,hR⟩)
 have ya:=cell?_setCell_same w1 ⟨w.heap.size+1,0,none⟩ (.int .i64 x) g1;have yb:=cell?_setCell_same w1 ⟨w.heap.size+1+1,0,none⟩ (.int .i64 y9) g2;obtain⟨⟨_,yab,_⟩,⟨yba,_,_⟩⟩:=hR.out w1 rfl rfl rfl rfl;have YA:Aside _:=ya;have YB:Aside _:=yb;have YAB:Aside _:=yab;have YBA:Aside _:=yba
 go_region
 all_goals
  go_wp2_with fail
  obtain⟨⟨z1,z2,z3⟩,⟨z4,z5,z6⟩⟩:=hR.out w1.drew rfl rfl rfl rfl;first
   |(obtain⟨S',hF,hR⟩:=z3.out
     refine bodyPost_ret (v:=.tuple #[.int .i64 x,.int .i64 y9,aI c]) (by simp[results,Tryz.results110,go_sem,YA.out,YAB.out]) rfl ⟨x,y9,c,S',rfl,hF,hR⟩)
   |(obtain⟨S',hF,hR⟩:=z6.out
     refine bodyPost_ret (v:=.tuple #[.int .i64 x,.int .i64 y9,aI c]) (by simp[results,Tryz.results110,go_sem,z4,z5,YA.out,YB.out,YAB.out,YBA.out]) rfl ⟨x,y9,c,S',rfl,hF,hR⟩)
end
end
section
open Go.RowKit Go.Maps
def firstM:Nat->Int:=fun k=>if k=0 then 64 else if k=1 then 8 else if k=2 then 200 else 0
def qg:Nat->Int:=fun _=>0
def om(j:Nat):Nat->Int:=fun k=>if k<j then firstM k else 0
section
variable {w w':World}{m:Int}{E:St}{D:Nat→Nat→Int}{A:Nat→Prop}{o:Int→Nat}
theorem Bz(h:Vs E w D (gQ o) A):Calls prog 19 #[wp E.b] w fun y b=>∃a c n,y=.returned (.tuple #[wp (a.heap.size+1),.nilIface])/\VS E a c n D A (fun _=>none) o/\Below w.heap.size w a/\w.heap.size<=c/\w.heap.size<=n/\Below (a.alloc (.cells (nv bQ).toArray 116)).heap.size (a.alloc (.cells (nv bQ).toArray 116)) b/\Hd b (a.heap.size+1) c a.heap.size qg firstM 0:=by
 have L:=Io h;go_enter Tryz.func19,Tryz.ntmps19
 go_upto_region 5 with (go_at_call 38;refine L.mono ?_;rintro e a ⟨c,rfl,n,C,I,H,G⟩)
 have J:(.cells #[.int .i64 0,.bool false,.int .i64 0,.bool false,.int .i64 0,.bool false,.int .i64 0,.bool false,.int .i64 0,.bool false,.int .i64 0,.bool false,.int .i64 0,.bool false,.int .i64 0,.bool false] 116:Obj)=.cells (nv bQ).toArray 116:=rfl;rw[J];have s0:(a.alloc (.cells (nv bQ).toArray 116)).heap.size=a.heap.size+1:=by show (a.heap.push _).size=_;rw[Array.size_push]
 have s:Hd ((a.alloc (.cells (nv bQ).toArray 116)).alloc (.cells (hcs c a.heap.size qg (om 0) 0) 121)) (a.heap.size+1) c a.heap.size qg (om 0) 0:=by
  unfold Hd;rw[<-s0];show ((a.alloc _).heap.push _)[(a.alloc _).heap.size]? = _;rw[Array.getElem?_push,if_pos rfl]
 have P:Below (a.alloc (.cells (nv bQ).toArray 116)).heap.size (a.alloc (.cells (nv bQ).toArray 116)) ((a.alloc (.cells (nv bQ).toArray 116)).alloc (.cells (hcs c a.heap.size qg (om 0) 0) 121)):=(Below.refl _ _).alloc (le_refl _) _;have M:(.cells #[vp c,.pointer (some ⟨a.heap.size,0,none⟩),.int .i64 0,.int .i64 0,.int .i64 0,.int .i64 0,.int .i64 0,.int .i64 0,.int .i64 0] 121:Obj)=.cells (hcs c a.heap.size qg (om 0) 0) 121:=rfl;rw[M];generalize hW0:a.alloc (.cells (nv bQ).toArray 116)=W0 at *;have u:Aside _:=hW0;generalize W0.alloc (.cells (hcs c a.heap.size qg (om 0) 0) 121)=W1 at *;have R:Aside (VS E a c n D A (fun _=>none) o):=C;have S:Aside (Below w.heap.size w a):=I;have Q:Aside (W0.heap.size=a.heap.size+1):=s0;go_wp2_with fail
 go_loopg [24] 3 (fun k s24 wr=>∃j:Nat,j+k=3/\s24=.int .i64 j/\Aside (Hd wr (a.heap.size+1) c a.heap.size qg (om j) 0/\Below W0.heap.size W0 wr))
 case atStart=>exact⟨0,rfl,rfl,s,P⟩
 case round=>
  obtain⟨j,X,rfl,N⟩:=hrel;have f:∀k:Nat,k<3->Hd wr (a.heap.size+1) c a.heap.size qg (om k) 0->Below W0.heap.size W0 wr->Calls prog 39 #[lq (a.heap.size+1),.int .i64 (k:Int),.int .i64 (firstM k)] wr fun e b=>e=.returned .nilIface/\Aside (Hd b (a.heap.size+1) c a.heap.size qg (om (k+1)) 0/\Below W0.heap.size W0 b):=fun k F d p=>by
   have Y:0<=firstM k/\firstM k<=1000000:=by
    match k,F with
    |0,_|1,_|2,_=>decide
   have z:qd k (firstM k)=0:=by unfold qd;rw[if_neg (by omega),if_neg (by omega)]
   refine(d.limit k (firstM k)).mono ?_;rintro e b ⟨rfl,l,g⟩;refine⟨by rw[z];rfl,?_,jG p g (by have:=Q.out;omega)⟩;have t:yG (om k) k (firstM k)=om (k+1):=by
    unfold yG;rw[if_pos z,Int.toNat_natCast];funext i;unfold put om;by_cases e:i=k
    ·rw[if_pos e,if_pos (by omega),e]
    ·rw[if_neg e];by_cases x:i<k
     ·rw[if_pos x,if_pos (by omega)]
     ·rw[if_neg x,if_neg (by omega)]
   rw[t] at l;exact l
  have m:=N.out;by_cases O:j<3
  ·obtain⟨d,p⟩:=m;have q:j=0\/j=1\/j=2:=by omega
   rcases q with rfl|rfl|rfl;all_goals
    have v:=f _ O d p;simp only[firstM] at v;have W:(Instr.index 117 (.agg #[.int .i64 64,.int .i64 8,.int .i64 200]) (.int .i64 0)).run prog wr=.ok (.int .i64 64) wr:=by kernel_rfl
    have V:(Instr.index 117 (.agg #[.int .i64 64,.int .i64 8,.int .i64 200]) (.int .i64 1)).run prog wr=.ok (.int .i64 8) wr:=by kernel_rfl
    have U:(Instr.index 117 (.agg #[.int .i64 64,.int .i64 8,.int .i64 200]) (.int .i64 2)).run prog wr=.ok (.int .i64 200) wr:=by kernel_rfl
    go_wp2_with (go_at_call 39;refine v.mono ?_;rintro e T ⟨rfl,K⟩)
    go_roundg (gk-1)
    case measure=>omega
    case rel=>exact⟨_,by omega,by go_num,K⟩
  ·have r:j=3:=by omega
   subst r;obtain⟨d,p⟩:=m;have t:om 3=firstM:=by
    funext i;unfold om firstM;by_cases e:i<3
    ·rw[if_pos e]
    ·rw[if_neg e,if_neg (by omega),if_neg (by omega),if_neg (by omega)]
   rw[t] at d;have B:Aside _:=(⟨d,p⟩:Hd wr (a.heap.size+1) c a.heap.size qg firstM 0/\Below W0.heap.size W0 wr);go_wp2_with fail
   go_ret2;exact⟨a,c,n,rfl,R.out,S.out,H,G,by rw[u.out];exact B.out.2,B.out.1⟩
end
def dZ(n:Nat):KS:=⟨n,gU,qh jc,[bQ],[lG],fun _ _=>0,fun p=>if p=1 then some ⟨0,firstM,0⟩ else none⟩
theorem PL(n:Nat):uh (dZ n):=by
 refine⟨fun p=>?_,fun j b a=>?_,fun p o e=>?_⟩
 ·show (if p=1 then some (⟨0,firstM,0⟩:Ow) else none).isSome=aD gU p;unfold aD nN gU;by_cases e:p=1
  ·rw[if_pos e,if_pos e];rfl
  ·rw[if_neg e,if_neg e];rfl
 ·have:j=0:=by
   have:j<1:=b;omega
  exact absurd this.symm (a 1 ⟨0,firstM,0⟩ rfl)
 ·have e:(if p=1 then some (⟨0,firstM,0⟩:Ow) else none)=some o:=e;split at e
  ·cases e
   refine⟨fun k=>?_,by show (-100:Int)<=0;omega,by show (0:Int)<=100;omega⟩;show 0<=firstM k/\firstM k<=1000000;unfold firstM;split
   ·omega
   ·split
    ·omega
    ·split<;>omega
  ·cases e
open Classical in
theorem KM.first{ok:Bool}{w0 w:World}{m:Int}{E:St}{q s:Nat->Prop}{n c l f r F a t g b kb:Nat}(T:E.n=n)
 (v:VS E w c l (fun _ _=>0) q (fun _=>none) (fun _=>0)) (R:KD w m f r (qh jc) [F] [bQ] 0 s) (M:QJ w t g gU 1)
 (u:w.heap[kb]? = some (.cells #[wp E.b,wp r,wp f,wp t,.map (some b)] 66)) (V:aK w b 1 (fun p=>if p=1 then some (wp a) else none)) (X:Hd w a c F qg firstM 0) (G:Bn ok w)
 (hv:∀i,bO E q i->w0.heap.size<=i) (B:∀i,s i->w0.heap.size<=i/\¬bO E q i/\i≠l/\i≠c/\i≠E.b/\i≠E.bm/\i≠g/\i≠b/\i≠a/\i≠kb/\i≠t)
 (L:¬bO E q g/\¬bO E q b/\¬bO E q a/\¬bO E q kb/\¬bO E q t) (D:l≠g/\l≠b/\l≠a/\l≠kb/\l≠t/\l≠c) (y:g≠b/\g≠a/\g≠kb/\g≠E.b/\g≠E.bm/\g≠t/\g≠c) (C:b≠a/\b≠kb/\b≠E.b/\b≠E.bm/\b≠t/\b≠c) (K:a≠kb/\a≠E.b/\a≠E.bm/\a≠t/\a≠c)
 (h6:w0.heap.size<=g/\w0.heap.size<=b/\w0.heap.size<=a/\w0.heap.size<=kb/\w0.heap.size<=t/\w0.heap.size<=c/\w0.heap.size<=l/\w0.heap.size<=E.b/\w0.heap.size<=E.bm) (U:4<w0.heap.size/\0<w0.heap.size/\8<w0.heap.size) :
 ∃A,KN w m ⟨kb,E.b,f,r,t,g,b,fun _=>a,fun _=>c,fun _=>F,ok⟩ (dZ n) 0 A/\∀i,A i->w0.heap.size<=i:=by
 let κ:Nat->Nat:=fun i=>if bO E q i\/i=l then 1 else if s i then 2 else if i=g then 3 else if i=b then 4 else if i=a then 5 else if i=kb\/i=E.b\/i=E.bm\/i=t\/i=c then 6 else 0;have H:=v.st;have J:∀p o,(dZ n).O p=some o->p=1/\o=⟨0,firstM,0⟩:=fun p o e=>by
  have e:(if p=1 then some (⟨0,firstM,0⟩:Ow) else none)=some o:=e;split at e
  ·rename_i z;cases e;exact⟨z,rfl⟩
  ·cases e
 have Y:=Al.first v;have I:∀i,(i=kb\/i=E.b\/i=E.bm\/i=t\/i=c)->¬bO E q i->i≠l->κ i=6:=fun i d T hg=>by
  have n2:¬s i:=fun z=>by
   obtain⟨_,_,_,P,O,a3,_,_,_,a4,Z⟩:=B i z;rcases d with e|e|e|e|e
   ·exact a4 e
   ·exact O e
   ·exact a3 e
   ·exact Z e
   ·exact P e
  have Q:i≠g/\i≠b/\i≠a:=by
   rcases d with e|e|e|e|e
   ·rw[e];exact⟨Ne.symm y.2.2.1,Ne.symm C.2.1,Ne.symm K.1⟩
   ·rw[e];exact⟨Ne.symm y.2.2.2.1,Ne.symm C.2.2.1,Ne.symm K.2.1⟩
   ·rw[e];exact⟨Ne.symm y.2.2.2.2.1,Ne.symm C.2.2.2.1,Ne.symm K.2.2.1⟩
   ·rw[e];exact⟨Ne.symm y.2.2.2.2.2.1,Ne.symm C.2.2.2.2.1,Ne.symm K.2.2.2.1⟩
   ·rw[e];exact⟨Ne.symm y.2.2.2.2.2.2,Ne.symm C.2.2.2.2.2,Ne.symm K.2.2.2.2⟩
  show (if bO E q i\/i=l then 1 else if s i then 2 else if i=g then 3 else if i=b then 4 else if i=a then 5 else if i=kb\/i=E.b\/i=E.bm\/i=t\/i=c then 6 else 0)=6;rw[if_neg (by rintro (z|z);exact T z;exact hg z),if_neg n2,if_neg Q.1,if_neg Q.2.1,if_neg Q.2.2,if_pos d]
 have N:∀i,i<w0.heap.size->κ i=0:=fun i d=>by
  obtain⟨P,O,a3,a4,Z,a6,a7,a8,a9⟩:=h6;show (if bO E q i\/i=l then 1 else if s i then 2 else if i=g then 3 else if i=b then 4 else if i=a then 5 else if i=kb\/i=E.b\/i=E.bm\/i=t\/i=c then 6 else 0)=0;rw[if_neg (by rintro (z|z);have:=hv i z;omega;omega),if_neg (fun z=>by have:=(B i z).1;omega),if_neg (by omega),if_neg (by omega),if_neg (by omega),if_neg (by omega)]
 have S:∀i,κ i≠0->w0.heap.size<=i:=fun i d=>by
  apply Classical.byContradiction
  intro z;exact d (N i (by omega))
 refine⟨fun i=>κ i≠0,⟨⟨⟨E,q,[(c,l,fun _=>none)],[F],s,κ⟩,?_,fun _=>Iff.rfl⟩,PL n⟩,S⟩;refine
  { head:=u
    eb:=rfl
    en:=T
    al:=Y
    ms:=rfl
    sp:=fun j h=>by
     have:j=0:=by simp at h;omega
     subst this;rfl
    kd:=R
    tb:=fun j h=>by
     have:j=0:=by simp at h;omega
     subst this;rfl
    qj:=⟨1,M⟩
    map:=⟨1,?_⟩
    hold:=fun p o e=>?_
    hinj:=fun p o p' o' e e' _=>by rw[(J p o e).1,(J p' o' e').1]
    len:=rfl
    lt:=fun p o e=>by rw[(J p o e).2];show 0<1;omega
    key:=fun p o e=>by rw[(J p o e).1];omega
    tab:=G
    nx:=by show (0:Int)<=3*((0:Nat):Int);omega
    few:=by show 1<=0+1;omega
    k1:=fun i d=>?_
    k2:=fun i d=>?_
    k3:=?_
    k4:=?_
    k5:=fun p o e=>?_
    kk:=I kb (.inl rfl) L.2.2.2.1 (Ne.symm D.2.2.2.1)
    kE:=I E.b (.inr (.inl rfl)) H.bno (Ne.symm v.gb)
    kB:=I E.bm (.inr (.inr (.inl rfl))) H.mno (Ne.symm v.gm)
    kt:=I t (.inr (.inr (.inr (.inl rfl)))) L.2.2.2.2 (Ne.symm D.2.2.2.2.1)
    ks:=fun j _=>I c (.inr (.inr (.inr (.inr rfl)))) v.mR (Ne.symm D.2.2.2.2.2)
    km:=N _ U.1
    ke:=N _ U.2.1
    Qx:=N _ U.2.2
    Bd:=fun i d=>?_ }
 ·have e:(fun p=>((dZ n).O p).map (fun _=>wp a))=fun p=>if p=1 then some (wp a) else none:=by
   funext p;show (if p=1 then some (⟨0,firstM,0⟩:Ow) else none).map _=_;split<;>rfl
  show aK w b 1 (fun p=>((dZ n).O p).map (fun _=>wp a));rw[e];exact V
 ·obtain⟨rfl,rfl⟩:=J p o e;refine Hd.congr X (fun k hk=>?_);have z1:bX lG=0:=rG;have z2:ak bQ=0:=by decide
  show (0:Int)=if k=0 then ((bX lG:Nat):Int) else if k=1 then ((ak bQ:Nat):Int) else 0;rw[z1,z2];split
  ·rfl
  ·split<;>rfl
 ·show (if bO E q i\/i=l then 1 else _)=1;rw[if_pos];rcases d with z|⟨x,W,e⟩
  ·exact .inl z
  ·simp at W;subst W;exact .inr e
 ·obtain⟨_,P,O,_⟩:=B i d;show (if bO E q i\/i=l then 1 else if s i then 2 else _)=2;rw[if_neg (by rintro (z|z);exact P z;exact O z),if_pos d]
 ·show (if bO E q g\/g=l then 1 else if s g then 2 else if g=g then 3 else _)=3;rw[if_neg (by rintro (z|z);exact L.1 z;exact D.1 z.symm),if_neg (fun z=>(B g z).2.2.2.2.2.2.1 rfl),if_pos rfl]
 ·show (if bO E q b\/b=l then 1 else if s b then 2 else if b=g then 3 else if b=b then 4 else _)=4;rw[if_neg (by rintro (z|z);exact L.2.1 z;exact D.2.1 z.symm),if_neg (fun z=>(B b z).2.2.2.2.2.2.2.1 rfl),if_neg (Ne.symm y.1),if_pos rfl]
 ·show (if bO E q a\/a=l then 1 else if s a then 2 else if a=g then 3 else if a=b then 4 else if a=a then 5 else _)=5;rw[if_neg (by rintro (z|z);exact L.2.2.1 z;exact D.2.2.1 z.symm),if_neg (fun z=>(B a z).2.2.2.2.2.2.2.2.1 rfl),if_neg (Ne.symm y.2.1),if_neg (Ne.symm C.1),if_pos rfl]
 ·have d:(if bO E q i\/i=l then 1 else if s i then 2 else if i=g then 3 else if i=b then 4 else if i=a then 5 else if i=kb\/i=E.b\/i=E.bm\/i=t\/i=c then 6 else 0)≠0:=d;split at d
  ·rename_i z
   rcases z with z|z
   ·exact H.Dm z
   ·rw[z];exact v.sp.uk
  ·split at d
   ·rename_i z;exact R.lt i z
   ·split at d
    ·rename_i z;rw[z];exact M.map.lt
    ·split at d
     ·rename_i z;rw[z];exact V.lt
     ·split at d
      ·rename_i z;rw[z];exact X.lt
      ·split at d
       ·rename_i z
        rcases z with z|z|z|z|z
        ·rw[z];exact lt_of_heap u
        ·rw[z];exact H.blt
        ·rw[z];exact H.mlt
        ·rw[z];exact M.toQM.Zi
        ·rw[z];exact v.sp.lt
       ·exact absurd rfl d
end
section
open Go.RowKit Go.Maps
section
variable {w w':World}{m:Int}
theorem Fa(w:World)(n:Int)(h:¬(1<=n/\n<=256)):Calls prog 6 #[.int .i64 n] w fun y b=>y=.returned (.tuple #[.pointer none,eF 2])/\b=w:=by
 have c:=Im w n h;go_enter Tryz.func6,Tryz.ntmps6
 go_wp2_with (go_at_call 16;refine c.mono ?_;rintro e a ⟨rfl,d⟩;subst a)
 go_ret2;exact⟨rfl,rfl⟩
theorem vH{ok:Bool}(w:World)(n:Nat)(h1:1<=n)(h2:n<=256)(hm:w.cell? ⟨4,0,none⟩=some (.int .i64 m))(he:w.cell? ⟨0,0,none⟩=some iA)(ht:Bn ok w):Calls prog 6 #[.int .i64 (n:Int)] w fun y w'=>∃H A,y=.returned (.tuple #[wp H.kb,.nilIface])/\KN w' m H (dZ n) 0 A/\(∀i,A i->w.heap.size<=i)/\Below w.heap.size w w'/\H.ok=ok:=by
 have g1:=block_lt_of_cell? w _ hm;have g2:=block_lt_of_cell? w _ he;have g3:=ht.lt;have v:Calls prog 16 #[.int .i64 (n:Int)] w fun y D=>∃b,y=.returned (.tuple #[wp b,.nilIface])/\Calls prog 17 #[] D fun y P=>∃r,y=.returned (wp r)/\Calls prog 18 #[wp r] P fun y C=>∃f,y=.returned (.tuple #[wp f,.nilIface])/\Calls prog 19 #[wp b] C fun y u=>∃Y,y=.returned (.tuple #[wp Y,.nilIface])/\Calls prog 20 #[] u fun y a=>∃t,y=.returned (wp t)/\∃d,(Instr.mapUpdate 64 (.map (some a.heap.size)) (.int .i64 1) (wp Y)).run prog (a.alloc (.map #[] 0))=.ok () d/\Aside (∃H A,(H.kb=d.heap.size/\H.ok=ok)/\KN (d.alloc (.cells #[wp b,wp r,wp f,wp t,.map (some a.heap.size)] 66)) m H (dZ n) 0 A/\(∀i,A i->w.heap.size<=i)/\Below w.heap.size w (d.alloc (.cells #[wp b,wp r,wp f,wp t,.map (some a.heap.size)] 66))):=by
  refine(EW w n h1 h2).mono ?_;rintro y D ⟨b,rfl,E,Av,rfl,Z,l,M,U,hbE,W⟩;refine⟨E.b,rfl,(KW.first D (m:=m) (cell_below hm M) (cell_below he M)).mono ?_⟩;rintro y P ⟨r,rfl,b2,hD⟩;refine⟨r,rfl,hD.mono ?_⟩;rintro y C ⟨f,rfl,Ad,G,hAd,x⟩;have O:Below w.heap.size w C:=M.trans (x.mono M.size);have Q:Vs E C (fun _ _=>0) (gQ fun _=>0) Av:=l.below x;refine⟨f,rfl,(Bz Q).mono ?_⟩;rintro y u ⟨h,c,gc,rfl,N,K,hc,hgc,b4,J⟩;have hba:=K.size;have s0:(h.alloc (.cells (nv bQ).toArray 116)).heap.size=h.heap.size+1:=by show (h.heap.push _).size=_;rw[Array.size_push]
  have bT:Below h.heap.size h (h.alloc (.cells (nv bQ).toArray 116)):=(Below.refl _ _).alloc (le_refl _) _;have o:Below h.heap.size h u:=bT.trans (b4.mono bT.size);have S:=(G.below K).table (by simp);have T:KD u m f r (qh jc) [h.heap.size] [bQ] 0 (fun i=>Ad i\/i=h.heap.size):=S.below b4;have v4:=N.below o;have h41:=b4.size;rw[s0] at h41;have hdl:h.heap.size+1<u.heap.size:=J.lt;refine⟨h.heap.size+1,rfl,(TR u).mono ?_⟩;rintro y a ⟨t,g,rfl,j,b5,htl,hgl⟩;have p0:aK (a.alloc (.map #[] 0)) a.heap.size 0 (fun _=>none):=aK.made a;have bM:Below a.heap.size a (a.alloc (.map #[] 0)):=(Below.refl _ a).alloc (le_refl _) _;have sM:(a.alloc (.map #[] 0)).heap.size=a.heap.size+1:=by show (a.heap.push _).size=_;rw[Array.size_push]
  obtain⟨d,q,q6,g6⟩:=p0.put Tryz.underlying64 (by unfold maxLen;omega) 1 (by decide) (wp (h.heap.size+1));have b6:Below a.heap.size a d:=jG bM g6 (le_refl _);have h61:a.heap.size+1<=d.heap.size:=by have:=g6.size;rw[sM] at this;exact this
  have bK:Below d.heap.size d (d.alloc (.cells #[wp E.b,wp r,wp f,wp t,.map (some a.heap.size)] 66)):=(Below.refl _ _).alloc (le_refl _) _;have L:Below a.heap.size a (d.alloc (.cells #[wp E.b,wp r,wp f,wp t,.map (some a.heap.size)] 66)):=b6.trans (bK.mono b6.size);have k:=b5.trans (L.mono b5.size);have I:(d.alloc (.cells #[wp E.b,wp r,wp f,wp t,.map (some a.heap.size)] 66)).heap[d.heap.size]? = some (.cells #[wp E.b,wp r,wp f,wp t,.map (some a.heap.size)] 66):=by
   show (d.heap.push _)[d.heap.size]? = _;rw[Array.getElem?_push,if_pos rfl]
  have F:aK d a.heap.size 1 (fun p=>if p=1 then some (wp (h.heap.size+1)) else none):=q6;have pm:=F.keep (bK.block _ F.lt);have QI:=M.size;have ajI:=x.size;have bw5:=b5.size;have B:∀i,bO E Av i->w.heap.size<=i/\i<D.heap.size:=fun i s=>⟨Nat.le_of_not_lt (fun z=>U i z s),l.Dm s⟩;have afG:∀i,(Ad i\/i=h.heap.size)->D.heap.size<=i/\i<h.heap.size+1/\(i<C.heap.size\/i=h.heap.size):=fun i s=>by
   rcases s with z|z
   ·have:=hAd i z;have:=G.lt i z;exact⟨by omega,by omega,.inl (by omega)⟩
   ·exact⟨by omega,by omega,.inr z⟩
  have hbl:=l.blt;have wY:=l.mlt;have hcl:=N.sp.lt;have ajC:=N.sp.uk;have ajp:=j.toQM.Zi;have ajB:=j.map.lt;have V:=j.toQM.gt;have X:=N.sp.ne;obtain⟨A,R,hA⟩:=KM.first (w0:=w) (m:=m) Z (v4.below k) (T.below k) ⟨j.toQM.below L,j.ok,j.dj⟩ I pm (J.below k) (ht.keep ((O.trans ((K.trans (o.mono K.size)).mono O.size |>.trans (k.mono (by omega)))).block _ g3)) (fun i s=>(B i s).1) (fun i s=>by
   obtain⟨a1,a2,a3⟩:=afG i s;have n1:¬bO E Av i:=fun z=>by have:=B i z;omega
   exact⟨by omega,n1,by omega,by omega,by omega,by omega,by omega,by omega,by omega,by omega,by omega⟩)
   ⟨fun z=>by have:=B _ z;omega,fun z=>by have:=B _ z;omega,fun z=>by have:=B _ z;omega,fun z=>by have:=B _ z;omega,fun z=>by have:=B _ z;omega⟩
   ⟨by omega,by omega,by omega,by omega,by omega,Ne.symm X⟩ ⟨by omega,by omega,by omega,by omega,by omega,V,by omega⟩ ⟨by omega,by omega,by omega,by omega,by omega,by omega⟩ ⟨by omega,by omega,by omega,by omega,by omega⟩ ⟨by omega,by omega,by omega,by omega,by omega,by omega,by omega,by omega,W⟩ ⟨g1,g2,g3⟩
  refine⟨t,rfl,d,q,_,A,⟨rfl,rfl⟩,R,hA,?_⟩;exact(O.trans (K.mono O.size)).trans ((o.trans (k.mono o.size)).mono (by omega))
 have hmm:=@run_makeMap prog;go_enter Tryz.func6,Tryz.ntmps6
 go_upto_region 11 with (first
  |(go_at_call 16;refine v.mono ?_;rintro e D ⟨b,rfl,c1⟩)
  |(go_at_call 17;refine c1.mono ?_;rintro e P ⟨r,rfl,c2⟩)
  |(go_at_call 18;refine c2.mono ?_;rintro e C ⟨f,rfl,c3⟩)
  |(go_at_call 19;refine c3.mono ?_;rintro e u ⟨Y,rfl,c4⟩))
 go_wp2_with (go_at_call 20;refine c4.mono ?_;rintro e a ⟨t,rfl,d,q,hR⟩)
 go_ret2;obtain⟨H,A,hk,R,hA,bb⟩:=hR.out;exact⟨H,A,by rw[hk.1];rfl,R,hA,bb,hk.2⟩
end
end
section
open Go.RowKit Go.Maps Go.Sort
def fI(S:KS)(p:Int):Option Cd:=if p=1 then none else (S.O p).map (fun o=>⟨p,((gL (aC S o.j):Nat):Int),o.eX⟩)
def dO(S:KS):List Cd:=(aH S.P).filterMap (fI S)
section
variable {w w':World}{m:Int}{H:KH}{S:KS}{U:Nat→Nat→Int}{q:Nat}{A:Nat→Prop}{p:Int}{o:Ow}
theorem K6{l:List Int}{i:Nat}(h:i<l.length):(l.take (i+1)).filterMap (fI S)=(l.take i).filterMap (fI S)++(fI S l[i]).toList:=by
 rw[List.take_add_one,List.getElem?_eq_getElem h,List.filterMap_append];congr 1
theorem Dk(S:KS):(dO S).length<=24:=le_trans (List.length_filterMap_le _ _) (lH _)
theorem KX.candidates(h:KX w m H S U q A):Calls prog 184 #[wp H.kb] w fun y r=>∃ad d,y=.returned (.slice ad (dO S).length d)/\Cds r ad (dO S)/\Below w.heap.size w r:=by
 have c3:=h.c3;obtain⟨L,I⟩:∃L,aH S.P=L:=⟨_,rfl⟩;have ajz:L.length<=24:=by rw[<-I];exact lH _
 have Z:∀p∈L,1<=p/\p<=24:=fun p T=>by
  rw[<-I] at T;obtain⟨x,hx⟩:=Option.isSome_iff_exists.1 (h.Vd.si.1 T);exact h.Vd.key p x hx
 have hP:Calls prog 146 #[wp H.t] w fun e r=>∃b d,e=.returned (.slice (some ⟨b,0,none⟩) L.length d)/\L.length<=d/\w.heap.size<=b/\b<r.heap.size/\(∀j (t:j<L.length),r.cell? ⟨b,j,none⟩=some (.int .i64 L[j]))/\Below w.heap.size w r:=by
  have h1:=h.one;obtain⟨G,k,e⟩:=h;obtain⟨c,qj⟩:=k.qj;refine(qj.toQM.si h1).mono ?_;rintro e n ⟨b,d,rfl,hc,u,hb2,hh,bb⟩;rw[I] at hh hc ⊢;refine⟨b,d,rfl,hc,u,hb2,fun j t=>?_,bb⟩;have:=(hh j (by simpa using t)).1;rw[Nat.zero_add] at this;have e9:L.toArray[j]! = L[j]:=by rw[getElem!_pos _ j (by simpa using t)];simp
  rw[this,e9]
 have B:∀V,Below w.heap.size w V->V.cell? ⟨H.kb,4,none⟩=some (.map (some H.gm)):=fun V u=>(h.below u).c4;have Rm:∀V p,1<=p/\p<=24->Below w.heap.size w V->(Instr.lookup 64 (.map (some H.gm)) (.int .i64 p) false).run prog V=.ok (match S.O p with|some o=>wp (H.hs o.j) | none=>.pointer none) V:=fun V p T u=>(h.below u).look p (Ni T);have F:∀V p o,S.O p=some o->Below w.heap.size w V->(V.cell? ⟨H.hs o.j,0,none⟩=some (wp (H.sp o.j))/\V.cell? ⟨H.hs o.j,8,none⟩=some (.int .i64 o.eX))/\Calls prog 144 #[wp (H.sp o.j)] V fun y r=>y=.returned (.int .i64 ((gL (aC S o.j):Nat):Int))/\Below V.heap.size V r:=fun V p o ho u=>⟨⟨((h.below u).hd ho).at 0,((h.below u).hd ho).at 8⟩,(h.below u).Fy (h.rR ho)⟩;have HC:Aside _:=B;have HL:Aside _:=Rm;have Q:Aside _:=F;have HW:Aside _:=Z;have hcs:dO S=L.filterMap (fI S):=by unfold dO;rw[I]
 rw[hcs];have HLL:Aside _:=I;go_enter Tryz.func184,Tryz.ntmps184
 go_wp2_with (go_at_call 146;refine hP.mono ?_;rintro e n ⟨b,d,rfl,hcap,hbw,hb1,hcc,b1⟩)
 have HCC:Aside (∀j (t:j<L.length),n.cell? ⟨b,j,none⟩=some (.int .i64 L[j])):=hcc;go_loopg [3,13] L.length (fun mm s3 s13 wr=>∃i:Nat,i+mm=L.length/\s13=.int .i64 (i:Int)/\CL wr n.heap.size 307 s3 ((L.take i).filterMap (fI S))/\Below n.heap.size n wr/\Below w.heap.size w wr)
 case atStart=>exact⟨0,by omega,rfl,⟨rfl,.inl ⟨rfl,rfl⟩⟩,Below.refl _ _,b1⟩
 case round=>
  obtain⟨i,hi,rfl,g,z,l⟩:=hrel;by_cases hlt:(i:Int)<(L.length:Int)
  ·have O:i<L.length:=by omega
   have hic:(i:Int)<(d:Int):=by omega
   have c0:wr.cell? ⟨b,i,none⟩=some (.int .i64 L[i]):=by rw[z.cell (p:=⟨b,i,none⟩) hb1];exact HCC.out i O
   have hk:=HW.out L[i] (getElem_mem O);have c4:=HC.out wr l;have W:=HL.out wr L[i] hk l;have htk:=K6 (S:=S) O;have HT:Aside _:=htk;have hlen:((L.take i).filterMap (fI S)).length<=24:=by
    refine le_trans (List.length_filterMap_le _ _) ?_;rw[List.length_take];omega
   generalize L[i]=X at *;cases hO:S.O X with
   |none=>
    rw[hO] at W;have J:fI S X=none:=by unfold fI;rw[hO];split<;>rfl
    have R:Aside _:=J;go_wp2_with fail
    go_roundg (gk-1)
    case measure=>omega
    case rel=>
     refine⟨i+1,by omega,by go_num,?_,z,l⟩;rw[HT.out,R.out,Option.toList_none,append_nil];exact g
   |some o=>
    rw[hO] at W;simp only at W;by_cases s:X=1
    ·have J:fI S X=none:=if_pos s;have R:Aside _:=J;have Y:(X != 1)=false:=by simpa using s
     subst s;go_wp2_with fail
     go_roundg (gk-1)
     case measure=>omega
     case rel=>
      refine⟨i+1,by omega,by go_num,?_,z,l⟩;rw[HT.out,R.out,Option.toList_none,append_nil];exact g
    ·have J:fI S X=some ⟨X,((gL (aC S o.j):Nat):Int),o.eX⟩:=by unfold fI;rw[if_neg s,hO];rfl
     have R:Aside _:=J;have Y:(X != 1)=true:=by simpa using s
     have hrs:(wr.cell? ⟨H.hs o.j,0,none⟩=some (wp (H.sp o.j))/\wr.cell? ⟨H.hs o.j,8,none⟩=some (.int .i64 o.eX))/\Calls prog 144 #[wp (H.sp o.j)] wr.drew fun y a=>y=.returned (.int .i64 ((gL (aC S o.j):Nat):Int))/\(a.cell? ⟨H.hs o.j,0,none⟩=some (wp (H.sp o.j))/\a.cell? ⟨H.hs o.j,8,none⟩=some (.int .i64 o.eX))/\((a.alloc (.cells #[.int .i64 X,.int .i64 ((gL (aC S o.j):Nat):Int),.int .i64 o.eX] 307)).cell? ⟨H.hs o.j,0,none⟩=some (wp (H.sp o.j))/\(a.alloc (.cells #[.int .i64 X,.int .i64 ((gL (aC S o.j):Nat):Int),.int .i64 o.eX] 307)).cell? ⟨H.hs o.j,8,none⟩=some (.int .i64 o.eX))/\∃C f,(Builtin.append_ #[242,242] 242 #[u3,.slice (some ⟨a.heap.size,0,none⟩) 1 1]).run prog (a.alloc (.cells #[.int .i64 X,.int .i64 ((gL (aC S o.j):Nat):Int),.int .i64 o.eX] 307))=.ok C f/\(f.cell? ⟨H.hs o.j,0,none⟩=some (wp (H.sp o.j))/\f.cell? ⟨H.hs o.j,8,none⟩=some (.int .i64 o.eX))/\Aside (CL f n.heap.size 307 C ((L.take i).filterMap (fI S)++[⟨X,((gL (aC S o.j):Nat):Int),o.eX⟩])/\Below n.heap.size n f/\Below w.heap.size w f):=by
      refine⟨(Q.out wr X o hO l).1,((Q.out wr.drew X o hO (l.trans ((bH wr).mono l.size))).2).mono ?_⟩;rintro y a ⟨rfl,b2⟩;have v:Below wr.heap.size wr a:=(bH wr).trans b2;have bA:Below a.heap.size a (a.alloc (.cells #[.int .i64 X,.int .i64 ((gL (aC S o.j):Nat):Int),.int .i64 o.eX] 307)):=(Below.refl _ _).alloc (le_refl _) _;have D:Below wr.heap.size wr (a.alloc (.cells #[.int .i64 X,.int .i64 ((gL (aC S o.j):Nat):Int),.int .i64 o.eX] 307)):=v.trans (bA.mono v.size);have ZE:CL (a.alloc (.cells #[.int .i64 X,.int .i64 ((gL (aC S o.j):Nat):Int),.int .i64 o.eX] 307)) n.heap.size 307 u3 ((L.take i).filterMap (fI S)):=g.keep (fun j _ t=>D.block j t);have hA:(a.alloc (.cells #[.int .i64 X,.int .i64 ((gL (aC S o.j):Nat):Int),.int .i64 o.eX] 307)).heap[a.heap.size]? = some (bx ⟨X,((gL (aC S o.j):Nat):Int),o.eX⟩):=by
       show (a.heap.push _)[a.heap.size]? = _;rw[Array.getElem?_push,if_pos rfl]
      obtain⟨x0,x1,x2⟩:=oJ hA;have hcl:Cells (a.alloc (.cells #[.int .i64 X,.int .i64 ((gL (aC S o.j):Nat):Int),.int .i64 o.eX] 307)) a.heap.size 0 [⟨X,((gL (aC S o.j):Nat):Int),o.eX⟩]:=fun j t=>by
       have:j=0:=by simp at t;omega
       subst this;exact⟨x0,x1,x2⟩
      have bws:=z.size;have b2s:=v.size;have bAs:=bA.size;obtain⟨C,f,hr,afC,P⟩:=K8 ZE hcl 1 (by omega) (by simp) (by omega);have N:Below n.heap.size n f:=⟨P.os.trans (D.os.trans z.os),P.tape.trans (D.tape.trans z.tape),P.output.trans (D.output.trans z.output),by have:=P.size;omega,fun j t=>by
       rw[P.block j (by omega) (fun e=>by have:=(g.lt j e.symm).1;omega),D.block j (by omega)];exact z.block j t⟩
      have M:Below w.heap.size w f:=b1.trans (N.mono b1.size);have bwA:Below w.heap.size w (a.alloc (.cells #[.int .i64 X,.int .i64 ((gL (aC S o.j):Nat):Int),.int .i64 o.eX] 307)):=l.trans (D.mono l.size);have bw2:Below w.heap.size w a:=l.trans (v.mono l.size);exact⟨rfl,(Q.out a X o hO bw2).1,(Q.out _ X o hO bwA).1,C,f,hr _ rfl,(Q.out f X o hO M).1,afC,N,M⟩
     obtain⟨d0,hRs⟩:=hrs;generalize ((gL (aC S o.j):Nat):Int)=R9 at *;go_upto_region 7 with fail
     go_region_held3 (fun r=>r.cell? ⟨H.hs o.j,0,none⟩=some (wp (H.sp o.j))/\r.cell? ⟨H.hs o.j,8,none⟩=some (.int .i64 o.eX)) (first|exact d0|exact d1|exact d2|exact d3) (first
      |(go_at_call 144;refine hRs.mono ?_;rintro e a ⟨rfl,d1,d2,C,f,E,d3,hR9⟩)
      |(refine pW rfl (.tmp 29) (.tmp 41) 242 rfl _ _ C f rfl rfl E ?_))
     all_goals
      go_wp2_with fail
      go_roundg (gk-1)
      case measure=>omega
      case rel=>
       obtain⟨r1,r2,r3⟩:=hR9.out;refine⟨i+1,by omega,by go_num,?_,r2,r3⟩;rw[HT.out,R.out];exact r1
  ·have O:i=L.length:=by omega
   have hT:L.take i=L:=by rw[O];exact List.take_length
   rw[hT] at g;obtain⟨ad2,K,hv2,_,hcd⟩:=g.cds;subst hv2;have HD:Aside _:=hcd;go_wp2_with fail
   go_ret;exact⟨ad2,⟨K,rfl⟩,HD.out,l⟩
end
end
section
open Go.RowKit Go.Maps
inductive dN (p a k v:Int):KS->List Int->Int->KS->Prop
 |done {S:KS}{o:Ow}{er:Int}{P':PM}{D':Nat->Nat->Int}(ho:S.O p=some o) (h:uo S.n (aC S o.j) (iX S o.j) S.W a k v er P' D') (h12:er≠12):dN p a k v S [] er (S.space o.j P' D')
 |nobody {S:KS}{o:Ow}(ho:S.O p=some o) (h:uo S.n (aC S o.j) (iX S o.j) S.W a k v 12 (aC S o.j) S.W) (hv:¬0<(vJ (dO S)).1):dN p a k v S [] 12 S
 |self {S:KS}{o:Ow}(ho:S.O p=some o) (h:uo S.n (aC S o.j) (iX S o.j) S.W a k v 12 (aC S o.j) S.W) (hv:0<(vJ (dO S)).1) (he:(vJ (dO S)).2=p):dN p a k v S [p] 10 (dB S p o 108)
 |goes {S:KS}{o:Ow}{x:Int}{ox:Ow}{went:List Int}{er:Int}{S':KS}(ho:S.O p=some o) (h:uo S.n (aC S o.j) (iX S o.j) S.W a k v 12 (aC S o.j) S.W) (hv:0<(vJ (dO S)).1) (he:(vJ (dO S)).2=x) (hx:S.O x=some ox) (h1:x≠1) (hne:x≠p) (r:dN p a k v (dB S x ox 108) went er S'):dN p a k v S (x::went) er S'
section
variable {w w' V:World}{m:Int}{H:KH}{S:KS}{U:Nat→Nat→Int}{q:Nat}{A A':Nat→Prop}{p:Int}{o:Ow}
theorem Ga(c:Int)(w:World)(b:w.cell? ⟨0,0,none⟩=some iA):Calls prog 14 #[aI c] w fun e a=>e=.returned (.int .i64 c)/\Below w.heap.size w a:=by
 by_cases h:c=0
 ·subst h;refine(F9 w).mono ?_;rintro e a ⟨d,rfl⟩;exact⟨d,Below.refl _ _⟩
 ·rw[ax h];exact zw c w b
theorem UY{S:KS}{c:Cd}(h:c∈dO S):c.pid≠1/\∃o,S.O c.pid=some o/\c=⟨c.pid,((gL (aC S o.j):Nat):Int),o.eX⟩:=by
 unfold dO at h;obtain⟨x,b,e⟩:=List.mem_filterMap.1 h;unfold fI at e;split at e
 ·cases e
 ·rename_i a
  cases hO:S.O x with
  |none=>rw[hO] at e;cases e
  |some o=>
   rw[hO] at e;obtain rfl:=Option.some.inj e;exact⟨a,o,hO,rfl⟩
theorem Sy{S:KS}(h:0<(vJ (dO S)).1):(vJ (dO S)).2≠1/\∃o,S.O (vJ (dO S)).2=some o/\0<gL (aC S o.j):=by
 obtain⟨k,d,g,f⟩:=Z0 h;obtain⟨b,o,a,e⟩:=UY (getElem_mem d);rw[g] at b a;refine⟨b,o,a,?_⟩;have c:0<kY (dO S)[k]:=by rw[f];exact h
 have:=(VN.1 c).1;rw[e] at this;simp only at this;omega
theorem qX{f a:Int->Option Cd}{x:Int}(b:a x=none)(c:(f x).isSome=true):∀(l:List Int),(∀y∈l,a y=none\/a y=f y)->(l.filterMap a).length<=(l.filterMap f).length/\(x∈l->(l.filterMap a).length+1<=(l.filterMap f).length)
 | [],_=>⟨le_refl _,fun h=>by cases h⟩
 |y::r,hl=>by
  obtain⟨o,d⟩:=qX b c r (fun z g=>hl z (List.mem_cons_of_mem _ g));have i:=hl y List.mem_cons_self;have n:((y::r).filterMap a).length=(r.filterMap a).length+if (a y).isSome=true then 1 else 0:=by
   rw[List.filterMap_cons];cases a y<;>simp
  have m:((y::r).filterMap f).length=(r.filterMap f).length+if (f y).isSome=true then 1 else 0:=by
   rw[List.filterMap_cons];cases f y<;>simp
  rw[n,m];have k:(if (a y).isSome=true then 1 else 0)<=(if (f y).isSome=true then 1 else 0):=by
   rcases i with e|e
   ·rw[e];simp
   ·rw[e];exact le_refl _
  refine⟨by omega,fun j=>?_⟩;rcases mem_cons.1 j with e|e
  ·subst e;rw[b,c];simp;omega
  ·have:=d e;omega
theorem OM(P:Ps)(x c:Int):aH (dG P x c)=aH P:=by
 unfold aH;refine List.filter_congr (fun n _=>?_);unfold dG;rw[Option.isSome_map]
theorem Ql(h:KN w m H S q A){x:Int}{a:Ow}(d:S.O x=some a)(g:x≠1)(c:Int):(dO (dB S x a c)).length+1<=(dO S).length:=by
 unfold dO;have e:(dB S x a c).P=dG S.P x c:=rfl;rw[e,OM];have j:=h.1.mlt d;have i:fI (dB S x a c) x=none:=by
  unfold fI;rw[if_neg g];have:(dB S x a c).O x=none:=by show jK S.O x x=none;unfold jK;rw[if_pos rfl]
  rw[this];rfl
 refine(qX i ?_ _ (fun y p=>?_)).2 ?_
 ·unfold fI;rw[if_neg g,d];rfl
 ·by_cases e:y=x
  ·left;rw[e];exact i
  ·right;unfold fI;have o:(dB S x a c).O y=S.O y:=by show jK S.O x y=_;unfold jK;rw[if_neg e]
   rw[o];by_cases b:y=1
   ·rw[if_pos b,if_pos b]
   ·rw[if_neg b,if_neg b];cases hO:S.O y with
    |none=>rw[Option.map_none,Option.map_none]
    |some o'=>
     have f:o'.j≠a.j:=fun z=>e (h.1.inj hO d z);have n:aC (dB S x a c) o'.j=aC S o'.j:=by
      have:aC (dB S x a c) o'.j=if o'.j=a.j then lG else aC S o'.j:=gu (S:=S.procs (dG S.P x c)) j lG S.W o'.j;rw[this,if_neg f]
     rw[Option.map_some,Option.map_some,n]
 ·have l:aD S.P x=true:=by rw[<-h.2.run x,d];rfl
  obtain⟨z,k,_⟩:=dx.1 l;exact h.1.Vd.si.2 (by rw[k];rfl)
theorem KX.zJ(h:KX w m H S U q A){r:Option Nat}(g:w.grownBy w' r)(a:∀x,r=some x->¬A x/\x≠4/\x≠0/\x≠8):KX w' m H S U q A:=by
 obtain⟨G,k,e⟩:=h;have b:∀i,i<w.heap.size->r≠some i->w'.heap[i]? = w.heap[i]? := fun i c d=>g.block i c (fun z=>d z.symm);exact⟨G,k.same g.size (fun i c=>b i (k.Bd i c) (fun z=>(a i z).1 ((e i).2 c))) (b _ k.qi (fun z=>(a _ z).2.1 rfl)) (b _ k.qm (fun z=>(a _ z).2.2.1 rfl)) (b _ k.jX (fun z=>(a _ z).2.2.2 rfl)),e⟩
theorem Stp.zJ(st:Stp w V A A'){r:Option Nat}(g:V.grownBy w' r)(b:∀x,r=some x->w.heap.size<=x):Stp w w' A A':=
 ⟨⟨g.os.trans st.wt.os,g.tape.trans st.wt.tape,g.output.trans st.wt.output,le_trans st.wt.size g.size,fun i a c=>by
  rw[g.block i (lt_of_lt_of_le a st.wt.size) (fun z=>by have:=b i z.symm;omega)];exact st.wt.block i a c⟩,st.own⟩
structure Wn (w0 w:World) (A:Nat->Prop) (v:Value) (l:List Int):Prop where
 row:w.ownsRow w0.heap.size 3 1 v l.length (l.map fun x=>.int .i64 x)
 off:∀g,v.ownBlock=some g->¬A g
theorem Wn.nil(w:World)(A:Nat->Prop):Wn w w A (.slice none 0 0) []:=⟨⟨rfl,.inl ⟨rfl,rfl⟩⟩,fun g e=>by cases e⟩
theorem Wn.p8{w0:World}{v:Value}{l:List Int}(h:Wn w0 w A v l)(st:Stp w w' A A'):Wn w0 w' A' v l:=by
 refine⟨⟨h.row.1,?_⟩,fun g e=>?_⟩
 ·rcases h.row.2 with z|⟨g,c,b,e,f,d,a⟩
  ·exact .inl z
  ·refine .inr ⟨g,c,b,e,f,?_,a⟩;rw[st.wt.block g (h.row.lt g (by rw[e];rfl)).2 (h.off g (by rw[e];rfl))];exact d
 ·intro z;rcases st.own g z with y|y
  ·exact h.off g e y
  ·have:=(h.row.lt g e).2;omega
theorem Ur:∃i,prog.info? 3=some i/\i.zero=some (.int .i64 0)/\i.size=1/\i.bytes=8:=info_parts (P:=prog) (e:=3) (z:=.int .i64 0) (size:=1) (bytes:=8) (by kernel_rfl)
theorem Wn.more{w0:World}{v:Value}{l:List Int}(h:Wn w0 w A v l)(F:l.length<=100)(G:w0.heap.size<=w.heap.size)(B:∀i,A i->i<w.heap.size)(x:Int):∃c w',(∀d,d=46->(Builtin.append_ #[46,46] d #[v,.slice (some ⟨w.heap.size,0,none⟩) 1 1]).run prog (w.alloc (.cells #[.int .i64 x] 3))=.ok c w')/\Wn w0 w' A c (l++[x])/\w.grownBy w' v.ownBlock:=by
 obtain⟨o,n,m,k,f⟩:=Ur;obtain⟨D,s1,C,_⟩:=sG w (.int .i64 x) 3;have E:=h.row.alloc (.cells #[.int .i64 x] 3);obtain⟨c,w',q,r,b,_,p⟩:=run_append_own_at (P:=prog) (w.alloc (.cells #[.int .i64 x] 3)) w0.heap.size 46 46 3 o (.int .i64 0) 1 8 Tryz.underlying46 n m k f rfl (by decide) v l.length _ E ⟨w.heap.size,0,none⟩ 1 1 [.int .i64 x] rfl (fun j u a=>by
  match j with
  |0=>
   simp only[List.getElem?_cons_zero,Option.some.injEq] at a;rw[<-a];exact C
  |j+1=>simp at a) (fun u a=>by simp at a;rw[a];rfl) (by unfold maxLen;omega) (by omega) (by omega)
 refine⟨c,w',fun d e=>by rw[e];exact q,⟨?_,fun g e=>?_⟩,?_⟩
 ·rw[List.length_append,List.map_append];exact r
 ·rcases p with z|z
  ·exact h.off g (by rw[<-z];exact e)
  ·rw[z,s1] at e;cases e
   intro y;have:=B _ y;omega
 ·exact⟨b.os,b.tape,b.output,by have:=b.size;omega,fun i t s=>(b.block i (by omega) s).trans (D.block i t)⟩
end
section
variable {w w' V:World}{m:Int}{H:KH}{S:KS}{U:Nat→Nat→Int}{q:Nat}{A A':Nat→Prop}{p:Int}{o:Ow}
theorem uo.len{n:Nat}{P c:PM}{f:Int->Nat}{D D':Nat->Nat->Int}{a k v d:Int}(h:uo n P f D a k v d c D'):bX c=bX P:=by
 rcases h with⟨_,_,rfl,_⟩|⟨_,_,_,_,rfl,_⟩|⟨_,_,_,_,rfl,_⟩|⟨b,_,x,_,_,_,rfl,_⟩
 ·rfl
 ·rfl
 ·rfl
 ·refine pM ?_;cases hP:P a with
  |none=>unfold dL at b;rw[hP] at b;simp at b
  |some y=>rfl
theorem qV{P:Program}{c:Array Oper}{b:List Oper}{o:Oper}{a:Act}{w:World}{Q:Exit->Act->World->Prop}(d:o.guard=none)(s x:Operand)(t:TypeId)
 (j:o.op=.call { callee:=.builtin .append,args:=#[s,x],argTypes:=#[t,t] }) (v y e:Value) (w':World) (g:a.eval s=v) (f:a.eval x=y)
 (i:(Builtin.append_ #[t,t] o.type #[v,y]).run P w=.ok e w') (h:wpList P c Q b (a.put o.dst e) w'):wpList P c Q (o::b) a w:=by
 refine wpList_plain d fun K k=>?_;unfold Oper.wp execOp;simp only[j,resolve,invoke,builtin,Sem.run_bind,Sem.run_pure,Result.andThen_ok,List.map_toArray,map_cons,List.map_nil,g,f,i];exact k _ _ h
def DY(w:World)(m:Int)(H:KH)(S:KS)(q:Nat)(A:Nat->Prop)(p a k v:Int)(vw:Value)(er:Int)(w':World):Prop:=∃went S' A',dN p a k v S went er S'/\Wn w w' A' vw went/\KN w' m H S' q A'/\Stp w w' A A'
def vZ(w:World)(m:Int)(H:KH)(S:KS)(q:Nat)(A:Nat->Prop)(p a k v:Int)(o:Ow)(mm:Nat)(vw:Value)(wr:World):Prop:=∃l Sk Ak,(dO Sk).length<=mm/\l.length+(dO Sk).length<=24/\Sk.O p=some o/\(∀rest er S',dN p a k v Sk rest er S'->dN p a k v S (l++rest) er S')/\Wn w wr Ak vw l/\KN wr m H Sk q Ak/\Stp w wr A Ak
theorem Wn.lt{w0:World}{v:Value}{l:List Int}(h:Wn w0 w A v l):∀g,v.ownBlock=some g->w0.heap.size<=g/\g<w.heap.size:=h.row.lt
theorem vZ.step(hg:4<w.heap.size/\0<w.heap.size/\8<w.heap.size){a k v:Int}{Z:Nat}{D:Value}{wr:World}(h:vZ w m H S q A p a k v o Z D wr)(hq:q<=400)(ha:(Lit.int .i64 a).wf=true):wr.cell? ⟨H.hs o.j,0,none⟩=some (wp (H.sp o.j))/\Calls prog 182 #[wp (H.sp o.j),.int .i64 a,.int .i64 k,.int .i64 v] wr fun y U=>∃er,y=.returned (aI er)/\Calls prog 14 #[aI er] U fun y u=>y=.returned (.int .i64 er)/\(er≠12->DY w m H S q A p a k v D er u)/\
  (er=12->Calls prog 184 #[wp H.kb] u fun y Y=>∃z,y=.returned z/\Calls prog 183 #[z] Y fun y C=>∃X ok,y=.returned (.tuple #[.int .i64 X,.bool ok])/\(ok=false->DY w m H S q A p a k v D 12 C)/\
    (ok=true->Calls prog 129 #[wp H.kb,.int .i64 X,.int .i64 108] C fun y W=>y=.returned .nilIface/\∃E w9,(Builtin.append_ #[46,46] 46 #[D,.slice (some ⟨W.heap.size,0,none⟩) 1 1]).run prog (W.alloc (.cells #[.int .i64 X] 3))=.ok E w9/\(X=p->DY w m H S q A p a k v E 10 w9)/\(X≠p->vZ w m H S q A p a k v o (Z-1) E w9/\1<=Z))):=by
 obtain⟨l,f,Ak,h1,h2,d,b,hw,j,st⟩:=h;refine⟨(j.1.hd d).at 0,(j.1.Z8 (j.1.rR d) a k v ha).mono ?_⟩;rintro y U ⟨P',D',er,B,rfl,T,k1,K⟩;have kn1:KN U m H (f.space o.j P' D') q T:=k1.RG j.2 d j.1.len (j.1.rR d) B.len;refine⟨er,rfl,(Ga er U k1.er).mono ?_⟩;rintro y u ⟨rfl,b2⟩;have hw1:=hw.p8 K;have J:Stp w u A T:=(st.trans K).trans (.below b2);have N:=hw1.p8 (.below b2);have V:=kn1.below b2;refine⟨rfl,fun i=>⟨l,_,T,by have:=b _ _ _ (.done d B i);rwa[append_nil] at this,N,V,J⟩,fun h12=>?_⟩;subst h12;obtain⟨rfl,rfl⟩:=B.refused (by omega);rw[jS (j.1.mlt d)] at V;refine V.1.candidates.mono ?_;rintro y Y ⟨ad,cap,rfl,hcd,b3⟩;refine⟨_,rfl,(VQ Y ad (dO f) cap (by have:=Dk f;omega) hcd).mono ?_⟩;rintro y C ⟨rfl,b4⟩;have t:Below u.heap.size u C:=b3.trans (b4.mono b3.size);have L:=V.below t;have I:Stp w C A T:=J.trans (.below t);have M:=N.p8 (.below t);refine⟨_,_,rfl,fun s=>?_,fun s=>?_⟩
 ·have O:¬0<(vJ (dO f)).1:=by simpa using s
  exact⟨l,f,T,by have:=b _ _ _ (.nobody d B O);rwa[append_nil] at this,M,L,I⟩
 ·have O:0<(vJ (dO f)).1:=by simpa using s
  obtain⟨n,ox,c,hxr⟩:=Sy O;refine(L.EA c hq n 108).mono ?_;rintro y W ⟨rfl,R,k5,G⟩;have g:=M.p8 G;have Q:=I.trans G;obtain⟨E,w9,hr,Yz,IW⟩:=g.more (by omega) Q.wt.size k5.1.lt (vJ (dO f)).2;have P:∀x,D.ownBlock=some x->¬R x/\x≠4/\x≠0/\x≠8:=fun x e=>by
   have:=(g.lt x e).1;exact⟨g.off x e,by omega,by omega,by omega⟩
  have k9:KN w9 m H (dB f (vJ (dO f)).2 ox 108) q R:=⟨k5.1.zJ IW P,k5.2⟩;have F:Stp w w9 A R:=Q.zJ IW (fun x e=>(g.lt x e).1);refine⟨rfl,E,w9,hr _ rfl,fun he=>?_,fun i=>?_⟩
  ·subst he;have:ox=o:=by rw[d] at c;exact(Option.some.inj c).symm
   subst this;exact⟨_,_,R,b _ _ _ (.self d B O rfl),Yz,k9,F⟩
  ·have hlt:=Ql j c n 108;refine⟨⟨_,_,R,by omega,?_,?_,fun rest er S' r=>?_,Yz,k9,F⟩,by omega⟩
   ·rw[List.length_append];simp only[List.length_cons,List.length_nil];omega
   ·show jK f.O (vJ (dO f)).2 p=some o;unfold jK;rw[if_neg (Ne.symm i)];exact d
   ·rw[List.append_assoc];exact b _ _ _ (.goes d B O rfl c n i r)
theorem KN.N9(h:KN w m H S q A)(E:S.O p=some o)(M:q<=400)(a k v:Int)(U:(Lit.int .i64 a).wf=true):Calls prog 116 #[wp H.kb,.int .i64 p,.int .i64 a,.int .i64 k,.int .i64 v] w fun y J=>∃i er,y=.returned (.tuple #[i,aI er])/\DY w m H S q A p a k v i er J:=by
 have hF:=h.1.ay E;have R:4<w.heap.size/\0<w.heap.size/\8<w.heap.size:=by
  obtain⟨G,k,e⟩:=h.1;exact⟨k.qi,k.qm,k.jX⟩
 have Z:vZ w m H S q A p a k v o (dO S).length (.slice none 0 0) w:=⟨[],S,A,le_refl _,by have:=Dk S;simpa using this,E,fun _ _ _ r=>r,Wn.nil w A,h,Stp.refl _ _⟩;have c:=fun s i wr (Q:vZ w m H S q A p a k v o s i wr)=>Q.step R M U;have HS:Aside _:=c;have H0:Aside _:=Z;generalize (dO S).length=N at *;go_enter Tryz.func116,Tryz.ntmps116
 go_wp2_with (go_at_call 127;refine hF.mono ?_;rintro e C ⟨rfl,hw⟩;subst C)
 go_loopg [14] N (fun s s14 wr=>vZ w m H S q A p a k v o s s14 wr)
 case atStart=>exact H0.out
 case round=>
  obtain⟨d0,u⟩:=HS.out gk u14 wr hrel;go_upto_region 6 with (go_at_call 182;refine u.mono ?_;rintro e C ⟨er,rfl,F⟩)
  by_cases d:er=12
  ·subst d;go_upto_region 9 with (first
    |(go_at_call 14;refine F.mono ?_;rintro e I ⟨rfl,j,l⟩;have t:=l rfl;clear j l)
    |(go_at_call 184;refine t.mono ?_;rintro e w3 ⟨z,rfl,W⟩)
    |(go_at_call 183;refine W.mono ?_;rintro e w4 ⟨X,K,rfl,T,L⟩))
   have HF:Aside _:=T;have HT:Aside _:=L;cases K with
   |false=>
    have g:=HF.out rfl;have f:Aside _:=g;go_wp2_with fail
    go_ret2;exact⟨_,12,rfl,f.out⟩
   |true=>
    have Y:=HT.out rfl;go_upto_region 14 with (go_at_call 129;refine Y.mono ?_;rintro e w5 ⟨rfl,D,B,b,O,P⟩)
    have HP:Aside _:=O;have x:Aside _:=P;by_cases n:X=p
    ·have g:=HP.out n;have f:Aside _:=g;subst n;go_wp2_with (at_builtin;refine qV rfl _ _ 46 rfl _ _ D B rfl rfl b ?_)
     go_ret2;exact⟨_,10,rfl,f.out⟩
    ·have g:=x.out n;have f:Aside _:=g;have V:(X==p)=false:=by simpa using n
     go_wp2_with (at_builtin;refine qV rfl _ _ 46 rfl _ _ D B rfl rfl b ?_)
     go_roundg (gk-1)
     case measure=>have:=f.out.2;omega
     case rel=>exact f.out.1
  ·have Jh:(er != 12)=true:=by simpa using d
   have x:Aside (er≠12):=d;go_wp2_with (go_at_call 14;refine F.mono ?_;rintro e I ⟨rfl,j,l⟩;have HX:Aside _:=j;clear j l)
   go_ret2;exact⟨_,er,rfl,HX.out x.out⟩
end
section
variable {w w' V:World}{m:Int}{H:KH}{S:KS}{U:Nat→Nat→Int}{q:Nat}{A A':Nat→Prop}{p:Int}{o:Ow}
noncomputable def xW(S:KS)(o:Ow)(x:Int)(s:List UInt8):Int×Int×DS:=bZ S.D (au S o.j) x s (o.m 2)
noncomputable def jY(S:KS)(p:Int)(o:Ow)(x:Int)(s:List UInt8):KS:=
 if (xW S o x s).2.1=14 then (S.files (xW S o x s).2.2 o.j (au S o.j)).procs (if eH S.P p 5=0 then kC S.P p 5 else S.P) else S.files (xW S o x s).2.2 o.j (au S o.j)
theorem KN.Nw(h:KN w m H S q A)(c:S.O p=some o)(x:Int)(s:List UInt8)(M:s.length<100000):Calls prog 120 #[wp H.kb,.int .i64 p,.int .i64 x,tx s] w fun y a=>y=.returned (.tuple #[.int .i64 (xW S o x s).1,aI (xW S o x s).2.1])/\∃A',KN a m H (jY S p o x s) (q+1) A'/\Stp w a A A':=by
 have hF:=h.1.ay c;have D:=h.1.rR c;have W:=h.1.kP c;have N:Calls prog 188 #[lq (H.hs o.j),.int .i64 2] w.drew fun e a=>e=.returned (.int .i64 (o.m 2))/\a=w.drew:=((h.1.below (bH w)).hd c).most 2 (by omega) (by omega);have P:Calls prog 187 #[wp H.f,wp (H.tb o.j),.int .i64 x,tx s,.int .i64 (o.m 2)] w.drew fun y a=>y=.returned (.tuple #[.int .i64 (xW S o x s).1,aI (xW S o x s).2.1])/\(a.cell? ⟨H.kb,2,none⟩=some (wp H.f)/\a.cell? ⟨H.hs o.j,1,none⟩=some (wp (H.tb o.j)))/\Calls prog 14 #[aI (xW S o x s).2.1] a fun y b=>y=.returned (.int .i64 (xW S o x s).2.1)/\b.cell? ⟨H.kb,3,none⟩=some (wp H.t)/\((xW S o x s).2.1≠14->∃A',KN b m H (jY S p o x s) (q+1) A'/\Stp w b A A')/\((xW S o x s).2.1=14->Calls prog 163 #[wp H.t,.int .i64 p,.int .i64 5] b fun y i=>∃z,y=.returned z/\∃A',KN i m H (jY S p o x s) (q+1) A'/\Stp w i A A'):=by
  refine((h.1.below (bH w)).ZX D x s M (o.m 2)).mono ?_;rintro y d ⟨rfl,k,C,l⟩;have g:Stp w d A k:=Stp.base (V:=w.drew) rfl rfl rfl rfl l;refine⟨rfl,C.kP (p:=p) (o:=o) c,(Ga _ d C.er).mono ?_⟩;rintro y b ⟨rfl,G⟩;have n:KN d m H (S.files (xW S o x s).2.2 o.j (au S o.j)) (q+1) k:=C.ze h.2 c D rfl;have j:=n.below G;have f:Stp w b A k:=g.trans (.below G);refine⟨rfl,j.1.c3,fun u=>⟨k,?_,f⟩,fun O=>?_⟩
  ·unfold jY;rw[if_neg u];exact j
  ·refine(j.1.Y1 p 5 (h.1.Yv c)).mono ?_;rintro y i ⟨rfl,Z,L,I⟩;refine⟨_,rfl,Z,?_,f.trans I⟩;unfold jY;rw[if_pos O];exact L.yV j.2 (fun x=>Cn _ _ _ _)
 generalize jY S p o x s=S2 at *;generalize (xW S o x s).1=K at *;generalize (xW S o x s).2.1=E at *;generalize o.m 2=M2 at *;go_enter Tryz.func120,Tryz.ntmps120
 go_upto_region 4 with (go_at_call 127;refine hF.mono ?_;rintro e d ⟨rfl,hw⟩;subst d)
 go_region_held3 (fun a=>a.cell? ⟨H.kb,2,none⟩=some (wp H.f)/\a.cell? ⟨H.hs o.j,1,none⟩=some (wp (H.tb o.j))) (first|exact W|exact U) (first
  |(go_at_call 188;refine N.mono ?_;rintro e J ⟨rfl,Yz⟩;subst J)
  |(go_at_call 187;refine P.mono ?_;rintro e d ⟨rfl,U,F⟩))
 all_goals
  by_cases B:E=14
  ·subst B;go_upto_region 6 with (go_at_call 14;refine F.mono ?_;rintro e b ⟨rfl,T,v,t⟩)
   have r:=t trivial;go_wp2_with (go_at_call 163;refine r.mono ?_;rintro e i ⟨z,rfl,Q⟩)
   go_ret2;exact⟨rfl,Q⟩
  ·have R:(E==14)=false:=by simpa using B
   have Y:Aside (E≠14):=B;go_wp2_with (go_at_call 14;refine F.mono ?_;rintro e b ⟨rfl,T,v,t⟩;have X:Aside _:=v;clear v t)
   go_ret2;exact⟨rfl,X.out Y.out⟩
end
theorem aaY{T:Wd}{s:Nat}{p:List UInt8}{z:Int}(c:TrOk T)(b:dD T s)(d:aY T s p=0)(a:fV T z):z<64:=by
 have e:=(mF c d).2.2.2;have g:=b.free (k:=z.toNat) (fun i f=>a.least i (by omega) (by have:=a.pos;omega));have:=a.pos;omega
section
variable {D:DS}{Ts:List Ns}{k:Nat}
theorem Inv.link(h:Inv D Ts k)(p q:List UInt8):Inv { D with T:=kS D.T p q } Ts (k+1):=h.Nj (h.core.lv.link p q) (h.core.sm.link p q)
theorem Inv.rename(h:Inv D Ts k)(p q:List UInt8):Inv { D with T:=fD D.T p q } Ts (k+1):=h.Nj (h.core.lv.rename p q) (h.core.sm.rename p q)
theorem Inv.make(h:Inv D Ts k){s:Nat}(d:dD D.T s){p:List UInt8}(c:aY D.T s p=0){z:Int}(b:fV D.T z)(a:Bool):Inv { D with T:=jd D.T p a z } Ts (k+1):=
 h.Nj (h.core.lv.make c b (aaY h.core.lv.toTrOk d c b) a) (h.core.sm.make p a z)
end
section
variable {w w' V:World}{m:Int}{H:KH}{S:KS}{U:Nat→Nat→Int}{q:Nat}{A A':Nat→Prop}{p:Int}{o:Ow}{f r k:Nat}{D:DS}{bs:List Nat}{Ts:List Ns}
theorem KD.Lt(h:KD w m f r D bs Ts k A){fn:FuncId}{args:Array Value}{Q:Ending->Wd->Prop}(K:∀y d,Q y d->Inv { D with T:=d } Ts (k+1))
 (I:∀O,PT w r D.T O->Calls prog fn args w fun y e=>∃d t,Q y d/\PT e r d t/\Stp w e O t) :
 Calls prog fn args w fun y e=>∃d A',Q y d/\KD e m f r { D with T:=d } bs Ts (k+1) A'/\Stp w e A A':=by
 obtain⟨g,n,C,q,H,B⟩:=h.st;obtain⟨O,u,s⟩:=C.tree;rw[q] at u;refine(I O u).mono ?_;rintro y e ⟨d,t,z,v,j⟩;rw[<-q] at v;obtain⟨L,F,E,P,N,_⟩:=C.turn s v j;have c:Stp w e A (fun i=>A i\/(w.heap.size<=i/\i<e.heap.size)):=⟨j.wt.mono (fun i a=>B i (by rw[s i a];rfl)),fun i a=>by
  rcases a with a|a
  ·exact .inl a
  ·exact .inr a.1⟩
 refine⟨d,_,z,⟨⟨L,n,F,N.trans q,fun x G p=>?_,fun i a=>?_⟩,h.len,h.nd,fun b J=>.inl (h.Vf b J),K y d z,fun i a=>?_,(c.cO h.ml h.mn).1,(c.cO h.ml h.mn).2,(c.cO h.er h.en).1,(c.cO h.er h.en).2⟩,c⟩
 ·obtain⟨R,l⟩:=H x G p;exact⟨R,l.Q9 (j.wt.block _ l.tab.lt (fun o=>by have:=s _ o;rw[l.off] at this;cases this)) E P⟩
 ·by_cases M:i<w.heap.size
  ·rw[E i M] at a;exact .inl (B i a)
  ·exact .inr ⟨by omega,F.lt i a⟩
 ·rcases a with a|a
  ·exact lt_of_lt_of_le (h.lt i a) j.wt.size
  ·exact a.2
theorem KN.VU(h:KN w m H S q A)(n:q<=400)(s:List UInt8)(k:s.length<100000):Calls prog 185 #[wp H.r,tx s] w fun y b=>y=.returned (aI (dR S.D.T s))/\∃A',KN b m H (S.tree (fC S.D.T s)) (q+1) A'/\Stp w b A A':=by
 refine(h.1.Lr (Q:=fun y d=>y=.returned (aI (dR S.D.T s))/\d=fC S.D.T s) (fun o p a=>a.Lt (fun y d l=>?_) (fun O f=>?_))).mono ?_
 ·obtain⟨_,rfl⟩:=l;exact a.inv.unlink s
 ·refine(f.NR a.inv.core.lv s k m a.ml (fun i C e=>by have:=a.inv.core.sm.1 i C e;omega)).mono ?_;rintro y b ⟨rfl,g,c⟩;exact⟨_,_,⟨rfl,rfl⟩,g,c⟩
 ·rintro y b ⟨d,⟨rfl,rfl⟩,A',j,c⟩;exact⟨rfl,A',j.Ls h.2,c⟩
theorem KN.sV(h:KN w m H S q A)(f:S.O p=some o)(d:q<=400)(s:List UInt8)(c:s.length<100000):Calls prog 117 #[wp H.kb,.int .i64 p,tx s] w fun y b=>y=.returned (aI (dR S.D.T s))/\∃A',KN b m H (S.tree (fC S.D.T s)) (q+1) A'/\Stp w b A A':=by
 have hF:=h.1.ay f;have k:=h.1.c1;have g:=h.VU d s c;generalize S.tree (fC S.D.T s)=S2 at *;generalize dR S.D.T s=E at *;go_enter Tryz.func117,Tryz.ntmps117
 go_wp2_with (first
  |(go_at_call 127;refine hF.mono ?_;rintro e a ⟨rfl,j⟩;subst a)
  |(go_at_call 185;refine g.mono ?_;rintro e a ⟨rfl,i⟩))
 go_ret;exact⟨rfl,i⟩
theorem KN.adf(h:KN w m H S q A)(o:q<=400)(s u:List UInt8)(l:s.length<100000)(k:u.length<100000):Calls prog 164 #[wp H.r,tx s,tx u] w fun y b=>y=.returned (aI (ky S.D.T s u))/\∃A',KN b m H (S.tree (kS S.D.T s u)) (q+1) A'/\Stp w b A A':=by
 refine(h.1.Lr (Q:=fun y d=>y=.returned (aI (ky S.D.T s u))/\d=kS S.D.T s u) (fun p r a=>a.Lt (fun y d n=>?_) (fun O f=>?_))).mono ?_
 ·obtain⟨_,rfl⟩:=n;exact a.inv.link s u
 ·refine(f.Xv a.inv.core.lv s u l k m a.ml (fun i C e=>by have:=a.inv.core.sm.1 i C e;omega)).mono ?_;rintro y b ⟨rfl,g,c⟩;exact⟨_,_,⟨rfl,rfl⟩,g,c⟩
 ·rintro y b ⟨d,⟨rfl,rfl⟩,A',j,c⟩;exact⟨rfl,A',j.Ls h.2,c⟩
theorem KN.zG(h:KN w m H S q A)(g:S.O p=some o)(f:q<=400)(s u:List UInt8)(d:s.length<100000)(c:u.length<100000):Calls prog 102 #[wp H.kb,.int .i64 p,tx s,tx u] w fun y b=>y=.returned (aI (ky S.D.T s u))/\∃A',KN b m H (S.tree (kS S.D.T s u)) (q+1) A'/\Stp w b A A':=by
 have hF:=h.1.ay g;have l:=h.1.c1;have i:=h.adf f s u d c;generalize S.tree (kS S.D.T s u)=S2 at *;generalize ky S.D.T s u=E at *;go_enter Tryz.func102,Tryz.ntmps102
 go_wp2_with (first
  |(go_at_call 127;refine hF.mono ?_;rintro e a ⟨rfl,k⟩;subst a)
  |(go_at_call 164;refine i.mono ?_;rintro e a ⟨rfl,j⟩))
 go_ret;exact⟨rfl,j⟩
theorem KN.Ww(h:KN w m H S q A)(o:q<=400)(s u:List UInt8)(l:s.length<100000)(k:u.length<100000):Calls prog 180 #[wp H.r,tx s,tx u] w fun y b=>y=.returned (aI (eQ S.D.T s u))/\∃A',KN b m H (S.tree (fD S.D.T s u)) (q+1) A'/\Stp w b A A':=by
 refine(h.1.Lr (Q:=fun y d=>y=.returned (aI (eQ S.D.T s u))/\d=fD S.D.T s u) (fun p r a=>a.Lt (fun y d n=>?_) (fun O f=>?_))).mono ?_
 ·obtain⟨_,rfl⟩:=n;exact a.inv.rename s u
 ·refine(f.Ox a.inv.core.lv s u l k m a.ml (fun i C e=>by have:=a.inv.core.sm.1 i C e;omega)).mono ?_;rintro y b ⟨rfl,g,c⟩;exact⟨_,_,⟨rfl,rfl⟩,g,c⟩
 ·rintro y b ⟨d,⟨rfl,rfl⟩,A',j,c⟩;exact⟨rfl,A',j.Ls h.2,c⟩
theorem KN.sZ(h:KN w m H S q A)(g:S.O p=some o)(f:q<=400)(s u:List UInt8)(d:s.length<100000)(c:u.length<100000):Calls prog 114 #[wp H.kb,.int .i64 p,tx s,tx u] w fun y b=>y=.returned (aI (eQ S.D.T s u))/\∃A',KN b m H (S.tree (fD S.D.T s u)) (q+1) A'/\Stp w b A A':=by
 have hF:=h.1.ay g;have l:=h.1.c1;have i:=h.Ww f s u d c;generalize S.tree (fD S.D.T s u)=S2 at *;generalize eQ S.D.T s u=E at *;go_enter Tryz.func114,Tryz.ntmps114
 go_wp2_with (first
  |(go_at_call 127;refine hF.mono ?_;rintro e a ⟨rfl,k⟩;subst a)
  |(go_at_call 180;refine i.mono ?_;rintro e a ⟨rfl,j⟩))
 go_ret;exact⟨rfl,j⟩
def Q5(T:Wd)(s:Nat)(path:List UInt8)(c:Int)(T':Wd):Prop:=(aY T s path≠0/\c=aY T s path/\T'=T)\/(aY T s path=0/\c=0/\∃z,fV T z/\T'=jd T path true z)
theorem KN.aaK(h:KN w m H S q A)(B:q<=400){s:Nat}(o:dD S.D.T s)(a:List UInt8)(t:a.length<100000):Calls prog 173 #[wp H.r,tx a] w fun y j=>∃x c b,y=.returned (.tuple #[.int .i64 x,aI c])/\Q5 S.D.T s a c b/\∃A',KN j m H (S.tree b) (q+1) A'/\Stp w j A A':=by
 refine(h.1.Lr (Q:=fun y b=>∃x c,y=.returned (.tuple #[.int .i64 x,aI c])/\Q5 S.D.T s a c b) (fun D F d=>d.Lt (fun y b u=>?_) (fun O p=>?_))).mono ?_
 ·obtain⟨x,c,_,n⟩:=u;rcases n with⟨_,_,rfl⟩|⟨f,_,z,l,rfl⟩
  ·exact d.inv.more (by omega)
  ·exact d.inv.make o f l true
 ·refine(p.TY d.inv.core.lv o a t m d.ml (fun i C e=>by have:=d.inv.core.sm.1 i C e;omega)).mono ?_;rintro y j (⟨f,rfl,k,g⟩|⟨f,z,E,l,v,rfl,k,g⟩)
  ·exact⟨_,_,⟨0,aY S.D.T s a,by rw[ax f],.inl ⟨f,rfl,rfl⟩⟩,k,g⟩
  ·exact⟨_,_,⟨z,0,rfl,.inr ⟨f,rfl,z,l,rfl⟩⟩,k,g⟩
 ·rintro y j ⟨b,⟨x,c,rfl,n⟩,A',r,g⟩;exact⟨x,c,b,rfl,n,A',r.Ls h.2,g⟩
theorem KN.O6(h:KN w m H S q A)(k:S.O p=some o)(i:q<=400){s:Nat}(g:dD S.D.T s)(a:List UInt8)(j:a.length<100000):Calls prog 108 #[wp H.kb,.int .i64 p,tx a] w fun y f=>∃c b,y=.returned (aI c)/\Q5 S.D.T s a c b/\∃A',KN f m H (S.tree b) (q+1) A'/\Stp w f A A':=by
 have hF:=h.1.ay k;have t:=h.1.c1;have l:=h.aaK i g a j;go_enter Tryz.func108,Tryz.ntmps108
 go_wp2_with (first
  |(go_at_call 127;refine hF.mono ?_;rintro e d ⟨rfl,r⟩;subst d)
  |(go_at_call 173;refine l.mono ?_;rintro e d ⟨x,c,b,rfl,n⟩))
 go_ret;exact⟨c,b,rfl,n⟩
end
section
variable {w w' w1 w2 V:World}{m:Int}{H:KH}{S:KS}{U:Nat→Nat→Int}{q:Nat}{G:KG}{A A' X:Nat→Prop}{p:Int}{o:Ow}
theorem KX.ads(h:KX w m H S U q A)(r:S.O p=some o)(v:q<=400)(x b:Int){g i f d:Nat}(s:rP w A [(g,wp H.kb),(i,wp (H.hs o.j)),(f,.int .i64 x),(d,.int .i64 b)]):Calls prog 155 #[wp g,wp i,wp f,wp d] w fun y a=>y=.returned (aI (fu (au S o.j) x b))/\∃A',KX a m H (S.files (fQ S.D (au S o.j) x b) o.j (fq (au S o.j) x b)) U q A'/\Stp w a A A':=by
 have c:∀ {a:World}{A':Nat->Prop}{t:KS},KX a m H t U q A'->t.O p=some o->rP a A' [(g,wp H.kb),(i,wp (H.hs o.j)),(f,.int .i64 x),(d,.int .i64 b)]->a.cell? ⟨g,0,none⟩=some (wp H.kb)/\a.cell? ⟨H.kb,2,none⟩=some (wp H.f)/\a.cell? ⟨i,0,none⟩=some (wp (H.hs o.j))/\a.cell? ⟨H.hs o.j,1,none⟩=some (wp (H.tb o.j))/\a.cell? ⟨f,0,none⟩=some (.int .i64 x)/\a.cell? ⟨d,0,none⟩=some (.int .i64 b):=fun k n l=>
  ⟨(l (g,_) (by simp)).1,k.c2,(l (i,_) (by simp)).1,(k.hd n).at 1,(l (f,_) (by simp)).1,(l (d,_) (by simp)).1⟩
 have D:=c h r s;have B:Calls prog 156 #[wp H.f,wp (H.tb o.j),.int .i64 x,.int .i64 b] w.drew fun y a=>y=.returned (aI (fu (au S o.j) x b))/\(a.cell? ⟨g,0,none⟩=some (wp H.kb)/\a.cell? ⟨H.kb,2,none⟩=some (wp H.f)/\a.cell? ⟨i,0,none⟩=some (wp (H.hs o.j))/\a.cell? ⟨H.hs o.j,1,none⟩=some (wp (H.tb o.j))/\a.cell? ⟨f,0,none⟩=some (.int .i64 x)/\a.cell? ⟨d,0,none⟩=some (.int .i64 b))/\∃A',KX a m H (S.files (fQ S.D (au S o.j) x b) o.j (fq (au S o.j) x b)) U q A'/\Stp w a A A':=by
  refine((h.below (bH w)).adt (h.rR r) v x b).mono ?_;rintro y a ⟨rfl,A',k,u⟩;have j:Stp w a A A':=Stp.base (V:=w.drew) rfl rfl rfl rfl u;exact⟨rfl,c k r (s.p8 j),A',k,j⟩
 generalize S.files (fQ S.D (au S o.j) x b) o.j (fq (au S o.j) x b)=S2 at *;generalize (fu (au S o.j) x b:Int)=E at *;go_enter Tryz.func155,Tryz.ntmps155
 go_upto_region 1 with fail
 go_region_held3 (fun a=>a.cell? ⟨g,0,none⟩=some (wp H.kb)/\a.cell? ⟨H.kb,2,none⟩=some (wp H.f)/\a.cell? ⟨i,0,none⟩=some (wp (H.hs o.j))/\a.cell? ⟨H.hs o.j,1,none⟩=some (wp (H.tb o.j))/\a.cell? ⟨f,0,none⟩=some (.int .i64 x)/\a.cell? ⟨d,0,none⟩=some (.int .i64 b)) (first|exact D|exact C) (first
  |(go_at_call 156;refine B.mono ?_;rintro e F ⟨rfl,C,z⟩))
 all_goals
  go_wp2_with fail
  go_ret;exact⟨rfl,z⟩
theorem KX.adr(h:KX w m H S U q A)(l:S.O p=some o)(u:q<=400)(b:Int){f g d:Nat}(r:rP w A [(f,wp H.kb),(g,wp (H.hs o.j)),(d,.int .i64 b)]):Calls prog 157 #[wp f,wp g,wp d] w fun y a=>y=.returned (aI (if aJ (au S o.j) b=true then 0 else 7))/\∃A',KX a m H (S.files (iT S.D (au S o.j) b) o.j (gW (au S o.j) b)) U q A'/\Stp w a A A':=by
 have c:∀ {a:World}{A':Nat->Prop}{s:KS},KX a m H s U q A'->s.O p=some o->rP a A' [(f,wp H.kb),(g,wp (H.hs o.j)),(d,.int .i64 b)]->a.cell? ⟨f,0,none⟩=some (wp H.kb)/\a.cell? ⟨H.kb,2,none⟩=some (wp H.f)/\a.cell? ⟨g,0,none⟩=some (wp (H.hs o.j))/\a.cell? ⟨H.hs o.j,1,none⟩=some (wp (H.tb o.j))/\a.cell? ⟨d,0,none⟩=some (.int .i64 b):=fun j k n=>
  ⟨(n (f,_) (by simp)).1,j.c2,(n (g,_) (by simp)).1,(j.hd k).at 1,(n (d,_) (by simp)).1⟩
 have B:=c h l r;have x:Calls prog 148 #[wp H.f,wp (H.tb o.j),.int .i64 b] w.drew fun y a=>y=.returned (aI (if aJ (au S o.j) b=true then 0 else 7))/\(a.cell? ⟨f,0,none⟩=some (wp H.kb)/\a.cell? ⟨H.kb,2,none⟩=some (wp H.f)/\a.cell? ⟨g,0,none⟩=some (wp (H.hs o.j))/\a.cell? ⟨H.hs o.j,1,none⟩=some (wp (H.tb o.j))/\a.cell? ⟨d,0,none⟩=some (.int .i64 b))/\∃A',KX a m H (S.files (iT S.D (au S o.j) b) o.j (gW (au S o.j) b)) U q A'/\Stp w a A A':=by
  refine((h.below (bH w)).Sd (h.rR l) u b).mono ?_;rintro y a ⟨rfl,A',j,t⟩;have i:Stp w a A A':=Stp.base (V:=w.drew) rfl rfl rfl rfl t;exact⟨rfl,c j l (r.p8 i),A',j,i⟩
 generalize S.files (iT S.D (au S o.j) b) o.j (gW (au S o.j) b)=S2 at *;generalize (if aJ (au S o.j) b=true then 0 else 7:Int)=E at *;go_enter Tryz.func157,Tryz.ntmps157
 go_upto_region 1 with fail
 go_region_held3 (fun a=>a.cell? ⟨f,0,none⟩=some (wp H.kb)/\a.cell? ⟨H.kb,2,none⟩=some (wp H.f)/\a.cell? ⟨g,0,none⟩=some (wp (H.hs o.j))/\a.cell? ⟨H.hs o.j,1,none⟩=some (wp (H.tb o.j))/\a.cell? ⟨d,0,none⟩=some (.int .i64 b)) (first|exact B|exact z) (first
  |(go_at_call 148;refine x.mono ?_;rintro e C ⟨rfl,z,v⟩))
 all_goals
  go_wp2_with fail
  go_ret;exact⟨rfl,v⟩
theorem P6{N:Ns}{x y:Int}(h:fu N x y=0):aJ N x=true/\0<=y/\y<=7:=by
 unfold fu at h;split at h
 ·rename_i b
  split at h
  ·rename_i a;exact⟨b,a⟩
  ·omega
 ·omega
theorem EB{D:DS}{N:Ns}{x y:Int}(h:fu N x y≠0):fQ D N x y=D/\fq N x y=N:=⟨if_neg (fun z=>h z.1),if_neg (fun z=>h z.1)⟩
theorem P7{D:DS}{N:Ns}{x y:Int}(F:N.length=8)(r:∀z∈N,0<=z.1/\(z.1=0->z.2=false))(E:yN D N)(f:∀i (A:i<N.length),0<N[i].1->∃c:Nat,D.R N[i].1=some (c:Int)/\0<c)(h:fu N x y=0)(m:aJ N y=false):iT (fQ D N x y) (fq N x y) y=D/\gW (fq N x y) y=N/\aJ (fq N x y) y=true:=by
 obtain⟨q,J,I⟩:=P6 h;obtain⟨i,rfl,A,o,s⟩:=dU q F;obtain⟨j,rfl⟩:∃j:Nat,y=j:=⟨y.toNat,by omega⟩;have l:j<N.length:=by omega
 have g:(i:Int)≠j:=fun e=>by
  have:i=j:=by omega
  subst this;rw[q] at m;cases m
 have d:N[j].1=0:=by
  have a:=(r _ (getElem_mem l)).1;have:¬0<N[j].1:=fun z=>by
   have:aJ N j=true:=by unfold aJ;rw[getD_in l];simp;omega
   rw[this] at m;cases m
  omega
 have H:fQ D N i j=jq D N[i].1:=by unfold fQ;rw[if_pos ⟨h,g⟩,getD_in o,getD_in l,if_pos d]
 have G:fq N i j=N.set j (N[i].1,false):=by unfold fq;rw[if_pos ⟨h,g⟩,getD_in o,Int.toNat_natCast]
 have b:j<(N.set j (N[i].1,false)).length:=by rw[length_set];exact l
 have t:(N.set j (N[i].1,false))[j]=(N[i].1,false):=List.getElem_set_self b;have p:aJ (N.set j (N[i].1,false)) j=true:=by unfold aJ;rw[getD_in b,t];simp;omega
 obtain⟨e,L,B,K,_,_⟩:=E i o s;obtain⟨c,k,C⟩:=f i o s;rw[H,G];refine⟨?_,?_,p⟩
 ·unfold iT;rw[if_pos p,getD_in b,t];unfold aT;have w:(jq D N[i].1).E N[i].1=some e:=B;have v:(jq D N[i].1).R N[i].1=some ((c:Int)+1):=by
   show (if N[i].1=N[i].1 then some ((D.R N[i].1).getD 0+1) else _)=_;rw[if_pos rfl,k];rfl
  simp only[w,v];rw[if_pos (by omega)];have u:(fun z=>if z=N[i].1 then some ((c:Int)+1-1) else (jq D N[i].1).R z)=D.R:=by
   funext z;by_cases n:z=N[i].1
   ·rw[if_pos n,n,k];congr 1;omega
   ·rw[if_neg n];show (if z=N[i].1 then _ else D.R z)=D.R z;rw[if_neg n]
  rw[u];rfl
 ·unfold gW;rw[if_pos p,Int.toNat_natCast,List.set_set];have:N[j]=((0:Int),false):=Prod.ext d ((r _ (getElem_mem l)).2 d);rw[<-this,List.set_getElem_self]
def jA(S:KS)(o:Ow)(x y:Int):Int:=if fu (au S o.j) x y≠0 then fu (au S o.j) x y else if aJ (au S o.j) y=true\/lS S o 1 then 0 else 4
noncomputable def jO(S:KS)(o:Ow)(x y:Int):KS:=if jA S o x y=0 then S.files (fQ S.D (au S o.j) x y) o.j (fq (au S o.j) x y) else S
def qw(N:Ns)(y:Int):Int:=if aJ N y=true then 0 else 1
theorem Su{S:KS}{o:Ow}{x y:Int}(f:(au S o.j).length=8)(d:fu (au S o.j) x y=0):why (kZ S o.j) o.m 1 (qw (au S o.j) y)=jA S o x y:=by
 unfold jA;rw[if_neg (not_not_intro d)];unfold qw;by_cases a:aJ (au S o.j) y=true
 ·rw[if_pos a,if_pos (.inl a)];have e:kZ S o.j (1:Int).toNat=((ak (au S o.j):Nat):Int):=rfl;unfold why;rw[e,if_neg (by omega),if_neg (by omega),if_neg (by omega),if_neg (by omega)]
 ·rw[if_neg a,LH ⟨by omega,by omega⟩ f];by_cases b:lS S o 1
  ·have c:(if ((ak (au S o.j):Nat):Int)+1<=o.m 1 then (0:Int) else 4)=0:=if_pos b;rw[c,if_pos (Or.inr b)]
  ·have c:(if ((ak (au S o.j):Nat):Int)+1<=o.m 1 then (0:Int) else 4)=4:=if_neg b;rw[c,if_neg (fun z=>Or.elim z a b)]
theorem KX.tabs(h:KX w m H S U q A)(f:S.O p=some o):(∀z∈au S o.j,0<=z.1/\(z.1=0->z.2=false))/\yN S.D (au S o.j)/\∀i (d:i<(au S o.j).length),0<(au S o.j)[i].1->∃c:Nat,S.D.R (au S o.j)[i].1=some (c:Int)/\0<c:=by
 have a:=h.rR f;have e:=jb a;rw[e];refine⟨(h.inv.tab _ (getElem_mem a)).2,h.inv.LC a,fun i d g=>?_⟩;have b:=fK a d;exact⟨_,by rw[h.inv.core.cR _ g,if_pos b],b⟩
theorem KN.UJ(h:KN w m H S q A)(ho:S.O p=some o)(hq:q<=400)(x y9:Int):Calls prog 95 #[wp H.kb,.int .i64 p,.int .i64 x,.int .i64 y9] w fun y w'=>y=.returned (aI (jA S o x y9))/\∃A',KN w' m H (jO S o x y9) q A'/\Stp w w' A A':=by
 have hj:=h.1.rR ho;have h8:=h.1.oW o.j;have hpay:∀(W:World) (xk xh xn xt:Nat),Below w.heap.size w W->rP W A [(xk,wp H.kb),(xh,wp (H.hs o.j)),(xn,.int .i64 x),(xt,.int .i64 y9)]->
  Calls prog 154 #[wp (H.hs o.j),.int .i64 1,.int .i64 (qw (au S o.j) y9),.func (.func 155) #[] #[wp xk,wp xh,wp xn,wp xt],.func (.func 157) #[] #[wp xk,wp xh,wp xt]] W fun y w'=>∃c,y=.returned (aI c)/\c=jA S o x y9/\∃A',KN w' m H (jO S o x y9) q A'/\Stp w w' A A':=fun W xk xh xn xt bW bx=>by
  have hW:=h.1.below bW;refine Aj (H.hs o.j) 1 (qw (au S o.j) y9) (fun args w=>by kernel_rfl) (fun args w=>by kernel_rfl) (R:=fun c w'=>c=jA S o x y9/\∃A',KN w' m H (jO S o x y9) q A'/\Stp w w' A A') ((hW.ads ho hq x y9 bx).mono ?_);rintro y w1 ⟨rfl,A1,h1,st1⟩;refine⟨_,rfl,fun hc=>?_,fun hc=>?_⟩
  ·have e1:jA S o x y9=fu (au S o.j) x y9:=if_pos hc;have e2:jO S o x y9=S:=by unfold jO;rw[e1,if_neg hc]
   obtain⟨d1,d2⟩:=EB (D:=S.D) hc;rw[d1,d2,pJ hj] at h1;rw[e1,e2];exact⟨rfl,A1,⟨h1,h.2⟩,st1.after bW⟩
  ·have ew:=Su (S:=S) (o:=o) h8 hc;refine⟨why (kZ S o.j) o.m 1 (qw (au S o.j) y9),((h1.hd (p:=p) (o:=o) ho).DV (h.1.Ji o.j) (h.2.fit p o ho).1 1 (qw (au S o.j) y9) h1.er (h1.hne (p:=p) (o:=o) ho)).mono ?_⟩;rintro y w2 ⟨rfl,hd2,g2⟩;obtain⟨A2,h2,st2⟩:=h1.led (p:=p) (o:=o) ho hd2 g2;have QP:Stp w w2 A A2:=(st1.after bW).trans st2;refine⟨rfl,fun hz=>?_,fun hz=>?_⟩
   ·have e2:jO S o x y9=S.files (fQ S.D (au S o.j) x y9) o.j (fq (au S o.j) x y9):=by unfold jO;rw[<-ew,if_pos hz]
    rw[<-ew,e2];have hu:((ak (fq (au S o.j) x y9):Nat):Int)=ak (au S o.j)+qw (au S o.j) y9:=by
     rw[NK h8];unfold qw;by_cases hy:aJ (au S o.j) y9=true
     ·rw[if_pos hy,if_neg (by rw[hy];simp)];rfl
     ·rw[if_neg hy,if_pos ⟨hc,by simpa using hy⟩];rfl
    refine⟨hz.symm,A2,h2.toN (h.2.files ho _ _) (fun p' o' ho' k hk=>?_),QP⟩;have:=Ai (S:=S) (o:=o) (D':=fQ S.D (au S o.j) x y9) hj hu o'.j k hk;rw[<-this];unfold Jb QA;rw[if_pos hz]
   ·have e2:jO S o x y9=S:=by unfold jO;rw[<-ew,if_neg hz]
    have hy:aJ (au S o.j) y9=false:=by
     cases hyy:aJ (au S o.j) y9 with
     |false=>rfl
     |true=>
      exfalso;apply hz
      rw[ew];unfold jA;rw[if_neg (not_not_intro hc),if_pos (.inl hyy)]
    have hU2:KX w2 m H (S.files (fQ S.D (au S o.j) x y9) o.j (fq (au S o.j) x y9)) (kZ S) q A2:=h2.JC (fun p' o' ho' k hk=>by
     by_cases ej:o'.j=o.j
     ·simp only[if_pos ej];unfold QA;rw[if_neg hz,ej]
     ·simp only[if_neg ej])
    have bx2:rP w2 A2 [(xk,wp H.kb),(xh,wp (H.hs o.j)),(xt,.int .i64 y9)]:=fun y hy=>((bx.p8 st1).p8 st2) y (by simp at hy ⊢;rcases hy with z|z|z<;>simp[z]);refine(hU2.adr (p:=p) (o:=o) ho hq y9 bx2).mono ?_;rintro y w3 ⟨rfl,A3,h3,wW⟩;obtain⟨t1,t2,t3⟩:=h.1.tabs ho;obtain⟨u1,u2,u3⟩:=P7 h8 t1 t2 t3 hc hy;have et:au (S.files (fQ S.D (au S o.j) x y9) o.j (fq (au S o.j) x y9)) o.j=fq (au S o.j) x y9:=by rw[gX hj,if_pos rfl]
    rw[Iy,et] at h3;have ed:(S.files (fQ S.D (au S o.j) x y9) o.j (fq (au S o.j) x y9)).D=fQ S.D (au S o.j) x y9:=rfl;rw[ed,u1,u2,pJ hj] at h3;rw[<-ew,e2];exact⟨_,rfl,rfl,A3,⟨h3,h.2⟩,QP.trans wW⟩
 have hF:=fun W (hb:Below w.heap.size w W)=>(h.1.below hb).ay ho;have hH:∀(W:World) (xk xh xn xt:Nat),Below w.heap.size w W->rP W A [(xk,wp H.kb),(xh,wp (H.hs o.j)),(xn,.int .i64 x),(xt,.int .i64 y9)]->(W.cell? ⟨xk,0,none⟩=some (wp H.kb)/\W.cell? ⟨H.kb,2,none⟩=some (wp H.f)/\W.cell? ⟨xh,0,none⟩=some (wp (H.hs o.j))/\W.cell? ⟨H.hs o.j,1,none⟩=some (wp (H.tb o.j))/\W.cell? ⟨xt,0,none⟩=some (.int .i64 y9))/\Calls prog 153 #[wp H.f,wp (H.tb o.j),.int .i64 y9] W.drew fun y w'=>y=.returned (.bool (aJ (au S o.j) y9))/\(w'.cell? ⟨xk,0,none⟩=some (wp H.kb)/\w'.cell? ⟨H.kb,2,none⟩=some (wp H.f)/\w'.cell? ⟨xh,0,none⟩=some (wp (H.hs o.j))/\w'.cell? ⟨H.hs o.j,1,none⟩=some (wp (H.tb o.j))/\w'.cell? ⟨xt,0,none⟩=some (.int .i64 y9))/\Below w.heap.size w w'/\rP w' A [(xk,wp H.kb),(xh,wp (H.hs o.j)),(xn,.int .i64 x),(xt,.int .i64 y9)]:=fun W xk xh xn xt bW bx=>by
  have kW:=h.1.below bW;refine⟨⟨(bx (xk,_) (by simp)).1,kW.c2,(bx (xh,_) (by simp)).1,(kW.hd ho).at 1,(bx (xt,_) (by simp)).1⟩,((kW.below (bH W)).og hj y9).mono ?_⟩;rintro y w' ⟨rfl,b9⟩;have b:Below W.heap.size W w':=(bH W).trans b9;have bx':=bx.below b;have k':=kW.below b;exact⟨rfl,⟨(bx' (xk,_) (by simp)).1,k'.c2,(bx' (xh,_) (by simp)).1,(k'.hd ho).at 1,(bx' (xt,_) (by simp)).1⟩,bW.trans (b.mono bW.size),bx'⟩
 have hA:=h.1.lt;generalize jA S o x y9=E at *;generalize jO S o x y9=S2 at *;have adl:aJ (au S o.j) y9=true->qw (au S o.j) y9=0:=fun z=>if_pos z;have aaT:aJ (au S o.j) y9=false->qw (au S o.j) y9=1:=fun z=>if_neg (by rw[z];simp);generalize qw (au S o.j) y9=C at *;generalize aJ (au S o.j) y9=hb at *;have HP:Aside _:=hpay;have HF:Aside _:=hF;have HH:Aside _:=hH;have QN:Aside _:=adl;have HC2:Aside _:=aaT;go_enter Tryz.func95,Tryz.ntmps95
 go_upto_region 1 with fail
 obtain⟨b3,s3,c1,c2,c3⟩:=Q3 w (wp H.kb) (.int .i64 x) (.int .i64 y9) 26 3 3;generalize ((w.alloc (.cells #[wp H.kb] 26)).alloc (.cells #[.int .i64 x] 3)).alloc (.cells #[.int .i64 y9] 3)=W at *;have hF:=HF.out W b3;go_upto_region 5 with (go_at_call 127;refine hF.mono ?_;rintro e w1 ⟨rfl,hw⟩;subst w1)
 obtain⟨b4,s4,c4,_⟩:=sG W (wp (H.hs o.j)) 59;rw[s3] at c4;have d1:=dm b4 c1;have d2:=dm b4 c2;have d3:=dm b4 c3;generalize W.alloc (.cells #[wp (H.hs o.j)] 59)=V at *;have bV:Below w.heap.size w V:=b3.trans (b4.mono b3.size);have bx:rP V A [(w.heap.size,wp H.kb),(w.heap.size+1+1+1,wp (H.hs o.j)),(w.heap.size+1,.int .i64 x),(w.heap.size+1+1,.int .i64 y9)]:=fun y hy=>by
  have hn:∀i,w.heap.size<=i->¬A i:=fun i hi z=>by have:=hA i z;omega
  simp only[mem_cons,not_mem_nil,or_false] at hy;rcases hy with rfl|rfl|rfl|rfl
  ·exact⟨d1,hn _ (le_refl _)⟩
  ·exact⟨c4,hn _ (by omega)⟩
  ·exact⟨d2,hn _ (by omega)⟩
  ·exact⟨d3,hn _ (by omega)⟩
 obtain⟨c0,hH⟩:=HH.out V _ _ _ _ bV bx;go_region_held3 (fun w'=>w'.cell? ⟨w.heap.size,0,none⟩=some (wp H.kb)/\w'.cell? ⟨H.kb,2,none⟩=some (wp H.f)/\w'.cell? ⟨w.heap.size+1+1+1,0,none⟩=some (wp (H.hs o.j))/\w'.cell? ⟨H.hs o.j,1,none⟩=some (wp (H.tb o.j))/\w'.cell? ⟨w.heap.size+1+1,0,none⟩=some (.int .i64 y9)) (first|exact c0|exact c9) (first
  |(go_at_call 153;refine hH.mono ?_;rintro e w5 ⟨rfl,c9,b5,bx5⟩))
 all_goals
  have hP:=HP.out w5 _ _ _ _ b5 bx5;have c5:=c9.2.2.1;cases hb with
  |true=>
   have hC:=QN.out rfl;subst hC;go_wp2_with (go_at_call 154;refine hP.mono ?_;rintro e w6 ⟨c,rfl,hc,hR⟩)
   go_ret;exact⟨by rw[<-hc];rfl,hR⟩
  |false=>
   have hC:=HC2.out rfl;subst hC;go_wp2_with (go_at_call 154;refine hP.mono ?_;rintro e w6 ⟨c,rfl,hc,hR⟩)
   go_ret;exact⟨by rw[<-hc];rfl,hR⟩
end
section
variable {w w':World}{m:Int}{H:KH}{S:KS}{U:Nat→Nat→Int}{q:Nat}{A:Nat→Prop}{p:Int}{o:Ow}
theorem KX.Og(h:KX w m H S U q A)(d:S.O p=none)(c:(Lit.int .i64 p).wf=true):Calls prog 76 #[wp H.kb,.int .i64 p] w fun y b=>y=.returned (.tuple #[.bool false,eF 7])/\b=w:=by
 have hF:=h.j4 d c;go_enter Tryz.func76,Tryz.ntmps76
 go_wp2_with (go_at_call 127;refine hF.mono ?_;rintro e a ⟨rfl,f⟩;subst a)
 go_ret2;exact⟨rfl,rfl⟩
end
def pO(w:World)(m:Int)(H:KH)(q:Nat)(A:Nat->Prop)(S':KS)(w':World):Prop:=∃H' A',(H'.kb=H.kb/\H'.ok=H.ok)/\KN w' m H' S' (q+1) A'/\Stp w w' A A'
section
variable {w w' V:World}{m:Int}{H:KH}{S S':KS}{U:Nat→Nat→Int}{q q':Nat}{A A':Nat→Prop}{p a b c:Int}{s t:List UInt8}{o:Ow}
theorem pO.mk(h:KN w' m H S' q' A')(a:q'<=q+1)(st:Stp w w' A A'):pO w m H q A S' w':=⟨H,A',⟨rfl,rfl⟩,h.more a,st⟩
theorem pO.same(h:KN w m H S q A)(a:Below w.heap.size w w'):pO w m H q A S w':=.mk (h.below a) (by omega) (.below a)
theorem pO.before(h:pO V m H q A S' w')(b:Below w.heap.size w V):pO w m H q A S' w':=by
 obtain⟨c,d,e,k,a⟩:=h;exact⟨c,d,e,k,Stp.after b a⟩
theorem pO.vK(h:pO w m H q A S' V)(a:Below V.heap.size V w'):pO w m H q A S' w':=by
 obtain⟨c,d,e,k,b⟩:=h;exact⟨c,d,e,k.below a,b.trans (.below a)⟩
end
end
section
section
variable {S S':KS}{p:Int}{o:Ow}{pg fd:Int}
theorem Rv{x:Int}{o':Ow}{c:Int}(h:(dB S p o c).O x=some o'):x≠p/\S.O x=some o':=by
 have h:jK S.O p x=some o':=h;unfold jK at h;split at h
 ·cases h
 ·rename_i z;exact⟨z,h⟩
end
section
variable {w:World}{m:Int}{H:KH}{S S':KS}{q:Nat}{A:Nat→Prop}{p a b c k v:Int}{s t:List UInt8}{o:Ow}{pg fd:Int}
structure QK (S:KS):Prop where
 len:S.Ms.length=S.Ts.length
 lt:∀p o,S.O p=some o->o.j<S.Ts.length
 inj:∀p o p' o',S.O p=some o->S.O p'=some o'->o.j=o'.j->p=p'
theorem KN.lie(h:KN w m H S q A):QK S:=by
 obtain⟨⟨G,k,_⟩,_⟩:=h;exact⟨k.len,k.lt,fun p o a b d c e=>k.hinj p o a b d c (by rw[e])⟩
theorem QK.ends(h:QK S)(c:Int):QK (dB S p o c):=
 ⟨by show (S.Ms.set o.j lG).length=(S.Ts.set o.j bQ).length;rw[length_set,length_set];exact h.len,
  fun x a f=>by show a.j<(S.Ts.set o.j bQ).length;rw[length_set];exact h.lt x a (Rv f).2,
  fun x d y b i g e=>h.inj x d y b (Rv i).2 (Rv g).2 e⟩
end
section
variable {S S':KS}{p a k v:Int}{o:Ow}
theorem Es:∀ {l:List Nat}{x:Nat},x∈l->x<=l.sum
 |y::l,x,h=>by
  rw[sum_cons];rcases mem_cons.1 h with rfl|h
  ·omega
  ·have:=Es h;omega
theorem rA(a:o.j<S.Ms.length):(fun f=>sh (aC S o.j) f+iX S o.j f)=bI S.Ms:=by
 funext f;unfold iX;have:sh (aC S o.j) f<=bI S.Ms f:=by
  unfold bI;refine Es (mem_map.2 ⟨aC S o.j,?_,rfl⟩);rw[pQ a];exact getElem_mem a
 omega
end
def mX(π:Int->Int)(P:PM):PM:=fun a=>(P a).map fun x=>(x.1,if x.2=-1 then -1 else π x.2)
section
variable {π:Int→Int} {P:PM}{a k u f:Int}{n:Nat}
theorem yZ(π:Int->Int)(P:PM)(a:Int):aR (mX π P) a=if aR P a=-1 then -1 else π (aR P a):=by
 unfold aR mX;cases P a<;>simp
theorem Mm(π:Int->Int)(P:PM)(a:Int):(mX π P a).isSome=(P a).isSome:=by unfold mX;simp
theorem Ju(π:Int->Int)(P:PM)(a k u:Int):dL (mX π P) a k u=dL P a k u:=by
 unfold dL mX;cases P a<;>rfl
theorem ac8(π:Int->Int)(P:PM)(a:Int):(pg (mX π P) a).1=(pg P a).1:=by
 unfold pg mX;cases P a<;>rfl
theorem RY(π:Int->Int)(P:PM):bX (mX π P)=bX P:=sumTo_congr 64 0 fun i _ _=>by rw[Mm]
theorem aaH(h:∀a,aR P a≠-1->0<=π (aR P a)):gL (mX π P)=gL P:=sumTo_congr 64 0 fun i _ _=>by
 rw[yZ];by_cases e:aR P i=-1
 ·simp[e]
 ·have:=h _ e;rw[if_neg e,if_neg (by omega),if_neg e]
theorem ac7(h:∀a,aR P a≠-1->aR P a≠f->π (aR P a)≠π f)(c:0<=f)(d:0<=π f):sh (mX π P) (π f)=sh P f:=sumTo_congr 64 0 fun i _ _=>by
 rw[yZ];by_cases e:aR P i=-1
 ·rw[if_pos e,if_neg (by omega),if_neg (by omega)]
 ·rw[if_neg e];by_cases b:aR P i=f
  ·rw[b,if_pos rfl,if_pos rfl]
  ·rw[if_neg (h _ e b),if_neg b]
theorem aaI(π:Int->Int)(P:PM)(a:Int)(p:Int×Int):mX π (dC P a p)=dC (mX π P) a (p.1,if p.2=-1 then -1 else π p.2):=by
 funext x;unfold mX dC;by_cases e:x=a<;>simp[e]
theorem TU{b:Int->Int}(h:∀a,aR P a≠-1->b (aR P a)=π (aR P a)):mX b P=mX π P:=by
 funext x;have c:=h x;unfold aR at c;unfold mX;cases e:P x with
 |none=>rfl
 |some y=>
  rw[e] at c;simp only at c;by_cases d:y.2=-1
  ·simp[d]
  ·simp[d,c d]
end
theorem Eb:∀ {l:List Nat},0<l.sum->∃x∈l,0<x
 |x::l,h=>by
  rw[sum_cons] at h;by_cases e:0<x
  ·exact⟨x,List.mem_cons_self,e⟩
  ·obtain⟨y,a,b⟩:=Eb (l:=l) (by omega);exact⟨y,List.mem_cons_of_mem _ a,b⟩
theorem BV(t:Int->Nat):∀m a,sumTo (fun f:Nat=>if (gQ t (f:Int)).isSome then 1 else 0) a m=((List.range' a m).map (fun i:Nat=>(i:Int))).countP (fun f=>decide (0<t f))
 |0,_=>rfl
 |m+1,a=>by
  rw[sumTo,BV t m (a+1),List.range'_succ,map_cons,List.countP_cons];have e:(gQ t (a:Int)).isSome=decide (0<t (a:Int)):=by
   unfold gQ;by_cases h:t (a:Int)=0
   ·rw[if_neg (fun z=>z.2 h),h];rfl
   ·rw[if_pos ⟨by omega,h⟩];have:0<t (a:Int):=by omega
    simp[this]
  rw[e];by_cases h:0<t (a:Int)
  ·simp[h];omega
  ·simp[h]
def frames(n:Nat):List Int:=(List.range' 0 n).map (fun i:Nat=>(i:Int))
theorem zT(t:Int->Nat)(n:Nat):used t n=(frames n).countP (fun f=>decide (0<t f)):=BV t n 0
theorem Ap{n:Nat}{f:Int}:f∈frames n↔0<=f/\f<(n:Int):=by
 unfold frames;rw[mem_map];constructor
 ·rintro ⟨i,a,rfl⟩;have:=List.mem_range'_1.1 a;omega
 ·intro h;exact⟨f.toNat,List.mem_range'_1.2 (by omega),by omega⟩
theorem EU(n:Nat):(frames n).Nodup:=by
 unfold frames Nodup;rw[List.pairwise_map];exact(List.nodup_range' (step:=1)).imp (fun h=>by omega)
theorem LK{t t':Int->Nat}{n:Nat}(π:Int->Int)(h:∀f,0<=f->f<(n:Int)->0<t f->0<=π f/\π f<(n:Int)/\0<t' (π f))(m:∀f g,0<=f->f<(n:Int)->0<t f->0<=g->g<(n:Int)->0<t g->π f=π g->f=g):used t n<=used t' n:=by
 rw[zT,zT,List.countP_eq_length_filter,List.countP_eq_length_filter];rw[<-List.length_map (f:=π)];have i:∀x,x∈(frames n).filter (fun f=>decide (0<t f))↔(0<=x/\x<(n:Int))/\0<t x:=fun x=>by
  rw[List.mem_filter,Ap];simp
 refine lD ?_ (fun y k=>?_)
 ·unfold Nodup;rw[List.pairwise_map];refine List.Pairwise.imp_of_mem (fun {a b} p o j e=>?_) ((EU n).filter (fun f=>decide (0<t f)));have d:=(i a).1 p;have c:=(i b).1 o;exact j (m a b d.1.1 d.1.2 d.2 c.1.1 c.1.2 c.2 e)
 ·obtain⟨x,l,rfl⟩:=mem_map.1 k;have d:=(i x).1 l;have c:=h x d.1.1 d.1.2 d.2;rw[List.mem_filter,Ap];exact⟨⟨c.1,c.2.1⟩,by simpa using c.2.2⟩
structure aX (π:Int->Int) (S S':KS):Prop where
 n:S'.n=S.n
 P:S'.P=S.P
 D:S'.D=S.D
 Ts:S'.Ts=S.Ts
 O:S'.O=S.O
 ms:S'.Ms=S.Ms.map (mX π)
 inj:∀f g,0<=f->0<=g->0<bI S.Ms f->0<bI S.Ms g->π f=π g->f=g
 pos:∀f,0<=f->0<bI S.Ms f->0<=π f/\π f<(S.n:Int)
 w:∀f (k:Nat),0<=f->0<bI S.Ms f->S'.W (π f).toNat k=S.W f.toNat k
def I4(S S':KS):Prop:=∃π,aX π S S'
def jg(S:KS):Prop:=∀P∈S.Ms,lN S.n P
section
variable {S S':KS}{π:Int→Int} {P:PM}{f g:Int}{j:Nat}
theorem jg.at(ok:jg S)(a:j<S.Ms.length):lN S.n (aC S j):=by rw[pQ a];exact ok _ (getElem_mem a)
theorem FQ(a:j<S.Ms.length):aC S j∈S.Ms:=by rw[pQ a];exact getElem_mem a
theorem RA(a:P∈S.Ms)(f:Int):sh P f<=bI S.Ms f:=Es (mem_map.2 ⟨P,a,rfl⟩)
theorem vT{n:Nat}{a:Int}(b:P∈S.Ms)(ok:lN n P)(h:aR P a≠-1):0<=aR P a/\0<bI S.Ms (aR P a):=by
 have d:=yU ok h;have c:=RA b (aR P a);rcases ok.frame a with e|e
 ·exact absurd e h
 ·exact⟨e.1,by omega⟩
theorem SI{n:Nat}(b:P∈S.Ms)(ok:lN n P)(c:0<=f)(h:bI S.Ms f=0)(a:Int):aR P a≠f:=fun e=>by
 have:=(vT (a:=a) b ok (by omega)).2;rw[e] at this;omega
theorem aX.IU(h:aX π S S')(j:Nat):aC S' j=mX π (aC S j):=by
 unfold aC;rw[h.ms,getD_eq_getElem?_getD,List.getElem?_map,getD_eq_getElem?_getD];cases S.Ms[j]?<;>rfl
theorem aX.shP(h:aX π S S')(ok:jg S)(d:P∈S.Ms)(b:0<=f)(c:0<bI S.Ms f):sh (mX π P) (π f)=sh P f:=
 ac7 (fun a j i e=>by
  have g:=vT (a:=a) d (ok P d) j;exact i (h.inj _ _ g.1 b g.2 c e)) b (h.pos f b c).1
theorem aX.tot(h:aX π S S')(ok:jg S)(b:0<=f)(a:0<bI S.Ms f):bI S'.Ms (π f)=bI S.Ms f:=by
 rw[h.ms];unfold bI;rw[map_map];exact congrArg List.sum (List.map_congr_left fun P c=>h.shP ok c b a)
theorem aX.back(h:aX π S S')(ok:jg S)(m:0<=g)(c:0<bI S'.Ms g):∃f,0<=f/\0<bI S.Ms f/\π f=g:=by
 rw[h.ms] at c;unfold bI at c;rw[map_map] at c;obtain⟨x,k,b⟩:=Eb c;obtain⟨P,i,rfl⟩:=mem_map.1 k;refine Classical.byContradiction fun l=>?_;have:sh (mX π P) g=0:=yg m fun a e=>by
  rw[yZ] at e;by_cases d:aR P a=-1
  ·rw[if_pos d] at e;omega
  ·rw[if_neg d] at e;have j:=vT (a:=a) i (ok P i) d;exact l ⟨_,j.1,j.2,e⟩
 have b:0<sh (mX π P) g:=b;omega
theorem jg.lt(ok:jg S)(g:0<=f)(b:0<bI S.Ms f):f<(S.n:Int):=by
 unfold bI at b;obtain⟨x,d,c⟩:=Eb b;obtain⟨P,h,rfl⟩:=mem_map.1 d;refine Classical.byContradiction fun i=>?_;have:sh P f=0:=yg g fun a e=>by
  rcases (ok P h).frame a with z|z<;>omega
 omega
theorem aX.used(h:aX π S S')(ok:jg S):used (bI S'.Ms) S.n=used (bI S.Ms) S.n:=by
 have q:Go.Proofs.YtippochapiolpaaGreatDoor.used (bI S.Ms) S.n<=Go.Proofs.YtippochapiolpaaGreatDoor.used (bI S'.Ms) S.n:=LK π (fun f c _ j=>by
  have:=h.pos f c j;exact⟨this.1,this.2,by rw[h.tot ok c j];exact j⟩) (fun f g n _ m l _ k e=>h.inj f g n l m k e)
 refine Nat.le_antisymm ?_ q
 ·have p:∀g,∃f,0<=g->0<bI S'.Ms g->0<=f/\0<bI S.Ms f/\π f=g:=fun g=>by
   by_cases c:0<=g/\0<bI S'.Ms g
   ·obtain⟨f,o⟩:=h.back ok c.1 c.2;exact⟨f,fun _ _=>o⟩
   ·exact⟨0,fun a b=>absurd ⟨a,b⟩ c⟩
  obtain⟨ρ,d⟩:=Classical.axiomOfChoice p;refine LK ρ (fun g c _ j=>?_) (fun f g n _ m l _ k e=>?_)
  ·have i:=d g c j;exact⟨i.1,ok.lt i.1 i.2.1,i.2.1⟩
  ·have i:=d f n m;have r:=d g l k;rw[<-i.2.2,<-r.2.2,e]
theorem aX.xQ(h:aX π S S')(ok:jg S)(c:j<S.Ms.length)(b:0<=f)(a:0<bI S.Ms f):iX S' j (π f)=iX S j f:=by
 unfold iX;rw[h.tot ok b a,h.IU,h.shP ok (FQ c) b a]
end
section
variable {n:Nat}{P P1:PM}{o:Int→Nat}{D D1:Nat→Nat→Int}{a k v er:Int}
theorem uo.isA(h:uo n P o D a k v er P1 D1)(c:dL P a k 2≠0):er=dL P a k 2/\P1=P/\D1=D:=by
 rcases h with⟨_,b,e,d⟩|⟨b,_⟩|⟨b,_⟩|⟨b,_⟩
 ·exact⟨b,e,d⟩
 ·exact absurd b c
 ·exact absurd b c
 ·exact absurd b c
theorem uo.isB(h:uo n P o D a k v er P1 D1)(c:dL P a k 2=0)(g:aR P a≠-1)(i:sh P (aR P a)+o (aR P a)=1):er=0/\P1=P/\D1=upd D (aR P a).toNat k.toNat v:=by
 rcases h with⟨f,_⟩|⟨_,_,_,b,e,d⟩|⟨_,b,_⟩|⟨_,b,_⟩
 ·exact absurd c f
 ·exact⟨b,e,d⟩
 ·exact absurd b (by omega)
 ·exact absurd b (by omega)
theorem uo.isC(h:uo n P o D a k v er P1 D1)(d:dL P a k 2=0)(j:¬(aR P a≠-1/\sh P (aR P a)+o (aR P a)=1))(e:used (fun f=>sh P f+o f) n=n):er=12/\P1=P/\D1=D:=by
 rcases h with⟨l,_⟩|⟨_,b,c,_⟩|⟨_,_,_,b,c,i⟩|⟨_,_,f,g,b,_⟩
 ·exact absurd d l
 ·exact absurd ⟨b,c⟩ j
 ·exact⟨b,c,i⟩
 ·have:=RV (R:=gQ fun f=>sh P f+o f) g ((Hl (by omega)).2 b);unfold used at e;omega
theorem uo.isD(h:uo n P o D a k v er P1 D1)(c:dL P a k 2=0)(g:¬(aR P a≠-1/\sh P (aR P a)+o (aR P a)=1))(d:used (fun f=>sh P f+o f) n≠n):∃f:Nat,f<n/\sh P (f:Int)+o (f:Int)=0/\er=0/\P1=dC P a ((pg P a).1,(f:Int))/\D1=upd (row D f (eY D (aR P a))) f k.toNat v:=by
 rcases h with⟨i,_⟩|⟨_,b,e,_⟩|⟨_,_,b,_⟩|⟨_,_,b⟩
 ·exact absurd c i
 ·exact absurd ⟨b,e⟩ g
 ·exact absurd b d
 ·exact b
end
section
variable {S S':KS}{π:Int→Int} {P1 P1':PM}{W1 W1':Nat→Nat→Int}{f g a k v er QH:Int}{j:Nat}
theorem aX.space(h:aX π S S'){Q:PM}(c:∀f,0<=f->0<bI (S.Ms.set j Q) f->0<bI S.Ms f):aX π (S.space j Q S.W) (S'.space j (mX π Q) S'.W):=
 ⟨h.n,h.P,h.D,h.Ts,h.O,by show S'.Ms.set j (mX π Q)=(S.Ms.set j Q).map (mX π);rw[h.ms,map_set],
  fun f g a d b i e=>h.inj f g a d (c f a b) (c g d i) e,fun f a b=>h.pos f a (c f a b),fun f k a b=>h.w f k a (c f a b)⟩
theorem LW(a:j<S.Ms.length)(Q:PM)(f:Int):bI (S.Ms.set j Q) f+sh (aC S j) f=bI S.Ms f+sh Q f:=by
 unfold bI;rw[map_set,pQ a];have:∀(l:List Nat) (j x:Nat) (a:j<l.length),(l.set j x).sum+l[j]=l.sum+x:=fun l=>by
  induction l with
  |nil=>intro j x a;simp at a
  |cons y l ih=>
   intro j x a;cases j with
   |zero=>simp;omega
   |succ j=>
    have:=ih j x (by simpa using a);simp;omega
 have b:=this (S.Ms.map fun P=>sh P f) j (sh Q f) (by simpa using a);simp only[List.getElem_map] at b;exact b
theorem Gy(W:Nat->Nat->Int)(x k a:Nat)(F:Nat->Int)(v:Int):upd (row W x F) x k v x a=if a=k then v else F a:=by
 unfold upd row;by_cases e:a=k<;>simp[e]
theorem uo.nY(h:aX π S S')(ok:jg S)(D:j<S.Ms.length)(r:uo S.n (aC S j) (iX S j) S.W a k v er P1 W1)(N:uo S'.n (aC S' j) (iX S' j) S'.W a k v QH P1' W1'):er=QH/\I4 (S.space j P1 W1) (S'.space j P1' W1'):=by
 have C:j<S'.Ms.length:=by rw[h.ms,List.length_map];exact D
 have R:=FQ D;have P:=ok.at D;have m:I4 (S.space j (aC S j) S.W) (S'.space j (aC S' j) S'.W):=by
  rw[jS D,jS C];exact⟨π,h⟩
 have L:dL (aC S' j) a k 2=dL (aC S j) a k 2:=by rw[h.IU,Ju]
 have I:aR (aC S' j) a=if aR (aC S j) a=-1 then -1 else π (aR (aC S j) a):=by rw[h.IU,yZ]
 have J:aR (aC S j) a≠-1->0<=aR (aC S j) a/\0<bI S.Ms (aR (aC S j) a):=fun z=>vT R P z;have W:aR (aC S j) a≠-1->sh (aC S' j) (π (aR (aC S j) a))+iX S' j (π (aR (aC S j) a))=sh (aC S j) (aR (aC S j) a)+iX S j (aR (aC S j) a):=fun z=>by
  obtain⟨l,n⟩:=J z;rw[h.xQ ok D l n,h.IU,h.shP ok R l n]
 have X:used (fun f=>sh (aC S' j) f+iX S' j f) S'.n=used (fun f=>sh (aC S j) f+iX S j f) S.n:=by
  rw[rA (S:=S') (o:=⟨j,fun _=>0,0⟩) C,rA (S:=S) (o:=⟨j,fun _=>0,0⟩) D,h.n];exact h.used ok
 by_cases H:dL (aC S j) a k 2=0
 ·by_cases E:aR (aC S j) a≠-1/\sh (aC S j) (aR (aC S j) a)+iX S j (aR (aC S j) a)=1
  ·obtain⟨l,n⟩:=J E.1;have U:=h.pos _ l n;rw[if_neg E.1] at I;have B:aR (aC S' j) a≠-1/\sh (aC S' j) (aR (aC S' j) a)+iX S' j (aR (aC S' j) a)=1:=by
    rw[I,W E.1];exact⟨by omega,E.2⟩
   obtain⟨rfl,rfl,rfl⟩:=r.isB H E.1 E.2;obtain⟨rfl,rfl,rfl⟩:=N.isB (L.trans H) B.1 B.2;refine⟨rfl,π,?_⟩;obtain⟨Z,s⟩:=m;have d:S.Ms.set j (aC S j)=S.Ms:=by rw[pQ D,List.set_getElem_self]
   have G:S'.Ms.set j (aC S' j)=S'.Ms:=by rw[pQ C,List.set_getElem_self]
   refine⟨h.n,h.P,h.D,h.Ts,h.O,by show S'.Ms.set j _=(S.Ms.set j _).map _;rw[d,G];exact h.ms,?_,?_,?_⟩
   ·show ∀f g,0<=f->0<=g->0<bI (S.Ms.set j _) f->0<bI (S.Ms.set j _) g->_;rw[d];exact h.inj
   ·show ∀f,0<=f->0<bI (S.Ms.set j _) f->_;rw[d];exact h.pos
   ·show ∀f (t:Nat),0<=f->0<bI (S.Ms.set j _) f->upd S'.W _ k.toNat v (π f).toNat t=upd S.W _ k.toNat v f.toNat t;rw[d];intro g t p c;have hg2:=h.pos g p c;unfold upd;rw[I];by_cases e:g=aR (aC S j) a
    ·subst e;by_cases F:t=k.toNat
     ·rw[if_pos ⟨rfl,F⟩,if_pos ⟨rfl,F⟩]
     ·rw[if_neg (fun z=>F z.2),if_neg (fun z=>F z.2)];exact h.w _ t p c
    ·rw[if_neg (fun z=>e (h.inj g _ p l c n (by omega))),if_neg (fun z=>e (by omega))];exact h.w g t p c
  ·have B:¬(aR (aC S' j) a≠-1/\sh (aC S' j) (aR (aC S' j) a)+iX S' j (aR (aC S' j) a)=1):=fun z=>by
    by_cases e:aR (aC S j) a=-1
    ·rw[if_pos e] at I;exact z.1 I
    ·rw[if_neg e] at I;rw[I,W e] at z;exact E ⟨e,z.2⟩
   by_cases O:used (fun f=>sh (aC S j) f+iX S j f) S.n=S.n
   ·obtain⟨rfl,rfl,rfl⟩:=r.isC H E O;obtain⟨rfl,rfl,rfl⟩:=N.isC (L.trans H) B (by rw[X,O,h.n]);exact⟨rfl,m⟩
   ·obtain⟨x,hx,hx0,rfl,rfl,rfl⟩:=r.isD H E O;obtain⟨q,hx',T,rfl,rfl,rfl⟩:=N.isD (L.trans H) B (by rw[X,h.n];exact O);refine⟨rfl,fun g=>if g=(x:Int) then (q:Int) else π g,?_⟩;have z0:bI S.Ms (x:Int)=0:=by
     have:=congrFun (rA (S:=S) (o:=⟨j,fun _=>0,0⟩) D) (x:Int);simp only at this;omega
    have z0':bI S'.Ms (q:Int)=0:=by
     have:=congrFun (rA (S:=S') (o:=⟨j,fun _=>0,0⟩) C) (q:Int);simp only at this;omega
    have K:∀Q∈S.Ms,mX (fun g=>if g=(x:Int) then (q:Int) else π g) Q=mX π Q:=fun Q V=>TU fun b hb=>if_neg (SI V (ok Q V) (by omega) z0 b);have w:∀g,0<=g->0<bI (S.Ms.set j (dC (aC S j) a ((pg (aC S j) a).1,(x:Int)))) g->g=(x:Int)\/0<bI S.Ms g:=fun g p c=>by
     by_cases e:g=(x:Int)
     ·exact .inl e
     ·right;have l:=LW D (dC (aC S j) a ((pg (aC S j) a).1,(x:Int))) g;have n:sh (dC (aC S j) a ((pg (aC S j) a).1,(x:Int))) g<=sh (aC S j) g:=by
       refine sumTo_le 64 0 fun i _ _=>?_;rw[yx];by_cases Y:(i:Int)=a
       ·rw[if_pos Y,if_neg (fun z=>e z.symm)];omega
       ·rw[if_neg Y];omega
      omega
    have y:∀g,0<=g->0<bI S.Ms g->g≠(x:Int)/\π g≠(q:Int):=fun g p c=>by
     refine⟨fun e=>by rw[e] at c;omega,fun e=>?_⟩;have:=h.tot ok p c;rw[e] at this;omega
    refine⟨h.n,h.P,h.D,h.Ts,h.O,?_,fun f g u p A c e=>?_,fun f u A=>?_,fun f t u A=>?_⟩
    ·show S'.Ms.set j _=(S.Ms.set j _).map _;rw[map_set,aaI,K _ R,h.IU,ac8,List.map_congr_left K,<-h.ms];rw[if_neg (by omega),if_pos rfl]
    ·rcases w f u A with d|d
     ·rcases w g p c with G|G
      ·omega
      ·have n:=y g p G;simp only[if_pos d,if_neg n.1] at e;exact absurd e.symm n.2
     ·have l:=y f u d;rcases w g p c with G|G
      ·simp only[if_pos G,if_neg l.1] at e;exact absurd e l.2
      ·have n:=y g p G;simp only[if_neg l.1,if_neg n.1] at e;exact h.inj f g u p d G e
    ·rcases w f u A with d|d
     ·simp only[if_pos d];have:=h.n;show 0<=(q:Int)/\(q:Int)<(S.n:Int);omega
     ·simp only[if_neg (y f u d).1];exact h.pos f u d
    ·show upd (row S'.W q (eY S'.W (aR (aC S' j) a))) q k.toNat v (if f=(x:Int) then (q:Int) else π f).toNat t=upd (row S.W x (eY S.W (aR (aC S j) a))) x k.toNat v f.toNat t;rcases w f u A with d|d
     ·rw[if_pos d,d,show ((q:Nat):Int).toNat=q by omega,show ((x:Nat):Int).toNat=x by omega,Gy,Gy];by_cases F:t=k.toNat
      ·rw[if_pos F,if_pos F]
      ·rw[if_neg F,if_neg F,I];unfold eY;by_cases M:aR (aC S j) a=-1
       ·rw[if_pos M,if_pos rfl,if_pos M]
       ·obtain⟨l,n⟩:=J M;have U:=h.pos _ l n;rw[if_neg M,if_neg (by omega),if_neg M];exact h.w _ t l n
     ·have l:=y f u d;have U:=h.pos f u d;rw[if_neg l.1];unfold upd row;rw[if_neg (fun z=>l.2 (by omega)),if_neg (fun z=>l.1 (by omega)),if_neg (fun z=>l.2 (by omega)),if_neg (fun z=>l.1 (by omega))];exact h.w f t u d
 ·obtain⟨rfl,rfl,rfl⟩:=r.isA H;obtain⟨rfl,rfl,rfl⟩:=N.isA (by rw[L];exact H);exact⟨L.symm,m⟩
end
def DC(D:Nat->Nat->Int):Prop:=∀f k,-9223372036854775808<=D f k/\D f k<=9223372036854775807
theorem DC.load{D:Nat->Nat->Int}(h:DC D)(P:PM)(a k:Int):-9223372036854775808<=je P D a k/\je P D a k<=9223372036854775807:=by
 unfold je wd;split
 ·split
  ·omega
  ·exact h _ _
 ·omega
theorem uo.Zz{n:Nat}{P m:PM}{f:Int->Nat}{D D':Nat->Nat->Int}{a k v l:Int}(h:uo n P f D a k v l m D')(b:DC D)(e:-9223372036854775808<=v/\v<=9223372036854775807):DC D':=by
 have d:∀c:Nat->Nat->Int,DC c->∀i j,DC (upd c i j v):=fun c g i j x y=>by
  unfold upd;split
  ·exact e
  ·exact g x y
 rcases h with⟨_,_,_,rfl⟩|⟨_,_,_,_,_,rfl⟩|⟨_,_,_,_,_,rfl⟩|⟨_,_,x,_,_,_,_,rfl⟩
 ·exact b
 ·exact d _ b _ _
 ·exact b
 ·refine d _ (fun i j=>?_) _ _;unfold row eY;split
  ·split
   ·omega
   ·exact b _ _
  ·exact b _ _
theorem dN.Zz{S S':KS}{p a:Int}{b:List Int}{e k v:Int}(r:dN p a k v S b e S')(d:DC S.W)(c:-9223372036854775808<=v/\v<=9223372036854775807):DC S'.W:=by
 induction r with
 |done ho h h12=>exact h.Zz d c
 |nobody ho h c=>exact d
 |self ho h c he=>exact d
 |goes ho h c he hx h1 hne r ih=>exact ih d
end
section
open Go.RowKit Go.Maps
section
variable {w w':World}{m:Int}{H:KH}{S:KS}{U:Nat→Nat→Int}{q:Nat}{A:Nat→Prop}{p:Int}{o:Ow}{f r:Nat}{D:DS}{bs:List Nat}{Ts:List Ns}{k:Nat}
def Zh(w w':World)(T:Wd)(path:List UInt8)(y:Ending):Prop:=(mZ T path≠0/\y=.returned (.tuple #[.slice none 0 0,eF (mZ T path)]))\/(mZ T path=0/\∃v C,T (aF T path).1=some (.dir C)/\y=.returned (.tuple #[v,.nilIface])/\TxR w' w.heap.size v (uz C))
theorem KD.list(h:KD w m f r D bs Ts k A)(s:k<=900)(a:List UInt8)(j:a.length<100000):Calls prog 165 #[wp r,tx a] w fun y c=>Zh w c D.T a y/\Below w.heap.size w c:=by
 obtain⟨g,n,p,l,q,x⟩:=h.st;obtain⟨O,e,u⟩:=p.tree;rw[l] at e;by_cases d:mZ D.T a=0
 ·obtain⟨o,C,i⟩:=Kl d;refine(e.Xr h.inv.core.lv a j m h.ml o i (by have:=h.inv.core.sm.1 _ C i;omega)).mono ?_;rintro y c ⟨v,rfl,t,b⟩;exact⟨.inr ⟨d,v,C,i,rfl,t⟩,b⟩
 ·refine(e.Xt h.inv.core.lv a j m h.ml d).mono ?_;rintro y c ⟨rfl,b⟩;exact⟨.inl ⟨d,rfl⟩,b⟩
theorem KX.Ue(h:KX w m H S U q A)(g:S.O p=some o)(r:q<=400)(a:List UInt8)(f:a.length<100000):Calls prog 103 #[wp H.kb,.int .i64 p,tx a] w fun y d=>Zh w d S.D.T a y/\Below w.heap.size w d:=by
 have hF:=h.ay g;have s:=h.c1;obtain⟨G,k,e⟩:=h;have j:=k.kd.list (by omega) a f;clear k e g f;go_enter Tryz.func103,Tryz.ntmps103
 go_wp2_with (first
  |(go_at_call 127;refine hF.mono ?_;rintro e c ⟨rfl,n⟩;subst c)
  |(go_at_call 165;refine j.mono ?_;rintro e c ⟨⟨b,rfl⟩|⟨b,v,C,l,rfl,t⟩,i⟩))
 ·go_ret2;exact⟨.inl ⟨b,rfl⟩,i⟩
 ·go_ret2;exact⟨.inr ⟨b,v,C,l,rfl,t⟩,i⟩
end
end
end Go.Proofs.YtippochapiolpaaGreatDoor

/- A kernel: holding.fork, Fork, by their Go text. -/
import Derived.Test.YtippochapiolpaaGreatDoorZFork
import Derived.Test.YtippochapiolpaaGreatDoorOApp
import Derived.Test.YtippochapiolpaaGreatDoorOVic3
import Derived.Test.YtippochapiolpaaGreatDoorTell
import Derived.Maps.AppendAt
import Derived.Deep.LoopGhost
import Derived.Test.YtippochapiolpaaGreatDoorDFlat2
import Derived.Test.YtippochapiolpaaGreatDoorUMkdir
import Derived.Test.YtippochapiolpaaGreatDoorJProg4
import Derived.Test.YtippochapiolpaaGreatDoorVPg
set_option maxHeartbeats 4000000
set_option maxRecDepth 100000
namespace Go.Proofs.YtippochapiolpaaGreatDoor
open Go.RowKit Go.Maps
section
variable {w w' w1 w2:World}{m:Int}{H:KH}{S:KS}{U:Nat→Nat→Int}{q:Nat}{G:KG}{A:Nat→Prop}{p:Int}{o:Ow}
theorem Hd.nine {b s t:Nat}{U M:Nat→Int}{a:Int}(h:Hd w b s t U M a):w.cell? ⟨b,0,none⟩=some (wp s)∧w.cell? ⟨b,1,none⟩=some (wp t)∧w.cell? ⟨b,2,none⟩=some (.int .i64 (U 0))∧w.cell? ⟨b,3,none⟩=some (.int .i64 (U 1))∧w.cell? ⟨b,4,none⟩=some (.int .i64 (U 2))∧w.cell? ⟨b,5,none⟩=some (.int .i64 (M 0))∧w.cell? ⟨b,6,none⟩=some (.int .i64 (M 1))∧w.cell? ⟨b,7,none⟩=some (.int .i64 (M 2))∧w.cell? ⟨b,8,none⟩=some (.int .i64 a):=
 ⟨h.at 0,h.at 1,h.at 2,h.at 3,h.at 4,h.at 5,h.at 6,h.at 7,h.at 8⟩
def acX (w:World) (m:Int) (H:KH) (S:KS) (U:Nat→Nat→Int) (q:Nat) (A:Nat→Prop) (o:Ow) (s t b:Nat) (w':World):Prop:=
 ∃G',KM w' m (H.add S.Ts.length s t b) (S.born o.j) U (q+1) G'∧G'.κ b=5∧(∀p' o',S.O p'=some o'→H.hs o'.j<b)∧Hd w' b s t (U o.j) o.m o.fo∧Stp w w' A (fun i=>G'.κ i≠0)
theorem KX.adt (h:KX w m H S U q A) (ho:S.O p=some o) (hq:q≤400) :
 Calls Tryz.prog 161 #[wp (H.hs o.j),wp H.f] w fun y w'=>∃s t b,y=.returned (wp b)∧acX w m H S U q A o s t b w':=by
 have c9:=(h.hd ho).nine
 have hV:Calls Tryz.prog 229 #[wp (H.sp o.j)] w.drew fun y w1=>∃s,y=.returned (wp s)∧(w1.cell? ⟨H.hs o.j,0,none⟩=some (wp (H.sp o.j))∧w1.cell? ⟨H.hs o.j,1,none⟩=some (wp (H.tb o.j))∧w1.cell? ⟨H.hs o.j,2,none⟩=some (.int .i64 (U o.j 0))∧w1.cell? ⟨H.hs o.j,3,none⟩=some (.int .i64 (U o.j 1))∧w1.cell? ⟨H.hs o.j,4,none⟩=some (.int .i64 (U o.j 2))∧w1.cell? ⟨H.hs o.j,5,none⟩=some (.int .i64 (o.m 0))∧w1.cell? ⟨H.hs o.j,6,none⟩=some (.int .i64 (o.m 1))∧w1.cell? ⟨H.hs o.j,7,none⟩=some (.int .i64 (o.m 2))∧w1.cell? ⟨H.hs o.j,8,none⟩=some (.int .i64 o.fo))∧
  Calls Tryz.prog 230 #[wp H.f,wp (H.tb o.j)] w1 fun y w2=>∃t,y=.returned (wp t)∧(w2.cell? ⟨H.hs o.j,0,none⟩=some (wp (H.sp o.j))∧w2.cell? ⟨H.hs o.j,1,none⟩=some (wp (H.tb o.j))∧w2.cell? ⟨H.hs o.j,2,none⟩=some (.int .i64 (U o.j 0))∧w2.cell? ⟨H.hs o.j,3,none⟩=some (.int .i64 (U o.j 1))∧w2.cell? ⟨H.hs o.j,4,none⟩=some (.int .i64 (U o.j 2))∧w2.cell? ⟨H.hs o.j,5,none⟩=some (.int .i64 (o.m 0))∧w2.cell? ⟨H.hs o.j,6,none⟩=some (.int .i64 (o.m 1))∧w2.cell? ⟨H.hs o.j,7,none⟩=some (.int .i64 (o.m 2))∧w2.cell? ⟨H.hs o.j,8,none⟩=some (.int .i64 o.fo))∧
   ((w2.alloc (.cells #[wp s,wp t,.int .i64 (U o.j 0),.int .i64 (U o.j 1),.int .i64 (U o.j 2),.int .i64 (o.m 0),.int .i64 (o.m 1),.int .i64 (o.m 2),.int .i64 o.fo] 121)).cell? ⟨H.hs o.j,0,none⟩=some (wp (H.sp o.j))∧(w2.alloc (.cells #[wp s,wp t,.int .i64 (U o.j 0),.int .i64 (U o.j 1),.int .i64 (U o.j 2),.int .i64 (o.m 0),.int .i64 (o.m 1),.int .i64 (o.m 2),.int .i64 o.fo] 121)).cell? ⟨H.hs o.j,1,none⟩=some (wp (H.tb o.j))∧(w2.alloc (.cells #[wp s,wp t,.int .i64 (U o.j 0),.int .i64 (U o.j 1),.int .i64 (U o.j 2),.int .i64 (o.m 0),.int .i64 (o.m 1),.int .i64 (o.m 2),.int .i64 o.fo] 121)).cell? ⟨H.hs o.j,2,none⟩=some (.int .i64 (U o.j 0))∧(w2.alloc (.cells #[wp s,wp t,.int .i64 (U o.j 0),.int .i64 (U o.j 1),.int .i64 (U o.j 2),.int .i64 (o.m 0),.int .i64 (o.m 1),.int .i64 (o.m 2),.int .i64 o.fo] 121)).cell? ⟨H.hs o.j,3,none⟩=some (.int .i64 (U o.j 1))∧(w2.alloc (.cells #[wp s,wp t,.int .i64 (U o.j 0),.int .i64 (U o.j 1),.int .i64 (U o.j 2),.int .i64 (o.m 0),.int .i64 (o.m 1),.int .i64 (o.m 2),.int .i64 o.fo] 121)).cell? ⟨H.hs o.j,4,none⟩=some (.int .i64 (U o.j 2))∧(w2.alloc (.cells #[wp s,wp t,.int .i64 (U o.j 0),.int .i64 (U o.j 1),.int .i64 (U o.j 2),.int .i64 (o.m 0),.int .i64 (o.m 1),.int .i64 (o.m 2),.int .i64 o.fo] 121)).cell? ⟨H.hs o.j,5,none⟩=some (.int .i64 (o.m 0))∧(w2.alloc (.cells #[wp s,wp t,.int .i64 (U o.j 0),.int .i64 (U o.j 1),.int .i64 (U o.j 2),.int .i64 (o.m 0),.int .i64 (o.m 1),.int .i64 (o.m 2),.int .i64 o.fo] 121)).cell? ⟨H.hs o.j,6,none⟩=some (.int .i64 (o.m 1))∧(w2.alloc (.cells #[wp s,wp t,.int .i64 (U o.j 0),.int .i64 (U o.j 1),.int .i64 (U o.j 2),.int .i64 (o.m 0),.int .i64 (o.m 1),.int .i64 (o.m 2),.int .i64 o.fo] 121)).cell? ⟨H.hs o.j,7,none⟩=some (.int .i64 (o.m 2))∧(w2.alloc (.cells #[wp s,wp t,.int .i64 (U o.j 0),.int .i64 (U o.j 1),.int .i64 (U o.j 2),.int .i64 (o.m 0),.int .i64 (o.m 1),.int .i64 (o.m 2),.int .i64 o.fo] 121)).cell? ⟨H.hs o.j,8,none⟩=some (.int .i64 o.fo))∧
   Aside (acX w m H S U q A o s t w2.heap.size (w2.alloc (.cells #[wp s,wp t,.int .i64 (U o.j 0),.int .i64 (U o.j 1),.int .i64 (U o.j 2),.int .i64 (o.m 0),.int .i64 (o.m 1),.int .i64 (o.m 2),.int .i64 o.fo] 121))):=by
  obtain ⟨G,k,e⟩:=h
  have kd:=k.below (bH w)
  have hl:o.j<G.L.length:=by rw [k.Ll];exact k.lt p o ho
  have Jf:=k.few
  have hF:=kd.al.uP (by rw [k.Ll];omega) hl
  rw [k.sp _ hl] at hF
  refine hF.mono ?_
  rintro y w1 ⟨s,rfl,gc,t1,hs⟩
  have hs1:s<w1.heap.size:=by
   obtain ⟨A9,a9,_,_⟩:=t1
   have:=(a9.sp G.L.length (by simp)).sp.lt
   simpa using this
  have hd1:Hd w1 (H.hs o.j) (H.sp o.j) (H.tb o.j) (U o.j) o.m o.fo:=by
   obtain ⟨A9,a9,f9,_⟩:=t1
   exact (kd.hold p o ho).keep (f9.block _ (kd.hold p o ho).lt (fun z=>by have:=kd.k1 _ z;have:=kd.k5 p o ho;omega))
  refine ⟨s,rfl,hd1.nine,(kd.y8 hq ho hl t1 hs hs1).mono ?_⟩
  rintro y w2 ⟨t,rfl,hd2,G',k',h5,hlt,st⟩
  refine ⟨t,rfl,hd2.nine,(hd2.below ((Below.refl _ w2).alloc (Nat.le_refl _) _)).nine,G',k',h5,hlt,?_,qY e (Stp.base (V:=w.drew) rfl rfl rfl rfl st)⟩
  show (w2.heap.push _)[w2.heap.size]? = _
  rw [Array.getElem?_push,if_pos rfl]
 generalize U o.j 0=u0 at *
 generalize U o.j 1=u1 at *
 generalize U o.j 2=u2 at *
 generalize o.m 0=m0 at *
 generalize o.m 1=m1 at *
 generalize o.m 2=m2 at *
 go_enter Tryz.func161,Tryz.ntmps161
 go_upto_region 1 with fail
 go_region_held3 (fun w'=>w'.cell? ⟨H.hs o.j,0,none⟩=some (wp (H.sp o.j))∧w'.cell? ⟨H.hs o.j,1,none⟩=some (wp (H.tb o.j))∧w'.cell? ⟨H.hs o.j,2,none⟩=some (.int .i64 u0)∧w'.cell? ⟨H.hs o.j,3,none⟩=some (.int .i64 u1)∧w'.cell? ⟨H.hs o.j,4,none⟩=some (.int .i64 u2)∧w'.cell? ⟨H.hs o.j,5,none⟩=some (.int .i64 m0)∧w'.cell? ⟨H.hs o.j,6,none⟩=some (.int .i64 m1)∧w'.cell? ⟨H.hs o.j,7,none⟩=some (.int .i64 m2)∧w'.cell? ⟨H.hs o.j,8,none⟩=some (.int .i64 o.fo)) (first|exact c9|exact d9|exact d10) (first
  |(go_at_call 229;refine hV.mono ?_;rintro e w1 ⟨s,rfl,d9,hD⟩)
  |(go_at_call 230;refine hD.mono ?_;rintro e w2 ⟨t,rfl,d9,d10,hB⟩))
 all_goals
  go_wp2_with fail
  go_ret
  exact ⟨s,t,w2.heap.size,rfl,hB.out⟩
end
def gL (S:KS) (p:Int) (o:Ow):KS:=((S.procs (fU S.P p (aL S.P))).born o.j).own (aL S.P) ⟨S.Ts.length,o.m,o.fo⟩
section
variable {w w' w1 w2:World}{m:Int}{H:KH}{S:KS}{U:Nat→Nat→Int}{q:Nat}{G:KG}{A:Nat→Prop}{p:Int}{o:Ow}
theorem LV (S:KS) (j i:Nat):au (S.born j) i=if i=S.Ts.length then au S j else au S i:=by
 show (S.Ts ++ [au S j]).getD i bQ=_
 rw [List.getD_eq_getElem?_getD]
 by_cases e:i<S.Ts.length
 ·rw [List.getElem?_append_left e,if_neg (by omega)]
  unfold au
  rw [List.getD_eq_getElem?_getD]
 ·rw [List.getElem?_append_right (by omega)]
  by_cases e2:i=S.Ts.length
  ·rw [if_pos e2,e2];simp
  ·rw [if_neg e2,List.getElem?_eq_none (by simp;omega)]
   unfold au
   rw [List.getD_eq_getElem?_getD,List.getElem?_eq_none (by omega)]
theorem Mt (S:KS) (hl:S.Ms.length=S.Ts.length) (j i:Nat):aC (S.born j) i=if i=S.Ts.length then aC S j else aC S i:=by
 show (S.Ms ++ [aC S j]).getD i lG=_
 rw [List.getD_eq_getElem?_getD]
 by_cases e:i<S.Ms.length
 ·rw [List.getElem?_append_left e,if_neg (by omega)]
  unfold aC
  rw [List.getD_eq_getElem?_getD]
 ·rw [List.getElem?_append_right (by omega)]
  by_cases e2:i=S.Ts.length
  ·rw [if_pos e2,e2,hl];simp
  ·rw [if_neg e2,List.getElem?_eq_none (by simp;omega)]
   unfold aC
   rw [List.getD_eq_getElem?_getD,List.getElem?_eq_none (by omega)]
theorem Ou (P:Ps) (p k x:Int):aD (fU P p k) x=if x=k then true else aD P x:=by
 unfold aD fU
 by_cases e:x=k
 ·subst e
  rw [kG (oN _ _ _),if_pos rfl];rfl
 ·rw [if_neg e]
  unfold nN
  rw [qZ e]
theorem uh.y8 (k:uh S) (ho:S.O p=some o) (hl:S.Ms.length=S.Ts.length) (hk:S.O (aL S.P)=none):uh (gL S p o):=by
 have hO:∀x o',(gL S p o).O x=some o'→(x=aL S.P∧o'=⟨S.Ts.length,o.m,o.fo⟩)∨(x≠aL S.P∧S.O x=some o'):=fun x o' e=>by
  have e:kL S.O (aL S.P) ⟨S.Ts.length,o.m,o.fo⟩ x=some o':=e
  by_cases ex:x=aL S.P
  ·rw [ex,eH] at e;exact .inl ⟨ex,(Option.some.inj e).symm⟩
  ·rw [iX ex] at e;exact .inr ⟨ex,e⟩
 refine ⟨fun x=>?_,fun j hj hn=>?_,fun x o' e=>?_⟩
 ·show (kL S.O (aL S.P) _ x).isSome=aD (fU S.P p (aL S.P)) x
  rw [Ou]
  by_cases e:x=aL S.P
  ·rw [if_pos e,e,eH];rfl
  ·rw [if_neg e,iX e];exact k.run x
 ·have e1:au (gL S p o) j=au ((S.procs (fU S.P p (aL S.P))).born o.j) j:=rfl
  have e2:aC (gL S p o) j=aC ((S.procs (fU S.P p (aL S.P))).born o.j) j:=rfl
  have hj':j<S.Ts.length+1:=by
   have:j<(S.Ts ++ [au S o.j]).length:=hj
   simpa using this
  have hne:j≠S.Ts.length:=fun e=>hn (aL S.P) ⟨S.Ts.length,o.m,o.fo⟩ (eH _ _ _) e.symm
  rw [e1,e2,LV,Mt (S.procs (fU S.P p (aL S.P))) hl]
  have hne':¬j=(S.procs (fU S.P p (aL S.P))).Ts.length:=hne
  rw [if_neg hne',if_neg hne']
  refine k.gone j (by omega) (fun x o' e z=>?_)
  by_cases ex:x=aL S.P
  ·rw [ex,hk] at e;cases e
  ·exact hn x o' (by show kL S.O _ _ x=_;rw [iX ex];exact e) z
 ·rcases hO x o' e with ⟨_,rfl⟩|⟨_,e⟩
  ·exact k.fit p o ho
  ·exact k.fit x o' e
theorem KN.least (h:KN w m H S q A) (hc:(aH S.P).length<24):uD S.P (aL S.P)∧aL S.P≤24∧S.O (aL S.P)=none:=by
 obtain ⟨k,hk,QW⟩:=uD.ex h.1.Vi.Y3 hc
 rw [wN hk QW]
 refine ⟨hk,QW,h.adh.2 ?_⟩
 unfold aD
 rw [lY hk.no];rfl
theorem KX.Sa (h:KX w m H S U q A) (n:Int) (hn:(Lit.int .i64 n).wf=true):Calls Tryz.prog 160 #[wp H.t,.int .i64 n] w fun y w'=>y=.returned (.tuple #[.int .i64 (oq S.P n (aH S.P).length),aI (lQ S.P n (aH S.P).length)])∧∃A',KX w' m H (S.procs (oo S.P n (aH S.P).length)) U q A'∧Stp w w' A A':=by
 refine (h.proc (Q:=fun y P'=>y=.returned (.tuple #[.int .i64 (oq S.P n (aH S.P).length),aI (lQ S.P n (aH S.P).length)])∧P'=oo S.P n (aH S.P).length) (fun c qj=>?_)).mono ?_
 ·have e:c=(aH S.P).length:=qj.toQM.num.one h.Vi.Y3
  subst e
  refine (qj.fork n hn).mono ?_
  rintro y w' ⟨rfl,t⟩;exact ⟨_,⟨rfl,rfl⟩,t⟩
 ·rintro y w' ⟨P',⟨rfl,rfl⟩,r⟩;exact ⟨rfl,r⟩
theorem KN.PL (h:KN w m H S q A) (ho:S.O p=some o) (hc:24≤(aH S.P).length) :
 Calls Tryz.prog 98 #[wp H.kb,.int .i64 p] w fun y w'=>y=.returned (.tuple #[.int .i64 0,eQ 12])∧∃A',KN w' m H S q A'∧Stp w w' A A':=by
 have hF:=h.1.ay ho
 have c3:=h.1.c3
 have hr:aD S.P p=true:=by rw [←h.2.run p,ho];rfl
 have e1:lQ S.P p (aH S.P).length=12:=by unfold lQ;rw [hr,if_neg (by simp),if_pos hc]
 have e2:oq S.P p (aH S.P).length=0:=by unfold oq;rw [e1,if_neg (by omega)]
 have e3:oo S.P p (aH S.P).length=S.P:=by unfold oo;rw [e1,if_neg (by omega)]
 have hX:Calls Tryz.prog 160 #[wp H.t,.int .i64 p] w fun y w'=>y=.returned (.tuple #[.int .i64 0,eQ 12])∧∃A',KN w' m H S q A'∧Stp w w' A A':=by
  refine (h.1.Sa p (h.1.YG ho)).mono ?_
  rintro y w1 ⟨rfl,A1,k1,st1⟩
  rw [e1,e2,ax (by omega)]
  rw [e3] at k1
  exact ⟨rfl,A1,⟨k1,h.2⟩,st1⟩
 go_enter Tryz.func98,Tryz.ntmps98
 go_wp2_with (first
  |(go_at_call 127;refine hF.mono ?_;rintro e w1 ⟨rfl,hw⟩;subst w1)
  |(go_at_call 160;refine hX.mono ?_;rintro e w1 ⟨rfl,hR⟩))
 go_ret2
 exact ⟨rfl,hR⟩
theorem KN.XV (h:KN w m H S q A) (ho:S.O p=some o) (hq:q≤400) (hc:(aH S.P).length<24) :
 Calls Tryz.prog 98 #[wp H.kb,.int .i64 p] w fun y w'=>y=.returned (.tuple #[.int .i64 (aL S.P),.nilIface])∧∃H' A',(H'.kb=H.kb∧H'.ok=H.ok)∧KN w' m H' (gL S p o) (q+1) A'∧Stp w w' A A':=by
 have hF:=h.1.ay ho
 have c3:=h.1.c3
 have hr:aD S.P p=true:=by rw [←h.2.run p,ho];rfl
 obtain ⟨hfr,Vy,hkO⟩:=h.least hc
 have hk1:=hfr.pos
 have e1:lQ S.P p (aH S.P).length=0:=by unfold lQ;rw [hr,if_neg (by simp),if_neg (by omega)]
 have e2:oq S.P p (aH S.P).length=aL S.P:=by unfold oq;rw [if_pos e1]
 have e3:oo S.P p (aH S.P).length=fU S.P p (aL S.P):=by unfold oo;rw [if_pos e1]
 have hX:Calls Tryz.prog 160 #[wp H.t,.int .i64 p] w fun y w'=>y=.returned (.tuple #[.int .i64 (aL S.P),.nilIface])∧(w'.cell? ⟨H.kb,4,none⟩=some (.map (some H.gm))∧w'.cell? ⟨H.kb,2,none⟩=some (wp H.f))∧
  Calls Tryz.prog 161 #[wp (H.hs o.j),wp H.f] w'.drew fun y w2=>∃b,y=.returned (wp b)∧(w2.cell? ⟨H.kb,4,none⟩=some (.map (some H.gm))∧w2.cell? ⟨H.kb,2,none⟩=some (wp H.f))∧∃w3,(Instr.mapUpdate 64 (.map (some H.gm)) (.int .i64 (aL S.P)) (wp b)).run Tryz.prog w2=.ok () w3∧(w3.cell? ⟨H.kb,4,none⟩=some (.map (some H.gm))∧w3.cell? ⟨H.kb,2,none⟩=some (wp H.f))∧Aside (∃H' A',(H'.kb=H.kb∧H'.ok=H.ok)∧KN w3 m H' (gL S p o) (q+1) A'∧Stp w w3 A A'):=by
  refine (h.1.Sa p (h.1.YG ho)).mono ?_
  rintro y w1 ⟨rfl,A1,k1,st1⟩
  rw [e1,e2,aB]
  rw [e3] at k1
  refine ⟨rfl,k1.JG (p:=p) (o:=o) ho,((k1.below (bH w1)).adt (p:=p) (o:=o) ho hq).mono ?_⟩
  rintro y w2 ⟨s,t,b,rfl,G',k',h5,hlt,hd,st2⟩
  have hb:(H.add S.Ts.length s t b).hs S.Ts.length=b:=if_pos rfl
  have hs:(H.add S.Ts.length s t b).sp S.Ts.length=s:=if_pos rfl
  have ht:(H.add S.Ts.length s t b).tb S.Ts.length=t:=if_pos rfl
  have c2:w2.cell? ⟨H.kb,4,none⟩=some (.map (some H.gm))∧w2.cell? ⟨H.kb,2,none⟩=some (wp H.f):=⟨(KX.of k').c4,(KX.of k').c2⟩
  obtain ⟨w3,hrun,G3,k3,wW⟩:=k'.put (k:=aL S.P) hkO ⟨hk1,Vy⟩ (o':=⟨S.Ts.length,o.m,o.fo⟩) (by show S.Ts.length<(S.Ts ++ [_]).length;simp) (by show G'.κ ((H.add S.Ts.length s t b).hs S.Ts.length)=5;rw [hb];exact h5) (fun p' o' ho'=>by
   have ho2:S.O p'=some o':=ho'
   have hl:=h.1.rR ho2
   show (H.add S.Ts.length s t b).hs o'.j≠(H.add S.Ts.length s t b).hs S.Ts.length
   rw [hb,show (H.add S.Ts.length s t b).hs o'.j=H.hs o'.j from if_neg (by omega)]
   have:=hlt p' o' ho2
   omega) (U':=kZ S o.j) (by
   show Hd w2 ((H.add S.Ts.length s t b).hs S.Ts.length) ((H.add S.Ts.length s t b).sp S.Ts.length) ((H.add S.Ts.length s t b).tb S.Ts.length) (kZ S o.j) o.m o.fo
   rw [hb,hs,ht];exact hd)
  have hrun':(Instr.mapUpdate 64 (.map (some H.gm)) (.int .i64 (aL S.P)) (wp b)).run Tryz.prog w2=.ok () w3:=by rw [←hb];exact hrun
  refine ⟨b,rfl,c2,w3,hrun',⟨(KX.of k3).c4,(KX.of k3).c2⟩,H.add S.Ts.length s t b,_,⟨rfl,rfl⟩,(KX.of k3).toN (h.2.y8 ho h.1.len hkO) (fun p' o' ho' k hk=>?_),(st1.trans (Stp.base (V:=w1.drew) rfl rfl rfl rfl st2)).trans wW⟩
  have hO:(p'=aL S.P∧o'=⟨S.Ts.length,o.m,o.fo⟩)∨(p'≠aL S.P∧S.O p'=some o'):=by
   have e:kL S.O (aL S.P) ⟨S.Ts.length,o.m,o.fo⟩ p'=some o':=ho'
   by_cases ex:p'=aL S.P
   ·rw [ex,eH] at e;exact .inl ⟨ex,(Option.some.inj e).symm⟩
   ·rw [iX ex] at e;exact .inr ⟨ex,e⟩
  have et:∀i,au (gL S p o) i=if i=S.Ts.length then au S o.j else au S i:=fun i=>LV (S.procs (fU S.P p (aL S.P))) o.j i
  have em:∀i,aC (gL S p o) i=if i=S.Ts.length then aC S o.j else aC S i:=fun i=>Mt (S.procs (fU S.P p (aL S.P))) h.1.len o.j i
  rcases hO with ⟨_,rfl⟩|⟨_,ho2⟩
  ·simp only [if_true]
   have e9:kZ (gL S p o) S.Ts.length k=kZ S o.j k:=by
    unfold kZ
    rw [et,em,if_pos rfl,if_pos rfl]
   exact e9.symm
  ·have hl:=h.1.rR ho2
   simp only
   rw [if_neg (by omega)]
   have e9:kZ (gL S p o) o'.j k=kZ S o'.j k:=by
    unfold kZ
    have hne:¬o'.j=S.Ts.length:=by omega
    rw [et,em,if_neg hne,if_neg hne]
   exact e9.symm
 generalize gL S p o=S2 at *
 generalize aL S.P=X at *
 go_enter Tryz.func98,Tryz.ntmps98
 go_upto_region 7 with (first
  |(go_at_call 127;refine hF.mono ?_;rintro e w1 ⟨rfl,hw⟩;subst w1)
  |(go_at_call 160;refine hX.mono ?_;rintro e w1 ⟨rfl,c0,hC⟩))
 go_region_held3 (fun w'=>w'.cell? ⟨H.kb,4,none⟩=some (.map (some H.gm))∧w'.cell? ⟨H.kb,2,none⟩=some (wp H.f)) (first|exact c0|exact c1|exact c9) (first
  |(go_at_call 161;refine hC.mono ?_;rintro e w2 ⟨b,rfl,c1,w3,hrun,c9,hR⟩))
 all_goals
  go_wp2_with fail
  go_ret2
  exact ⟨rfl,hR.out⟩
end
section
variable {w w' w1 w2:World}{m:Int}{H:KH}{S:KS}{U:Nat→Nat→Int}{q:Nat}{G:KG}{A:Nat→Prop}{p:Int}{o:Ow}
def Jb (S:KS) (j:Nat) (n:Int):Nat→Nat→Int:=fun i=>if i=j then after (kZ S j) 1 n else kZ S i
def vL (A X:Nat→Prop):Nat→Prop:=fun i=>A i∨X i
theorem Stp.with {A' X:Nat→Prop}(h:Stp w w' A A') (_hX:∀i,X i→i<w.heap.size):Stp w w' (vL A X) (vL A' X):=
 ⟨⟨h.wt.os,h.wt.tape,h.wt.output,h.wt.size,fun i hi hn=>h.wt.block i hi (fun z=>hn (.inl z))⟩,fun i hi=>by
  rcases hi with z|z
  ·rcases h.own i z with y|y
   ·exact .inl (.inl y)
   ·exact .inr y
  ·exact .inl (.inr z)⟩
theorem LJ {S:KS}{o:Ow}{n:Int}(hn:1≤n∧n≤2) (h8:(au S o.j).length=8):why (kZ S o.j) o.m 1 n=if ((ak (au S o.j):Nat):Int)+n≤o.m 1 then 0 else 4:=by
 have e:kZ S o.j (1:Int).toNat=((ak (au S o.j):Nat):Int):=rfl
 have e2:o.m (1:Int).toNat=o.m 1:=rfl
 unfold why
 rw [e,e2]
 have:=wo h8
 by_cases hc:((ak (au S o.j):Nat):Int)+n≤o.m 1
 ·rw [if_pos hc,if_neg (by omega),if_neg (by omega),if_neg (by omega),if_neg (by omega)]
 ·rw [if_neg hc,if_neg (by omega),if_neg (by omega),if_pos (by omega)]
theorem Ai {S:KS}{o:Ow}{n:Int}{D':DS}{N':Ns}(hj:o.j<S.Ts.length) (hu:((ak N':Nat):Int)=ak (au S o.j)+n) (i k:Nat) (hk:k<3):Jb S o.j n i k=kZ (S.files D' o.j N') i k:=by
 unfold Jb
 by_cases e:i=o.j
 ·rw [if_pos e,e]
  unfold after put kZ
  rw [gY hj,if_pos rfl,oD]
  match k,hk with
  |0,_=>rfl
  |1,_=>show ((ak (au S o.j):Nat):Int)+n=_;rw [←hu];rfl
  |2,_=>rfl
 ·rw [if_neg e]
  unfold kZ
  rw [gY hj,if_neg e,oD]
theorem KX.qG (h:KN w m H S q A) (ho:S.O p=some o) {n:Int}(hn:1≤n∧n≤2) {fn:Nat}{lb:Array Value}(ef:∀args w,(callFunc fn args).run Tryz.prog w=.ok (.enter fn args) w) {X:Nat→Prop}(hX:∀i,X i→i<w.heap.size) {Q:Int→DS→Ns→World→Prop}
 (hQ:∀c D' N' w2 w3,Q c D' N' w2→w2.grownBy w3 (some (H.hs o.j))→Q c D' N' w3)
 (hdo:∀V,KX V m H S (Jb S o.j n) q A→Stp w V A A→Calls Tryz.prog fn lb V fun y w2=>∃c D' N',y=.returned (aI c)∧Q c D' N' w2∧(c=0→((ak N':Nat):Int)=ak (au S o.j)+n)∧(c≠0→D'=S.D∧N'=au S o.j)∧∃A2,(∀i,X i→¬A2 i)∧KX w2 m H (S.files D' o.j N') (Jb S o.j n) (q+1) A2∧Stp V w2 (vL A X) (vL A2 X)) :
 Calls Tryz.prog 150 #[wp (H.hs o.j),.int .i64 1,.int .i64 n,.func (.func fn) #[] lb] w fun y w'=>∃c,y=.returned (aI c)∧
  ((¬((ak (au S o.j):Nat):Int)+n≤o.m 1∧c=4∧∃A',KN w' m H S q A'∧Stp w w' A A')∨
   (((ak (au S o.j):Nat):Int)+n≤o.m 1∧∃D' N',Q c D' N' w'∧∃A',(∀i,X i→¬A' i)∧KN w' m H (S.files D' o.j N') (q+1) A'∧Stp w w' (vL A X) (vL A' X))):=by
 have hj:=h.1.rR ho
 have hw:=LJ (S:=S) (o:=o) hn (h.1.oW o.j)
 refine (h.1.hd ho).qG (h.1.Ji o.j) (h.2.fit p o ho).1 h.1.er (h.1.hne ho) 1 n ef (R:=fun c w'=>(¬((ak (au S o.j):Nat):Int)+n≤o.m 1∧c=4∧∃A',KN w' m H S q A'∧Stp w w' A A')∨
  (((ak (au S o.j):Nat):Int)+n≤o.m 1∧∃D' N',Q c D' N' w'∧∃A',(∀i,X i→¬A' i)∧KN w' m H (S.files D' o.j N') (q+1) A'∧Stp w w' (vL A X) (vL A' X))) (fun hne V hd g=>?_) (fun he V hd g=>?_)
 ·obtain ⟨k',st⟩:=h.1.ZQ ho hd g
  rw [hw] at hne ⊢
  split at hne
  ·exact absurd rfl hne
  ·rename_i hc
   rw [if_neg hc]
   refine .inl ⟨hc,rfl,A,k'.toN h.2 (fun p' o' ho' k hk=>?_),st⟩
   by_cases ej:o'.j=o.j
   ·simp only [if_pos ej];rw [ej]
   ·simp only [if_neg ej]
 ·have hle:((ak (au S o.j):Nat):Int)+n≤o.m 1:=by
   rw [hw] at he
   split at he
   ·assumption
   ·omega
  obtain ⟨k',st⟩:=h.1.ZQ ho hd g
  refine (hdo V k' st).mono ?_
  rintro y w2 ⟨c,D',N',rfl,hQ2,hc0,hc1,A2,nA,k2,st2⟩
  refine ⟨c,rfl,fun hc=>?_,fun hc=>⟨?_,fun i hi hiV=>?_,fun w3 hd3 g3=>?_⟩⟩
  ·subst hc
   refine .inr ⟨hle,D',N',hQ2,A2,nA,k2.toN (h.2.files ho _ _) (fun p' o' ho' k hk=>Ai hj (hc0 rfl) _ _ hk),(st.with hX).trans st2⟩
  ·have:=k2.hd (p:=p) (o:=o) ho
   unfold Jb at this
   rw [if_pos rfl] at this
   exact this
  ·refine st2.wt.block i hiV (fun z=>?_)
   rcases z with z|z
   ·have:=h.1.lt i z;omega
   ·have:=hX i z;omega
  ·obtain ⟨rfl,rfl⟩:=hc1 hc
   rw [pJ hj] at k2
   obtain ⟨k3,wW⟩:=k2.ZQ (p:=p) (o:=o) ho hd3 g3
   have hX2:∀i,X i→i<w2.heap.size:=fun i hi=>Nat.lt_of_lt_of_le (hX i hi) (Nat.le_trans st.wt.size st2.wt.size)
   refine .inr ⟨hle,S.D,au S o.j,hQ _ _ _ _ _ hQ2 g3,A2,nA,?_,((st.with hX).trans st2).trans (wW.with hX2)⟩
   rw [pJ hj]
   refine k3.toN h.2 (fun p' o' ho' k hk=>?_)
   by_cases ej:o'.j=o.j
   ·simp only [if_pos ej];rw [ej]
   ·simp only [if_neg ej]
    unfold Jb
    rw [if_neg ej]
end
section
variable {w w' w1 w2:World}{m:Int}{H:KH}{S:KS}{U:Nat→Nat→Int}{q:Nat}{G:KG}{A:Nat→Prop}{p:Int}{o:Ow}
theorem KM.same (h:KM w m H S U q G) (hs:w.heap.size≤w'.heap.size) (hk:∀i,G.κ i≠0→w'.heap[i]? = w.heap[i]?) (g1:w'.heap[4]? = w.heap[4]?) (g2:w'.heap[0]? = w.heap[0]?) (g3:w'.heap[8]? = w.heap[8]?):KM w' m H S U q G:=by
 have hb:∀i c,G.κ i=c→c≠0→w'.heap[i]? = w.heap[i]? := fun i c e h0=>hk i (by omega)
 have m1:w'.cell? ⟨4,0,none⟩=some (.int .i64 m):=by
  rw [World.cell?_of_block (w:=w) (a:=⟨4,0,none⟩) g1];exact h.kd.ml
 have m2:w'.cell? ⟨0,0,none⟩=some iB:=by
  rw [World.cell?_of_block (w:=w) (a:=⟨0,0,none⟩) g2];exact h.kd.er
 obtain ⟨c,hc⟩:=h.qj
 obtain ⟨z,hm⟩:=h.map
 exact { h with
  head:=(hb _ 6 h.kk (by omega)).trans h.head
  al:=h.al.keep (fun i hi=>hb i 1 (h.k1 i hi) (by omega)) (hb _ 6 h.kE (by omega)) (hb _ 6 h.kB (by omega)) (fun i hi=>by
   rw [h.sp i hi]
   exact hb _ 6 (h.ks i (by rw [←h.Ll];exact hi)) (by omega))
  kd:=h.kd.keep (fun i hi=>hb i 2 (h.k2 i hi) (by omega)) hs m1 m2
  qj:=⟨c,⟨hc.toQM.keep (hb _ 6 h.kt (by omega)) (hb _ 3 h.k3 (by omega)),hc.ok,hc.dj⟩⟩
  map:=⟨z,hm.keep (hb _ 4 h.k4 (by omega))⟩
  hold:=fun p o ho=>(h.hold p o ho).keep (hb _ 5 (h.k5 p o ho) (by omega))
  tab:=h.tab.keep g3
  Bd:=fun i hi=>Nat.lt_of_lt_of_le (h.Bd i hi) hs }
def Out (w:World) (A:Nat→Prop) (x:Nat):Prop:=¬A x∧x≠4∧x≠0∧x≠8∧w.frozen? ⟨x,0,none⟩=false∧∃v,w.cell? ⟨x,0,none⟩=some v
theorem Out.p8 {A':Nat→Prop}{x:Nat}(h:Out w A x) (st:Stp w w' A A'):Out w' A' x:=by
 obtain ⟨h1,h2,h3,h4,h5,v,hv⟩:=h
 obtain ⟨c,n⟩:=st.cO hv h1
 have hlt:x<w.heap.size:=World.block_lt_of_cell? w _ hv
 exact ⟨n,h2,h3,h4,by rw [World.frozen?_of_block (w:=w) (a:=⟨x,0,none⟩) (st.wt.block x hlt h1)];exact h5,v,c⟩
theorem KX.box (h:KX w m H S U q A) {x:Nat}(hx:Out w A x) (v:Value):KX (w.setCell ⟨x,0,none⟩ v) m H S U q A:=by
 obtain ⟨G,k,e⟩:=h
 obtain ⟨h1,h2,h3,h4,_,_⟩:=hx
 have hk:∀i,i≠x→(w.setCell ⟨x,0,none⟩ v).heap[i]? = w.heap[i]? := fun i hi=>Below.heap_setCell _ _ _ _ (fun e=>hi (by rw [e]))
 exact ⟨G,k.same (by simp [World.setCell]) (fun i hi=>hk i (fun z=>by subst z;exact h1 ((e i).2 hi))) (hk _ (Ne.symm h2)) (hk _ (Ne.symm h3)) (hk _ (Ne.symm h4)),e⟩
theorem Out.set {x y:Nat}(h:Out w A x) (v:Value):Out (w.setCell ⟨y,0,none⟩ v) A x:=by
 obtain ⟨h1,h2,h3,h4,h5,u,hu⟩:=h
 refine ⟨h1,h2,h3,h4,by rw [World.frozen?_setCell];exact h5,?_⟩
 by_cases e:x=y
 ·subst e;exact ⟨v,World.cell?_setCell_same _ _ _ hu⟩
 ·exact ⟨u,by rw [World.cell?_setCell_other _ _ _ _ (by intro z;simp only [Addr.mk.injEq,and_true] at z;exact e z.symm)];exact hu⟩
theorem Out.got {x:Nat}(h:Out w A x) (v:Value):(w.setCell ⟨x,0,none⟩ v).cell? ⟨x,0,none⟩=some v:=by
 obtain ⟨_,_,_,_,_,u,hu⟩:=h
 exact World.cell?_setCell_same _ _ _ hu
theorem oM {x b o':Nat}{u:Value}(hu:w.cell? ⟨b,o',none⟩=some u) (hne:b≠x) (v:Value):(w.setCell ⟨x,0,none⟩ v).cell? ⟨b,o',none⟩=some u:=by
 rw [World.cell?_setCell_other _ _ _ _ (by intro z;simp only [Addr.mk.injEq,and_true] at z;exact hne z.1.symm)];exact hu
theorem L9 {x:Nat}{A':Nat→Prop}(st:Stp w w1 A A') (v:Value) (_hx:x<w.heap.size):Stp w (w1.setCell ⟨x,0,none⟩ v) (vL A (fun i=>i=x)) (vL A' (fun i=>i=x)):=
 ⟨⟨st.wt.os,st.wt.tape,st.wt.output,by simpa [World.setCell] using st.wt.size,fun i hi hn=>by
  rw [Below.heap_setCell _ _ _ _ (fun e=>hn (.inr (by rw [e])))]
  exact st.wt.block i hi (fun z=>hn (.inl z))⟩,fun i hi=>by
  rcases hi with z|z
  ·rcases st.own i z with y|y
   ·exact .inl (.inl y)
   ·exact .inr y
  ·exact .inl (.inr z)⟩
theorem rP.set {x:Nat}{l:List (Nat×Value)}(h:rP w A l) (hl:∀y∈l,y.1≠x) (v:Value):rP (w.setCell ⟨x,0,none⟩ v) A l:=fun y hy=>⟨oM (h y hy).1 (hl y hy) v,(h y hy).2⟩
theorem KX.afV (h:KX w m H S U q A) (ho:S.O p=some o) (x:Int) {xk xh xn xo:Nat}(hb:rP w A [(xk,wp H.kb),(xh,wp (H.hs o.j)),(xn,.int .i64 x)]) (hx:Out w A xo) (hne:xk≠xo∧xh≠xo∧xn≠xo) :
 Calls Tryz.prog 151 #[wp xk,wp xh,wp xn,wp xo] w fun y w'=>y=.returned (aI (jH (au S o.j) x))∧w'.cell? ⟨xo,0,none⟩=some (.int .i64 (jv (au S o.j) x))∧∃A',Out w' A' xo∧KX w' m H (S.files (lM S.D (au S o.j) x) o.j (lL (au S o.j) x)) U q A'∧Stp w w' (vL A (fun i=>i=xo)) (vL A' (fun i=>i=xo)):=by
 have hxl:xo<w.heap.size:=by obtain ⟨_,_,_,_,_,v,hv⟩:=hx;exact World.block_lt_of_cell? w _ hv
 have cells:∀ {w':World}{A':Nat→Prop}{S':KS},KX w' m H S' U q A'→S'.O p=some o→rP w' A' [(xk,wp H.kb),(xh,wp (H.hs o.j)),(xn,.int .i64 x)]→w'.cell? ⟨xk,0,none⟩=some (wp H.kb)∧w'.cell? ⟨H.kb,2,none⟩=some (wp H.f)∧w'.cell? ⟨xh,0,none⟩=some (wp (H.hs o.j))∧w'.cell? ⟨H.hs o.j,1,none⟩=some (wp (H.tb o.j))∧w'.cell? ⟨xn,0,none⟩=some (.int .i64 x):=fun h' ho' b'=>
  ⟨(b' (xk,_) (by simp)).1,h'.c2,(b' (xh,_) (by simp)).1,(h'.hd ho').at 1,(b' (xn,_) (by simp)).1⟩
 have c0:=cells h ho hb
 have hM:Calls Tryz.prog 152 #[wp H.f,wp (H.tb o.j),.int .i64 x] w.drew fun y w'=>y=.returned (.tuple #[.int .i64 (jv (au S o.j) x),aI (jH (au S o.j) x)])∧(w'.cell? ⟨xk,0,none⟩=some (wp H.kb)∧w'.cell? ⟨H.kb,2,none⟩=some (wp H.f)∧w'.cell? ⟨xh,0,none⟩=some (wp (H.hs o.j))∧w'.cell? ⟨H.hs o.j,1,none⟩=some (wp (H.tb o.j))∧w'.cell? ⟨xn,0,none⟩=some (.int .i64 x))∧w'.frozen? ⟨xo,0,none⟩=false∧(∃v,w'.cell? ⟨xo,0,none⟩=some v)∧((w'.setCell ⟨xo,0,none⟩ (.int .i64 (jv (au S o.j) x))).cell? ⟨xk,0,none⟩=some (wp H.kb)∧(w'.setCell ⟨xo,0,none⟩ (.int .i64 (jv (au S o.j) x))).cell? ⟨H.kb,2,none⟩=some (wp H.f)∧(w'.setCell ⟨xo,0,none⟩ (.int .i64 (jv (au S o.j) x))).cell? ⟨xh,0,none⟩=some (wp (H.hs o.j))∧(w'.setCell ⟨xo,0,none⟩ (.int .i64 (jv (au S o.j) x))).cell? ⟨H.hs o.j,1,none⟩=some (wp (H.tb o.j))∧(w'.setCell ⟨xo,0,none⟩ (.int .i64 (jv (au S o.j) x))).cell? ⟨xn,0,none⟩=some (.int .i64 x))∧
  Aside ((w'.setCell ⟨xo,0,none⟩ (.int .i64 (jv (au S o.j) x))).cell? ⟨xo,0,none⟩=some (.int .i64 (jv (au S o.j) x))∧∃A',Out (w'.setCell ⟨xo,0,none⟩ (.int .i64 (jv (au S o.j) x))) A' xo∧KX (w'.setCell ⟨xo,0,none⟩ (.int .i64 (jv (au S o.j) x))) m H (S.files (lM S.D (au S o.j) x) o.j (lL (au S o.j) x)) U q A'∧Stp w (w'.setCell ⟨xo,0,none⟩ (.int .i64 (jv (au S o.j) x))) (vL A (fun i=>i=xo)) (vL A' (fun i=>i=xo))):=by
  refine ((h.below (bH w)).afT (h.rR ho) x).mono ?_
  rintro y w' ⟨rfl,A',h',st⟩
  have st':Stp w w' A A':=Stp.base (V:=w.drew) rfl rfl rfl rfl st
  have hx':=hx.p8 st'
  have hb':=hb.p8 st'
  obtain ⟨v,hv⟩:=hx'.2.2.2.2.2
  have hbs:=hb'.set (x:=xo) (fun y hy=>by
   simp at hy
   rcases hy with rfl|rfl|rfl<;>first|exact hne.1|exact hne.2.1|exact hne.2.2) (.int .i64 (jv (au S o.j) x))
  have kb:=h'.box hx' (.int .i64 (jv (au S o.j) x))
  exact ⟨rfl,cells h' ho hb',hx'.2.2.2.2.1,⟨v,hv⟩,cells kb ho hbs,hx'.got _,A',hx'.set _,kb,L9 st' _ hxl⟩
 generalize jH (au S o.j) x=E at *
 generalize jv (au S o.j) x=K at *
 generalize S.files (lM S.D (au S o.j) x) o.j (lL (au S o.j) x)=S2 at *
 go_enter Tryz.func151,Tryz.ntmps151
 go_upto_region 1 with fail
 go_region_held3 (fun w'=>w'.cell? ⟨xk,0,none⟩=some (wp H.kb)∧w'.cell? ⟨H.kb,2,none⟩=some (wp H.f)∧w'.cell? ⟨xh,0,none⟩=some (wp (H.hs o.j))∧w'.cell? ⟨H.hs o.j,1,none⟩=some (wp (H.tb o.j))∧w'.cell? ⟨xn,0,none⟩=some (.int .i64 x)) (first|exact c0|exact c1|exact c3) (first
  |(go_at_call 152;refine hM.mono ?_;rintro e w1 ⟨rfl,c1,f1,⟨v1,hv1⟩,c3,hR⟩))
 all_goals
  go_wp2_with fail
  go_ret
  exact ⟨rfl,hR.out⟩
end
section
variable {w w' w1 w2 V:World}{m:Int}{H:KH}{S:KS}{U:Nat→Nat→Int}{q:Nat}{G:KG}{A A' X:Nat→Prop}{p:Int}{o:Ow}
theorem Stp.inner (hb:Below w.heap.size w V) (st:Stp V w2 (vL A X) (vL A' X)) (hX:∀i,X i→w.heap.size≤i):Stp w w2 A A':=
 ⟨⟨st.wt.os.trans hb.os,st.wt.tape.trans hb.tape,st.wt.output.trans hb.output,Nat.le_trans hb.size st.wt.size,fun i hi hn=>by
  rw [st.wt.block i (Nat.lt_of_lt_of_le hi hb.size) (fun z=>by
   rcases z with z|z
   ·exact hn z
   ·have:=hX i z;omega)]
  exact hb.block i hi⟩,fun i hi=>by
  rcases st.own i (.inl hi) with z|z
  ·rcases z with z|z
   ·exact .inl z
   ·exact .inr (hX i z)
  ·exact .inr (Nat.le_trans hb.size z)⟩
theorem Stp.boxed {x:Nat}(st:Stp w w2 A A') (hx:w.heap.size≤x) (v:Value):Stp w (w2.setCell ⟨x,0,none⟩ v) A A':=
 ⟨⟨st.wt.os,st.wt.tape,st.wt.output,by simpa [World.setCell] using st.wt.size,fun i hi hn=>by
  rw [Below.heap_setCell _ _ _ _ (fun e=>by simp only at e;omega)]
  exact st.wt.block i hi hn⟩,st.own⟩
theorem KN.box (h:KN w m H S q A) {x:Nat}(hx:Out w A x) (v:Value):KN (w.setCell ⟨x,0,none⟩ v) m H S q A:=⟨h.1.box hx v,h.2⟩
theorem KX.Re (h:KX w m H S U q A) (_hb:Below w.heap.size w V) {x:Nat}(hx:w.heap.size≤x) {v:Value}(hc:V.cell? ⟨x,0,none⟩=some v) (hf:V.frozen? ⟨x,0,none⟩=false):Out V A x:=by
 obtain ⟨G,k,e⟩:=h
 have g1:=k.qi
 have g2:=k.qm
 have g3:=k.jX
 exact ⟨fun z=>by have:=k.Bd x ((e x).1 z);omega,by omega,by omega,by omega,hf,v,hc⟩
theorem qK (hb:Below w.heap.size w V) {x:Nat}(hx:x<w.heap.size) (h:w.frozen? ⟨x,0,none⟩=false):V.frozen? ⟨x,0,none⟩=false:=by
 rw [World.frozen?_of_block (w:=w) (a:=⟨x,0,none⟩) (hb.block x hx)];exact h
def lS (S:KS) (o:Ow) (n:Int):Prop:=((ak (au S o.j):Nat):Int)+n≤o.m 1
instance (S:KS) (o:Ow) (n:Int):Decidable (lS S o n):=by unfold lS;infer_instance
def rW (S:KS) (o:Ow) (x:Int):Int:=if lS S o 1 then jH (au S o.j) x else 4
def ng (S:KS) (o:Ow) (x:Int):Int:=if lS S o 1 then jv (au S o.j) x else 0
def uB (S:KS) (o:Ow) (x:Int):KS:=if lS S o 1 then S.files (lM S.D (au S o.j) x) o.j (lL (au S o.j) x) else S
theorem KN.X6 (h:KN w m H S q A) (ho:S.O p=some o) (x:Int) :
 Calls Tryz.prog 94 #[wp H.kb,.int .i64 p,.int .i64 x] w fun y w'=>y=.returned (.tuple #[.int .i64 (ng S o x),aI (rW S o x)])∧∃A',KN w' m H (uB S o x) (q+1) A'∧Stp w w' A A':=by
 have hpay:∀(V:World) (xk xh xn xo:Nat),Below w.heap.size w V→rP V A [(xk,wp H.kb),(xh,wp (H.hs o.j)),(xn,.int .i64 x)]→xk≠xo∧xh≠xo∧xn≠xo→w.heap.size≤xo→Out V A xo→V.cell? ⟨xo,0,none⟩=some (.int .i64 0)→
  Calls Tryz.prog 150 #[wp (H.hs o.j),.int .i64 1,.int .i64 1,.func (.func 151) #[] #[wp xk,wp xh,wp xn,wp xo]] V fun y w'=>y=.returned (aI (rW S o x))∧w'.cell? ⟨xo,0,none⟩=some (.int .i64 (ng S o x))∧w'.frozen? ⟨xo,0,none⟩=false∧(w'.setCell ⟨xo,0,none⟩ (.int .i64 (ng S o x))).cell? ⟨xo,0,none⟩=some (.int .i64 (ng S o x))∧Aside (∃A',KN (w'.setCell ⟨xo,0,none⟩ (.int .i64 (ng S o x))) m H (uB S o x) (q+1) A'∧Stp w (w'.setCell ⟨xo,0,none⟩ (.int .i64 (ng S o x))) A A'):=fun V xk xh xn xo bV bx hne hxo hout hz=>by
  have hxl:xo<V.heap.size:=World.block_lt_of_cell? V _ hz
  refine (KX.qG (h.below bV) ho (n:=1) ⟨by omega,by omega⟩ (fn:=151) (lb:=#[wp xk,wp xh,wp xn,wp xo]) (fun args w=>by kernel_rfl) (X:=fun i=>i=xo) (fun i hi=>by rw [hi];exact hxl) (Q:=fun c D' N' w2=>c=jH (au S o.j) x∧D'=lM S.D (au S o.j) x∧N'=lL (au S o.j) x∧w2.cell? ⟨xo,0,none⟩=some (.int .i64 (jv (au S o.j) x))∧w2.frozen? ⟨xo,0,none⟩=false) ?_ ?_).mono ?_
  ·rintro c D' N' w2 w3 ⟨h1,h2,h3,h4,h5⟩ g
   have hk:w3.heap[xo]? = w2.heap[xo]? := g.block xo (World.block_lt_of_cell? w2 _ h4) (fun e=>by
    have:=hout.1
    have e2:=Option.some.inj e
    have hA:=h.1
    obtain ⟨G,k,hκ⟩:=hA
    exact this ((hκ xo).2 (by rw [e2,k.k5 p o ho];omega)))
   exact ⟨h1,h2,h3,by rw [World.cell?_of_block (w:=w2) (a:=⟨xo,0,none⟩) hk];exact h4,by rw [World.frozen?_of_block (w:=w2) (a:=⟨xo,0,none⟩) hk];exact h5⟩
  ·intro V1 k1 st1
   refine (k1.afV ho x (bx.p8 st1) (hout.p8 st1) hne).mono ?_
   rintro y w2 ⟨rfl,hc,A2,hout2,k2,st2⟩
   obtain ⟨u1,u2⟩:=SA (D:=S.D) (h.1.oW o.j) x
   refine ⟨_,_,_,rfl,⟨rfl,rfl,rfl,hc,hout2.2.2.2.2.1⟩,fun e=>?_,fun e=>?_,A2,fun i hi=>by rw [hi];exact hout2.1,k2.more (by omega),st2⟩
   ·rw [u1 e];rfl
   ·exact ⟨(u2 e).2.1,(u2 e).2.2⟩
  ·rintro y w2 ⟨c,rfl,hR⟩
   rcases hR with ⟨hc,rfl,A2,k2,st2⟩|⟨hc,D',N',⟨rfl,rfl,rfl,h4,h5⟩,A2,nA,k2,st2⟩
   ·have hc':¬lS S o 1:=hc
    have ho2:=hout.p8 st2
    have hz2:w2.cell? ⟨xo,0,none⟩=some (.int .i64 0):=(st2.cO hz hout.1).1
    unfold rW ng uB
    rw [if_neg hc',if_neg hc',if_neg hc']
    exact ⟨rfl,hz2,ho2.2.2.2.2.1,ho2.got _,A2,(k2.more (by omega)).box ho2 _,(st2.after bV).boxed hxo _⟩
   ·have hc':lS S o 1:=hc
    have ho2:Out w2 A2 xo:=⟨nA xo rfl,hout.2.1,hout.2.2.1,hout.2.2.2.1,h5,_,h4⟩
    unfold rW ng uB
    rw [if_pos hc',if_pos hc',if_pos hc']
    exact ⟨rfl,h4,h5,ho2.got _,A2,k2.box ho2 _,(Stp.inner bV st2 (fun i hi=>by rw [hi];exact hxo)).boxed hxo _⟩
 have hF:=fun W (hb:Below w.heap.size w W)=>(h.1.below hb).ay ho
 have hA:=h.1.lt
 have hO:=fun V (hb:Below w.heap.size w V) x v hx hc hf=>h.1.Re (V:=V) hb (x:=x) hx (v:=v) hc hf
 generalize rW S o x=E at *
 generalize ng S o x=K at *
 generalize uB S o x=S2 at *
 have HP:Aside _:=hpay
 have HF:Aside _:=hF
 have HO:Aside _:=hO
 go_enter Tryz.func94,Tryz.ntmps94
 go_upto_region 1 with fail
 obtain ⟨b3,s3,c1,c2,c3⟩:=Q4 w (wp H.kb) (.int .i64 x) (.int .i64 0) 26 3 3
 have f3:=(sG ((w.alloc (.cells #[wp H.kb] 26)).alloc (.cells #[.int .i64 x] 3)) (.int .i64 0) 3).2.2.2
 rw [(Q5 w (wp H.kb) (.int .i64 x) 26 3).2.1] at f3
 generalize ((w.alloc (.cells #[wp H.kb] 26)).alloc (.cells #[.int .i64 x] 3)).alloc (.cells #[.int .i64 0] 3)=W at *
 have hF:=HF.out W b3
 go_upto_region 4 with (go_at_call 127;refine hF.mono ?_;rintro e w1 ⟨rfl,hw⟩;subst w1)
 obtain ⟨b4,s4,c4,_⟩:=sG W (wp (H.hs o.j)) 59
 rw [s3] at c4
 have d1:=dm b4 c1
 have d2:=dm b4 c2
 have d3:=dm b4 c3
 have f4:=qK b4 (World.block_lt_of_cell? W _ c3) f3
 generalize W.alloc (.cells #[wp (H.hs o.j)] 59)=V at *
 have bV:Below w.heap.size w V:=b3.trans (b4.mono b3.size)
 have hP:=HP.out V w.heap.size (w.heap.size+1+1+1) (w.heap.size+1) (w.heap.size+1+1) bV (fun y hy=>by
  have hn:∀i,w.heap.size≤i→¬A i:=fun i hi z=>by have:=hA i z;omega
  simp only [List.mem_cons,List.not_mem_nil,or_false] at hy
  rcases hy with rfl|rfl|rfl
  ·exact ⟨d1,hn _ (Nat.le_refl _)⟩
  ·exact ⟨c4,hn _ (by omega)⟩
  ·exact ⟨d2,hn _ (by omega)⟩) ⟨by omega,by omega,by omega⟩ (by omega) (HO.out V bV _ _ (by omega) d3 f4) d3
 go_wp2_with (go_at_call 150;refine hP.mono ?_;rintro e w1 ⟨rfl,g1,g2,g3,hR⟩)
 refine bodyPost_ret (v:=.tuple #[.int .i64 K,aI E]) (by simp [results,Tryz.results94,go_sem,g3]) rfl ⟨rfl,hR.out⟩
end
section
variable {w w' w1 w2 V:World}{m:Int}{H:KH}{S:KS}{U:Nat→Nat→Int}{q:Nat}{G:KG}{A A' X:Nat→Prop}{p:Int}{o:Ow}
theorem KX.adw (h:KX w m H S U q A) (ho:S.O p=some o) (hq:q≤400) {n s:Nat}(hN:p9 S.D.E n) (hs:dF S.D.T s) (path:List UInt8) (hp:path.length<100000) (pr:Int) (mk:Bool) {xk xh xs xp xm xo:Nat}(hb:rP w A [(xk,wp H.kb),(xh,wp (H.hs o.j)),(xs,tx path),(xp,.int .i64 pr),(xm,.bool mk)]) (hx:Out w A xo) (hne:xk≠xo∧xh≠xo∧xs≠xo∧xp≠xo∧xm≠xo) :
 Calls Tryz.prog 174 #[wp xk,wp xh,wp xs,wp xp,wp xm,wp xo] w fun y w'=>∃x c D' N',y=.returned (aI c)∧iN S.D (au S o.j) n s path pr mk x c D' N'∧w'.cell? ⟨xo,0,none⟩=some (.int .i64 x)∧∃A',Out w' A' xo∧KX w' m H (S.files D' o.j N') U (q+1) A'∧Stp w w' (vL A (fun i=>i=xo)) (vL A' (fun i=>i=xo)):=by
 have hxl:xo<w.heap.size:=by obtain ⟨_,_,_,_,_,v,hv⟩:=hx;exact World.block_lt_of_cell? w _ hv
 have cells:∀ {w':World}{A':Nat→Prop}{S':KS}{q':Nat},KX w' m H S' U q' A'→S'.O p=some o→rP w' A' [(xk,wp H.kb),(xh,wp (H.hs o.j)),(xs,tx path),(xp,.int .i64 pr),(xm,.bool mk)]→w'.cell? ⟨xk,0,none⟩=some (wp H.kb)∧w'.cell? ⟨H.kb,2,none⟩=some (wp H.f)∧w'.cell? ⟨xh,0,none⟩=some (wp (H.hs o.j))∧w'.cell? ⟨H.hs o.j,1,none⟩=some (wp (H.tb o.j))∧w'.cell? ⟨xs,0,none⟩=some (tx path)∧w'.cell? ⟨xp,0,none⟩=some (.int .i64 pr)∧w'.cell? ⟨xm,0,none⟩=some (.bool mk):=fun h' ho' b'=>
  ⟨(b' (xk,_) (by simp)).1,h'.c2,(b' (xh,_) (by simp)).1,(h'.hd ho').at 1,(b' (xs,_) (by simp)).1,(b' (xp,_) (by simp)).1,(b' (xm,_) (by simp)).1⟩
 have c0:=cells h ho hb
 have hM:Calls Tryz.prog 175 #[wp H.f,wp (H.tb o.j),tx path,.int .i64 pr,.bool mk] w.drew fun y w'=>∃x c,y=.returned (.tuple #[.int .i64 x,aI c])∧(w'.cell? ⟨xk,0,none⟩=some (wp H.kb)∧w'.cell? ⟨H.kb,2,none⟩=some (wp H.f)∧w'.cell? ⟨xh,0,none⟩=some (wp (H.hs o.j))∧w'.cell? ⟨H.hs o.j,1,none⟩=some (wp (H.tb o.j))∧w'.cell? ⟨xs,0,none⟩=some (tx path)∧w'.cell? ⟨xp,0,none⟩=some (.int .i64 pr)∧w'.cell? ⟨xm,0,none⟩=some (.bool mk))∧w'.frozen? ⟨xo,0,none⟩=false∧(∃v,w'.cell? ⟨xo,0,none⟩=some v)∧((w'.setCell ⟨xo,0,none⟩ (.int .i64 x)).cell? ⟨xk,0,none⟩=some (wp H.kb)∧(w'.setCell ⟨xo,0,none⟩ (.int .i64 x)).cell? ⟨H.kb,2,none⟩=some (wp H.f)∧(w'.setCell ⟨xo,0,none⟩ (.int .i64 x)).cell? ⟨xh,0,none⟩=some (wp (H.hs o.j))∧(w'.setCell ⟨xo,0,none⟩ (.int .i64 x)).cell? ⟨H.hs o.j,1,none⟩=some (wp (H.tb o.j))∧(w'.setCell ⟨xo,0,none⟩ (.int .i64 x)).cell? ⟨xs,0,none⟩=some (tx path)∧(w'.setCell ⟨xo,0,none⟩ (.int .i64 x)).cell? ⟨xp,0,none⟩=some (.int .i64 pr)∧(w'.setCell ⟨xo,0,none⟩ (.int .i64 x)).cell? ⟨xm,0,none⟩=some (.bool mk))∧
  Aside (∃D' N',iN S.D (au S o.j) n s path pr mk x c D' N'∧(w'.setCell ⟨xo,0,none⟩ (.int .i64 x)).cell? ⟨xo,0,none⟩=some (.int .i64 x)∧∃A',Out (w'.setCell ⟨xo,0,none⟩ (.int .i64 x)) A' xo∧KX (w'.setCell ⟨xo,0,none⟩ (.int .i64 x)) m H (S.files D' o.j N') U (q+1) A'∧Stp w (w'.setCell ⟨xo,0,none⟩ (.int .i64 x)) (vL A (fun i=>i=xo)) (vL A' (fun i=>i=xo))):=by
  refine ((h.below (bH w)).bF (h.rR ho) hq hN hs path hp pr mk).mono ?_
  rintro y w' ⟨D',N',⟨x,c,rfl,hF⟩,A',h',st⟩
  have st':Stp w w' A A':=Stp.base (V:=w.drew) rfl rfl rfl rfl st
  have hx':=hx.p8 st'
  have hb':=hb.p8 st'
  obtain ⟨v,hv⟩:=hx'.2.2.2.2.2
  have hbs:=hb'.set (x:=xo) (fun y hy=>by
   simp at hy
   rcases hy with rfl|rfl|rfl|rfl|rfl<;>first|exact hne.1|exact hne.2.1|exact hne.2.2.1|exact hne.2.2.2.1|exact hne.2.2.2.2) (.int .i64 x)
  have kb:=h'.box hx' (.int .i64 x)
  exact ⟨x,c,rfl,cells h' ho hb',hx'.2.2.2.2.1,⟨v,hv⟩,cells kb ho hbs,D',N',hF,hx'.got _,A',hx'.set _,kb,L9 st' _ hxl⟩
 go_enter Tryz.func174,Tryz.ntmps174
 go_upto_region 1 with fail
 go_region_held3 (fun w'=>w'.cell? ⟨xk,0,none⟩=some (wp H.kb)∧w'.cell? ⟨H.kb,2,none⟩=some (wp H.f)∧w'.cell? ⟨xh,0,none⟩=some (wp (H.hs o.j))∧w'.cell? ⟨H.hs o.j,1,none⟩=some (wp (H.tb o.j))∧w'.cell? ⟨xs,0,none⟩=some (tx path)∧w'.cell? ⟨xp,0,none⟩=some (.int .i64 pr)∧w'.cell? ⟨xm,0,none⟩=some (.bool mk)) (first|exact c0|exact c1|exact c3) (first
  |(go_at_call 175;refine hM.mono ?_;rintro e w1 ⟨x,c,rfl,c1,f1,⟨v1,hv1⟩,c3,hR⟩))
 all_goals
  go_wp2_with fail
  go_ret
  obtain ⟨D',N',hR⟩:=hR.out
  exact ⟨x,c,D',N',rfl,hR⟩
def FV (S:KS) (o:Ow) (n s:Nat) (path:List UInt8) (pr:Int) (mk:Bool) (x c:Int) (S':KS):Prop:=(¬lS S o 1∧x=0∧c=4∧S'=S)∨(lS S o 1∧∃D' N',iN S.D (au S o.j) n s path pr mk x c D' N'∧S'=S.files D' o.j N')
theorem KN.UA (h:KN w m H S q A) (ho:S.O p=some o) (hq:q≤400) {n s:Nat}(hN:p9 S.D.E n) (hs:dF S.D.T s) (path:List UInt8) (hp:path.length<100000) (pr:Int) (mk:Bool) :
 Calls Tryz.prog 109 #[wp H.kb,.int .i64 p,tx path,.int .i64 pr,.bool mk] w fun y w'=>∃x c S',y=.returned (.tuple #[.int .i64 x,aI c])∧FV S o n s path pr mk x c S'∧∃A',KN w' m H S' (q+1) A'∧Stp w w' A A':=by
 have hpay:∀(V:World) (xk xh xs xp xm xo:Nat),Below w.heap.size w V→rP V A [(xk,wp H.kb),(xh,wp (H.hs o.j)),(xs,tx path),(xp,.int .i64 pr),(xm,.bool mk)]→xk≠xo∧xh≠xo∧xs≠xo∧xp≠xo∧xm≠xo→w.heap.size≤xo→Out V A xo→V.cell? ⟨xo,0,none⟩=some (.int .i64 0)→
  Calls Tryz.prog 150 #[wp (H.hs o.j),.int .i64 1,.int .i64 1,.func (.func 174) #[] #[wp xk,wp xh,wp xs,wp xp,wp xm,wp xo]] V fun y w'=>∃x c,y=.returned (aI c)∧w'.cell? ⟨xo,0,none⟩=some (.int .i64 x)∧w'.frozen? ⟨xo,0,none⟩=false∧(w'.setCell ⟨xo,0,none⟩ (.int .i64 x)).cell? ⟨xo,0,none⟩=some (.int .i64 x)∧Aside (∃S',FV S o n s path pr mk x c S'∧∃A',KN (w'.setCell ⟨xo,0,none⟩ (.int .i64 x)) m H S' (q+1) A'∧Stp w (w'.setCell ⟨xo,0,none⟩ (.int .i64 x)) A A'):=fun V xk xh xs xp xm xo bV bx hne hxo hout hz=>by
  have hxl:xo<V.heap.size:=World.block_lt_of_cell? V _ hz
  refine (KX.qG (h.below bV) ho (n:=1) ⟨by omega,by omega⟩ (fn:=174) (lb:=#[wp xk,wp xh,wp xs,wp xp,wp xm,wp xo]) (fun args w=>by kernel_rfl) (X:=fun i=>i=xo) (fun i hi=>by rw [hi];exact hxl) (Q:=fun c D' N' w2=>∃x,iN S.D (au S o.j) n s path pr mk x c D' N'∧w2.cell? ⟨xo,0,none⟩=some (.int .i64 x)∧w2.frozen? ⟨xo,0,none⟩=false) ?_ ?_).mono ?_
  ·rintro c D' N' w2 w3 ⟨x,h1,h4,h5⟩ g
   have hk:w3.heap[xo]? = w2.heap[xo]? := g.block xo (World.block_lt_of_cell? w2 _ h4) (fun e=>by
    have:=hout.1
    have e2:=Option.some.inj e
    have hA:=h.1
    obtain ⟨G,k,hκ⟩:=hA
    exact this ((hκ xo).2 (by rw [e2,k.k5 p o ho];omega)))
   exact ⟨x,h1,by rw [World.cell?_of_block (w:=w2) (a:=⟨xo,0,none⟩) hk];exact h4,by rw [World.frozen?_of_block (w:=w2) (a:=⟨xo,0,none⟩) hk];exact h5⟩
  ·intro V1 k1 st1
   refine (k1.adw ho hq hN hs path hp pr mk (bx.p8 st1) (hout.p8 st1) hne).mono ?_
   rintro y w2 ⟨x,c,D',N',rfl,hF,hc,A2,hout2,k2,st2⟩
   obtain ⟨u1,u2⟩:=NK (h.1.oW o.j) h.1.inv.core.jW.n0 hF
   refine ⟨_,_,_,rfl,⟨x,hF,hc,hout2.2.2.2.2.1⟩,fun e=>?_,fun e=>?_,A2,fun i hi=>by rw [hi];exact hout2.1,k2,st2⟩
   ·rw [u1 e];rfl
   ·exact ⟨(u2 e).2.1,(u2 e).2.2⟩
  ·rintro y w2 ⟨c,rfl,hR⟩
   rcases hR with ⟨hc,rfl,A2,k2,st2⟩|⟨hc,D',N',⟨x,hF,h4,h5⟩,A2,nA,k2,st2⟩
   ·have ho2:=hout.p8 st2
    have hz2:w2.cell? ⟨xo,0,none⟩=some (.int .i64 0):=(st2.cO hz hout.1).1
    exact ⟨0,4,rfl,hz2,ho2.2.2.2.2.1,ho2.got _,S,.inl ⟨hc,rfl,rfl,rfl⟩,A2,(k2.more (by omega)).box ho2 _,(st2.after bV).boxed hxo _⟩
   ·have ho2:Out w2 A2 xo:=⟨nA xo rfl,hout.2.1,hout.2.2.1,hout.2.2.2.1,h5,_,h4⟩
    exact ⟨x,c,rfl,h4,h5,ho2.got _,_,.inr ⟨hc,D',N',hF,rfl⟩,A2,k2.box ho2 _,(Stp.inner bV st2 (fun i hi=>by rw [hi];exact hxo)).boxed hxo _⟩
 have hF:=fun W (hb:Below w.heap.size w W)=>(h.1.below hb).ay ho
 have hA:=h.1.lt
 have hO:=fun V (hb:Below w.heap.size w V) x v hx hc hf=>h.1.Re (V:=V) hb (x:=x) hx (v:=v) hc hf
 have HP:Aside _:=hpay
 have HF:Aside _:=hF
 have HO:Aside _:=hO
 go_enter Tryz.func109,Tryz.ntmps109
 go_upto_region 1 with fail
 obtain ⟨b3,s3,c1,c2,c3⟩:=Q4 w (wp H.kb) (tx path) (.int .i64 pr) 26 9 3
 generalize ((w.alloc (.cells #[wp H.kb] 26)).alloc (.cells #[tx path] 9)).alloc (.cells #[.int .i64 pr] 3)=W3 at *
 obtain ⟨b5,s5,c4,c5⟩:=Q5 W3 (.bool mk) (.int .i64 0) 4 3
 have f5:=(sG (W3.alloc (.cells #[.bool mk] 4)) (.int .i64 0) 3).2.2.2
 rw [(sG W3 (.bool mk) 4).2.1] at f5
 rw [s3] at s5 c4 c5 f5
 have c1':=dm b5 c1
 have c2':=dm b5 c2
 have c3':=dm b5 c3
 generalize (W3.alloc (.cells #[.bool mk] 4)).alloc (.cells #[.int .i64 0] 3)=W at *
 have bW:Below w.heap.size w W:=b3.trans (b5.mono b3.size)
 have hF:=HF.out W bW
 go_upto_region 4 with (go_at_call 127;refine hF.mono ?_;rintro e w1 ⟨rfl,hw⟩;subst w1)
 obtain ⟨b6,s6,c6,_⟩:=sG W (wp (H.hs o.j)) 59
 rw [s5] at c6
 have d1:=dm b6 c1'
 have d2:=dm b6 c2'
 have d3:=dm b6 c3'
 have d4:=dm b6 c4
 have d5:=dm b6 c5
 have f6:=qK b6 (World.block_lt_of_cell? W _ c5) f5
 generalize W.alloc (.cells #[wp (H.hs o.j)] 59)=V at *
 have bV:Below w.heap.size w V:=bW.trans (b6.mono bW.size)
 have hP:=HP.out V w.heap.size (w.heap.size+1+1+1+1+1) (w.heap.size+1) (w.heap.size+1+1) (w.heap.size+1+1+1) (w.heap.size+1+1+1+1) bV (fun y hy=>by
  have hn:∀i,w.heap.size≤i→¬A i:=fun i hi z=>by have:=hA i z;omega
  simp only [List.mem_cons,List.not_mem_nil,or_false] at hy
  rcases hy with rfl|rfl|rfl|rfl|rfl
  ·exact ⟨d1,hn _ (Nat.le_refl _)⟩
  ·exact ⟨c6,hn _ (by omega)⟩
  ·exact ⟨d2,hn _ (by omega)⟩
  ·exact ⟨d3,hn _ (by omega)⟩
  ·exact ⟨d4,hn _ (by omega)⟩) ⟨by omega,by omega,by omega,by omega,by omega⟩ (by omega) (HO.out V bV _ _ (by omega) d5 f6) d5
 go_wp2_with (go_at_call 150;refine hP.mono ?_;rintro e w1 ⟨x,c,rfl,g1,g2,g3,hR⟩)
 obtain ⟨S',hF,hR⟩:=hR.out
 refine bodyPost_ret (v:=.tuple #[.int .i64 x,aI c]) (by simp [results,Tryz.results109,go_sem,g3]) rfl ⟨x,c,S',rfl,hF,hR⟩
end
section
variable {w w' w1 w2 V:World}{m:Int}{H:KH}{S:KS}{U:Nat→Nat→Int}{q:Nat}{G:KG}{A A' X:Nat→Prop}{p:Int}{o:Ow}
theorem Gc {x y:Nat}{A':Nat→Prop}(st:Stp w w1 A A') (u v:Value) {X:Nat→Prop}(hX:X x∧X y):Stp w ((w1.setCell ⟨x,0,none⟩ u).setCell ⟨y,0,none⟩ v) (vL A X) (vL A' X):=
 ⟨⟨st.wt.os,st.wt.tape,st.wt.output,by simpa [World.setCell] using st.wt.size,fun i hi hn=>by
  rw [Below.heap_setCell _ _ _ _ (fun e=>hn (.inr (by simp only at e;rw [e];exact hX.2))),Below.heap_setCell _ _ _ _ (fun e=>hn (.inr (by simp only at e;rw [e];exact hX.1)))]
  exact st.wt.block i hi (fun z=>hn (.inl z))⟩,fun i hi=>by
  rcases hi with z|z
  ·rcases st.own i z with y|y
   ·exact .inl (.inl y)
   ·exact .inr y
  ·exact .inl (.inr z)⟩
theorem KX.adb (h:KX w m H S U q A) (ho:S.O p=some o) (hq:q≤400) {n:Nat}(hN:p9 S.D.E n) {xk xh xa xb:Nat}(hb:rP w A [(xk,wp H.kb),(xh,wp (H.hs o.j))]) (hxa:Out w A xa) (hxb:Out w A xb) (hne:xk≠xa∧xh≠xa∧xk≠xb∧xh≠xb∧xa≠xb) :
 Calls Tryz.prog 176 #[wp xk,wp xh,wp xa,wp xb] w fun y w'=>∃x y9 c D' N',y=.returned (aI c)∧rX S.D (au S o.j) n x y9 c D' N'∧(w'.cell? ⟨xa,0,none⟩=some (.int .i64 x)∧w'.cell? ⟨xb,0,none⟩=some (.int .i64 y9)∧∃A',Out w' A' xa∧Out w' A' xb∧KX w' m H (S.files D' o.j N') U (q+1) A'∧Stp w w' (vL A (fun i=>i=xa∨i=xb)) (vL A' (fun i=>i=xa∨i=xb))):=by
 have cells:∀ {w':World}{A':Nat→Prop}{S':KS}{q':Nat},KX w' m H S' U q' A'→S'.O p=some o→rP w' A' [(xk,wp H.kb),(xh,wp (H.hs o.j))]→w'.cell? ⟨xk,0,none⟩=some (wp H.kb)∧w'.cell? ⟨H.kb,2,none⟩=some (wp H.f)∧w'.cell? ⟨xh,0,none⟩=some (wp (H.hs o.j))∧w'.cell? ⟨H.hs o.j,1,none⟩=some (wp (H.tb o.j)):=fun h' ho' b'=>
  ⟨(b' (xk,_) (by simp)).1,h'.c2,(b' (xh,_) (by simp)).1,(h'.hd ho').at 1⟩
 have c0:=cells h ho hb
 have hM:Calls Tryz.prog 177 #[wp H.f,wp (H.tb o.j)] w.drew fun y w'=>∃x y9 c,y=.returned (.tuple #[.int .i64 x,.int .i64 y9,aI c])∧(w'.cell? ⟨xk,0,none⟩=some (wp H.kb)∧w'.cell? ⟨H.kb,2,none⟩=some (wp H.f)∧w'.cell? ⟨xh,0,none⟩=some (wp (H.hs o.j))∧w'.cell? ⟨H.hs o.j,1,none⟩=some (wp (H.tb o.j)))∧(w'.frozen? ⟨xa,0,none⟩=false∧w'.frozen? ⟨xb,0,none⟩=false)∧(∃v,w'.cell? ⟨xa,0,none⟩=some v)∧(∃v,w'.cell? ⟨xb,0,none⟩=some v)∧(∃v,(w'.setCell ⟨xa,0,none⟩ (.int .i64 x)).cell? ⟨xb,0,none⟩=some v)∧(∃v,(w'.setCell ⟨xb,0,none⟩ (.int .i64 y9)).cell? ⟨xa,0,none⟩=some v)∧((w'.setCell ⟨xa,0,none⟩ (.int .i64 x)).cell? ⟨xk,0,none⟩=some (wp H.kb)∧(w'.setCell ⟨xa,0,none⟩ (.int .i64 x)).cell? ⟨H.kb,2,none⟩=some (wp H.f)∧(w'.setCell ⟨xa,0,none⟩ (.int .i64 x)).cell? ⟨xh,0,none⟩=some (wp (H.hs o.j))∧(w'.setCell ⟨xa,0,none⟩ (.int .i64 x)).cell? ⟨H.hs o.j,1,none⟩=some (wp (H.tb o.j)))∧((w'.setCell ⟨xb,0,none⟩ (.int .i64 y9)).cell? ⟨xk,0,none⟩=some (wp H.kb)∧(w'.setCell ⟨xb,0,none⟩ (.int .i64 y9)).cell? ⟨H.kb,2,none⟩=some (wp H.f)∧(w'.setCell ⟨xb,0,none⟩ (.int .i64 y9)).cell? ⟨xh,0,none⟩=some (wp (H.hs o.j))∧(w'.setCell ⟨xb,0,none⟩ (.int .i64 y9)).cell? ⟨H.hs o.j,1,none⟩=some (wp (H.tb o.j)))∧(((w'.setCell ⟨xa,0,none⟩ (.int .i64 x)).setCell ⟨xb,0,none⟩ (.int .i64 y9)).cell? ⟨xk,0,none⟩=some (wp H.kb)∧((w'.setCell ⟨xa,0,none⟩ (.int .i64 x)).setCell ⟨xb,0,none⟩ (.int .i64 y9)).cell? ⟨H.kb,2,none⟩=some (wp H.f)∧((w'.setCell ⟨xa,0,none⟩ (.int .i64 x)).setCell ⟨xb,0,none⟩ (.int .i64 y9)).cell? ⟨xh,0,none⟩=some (wp (H.hs o.j))∧((w'.setCell ⟨xa,0,none⟩ (.int .i64 x)).setCell ⟨xb,0,none⟩ (.int .i64 y9)).cell? ⟨H.hs o.j,1,none⟩=some (wp (H.tb o.j)))∧(((w'.setCell ⟨xb,0,none⟩ (.int .i64 y9)).setCell ⟨xa,0,none⟩ (.int .i64 x)).cell? ⟨xk,0,none⟩=some (wp H.kb)∧((w'.setCell ⟨xb,0,none⟩ (.int .i64 y9)).setCell ⟨xa,0,none⟩ (.int .i64 x)).cell? ⟨H.kb,2,none⟩=some (wp H.f)∧((w'.setCell ⟨xb,0,none⟩ (.int .i64 y9)).setCell ⟨xa,0,none⟩ (.int .i64 x)).cell? ⟨xh,0,none⟩=some (wp (H.hs o.j))∧((w'.setCell ⟨xb,0,none⟩ (.int .i64 y9)).setCell ⟨xa,0,none⟩ (.int .i64 x)).cell? ⟨H.hs o.j,1,none⟩=some (wp (H.tb o.j)))∧
  Aside (∃D' N',rX S.D (au S o.j) n x y9 c D' N'∧(((w'.setCell ⟨xa,0,none⟩ (.int .i64 x)).setCell ⟨xb,0,none⟩ (.int .i64 y9)).cell? ⟨xa,0,none⟩=some (.int .i64 x)∧((w'.setCell ⟨xa,0,none⟩ (.int .i64 x)).setCell ⟨xb,0,none⟩ (.int .i64 y9)).cell? ⟨xb,0,none⟩=some (.int .i64 y9)∧∃A',Out ((w'.setCell ⟨xa,0,none⟩ (.int .i64 x)).setCell ⟨xb,0,none⟩ (.int .i64 y9)) A' xa∧Out ((w'.setCell ⟨xa,0,none⟩ (.int .i64 x)).setCell ⟨xb,0,none⟩ (.int .i64 y9)) A' xb∧KX ((w'.setCell ⟨xa,0,none⟩ (.int .i64 x)).setCell ⟨xb,0,none⟩ (.int .i64 y9)) m H (S.files D' o.j N') U (q+1) A'∧Stp w ((w'.setCell ⟨xa,0,none⟩ (.int .i64 x)).setCell ⟨xb,0,none⟩ (.int .i64 y9)) (vL A (fun i=>i=xa∨i=xb)) (vL A' (fun i=>i=xa∨i=xb)))∧(((w'.setCell ⟨xb,0,none⟩ (.int .i64 y9)).setCell ⟨xa,0,none⟩ (.int .i64 x)).cell? ⟨xa,0,none⟩=some (.int .i64 x)∧((w'.setCell ⟨xb,0,none⟩ (.int .i64 y9)).setCell ⟨xa,0,none⟩ (.int .i64 x)).cell? ⟨xb,0,none⟩=some (.int .i64 y9)∧∃A',Out ((w'.setCell ⟨xb,0,none⟩ (.int .i64 y9)).setCell ⟨xa,0,none⟩ (.int .i64 x)) A' xa∧Out ((w'.setCell ⟨xb,0,none⟩ (.int .i64 y9)).setCell ⟨xa,0,none⟩ (.int .i64 x)) A' xb∧KX ((w'.setCell ⟨xb,0,none⟩ (.int .i64 y9)).setCell ⟨xa,0,none⟩ (.int .i64 x)) m H (S.files D' o.j N') U (q+1) A'∧Stp w ((w'.setCell ⟨xb,0,none⟩ (.int .i64 y9)).setCell ⟨xa,0,none⟩ (.int .i64 x)) (vL A (fun i=>i=xa∨i=xb)) (vL A' (fun i=>i=xa∨i=xb)))):=by
  refine ((h.below (bH w)).ada (h.rR ho) hq hN).mono ?_
  rintro y w' ⟨D',N',⟨x,y9,c,rfl,hP⟩,A',h',st⟩
  have st':Stp w w' A A':=Stp.base (V:=w.drew) rfl rfl rfl rfl st
  have ha':=hxa.p8 st'
  have Vx:=hxb.p8 st'
  have hb':=hb.p8 st'
  have nea:∀y∈[(xk,wp H.kb),(xh,wp (H.hs o.j))],(y:Nat×Value).1≠xa:=fun y hy=>by
   simp at hy
   rcases hy with rfl|rfl<;>first|exact hne.1|exact hne.2.1
  have neb:∀y∈[(xk,wp H.kb),(xh,wp (H.hs o.j))],(y:Nat×Value).1≠xb:=fun y hy=>by
   simp at hy
   rcases hy with rfl|rfl<;>first|exact hne.2.2.1|exact hne.2.2.2.1
  have ka:=h'.box ha' (.int .i64 x)
  have kb:=h'.box Vx (.int .i64 y9)
  have kab:=ka.box (Vx.set (y:=xa) (.int .i64 x)) (.int .i64 y9)
  have kba:=kb.box (ha'.set (y:=xb) (.int .i64 y9)) (.int .i64 x)
  have ba:=hb'.set (x:=xa) nea (.int .i64 x)
  have bb:=hb'.set (x:=xb) neb (.int .i64 y9)
  have bab:=ba.set (x:=xb) neb (.int .i64 y9)
  have bba:=bb.set (x:=xa) nea (.int .i64 x)
  refine ⟨x,y9,c,rfl,cells h' ho hb',⟨ha'.2.2.2.2.1,Vx.2.2.2.2.1⟩,ha'.2.2.2.2.2,Vx.2.2.2.2.2,(Vx.set (y:=xa) (.int .i64 x)).2.2.2.2.2,(ha'.set (y:=xb) (.int .i64 y9)).2.2.2.2.2,cells ka ho ba,cells kb ho bb,cells kab ho bab,cells kba ho bba,D',N',hP,⟨oM (ha'.got _) hne.2.2.2.2 _,(Vx.set _).got _,A',(ha'.set _).set _,(Vx.set _).set _,kab,Gc st' _ _ ⟨.inl rfl,.inr rfl⟩⟩,⟨(ha'.set _).got _,oM (Vx.got _) (Ne.symm hne.2.2.2.2) _,A',(ha'.set _).set _,(Vx.set _).set _,kba,Gc st' _ _ ⟨.inr rfl,.inl rfl⟩⟩⟩
 go_enter Tryz.func176,Tryz.ntmps176
 go_upto_region 1 with fail
 go_region_held3 (fun w'=>w'.cell? ⟨xk,0,none⟩=some (wp H.kb)∧w'.cell? ⟨H.kb,2,none⟩=some (wp H.f)∧w'.cell? ⟨xh,0,none⟩=some (wp (H.hs o.j))∧w'.cell? ⟨H.hs o.j,1,none⟩=some (wp (H.tb o.j))) (first|exact c0|exact c1|exact c3|exact c4|exact c5|exact c6) (first
  |(go_at_call 177;refine hM.mono ?_;rintro e w1 ⟨x,y9,c,rfl,c1,⟨f1,f2⟩,⟨v1,hv1⟩,⟨v2,hv2⟩,⟨v3,hv3⟩,⟨v4,hv4⟩,c3,c4,c5,c6,hR⟩))
 all_goals
  go_wp2_with fail
  go_ret
  obtain ⟨D',N',hP,r1,r2⟩:=hR.out
  first
   |exact ⟨x,y9,c,D',N',rfl,hP,r1⟩
   |exact ⟨x,y9,c,D',N',rfl,hP,r2⟩
def uC (S:KS) (o:Ow) (n:Nat) (x y c:Int) (S':KS):Prop:=(¬lS S o 2∧x=0∧y=0∧c=4∧S'=S)∨(lS S o 2∧∃D' N',rX S.D (au S o.j) n x y c D' N'∧S'=S.files D' o.j N')
theorem KN.zA (h:KN w m H S q A) (ho:S.O p=some o) (hq:q≤400) {n:Nat}(hN:p9 S.D.E n) :
 Calls Tryz.prog 110 #[wp H.kb,.int .i64 p] w fun y w'=>∃x y9 c S',y=.returned (.tuple #[.int .i64 x,.int .i64 y9,aI c])∧uC S o n x y9 c S'∧∃A',KN w' m H S' (q+1) A'∧Stp w w' A A':=by
 have hpay:∀(V:World) (xk xh xa xb:Nat),Below w.heap.size w V→rP V A [(xk,wp H.kb),(xh,wp (H.hs o.j))]→xk≠xa∧xh≠xa∧xk≠xb∧xh≠xb∧xa≠xb→w.heap.size≤xa∧w.heap.size≤xb→Out V A xa→Out V A xb→V.cell? ⟨xa,0,none⟩=some (.int .i64 0)→V.cell? ⟨xb,0,none⟩=some (.int .i64 0)→
  Calls Tryz.prog 150 #[wp (H.hs o.j),.int .i64 1,.int .i64 2,.func (.func 176) #[] #[wp xk,wp xh,wp xa,wp xb]] V fun y w'=>∃x y9 c,y=.returned (aI c)∧(w'.cell? ⟨xa,0,none⟩=some (.int .i64 x)∧w'.cell? ⟨xb,0,none⟩=some (.int .i64 y9)∧w'.frozen? ⟨xa,0,none⟩=false∧w'.frozen? ⟨xb,0,none⟩=false)∧Aside (∀W:World,W.heap=w'.heap→W.os=w'.os→W.tape=w'.tape→W.output=w'.output→(((W.setCell ⟨xa,0,none⟩ (.int .i64 x)).setCell ⟨xb,0,none⟩ (.int .i64 y9)).cell? ⟨xa,0,none⟩=some (.int .i64 x)∧((W.setCell ⟨xa,0,none⟩ (.int .i64 x)).setCell ⟨xb,0,none⟩ (.int .i64 y9)).cell? ⟨xb,0,none⟩=some (.int .i64 y9)∧Aside (∃S',uC S o n x y9 c S'∧∃A',KN ((W.setCell ⟨xa,0,none⟩ (.int .i64 x)).setCell ⟨xb,0,none⟩ (.int .i64 y9)) m H S' (q+1) A'∧Stp w ((W.setCell ⟨xa,0,none⟩ (.int .i64 x)).setCell ⟨xb,0,none⟩ (.int .i64 y9)) A A'))∧(((W.setCell ⟨xb,0,none⟩ (.int .i64 y9)).setCell ⟨xa,0,none⟩ (.int .i64 x)).cell? ⟨xa,0,none⟩=some (.int .i64 x)∧((W.setCell ⟨xb,0,none⟩ (.int .i64 y9)).setCell ⟨xa,0,none⟩ (.int .i64 x)).cell? ⟨xb,0,none⟩=some (.int .i64 y9)∧Aside (∃S',uC S o n x y9 c S'∧∃A',KN ((W.setCell ⟨xb,0,none⟩ (.int .i64 y9)).setCell ⟨xa,0,none⟩ (.int .i64 x)) m H S' (q+1) A'∧Stp w ((W.setCell ⟨xb,0,none⟩ (.int .i64 y9)).setCell ⟨xa,0,none⟩ (.int .i64 x)) A A'))):=fun V xk xh xa xb bV bx hne hxo QI ZC hz hy=>by
  have hxl:xa<V.heap.size:=World.block_lt_of_cell? V _ hz
  have hyl:xb<V.heap.size:=World.block_lt_of_cell? V _ hy
  have fin:∀(w2:World) (x y9 c:Int) (S':KS) (A2:Nat→Prop),w2.cell? ⟨xa,0,none⟩=some (.int .i64 x)→w2.cell? ⟨xb,0,none⟩=some (.int .i64 y9)→uC S o n x y9 c S'→KN w2 m H S' (q+1) A2→Stp w w2 A A2→Out w2 A2 xa→Out w2 A2 xb→∀W:World,W.heap=w2.heap→W.os=w2.os→W.tape=w2.tape→W.output=w2.output→(((W.setCell ⟨xa,0,none⟩ (.int .i64 x)).setCell ⟨xb,0,none⟩ (.int .i64 y9)).cell? ⟨xa,0,none⟩=some (.int .i64 x)∧((W.setCell ⟨xa,0,none⟩ (.int .i64 x)).setCell ⟨xb,0,none⟩ (.int .i64 y9)).cell? ⟨xb,0,none⟩=some (.int .i64 y9)∧Aside (∃S',uC S o n x y9 c S'∧∃A',KN ((W.setCell ⟨xa,0,none⟩ (.int .i64 x)).setCell ⟨xb,0,none⟩ (.int .i64 y9)) m H S' (q+1) A'∧Stp w ((W.setCell ⟨xa,0,none⟩ (.int .i64 x)).setCell ⟨xb,0,none⟩ (.int .i64 y9)) A A'))∧(((W.setCell ⟨xb,0,none⟩ (.int .i64 y9)).setCell ⟨xa,0,none⟩ (.int .i64 x)).cell? ⟨xa,0,none⟩=some (.int .i64 x)∧((W.setCell ⟨xb,0,none⟩ (.int .i64 y9)).setCell ⟨xa,0,none⟩ (.int .i64 x)).cell? ⟨xb,0,none⟩=some (.int .i64 y9)∧Aside (∃S',uC S o n x y9 c S'∧∃A',KN ((W.setCell ⟨xb,0,none⟩ (.int .i64 y9)).setCell ⟨xa,0,none⟩ (.int .i64 x)) m H S' (q+1) A'∧Stp w ((W.setCell ⟨xb,0,none⟩ (.int .i64 y9)).setCell ⟨xa,0,none⟩ (.int .i64 x)) A A')):=fun w2 x y9 c S' A2 ca cb hP k2 st2 oa ob W e1 e2 e3 e4=>by
   have bW:Below w2.heap.size w2 W:=⟨e2,e3,e4,by rw [e1];exact Nat.le_refl _,fun i _=>by rw [e1]⟩
   have kW:=k2.below bW
   have stW:Stp w W A A2:=st2.up e1 e2 e3 e4
   have oaW:=oa.p8 (.below bW)
   have obW:=ob.p8 (.below bW)
   refine ⟨⟨oM (oaW.got _) hne.2.2.2.2 _,(obW.set _).got _,S',hP,A2,(kW.box oaW _).box (obW.set _) _,(stW.boxed hxo.1 _).boxed hxo.2 _⟩,⟨(oaW.set _).got _,oM (obW.got _) (Ne.symm hne.2.2.2.2) _,S',hP,A2,(kW.box obW _).box (oaW.set _) _,(stW.boxed hxo.2 _).boxed hxo.1 _⟩⟩
  have Zc:∀ {w2 w3:World}{z:Nat}{v:Value},Out V A z→w2.cell? ⟨z,0,none⟩=some v→w2.grownBy w3 (some (H.hs o.j))→w3.heap[z]? = w2.heap[z]? := fun hz9 h4 g=>g.block _ (World.block_lt_of_cell? _ _ h4) (fun e=>by
   have:=hz9.1
   have e2:=Option.some.inj e
   obtain ⟨G,k,hκ⟩:=h.1
   exact this ((hκ _).2 (by rw [e2,k.k5 p o ho];omega)))
  refine (KX.qG (h.below bV) ho (n:=2) ⟨by omega,by omega⟩ (fn:=176) (lb:=#[wp xk,wp xh,wp xa,wp xb]) (fun args w=>by kernel_rfl) (X:=(fun i=>i=xa∨i=xb)) (fun i hi=>by rcases hi with rfl|rfl<;>assumption) (Q:=fun c D' N' w2=>∃x y9,rX S.D (au S o.j) n x y9 c D' N'∧w2.cell? ⟨xa,0,none⟩=some (.int .i64 x)∧w2.cell? ⟨xb,0,none⟩=some (.int .i64 y9)∧w2.frozen? ⟨xa,0,none⟩=false∧w2.frozen? ⟨xb,0,none⟩=false) ?_ ?_).mono ?_
  ·rintro c D' N' w2 w3 ⟨x,y9,h1,h4,h5,h6,h7⟩ g
   have ka:=Zc QI h4 g
   have kb:=Zc ZC h5 g
   exact ⟨x,y9,h1,by rw [World.cell?_of_block (w:=w2) (a:=⟨xa,0,none⟩) ka];exact h4,by rw [World.cell?_of_block (w:=w2) (a:=⟨xb,0,none⟩) kb];exact h5,by rw [World.frozen?_of_block (w:=w2) (a:=⟨xa,0,none⟩) ka];exact h6,by rw [World.frozen?_of_block (w:=w2) (a:=⟨xb,0,none⟩) kb];exact h7⟩
  ·intro V1 k1 st1
   refine (k1.adb ho hq hN (bx.p8 st1) (QI.p8 st1) (ZC.p8 st1) hne).mono ?_
   rintro y w2 ⟨x,y9,c,D',N',rfl,hP,ca,cb,A2,oa,ob,k2,st2⟩
   obtain ⟨u1,u2⟩:=NH (h.1.oW o.j) (fun z hz=>by rw [jc (h.1.rR ho)] at hz;exact h.1.inv.nn (h.1.rR ho) z hz) h.1.inv.core.jW.n0 hP
   refine ⟨_,_,_,rfl,⟨x,y9,hP,ca,cb,oa.2.2.2.2.1,ob.2.2.2.2.1⟩,fun e=>?_,fun e=>?_,A2,fun i hi=>by
    rcases hi with rfl|rfl
    ·exact oa.1
    ·exact ob.1,k2,st2⟩
   ·rw [u1 e];rfl
   ·exact ⟨(u2 e).2.2.1,(u2 e).2.2.2⟩
  ·rintro y w2 ⟨c,rfl,hR⟩
   rcases hR with ⟨hc,rfl,A2,k2,st2⟩|⟨hc,D',N',⟨x,y9,hP,h4,h5,h6,h7⟩,A2,nA,k2,st2⟩
   ·have oa:=QI.p8 st2
    have ob:=ZC.p8 st2
    have za:w2.cell? ⟨xa,0,none⟩=some (.int .i64 0):=(st2.cO hz QI.1).1
    have zb:w2.cell? ⟨xb,0,none⟩=some (.int .i64 0):=(st2.cO hy ZC.1).1
    exact ⟨0,0,4,rfl,⟨za,zb,oa.2.2.2.2.1,ob.2.2.2.2.1⟩,fin w2 0 0 4 S A2 za zb (.inl ⟨hc,rfl,rfl,rfl,rfl⟩) (k2.more (by omega)) (st2.after bV) oa ob⟩
   ·have oa:Out w2 A2 xa:=⟨nA xa (.inl rfl),QI.2.1,QI.2.2.1,QI.2.2.2.1,h6,_,h4⟩
    have ob:Out w2 A2 xb:=⟨nA xb (.inr rfl),ZC.2.1,ZC.2.2.1,ZC.2.2.2.1,h7,_,h5⟩
    exact ⟨x,y9,c,rfl,⟨h4,h5,h6,h7⟩,fin w2 x y9 c _ A2 h4 h5 (.inr ⟨hc,D',N',hP,rfl⟩) k2 (Stp.inner bV st2 (fun i hi=>by rcases hi with rfl|rfl;exact hxo.1;exact hxo.2)) oa ob⟩
 have hF:=fun W (hb:Below w.heap.size w W)=>(h.1.below hb).ay ho
 have hA:=h.1.lt
 have hO:=fun V (hb:Below w.heap.size w V) x v hx hc hf=>h.1.Re (V:=V) hb (x:=x) hx (v:=v) hc hf
 have HP:Aside _:=hpay
 have HF:Aside _:=hF
 have HO:Aside _:=hO
 go_enter Tryz.func110,Tryz.ntmps110
 go_upto_region 1 with fail
 obtain ⟨b3,s3,c1,c2,c3⟩:=Q4 w (wp H.kb) (.int .i64 0) (.int .i64 0) 26 3 3
 have f3:=(sG ((w.alloc (.cells #[wp H.kb] 26)).alloc (.cells #[.int .i64 0] 3)) (.int .i64 0) 3).2.2.2
 rw [(Q5 w (wp H.kb) (.int .i64 0) 26 3).2.1] at f3
 have f2:(((w.alloc (.cells #[wp H.kb] 26)).alloc (.cells #[.int .i64 0] 3)).alloc (.cells #[.int .i64 0] 3)).frozen? ⟨w.heap.size+1,0,none⟩=false:=by
  have:=(sG (w.alloc (.cells #[wp H.kb] 26)) (.int .i64 0) 3).2.2.2
  rw [(sG w (wp H.kb) 26).2.1] at this
  exact qK ((Below.refl _ _).alloc (Nat.le_refl _) _) (by rw [(Q5 w (wp H.kb) (.int .i64 0) 26 3).2.1];omega) this
 generalize ((w.alloc (.cells #[wp H.kb] 26)).alloc (.cells #[.int .i64 0] 3)).alloc (.cells #[.int .i64 0] 3)=W at *
 have hF:=HF.out W b3
 go_upto_region 4 with (go_at_call 127;refine hF.mono ?_;rintro e w1 ⟨rfl,hw⟩;subst w1)
 obtain ⟨b4,s4,c4,_⟩:=sG W (wp (H.hs o.j)) 59
 rw [s3] at c4
 have d1:=dm b4 c1
 have d2:=dm b4 c2
 have d3:=dm b4 c3
 have f4:=qK b4 (World.block_lt_of_cell? W _ c3) f3
 have f5:=qK b4 (World.block_lt_of_cell? W _ c2) f2
 generalize W.alloc (.cells #[wp (H.hs o.j)] 59)=V at *
 have bV:Below w.heap.size w V:=b3.trans (b4.mono b3.size)
 have hP:=HP.out V w.heap.size (w.heap.size+1+1+1) (w.heap.size+1) (w.heap.size+1+1) bV (fun y hy=>by
  have hn:∀i,w.heap.size≤i→¬A i:=fun i hi z=>by have:=hA i z;omega
  simp only [List.mem_cons,List.not_mem_nil,or_false] at hy
  rcases hy with rfl|rfl
  ·exact ⟨d1,hn _ (Nat.le_refl _)⟩
  ·exact ⟨c4,hn _ (by omega)⟩) ⟨by omega,by omega,by omega,by omega,by omega⟩ ⟨by omega,by omega⟩ (HO.out V bV _ _ (by omega) d2 f5) (HO.out V bV _ _ (by omega) d3 f4) d2 d3
 go_upto_region 5 with (go_at_call 150;refine hP.mono ?_;rintro e w1 ⟨x,y9,c,rfl,⟨g1,g2,g3,g4⟩,hR⟩)
 have ya:=World.cell?_setCell_same w1 ⟨w.heap.size+1,0,none⟩ (.int .i64 x) g1
 have yb:=World.cell?_setCell_same w1 ⟨w.heap.size+1+1,0,none⟩ (.int .i64 y9) g2
 obtain ⟨⟨_,yab,_⟩,⟨yba,_,_⟩⟩:=hR.out w1 rfl rfl rfl rfl
 have YA:Aside _:=ya
 have YB:Aside _:=yb
 have YAB:Aside _:=yab
 have YBA:Aside _:=yba
 go_region
 all_goals
  go_wp2_with fail
  obtain ⟨⟨z1,z2,z3⟩,⟨z4,z5,z6⟩⟩:=hR.out w1.drew rfl rfl rfl rfl
  first
   |(obtain ⟨S',hF,hR⟩:=z3.out
     refine bodyPost_ret (v:=.tuple #[.int .i64 x,.int .i64 y9,aI c]) (by simp [results,Tryz.results110,go_sem,YA.out,YAB.out]) rfl ⟨x,y9,c,S',rfl,hF,hR⟩)
   |(obtain ⟨S',hF,hR⟩:=z6.out
     refine bodyPost_ret (v:=.tuple #[.int .i64 x,.int .i64 y9,aI c]) (by simp [results,Tryz.results110,go_sem,z4,z5,YA.out,YB.out,YAB.out,YBA.out]) rfl ⟨x,y9,c,S',rfl,hF,hR⟩)
end
end Go.Proofs.YtippochapiolpaaGreatDoor
namespace Go.Proofs.YtippochapiolpaaGreatDoor
open Go.RowKit Go.Maps
def firstM:Nat→Int:=fun k=>if k=0 then 64 else if k=1 then 8 else if k=2 then 200 else 0
def qg:Nat→Int:=fun _=>0
def om (j:Nat):Nat→Int:=fun k=>if k<j then firstM k else 0
section
variable {w w':World}{m:Int}{E:St}{D:Nat→Nat→Int}{A:Nat→Prop}{o:Int→Nat}
theorem Bz (h:Vs E w D (gT o) A) :
 Calls Tryz.prog 19 #[wp E.b] w fun y w'=>∃wa c gc,y=.returned (.tuple #[wp (wa.heap.size+1),.nilIface])∧VS E wa c gc D A (fun _=>none) o∧Below w.heap.size w wa∧w.heap.size≤c∧w.heap.size≤gc∧Below (wa.alloc (.cells (nv bQ).toArray 116)).heap.size (wa.alloc (.cells (nv bQ).toArray 116)) w'∧Hd w' (wa.heap.size+1) c wa.heap.size qg firstM 0:=by
 have hN:=Io h
 go_enter Tryz.func19,Tryz.ntmps19
 go_upto_region 5 with (go_at_call 38;refine hN.mono ?_;rintro e wa ⟨c,rfl,gc,hv,hb,hc,hg⟩)
 have hT:(.cells #[.int .i64 0,.bool false,.int .i64 0,.bool false,.int .i64 0,.bool false,.int .i64 0,.bool false,.int .i64 0,.bool false,.int .i64 0,.bool false,.int .i64 0,.bool false,.int .i64 0,.bool false] 116:Obj)=.cells (nv bQ).toArray 116:=rfl
 rw [hT]
 have s0:(wa.alloc (.cells (nv bQ).toArray 116)).heap.size=wa.heap.size+1:=by show (wa.heap.push _).size=_;rw [Array.size_push]
 have hd0:Hd ((wa.alloc (.cells (nv bQ).toArray 116)).alloc (.cells (hcs c wa.heap.size qg (om 0) 0) 121)) (wa.heap.size+1) c wa.heap.size qg (om 0) 0:=by
  unfold Hd
  rw [←s0]
  show ((wa.alloc _).heap.push _)[(wa.alloc _).heap.size]? = _
  rw [Array.getElem?_push,if_pos rfl]
 have b0:Below (wa.alloc (.cells (nv bQ).toArray 116)).heap.size (wa.alloc (.cells (nv bQ).toArray 116)) ((wa.alloc (.cells (nv bQ).toArray 116)).alloc (.cells (hcs c wa.heap.size qg (om 0) 0) 121)):=(Below.refl _ _).alloc (Nat.le_refl _) _
 have hH:(.cells #[vp c,.pointer (some ⟨wa.heap.size,0,none⟩),.int .i64 0,.int .i64 0,.int .i64 0,.int .i64 0,.int .i64 0,.int .i64 0,.int .i64 0] 121:Obj)=.cells (hcs c wa.heap.size qg (om 0) 0) 121:=rfl
 rw [hH]
 generalize hW0:wa.alloc (.cells (nv bQ).toArray 116)=W0 at *
 have HW0:Aside _:=hW0
 generalize W0.alloc (.cells (hcs c wa.heap.size qg (om 0) 0) 121)=W1 at *
 have HV:Aside (VS E wa c gc D A (fun _=>none) o):=hv
 have HB:Aside (Below w.heap.size w wa):=hb
 have HW:Aside (W0.heap.size=wa.heap.size+1):=s0
 go_wp2_with fail
 go_loopg [24] 3 (fun k s24 wr=>∃j:Nat,j+k=3∧s24=.int .i64 j∧Aside (Hd wr (wa.heap.size+1) c wa.heap.size qg (om j) 0∧Below W0.heap.size W0 wr))
 case atStart=>exact ⟨0,rfl,rfl,hd0,b0⟩
 case round=>
  obtain ⟨j,hj,rfl,hA⟩:=hrel
  have step:∀k:Nat,k<3→Hd wr (wa.heap.size+1) c wa.heap.size qg (om k) 0→Below W0.heap.size W0 wr→Calls Tryz.prog 39 #[lq (wa.heap.size+1),.int .i64 (k:Int),.int .i64 (firstM k)] wr fun e w'=>e=.returned .nilIface∧Aside (Hd w' (wa.heap.size+1) c wa.heap.size qg (om (k+1)) 0∧Below W0.heap.size W0 w'):=fun k hk hd bb=>by
   have hf:0≤firstM k∧firstM k≤1000000:=by
    match k,hk with
    |0,_|1,_|2,_=>decide
   have e0:qd k (firstM k)=0:=by unfold qd;rw [if_neg (by omega),if_neg (by omega)]
   refine (hd.limit k (firstM k)).mono ?_
   rintro e w' ⟨rfl,hd',g⟩
   refine ⟨by rw [e0];rfl,?_,jG bb g (by have:=HW.out;omega)⟩
   have e1:yG (om k) k (firstM k)=om (k+1):=by
    unfold yG
    rw [if_pos e0,Int.toNat_natCast]
    funext i
    unfold put om
    by_cases e:i=k
    ·rw [if_pos e,if_pos (by omega),e]
    ·rw [if_neg e]
     by_cases e2:i<k
     ·rw [if_pos e2,if_pos (by omega)]
     ·rw [if_neg e2,if_neg (by omega)]
   rw [e1] at hd'
   exact hd'
  have hA':=hA.out
  by_cases h3:j<3
  ·obtain ⟨hd,bb⟩:=hA'
   have hjj:j=0∨j=1∨j=2:=by omega
   rcases hjj with rfl|rfl|rfl
   all_goals
    have hL:=step _ h3 hd bb
    simp only [firstM] at hL
    have i0:(Instr.index 117 (.agg #[.int .i64 64,.int .i64 8,.int .i64 200]) (.int .i64 0)).run Tryz.prog wr=.ok (.int .i64 64) wr:=by kernel_rfl
    have i1:(Instr.index 117 (.agg #[.int .i64 64,.int .i64 8,.int .i64 200]) (.int .i64 1)).run Tryz.prog wr=.ok (.int .i64 8) wr:=by kernel_rfl
    have i2:(Instr.index 117 (.agg #[.int .i64 64,.int .i64 8,.int .i64 200]) (.int .i64 2)).run Tryz.prog wr=.ok (.int .i64 200) wr:=by kernel_rfl
    go_wp2_with (go_at_call 39;refine hL.mono ?_;rintro e w1 ⟨rfl,hR⟩)
    go_roundg (gk-1)
    case measure=>omega
    case rel=>exact ⟨_,by omega,by go_num,hR⟩
  ·have hj3:j=3:=by omega
   subst hj3
   obtain ⟨hd,bb⟩:=hA'
   have e1:om 3=firstM:=by
    funext i
    unfold om firstM
    by_cases e:i<3
    ·rw [if_pos e]
    ·rw [if_neg e,if_neg (by omega),if_neg (by omega),if_neg (by omega)]
   rw [e1] at hd
   have HR:Aside _:=(⟨hd,bb⟩:Hd wr (wa.heap.size+1) c wa.heap.size qg firstM 0∧Below W0.heap.size W0 wr)
   go_wp2_with fail
   go_ret2
   exact ⟨wa,c,gc,rfl,HV.out,HB.out,hc,hg,by rw [HW0.out];exact HR.out.2,HR.out.1⟩
end
def eG (n:Nat):KS:=⟨n,gW,qh jd,[bQ],[lG],fun _ _=>0,fun p=>if p=1 then some ⟨0,firstM,0⟩ else none⟩
theorem PN (n:Nat):uh (eG n):=by
 refine ⟨fun p=>?_,fun j hj hn=>?_,fun p o e=>?_⟩
 ·show (if p=1 then some (⟨0,firstM,0⟩:Ow) else none).isSome=aD gW p
  unfold aD nN gW
  by_cases e:p=1
  ·rw [if_pos e,if_pos e];rfl
  ·rw [if_neg e,if_neg e];rfl
 ·have:j=0:=by
   have:j<1:=hj
   omega
  exact absurd this.symm (hn 1 ⟨0,firstM,0⟩ rfl)
 ·have e:(if p=1 then some (⟨0,firstM,0⟩:Ow) else none)=some o:=e
  split at e
  ·cases e
   refine ⟨fun k=>?_,by show (-100:Int)≤0;omega,by show (0:Int)≤100;omega⟩
   show 0≤firstM k∧firstM k≤1000000
   unfold firstM
   split
   ·omega
   ·split
    ·omega
    ·split<;>omega
  ·cases e
open Classical in
theorem KM.first {ok:Bool}{w0 w:World}{m:Int}{E:St}{Av Ad:Nat→Prop}{n c gc f r tb hb t g gm kb:Nat}(hn:E.n=n)
 (v:VS E w c gc (fun _ _=>0) Av (fun _=>none) (fun _=>0)) (kd:KD w m f r (qh jd) [tb] [bQ] 0 Ad) (qj:QJ w t g gW 1)
 (head:w.heap[kb]? = some (.cells #[wp E.b,wp r,wp f,wp t,.map (some gm)] 66)) (pm:aK w gm 1 (fun p=>if p=1 then some (wp hb) else none)) (hd:Hd w hb c tb qg firstM 0) (tab:Bn ok w)
 (hv:∀i,bO E Av i→w0.heap.size≤i) (hA:∀i,Ad i→w0.heap.size≤i∧¬bO E Av i∧i≠gc∧i≠c∧i≠E.b∧i≠E.bm∧i≠g∧i≠gm∧i≠hb∧i≠kb∧i≠t)
 (h1:¬bO E Av g∧¬bO E Av gm∧¬bO E Av hb∧¬bO E Av kb∧¬bO E Av t) (h2:gc≠g∧gc≠gm∧gc≠hb∧gc≠kb∧gc≠t∧gc≠c) (h3:g≠gm∧g≠hb∧g≠kb∧g≠E.b∧g≠E.bm∧g≠t∧g≠c) (h4:gm≠hb∧gm≠kb∧gm≠E.b∧gm≠E.bm∧gm≠t∧gm≠c) (h5:hb≠kb∧hb≠E.b∧hb≠E.bm∧hb≠t∧hb≠c)
 (h6:w0.heap.size≤g∧w0.heap.size≤gm∧w0.heap.size≤hb∧w0.heap.size≤kb∧w0.heap.size≤t∧w0.heap.size≤c∧w0.heap.size≤gc∧w0.heap.size≤E.b∧w0.heap.size≤E.bm) (h7:4<w0.heap.size∧0<w0.heap.size∧8<w0.heap.size) :
 ∃A,KN w m ⟨kb,E.b,f,r,t,g,gm,fun _=>hb,fun _=>c,fun _=>tb,ok⟩ (eG n) 0 A∧∀i,A i→w0.heap.size≤i:=by
 let κ:Nat→Nat:=fun i=>if bO E Av i∨i=gc then 1 else if Ad i then 2 else if i=g then 3 else if i=gm then 4 else if i=hb then 5 else if i=kb∨i=E.b∨i=E.bm∨i=t∨i=c then 6 else 0
 have st:=v.st
 have hO:∀p o,(eG n).O p=some o→p=1∧o=⟨0,firstM,0⟩:=fun p o e=>by
  have e:(if p=1 then some (⟨0,firstM,0⟩:Ow) else none)=some o:=e
  split at e
  ·rename_i z;cases e;exact ⟨z,rfl⟩
  ·cases e
 have al:=Al.first v
 have k6:∀i,(i=kb∨i=E.b∨i=E.bm∨i=t∨i=c)→¬bO E Av i→i≠gc→κ i=6:=fun i hi hn hg=>by
  have n2:¬Ad i:=fun z=>by
   obtain ⟨_,_,_,a1,a2,a3,_,_,_,a4,a5⟩:=hA i z
   rcases hi with e|e|e|e|e
   ·exact a4 e
   ·exact a2 e
   ·exact a3 e
   ·exact a5 e
   ·exact a1 e
  have n3:i≠g∧i≠gm∧i≠hb:=by
   rcases hi with e|e|e|e|e
   ·rw [e];exact ⟨Ne.symm h3.2.2.1,Ne.symm h4.2.1,Ne.symm h5.1⟩
   ·rw [e];exact ⟨Ne.symm h3.2.2.2.1,Ne.symm h4.2.2.1,Ne.symm h5.2.1⟩
   ·rw [e];exact ⟨Ne.symm h3.2.2.2.2.1,Ne.symm h4.2.2.2.1,Ne.symm h5.2.2.1⟩
   ·rw [e];exact ⟨Ne.symm h3.2.2.2.2.2.1,Ne.symm h4.2.2.2.2.1,Ne.symm h5.2.2.2.1⟩
   ·rw [e];exact ⟨Ne.symm h3.2.2.2.2.2.2,Ne.symm h4.2.2.2.2.2,Ne.symm h5.2.2.2.2⟩
  show (if bO E Av i∨i=gc then 1 else if Ad i then 2 else if i=g then 3 else if i=gm then 4 else if i=hb then 5 else if i=kb∨i=E.b∨i=E.bm∨i=t∨i=c then 6 else 0)=6
  rw [if_neg (by rintro (z|z);exact hn z;exact hg z),if_neg n2,if_neg n3.1,if_neg n3.2.1,if_neg n3.2.2,if_pos hi]
 have k0:∀i,i<w0.heap.size→κ i=0:=fun i hi=>by
  obtain ⟨a1,a2,a3,a4,a5,a6,a7,a8,a9⟩:=h6
  show (if bO E Av i∨i=gc then 1 else if Ad i then 2 else if i=g then 3 else if i=gm then 4 else if i=hb then 5 else if i=kb∨i=E.b∨i=E.bm∨i=t∨i=c then 6 else 0)=0
  rw [if_neg (by rintro (z|z);have:=hv i z;omega;omega),if_neg (fun z=>by have:=(hA i z).1;omega),if_neg (by omega),if_neg (by omega),if_neg (by omega),if_neg (by omega)]
 have hκ:∀i,κ i≠0→w0.heap.size≤i:=fun i hi=>by
  apply Classical.byContradiction
  intro z
  exact hi (k0 i (by omega))
 refine ⟨fun i=>κ i≠0,⟨⟨⟨E,Av,[(c,gc,fun _=>none)],[tb],Ad,κ⟩,?_,fun _=>Iff.rfl⟩,PN n⟩,hκ⟩
 refine
  { head:=head
    eb:=rfl
    en:=hn
    al:=al
    ms:=rfl
    sp:=fun j h=>by
     have:j=0:=by simp at h;omega
     subst this;rfl
    kd:=kd
    tb:=fun j h=>by
     have:j=0:=by simp at h;omega
     subst this;rfl
    qj:=⟨1,qj⟩
    map:=⟨1,?_⟩
    hold:=fun p o e=>?_
    hinj:=fun p o p' o' e e' _=>by rw [(hO p o e).1,(hO p' o' e').1]
    len:=rfl
    lt:=fun p o e=>by rw [(hO p o e).2];show 0<1;omega
    key:=fun p o e=>by rw [(hO p o e).1];omega
    tab:=tab
    nx:=by show (0:Int)≤3*((0:Nat):Int);omega
    few:=by show 1≤0+1;omega
    k1:=fun i hi=>?_
    k2:=fun i hi=>?_
    k3:=?_
    k4:=?_
    k5:=fun p o e=>?_
    kk:=k6 kb (.inl rfl) h1.2.2.2.1 (Ne.symm h2.2.2.2.1)
    kE:=k6 E.b (.inr (.inl rfl)) st.bno (Ne.symm v.gb)
    kB:=k6 E.bm (.inr (.inr (.inl rfl))) st.mno (Ne.symm v.gm)
    kt:=k6 t (.inr (.inr (.inr (.inl rfl)))) h1.2.2.2.2 (Ne.symm h2.2.2.2.2.1)
    ks:=fun j _=>k6 c (.inr (.inr (.inr (.inr rfl)))) v.mR (Ne.symm h2.2.2.2.2.2)
    km:=k0 _ h7.1
    ke:=k0 _ h7.2.1
    Qz:=k0 _ h7.2.2
    Bd:=fun i hi=>?_ }
 ·have e:(fun p=>((eG n).O p).map (fun _=>wp hb))=fun p=>if p=1 then some (wp hb) else none:=by
   funext p
   show (if p=1 then some (⟨0,firstM,0⟩:Ow) else none).map _=_
   split<;>rfl
  show aK w gm 1 (fun p=>((eG n).O p).map (fun _=>wp hb))
  rw [e];exact pm
 ·obtain ⟨rfl,rfl⟩:=hO p o e
  refine Hd.congr hd (fun k hk=>?_)
  have z1:bX lG=0:=rG
  have z2:ak bQ=0:=by decide
  show (0:Int)=if k=0 then ((bX lG:Nat):Int) else if k=1 then ((ak bQ:Nat):Int) else 0
  rw [z1,z2]
  split
  ·rfl
  ·split<;>rfl
 ·show (if bO E Av i∨i=gc then 1 else _)=1
  rw [if_pos]
  rcases hi with z|⟨x,hx,e⟩
  ·exact .inl z
  ·simp at hx;subst hx;exact .inr e
 ·obtain ⟨_,a1,a2,_⟩:=hA i hi
  show (if bO E Av i∨i=gc then 1 else if Ad i then 2 else _)=2
  rw [if_neg (by rintro (z|z);exact a1 z;exact a2 z),if_pos hi]
 ·show (if bO E Av g∨g=gc then 1 else if Ad g then 2 else if g=g then 3 else _)=3
  rw [if_neg (by rintro (z|z);exact h1.1 z;exact h2.1 z.symm),if_neg (fun z=>(hA g z).2.2.2.2.2.2.1 rfl),if_pos rfl]
 ·show (if bO E Av gm∨gm=gc then 1 else if Ad gm then 2 else if gm=g then 3 else if gm=gm then 4 else _)=4
  rw [if_neg (by rintro (z|z);exact h1.2.1 z;exact h2.2.1 z.symm),if_neg (fun z=>(hA gm z).2.2.2.2.2.2.2.1 rfl),if_neg (Ne.symm h3.1),if_pos rfl]
 ·show (if bO E Av hb∨hb=gc then 1 else if Ad hb then 2 else if hb=g then 3 else if hb=gm then 4 else if hb=hb then 5 else _)=5
  rw [if_neg (by rintro (z|z);exact h1.2.2.1 z;exact h2.2.2.1 z.symm),if_neg (fun z=>(hA hb z).2.2.2.2.2.2.2.2.1 rfl),if_neg (Ne.symm h3.2.1),if_neg (Ne.symm h4.1),if_pos rfl]
 ·have hi:(if bO E Av i∨i=gc then 1 else if Ad i then 2 else if i=g then 3 else if i=gm then 4 else if i=hb then 5 else if i=kb∨i=E.b∨i=E.bm∨i=t∨i=c then 6 else 0)≠0:=hi
  split at hi
  ·rename_i z
   rcases z with z|z
   ·exact st.Dm z
   ·rw [z];exact v.sp.uk
  ·split at hi
   ·rename_i z;exact kd.lt i z
   ·split at hi
    ·rename_i z;rw [z];exact qj.map.lt
    ·split at hi
     ·rename_i z;rw [z];exact pm.lt
     ·split at hi
      ·rename_i z;rw [z];exact hd.lt
      ·split at hi
       ·rename_i z
        rcases z with z|z|z|z|z
        ·rw [z];exact lt_of_heap head
        ·rw [z];exact st.blt
        ·rw [z];exact st.mlt
        ·rw [z];exact qj.toQM.Zr
        ·rw [z];exact v.sp.lt
       ·exact absurd rfl hi
end Go.Proofs.YtippochapiolpaaGreatDoor
namespace Go.Proofs.YtippochapiolpaaGreatDoor
open Go.RowKit Go.Maps
section
variable {w w':World}{m:Int}
theorem Fa (w:World) (n:Int) (h:¬(1≤n∧n≤256)):Calls Tryz.prog 6 #[.int .i64 n] w fun y w'=>y=.returned (.tuple #[.pointer none,eQ 2])∧w'=w:=by
 have hN:=Im w n h
 go_enter Tryz.func6,Tryz.ntmps6
 go_wp2_with (go_at_call 16;refine hN.mono ?_;rintro e w1 ⟨rfl,hw⟩;subst w1)
 go_ret2
 exact ⟨rfl,rfl⟩
theorem vH {ok:Bool}(w:World) (n:Nat) (h1:1≤n) (h2:n≤256) (hm:w.cell? ⟨4,0,none⟩=some (.int .i64 m)) (he:w.cell? ⟨0,0,none⟩=some iB) (ht:Bn ok w) :
 Calls Tryz.prog 6 #[.int .i64 (n:Int)] w fun y w'=>∃H A,y=.returned (.tuple #[wp H.kb,.nilIface])∧KN w' m H (eG n) 0 A∧(∀i,A i→w.heap.size≤i)∧Below w.heap.size w w'∧H.ok=ok:=by
 have g1:=World.block_lt_of_cell? w _ hm
 have g2:=World.block_lt_of_cell? w _ he
 have g3:=ht.lt
 have chain:Calls Tryz.prog 16 #[.int .i64 (n:Int)] w fun y w1=>∃b,y=.returned (.tuple #[wp b,.nilIface])∧Calls Tryz.prog 17 #[] w1 fun y w2=>∃r,y=.returned (wp r)∧Calls Tryz.prog 18 #[wp r] w2 fun y w3=>∃f,y=.returned (.tuple #[wp f,.nilIface])∧Calls Tryz.prog 19 #[wp b] w3 fun y w4=>∃hb,y=.returned (.tuple #[wp hb,.nilIface])∧Calls Tryz.prog 20 #[] w4 fun y w5=>∃t,y=.returned (wp t)∧∃w6,(Instr.mapUpdate 64 (.map (some w5.heap.size)) (.int .i64 1) (wp hb)).run Tryz.prog (w5.alloc (.map #[] 0))=.ok () w6∧Aside (∃H A,(H.kb=w6.heap.size∧H.ok=ok)∧KN (w6.alloc (.cells #[wp b,wp r,wp f,wp t,.map (some w5.heap.size)] 66)) m H (eG n) 0 A∧(∀i,A i→w.heap.size≤i)∧Below w.heap.size w (w6.alloc (.cells #[wp b,wp r,wp f,wp t,.map (some w5.heap.size)] 66))):=by
  refine (EW w n h1 h2).mono ?_
  rintro y w1 ⟨b,rfl,E,Av,rfl,hEn,vs1,b1,hv1,hbE,hmw⟩
  refine ⟨E.b,rfl,(KW.first w1 (m:=m) (cell_below hm b1) (cell_below he b1)).mono ?_⟩
  rintro y w2 ⟨r,rfl,b2,hD⟩
  refine ⟨r,rfl,hD.mono ?_⟩
  rintro y w3 ⟨f,rfl,Ad,kd3,hAd,b13⟩
  have b3:Below w.heap.size w w3:=b1.trans (b13.mono b1.size)
  have vs3:Vs E w3 (fun _ _=>0) (gT fun _=>0) Av:=vs1.below b13
  refine ⟨f,rfl,(Bz vs3).mono ?_⟩
  rintro y w4 ⟨wa,c,gc,rfl,va,ba,hc,hgc,b4,hd4⟩
  have hba:=ba.size
  have s0:(wa.alloc (.cells (nv bQ).toArray 116)).heap.size=wa.heap.size+1:=by show (wa.heap.push _).size=_;rw [Array.size_push]
  have bT:Below wa.heap.size wa (wa.alloc (.cells (nv bQ).toArray 116)):=(Below.refl _ _).alloc (Nat.le_refl _) _
  have ba4:Below wa.heap.size wa w4:=bT.trans (b4.mono bT.size)
  have kdT:=(kd3.below ba).table (by simp)
  have kd4:KD w4 m f r (qh jd) [wa.heap.size] [bQ] 0 (fun i=>Ad i∨i=wa.heap.size):=kdT.below b4
  have v4:=va.below ba4
  have h41:=b4.size
  rw [s0] at h41
  have hdl:wa.heap.size+1<w4.heap.size:=hd4.lt
  refine ⟨wa.heap.size+1,rfl,(TS w4).mono ?_⟩
  rintro y w5 ⟨t,g,rfl,qj5,b5,htl,hgl⟩
  have p0:aK (w5.alloc (.map #[] 0)) w5.heap.size 0 (fun _=>none):=aK.made w5
  have bM:Below w5.heap.size w5 (w5.alloc (.map #[] 0)):=(Below.refl _ w5).alloc (Nat.le_refl _) _
  have sM:(w5.alloc (.map #[] 0)).heap.size=w5.heap.size+1:=by show (w5.heap.push _).size=_;rw [Array.size_push]
  obtain ⟨w6,hrun,q6,g6⟩:=p0.put Tryz.underlying64 (by unfold maxLen;omega) 1 (by decide) (wp (wa.heap.size+1))
  have b6:Below w5.heap.size w5 w6:=jG bM g6 (Nat.le_refl _)
  have h61:w5.heap.size+1≤w6.heap.size:=by have:=g6.size;rw [sM] at this;exact this
  have bK:Below w6.heap.size w6 (w6.alloc (.cells #[wp E.b,wp r,wp f,wp t,.map (some w5.heap.size)] 66)):=(Below.refl _ _).alloc (Nat.le_refl _) _
  have b5K:Below w5.heap.size w5 (w6.alloc (.cells #[wp E.b,wp r,wp f,wp t,.map (some w5.heap.size)] 66)):=b6.trans (bK.mono b6.size)
  have b4K:=b5.trans (b5K.mono b5.size)
  have head:(w6.alloc (.cells #[wp E.b,wp r,wp f,wp t,.map (some w5.heap.size)] 66)).heap[w6.heap.size]? = some (.cells #[wp E.b,wp r,wp f,wp t,.map (some w5.heap.size)] 66):=by
   show (w6.heap.push _)[w6.heap.size]? = _
   rw [Array.getElem?_push,if_pos rfl]
  have q6':aK w6 w5.heap.size 1 (fun p=>if p=1 then some (wp (wa.heap.size+1)) else none):=q6
  have pm:=q6'.keep (bK.block _ q6'.lt)
  have QL:=b1.size
  have ajS:=b13.size
  have bw5:=b5.size
  have Jd:∀i,bO E Av i→w.heap.size≤i∧i<w1.heap.size:=fun i hi=>⟨Nat.le_of_not_lt (fun z=>hv1 i z hi),vs1.Dm hi⟩
  have afQ:∀i,(Ad i∨i=wa.heap.size)→w1.heap.size≤i∧i<wa.heap.size+1∧(i<w3.heap.size∨i=wa.heap.size):=fun i hi=>by
   rcases hi with z|z
   ·have:=hAd i z;have:=kd3.lt i z;exact ⟨by omega,by omega,.inl (by omega)⟩
   ·exact ⟨by omega,by omega,.inr z⟩
  have hbl:=vs1.blt
  have wY:=vs1.mlt
  have hcl:=va.sp.lt
  have ajM:=va.sp.uk
  have ajz:=qj5.toQM.Zr
  have ajL:=qj5.map.lt
  have htg:=qj5.toQM.gt
  have hcg:=va.sp.ne
  obtain ⟨A,kn,hA⟩:=KM.first (w0:=w) (m:=m) hEn (v4.below b4K) (kd4.below b4K) ⟨qj5.toQM.below b5K,qj5.ok,qj5.dj⟩ head pm (hd4.below b4K) (ht.keep ((b3.trans ((ba.trans (ba4.mono ba.size)).mono b3.size |>.trans (b4K.mono (by omega)))).block _ g3)) (fun i hi=>(Jd i hi).1) (fun i hi=>by
   obtain ⟨a1,a2,a3⟩:=afQ i hi
   have n1:¬bO E Av i:=fun z=>by have:=Jd i z;omega
   exact ⟨by omega,n1,by omega,by omega,by omega,by omega,by omega,by omega,by omega,by omega,by omega⟩)
   ⟨fun z=>by have:=Jd _ z;omega,fun z=>by have:=Jd _ z;omega,fun z=>by have:=Jd _ z;omega,fun z=>by have:=Jd _ z;omega,fun z=>by have:=Jd _ z;omega⟩
   ⟨by omega,by omega,by omega,by omega,by omega,Ne.symm hcg⟩ ⟨by omega,by omega,by omega,by omega,by omega,htg,by omega⟩ ⟨by omega,by omega,by omega,by omega,by omega,by omega⟩ ⟨by omega,by omega,by omega,by omega,by omega⟩ ⟨by omega,by omega,by omega,by omega,by omega,by omega,by omega,by omega,hmw⟩ ⟨g1,g2,g3⟩
  refine ⟨t,rfl,w6,hrun,_,A,⟨rfl,rfl⟩,kn,hA,?_⟩
  exact (b3.trans (ba.mono b3.size)).trans ((ba4.trans (b4K.mono ba4.size)).mono (by omega))
 have hmm:=@run_makeMap Tryz.prog
 go_enter Tryz.func6,Tryz.ntmps6
 go_upto_region 11 with (first
  |(go_at_call 16;refine chain.mono ?_;rintro e w1 ⟨b,rfl,c1⟩)
  |(go_at_call 17;refine c1.mono ?_;rintro e w2 ⟨r,rfl,c2⟩)
  |(go_at_call 18;refine c2.mono ?_;rintro e w3 ⟨f,rfl,c3⟩)
  |(go_at_call 19;refine c3.mono ?_;rintro e w4 ⟨hb,rfl,c4⟩))
 go_wp2_with (go_at_call 20;refine c4.mono ?_;rintro e w5 ⟨t,rfl,w6,hrun,hR⟩)
 go_ret2
 obtain ⟨H,A,hk,kn,hA,bb⟩:=hR.out
 exact ⟨H,A,by rw [hk.1];rfl,kn,hA,bb,hk.2⟩
end
end Go.Proofs.YtippochapiolpaaGreatDoor
namespace Go.Proofs.YtippochapiolpaaGreatDoor
open Go.RowKit Go.Maps Go.Sort
def fM (S:KS) (p:Int):Option Cd:=if p=1 then none else (S.O p).map (fun o=>⟨p,((gM (aC S o.j):Nat):Int),o.fo⟩)
def dQ (S:KS):List Cd:=(aH S.P).filterMap (fM S)
section
variable {w w':World}{m:Int}{H:KH}{S:KS}{U:Nat→Nat→Int}{q:Nat}{A:Nat→Prop}{p:Int}{o:Ow}
theorem K7 {l:List Int}{i:Nat}(h:i<l.length):(l.take (i+1)).filterMap (fM S)=(l.take i).filterMap (fM S) ++ (fM S l[i]).toList:=by
 rw [List.take_add_one,List.getElem?_eq_getElem h,List.filterMap_append]
 congr 1
theorem Dk (S:KS):(dQ S).length≤24:=Nat.le_trans (List.length_filterMap_le _ _) (lH _)
theorem KX.candidates (h:KX w m H S U q A):Calls Tryz.prog 184 #[wp H.kb] w fun y w'=>∃ad cap,y=.returned (.slice ad (dQ S).length cap)∧Cds w' ad (dQ S)∧Below w.heap.size w w':=by
 have c3:=h.c3
 obtain ⟨L,hL⟩:∃L,aH S.P=L:=⟨_,rfl⟩
 have ajJ:L.length≤24:=by rw [←hL];exact lH _
 have hwf:∀p∈L,1≤p∧p≤24:=fun p hp=>by
  rw [←hL] at hp
  obtain ⟨x,hx⟩:=Option.isSome_iff_exists.1 (h.Vi.si.1 hp)
  exact h.Vi.key p x hx
 have hP:Calls Tryz.prog 146 #[wp H.t] w fun e w'=>∃b cap,e=.returned (.slice (some ⟨b,0,none⟩) L.length cap)∧L.length≤cap∧w.heap.size≤b∧b<w'.heap.size∧(∀j (hj:j<L.length),w'.cell? ⟨b,j,none⟩=some (.int .i64 L[j]))∧Below w.heap.size w w':=by
  have h1:=h.one
  obtain ⟨G,k,e⟩:=h
  obtain ⟨c,qj⟩:=k.qj
  refine (qj.toQM.si h1).mono ?_
  rintro e w1 ⟨b,cap,rfl,hc,hb,hb2,hh,bb⟩
  rw [hL] at hh hc ⊢
  refine ⟨b,cap,rfl,hc,hb,hb2,fun j hj=>?_,bb⟩
  have:=(hh j (by simpa using hj)).1
  rw [Nat.zero_add] at this
  have e9:L.toArray[j]! = L[j]:=by rw [getElem!_pos _ j (by simpa using hj)];simp
  rw [this,e9]
 have hcell:∀V,Below w.heap.size w V→V.cell? ⟨H.kb,4,none⟩=some (.map (some H.gm)):=fun V hb=>(h.below hb).c4
 have Ro:∀V p,1≤p∧p≤24→Below w.heap.size w V→(Instr.lookup 64 (.map (some H.gm)) (.int .i64 p) false).run Tryz.prog V=.ok (match S.O p with|some o=>wp (H.hs o.j) | none=>.pointer none) V:=fun V p hp hb=>(h.below hb).look p (Nj hp)
 have hres:∀V p o,S.O p=some o→Below w.heap.size w V→(V.cell? ⟨H.hs o.j,0,none⟩=some (wp (H.sp o.j))∧V.cell? ⟨H.hs o.j,8,none⟩=some (.int .i64 o.fo))∧Calls Tryz.prog 144 #[wp (H.sp o.j)] V fun y w'=>y=.returned (.int .i64 ((gM (aC S o.j):Nat):Int))∧Below V.heap.size V w':=fun V p o ho hb=>⟨⟨((h.below hb).hd ho).at 0,((h.below hb).hd ho).at 8⟩,(h.below hb).Fy (h.rR ho)⟩
 have HC:Aside _:=hcell
 have HL:Aside _:=Ro
 have HR:Aside _:=hres
 have HW:Aside _:=hwf
 have hcs:dQ S=L.filterMap (fM S):=by unfold dQ;rw [hL]
 rw [hcs]
 have HLL:Aside _:=hL
 go_enter Tryz.func184,Tryz.ntmps184
 go_wp2_with (go_at_call 146;refine hP.mono ?_;rintro e w1 ⟨b,cap,rfl,hcap,hbw,hb1,hcc,b1⟩)
 have HCC:Aside (∀j (hj:j<L.length),w1.cell? ⟨b,j,none⟩=some (.int .i64 L[j])):=hcc
 go_loopg [3,13] L.length (fun mm s3 s13 wr=>∃i:Nat,i+mm=L.length∧s13=.int .i64 (i:Int)∧CL wr w1.heap.size 307 s3 ((L.take i).filterMap (fM S))∧Below w1.heap.size w1 wr∧Below w.heap.size w wr)
 case atStart=>exact ⟨0,by omega,rfl,⟨rfl,.inl ⟨rfl,rfl⟩⟩,Below.refl _ _,b1⟩
 case round=>
  obtain ⟨i,hi,rfl,row,QL,bw⟩:=hrel
  by_cases hlt:(i:Int)<(L.length:Int)
  ·have aG:i<L.length:=by omega
   have hic:(i:Int)<(cap:Int):=by omega
   have c0:wr.cell? ⟨b,i,none⟩=some (.int .i64 L[i]):=by rw [QL.cell (p:=⟨b,i,none⟩) hb1];exact HCC.out i aG
   have hk:=HW.out L[i] (List.getElem_mem aG)
   have c4:=HC.out wr bw
   have l4:=HL.out wr L[i] hk bw
   have htk:=K7 (S:=S) aG
   have HT:Aside _:=htk
   have hlen:((L.take i).filterMap (fM S)).length≤24:=by
    refine Nat.le_trans (List.length_filterMap_le _ _) ?_
    rw [List.length_take];omega
   generalize L[i]=X at *
   cases hO:S.O X with
   |none=>
    rw [hO] at l4
    have e0:fM S X=none:=by unfold fM;rw [hO];split<;>rfl
    have HE:Aside _:=e0
    go_wp2_with fail
    go_roundg (gk-1)
    case measure=>omega
    case rel=>
     refine ⟨i+1,by omega,by go_num,?_,QL,bw⟩
     rw [HT.out,HE.out,Option.toList_none,List.append_nil]
     exact row
   |some o=>
    rw [hO] at l4
    simp only at l4
    by_cases hx1:X=1
    ·have e0:fM S X=none:=if_pos hx1
     have HE:Aside _:=e0
     have hx2:(X != 1)=false:=by simpa using hx1
     subst hx1
     go_wp2_with fail
     go_roundg (gk-1)
     case measure=>omega
     case rel=>
      refine ⟨i+1,by omega,by go_num,?_,QL,bw⟩
      rw [HT.out,HE.out,Option.toList_none,List.append_nil]
      exact row
    ·have e0:fM S X=some ⟨X,((gM (aC S o.j):Nat):Int),o.fo⟩:=by unfold fM;rw [if_neg hx1,hO];rfl
     have HE:Aside _:=e0
     have hx2:(X != 1)=true:=by simpa using hx1
     have hrs:(wr.cell? ⟨H.hs o.j,0,none⟩=some (wp (H.sp o.j))∧wr.cell? ⟨H.hs o.j,8,none⟩=some (.int .i64 o.fo))∧Calls Tryz.prog 144 #[wp (H.sp o.j)] wr.drew fun y w2=>y=.returned (.int .i64 ((gM (aC S o.j):Nat):Int))∧(w2.cell? ⟨H.hs o.j,0,none⟩=some (wp (H.sp o.j))∧w2.cell? ⟨H.hs o.j,8,none⟩=some (.int .i64 o.fo))∧((w2.alloc (.cells #[.int .i64 X,.int .i64 ((gM (aC S o.j):Nat):Int),.int .i64 o.fo] 307)).cell? ⟨H.hs o.j,0,none⟩=some (wp (H.sp o.j))∧(w2.alloc (.cells #[.int .i64 X,.int .i64 ((gM (aC S o.j):Nat):Int),.int .i64 o.fo] 307)).cell? ⟨H.hs o.j,8,none⟩=some (.int .i64 o.fo))∧∃v9 w9,(Builtin.append_ #[242,242] 242 #[u3,.slice (some ⟨w2.heap.size,0,none⟩) 1 1]).run Tryz.prog (w2.alloc (.cells #[.int .i64 X,.int .i64 ((gM (aC S o.j):Nat):Int),.int .i64 o.fo] 307))=.ok v9 w9∧(w9.cell? ⟨H.hs o.j,0,none⟩=some (wp (H.sp o.j))∧w9.cell? ⟨H.hs o.j,8,none⟩=some (.int .i64 o.fo))∧Aside (CL w9 w1.heap.size 307 v9 ((L.take i).filterMap (fM S) ++ [⟨X,((gM (aC S o.j):Nat):Int),o.fo⟩])∧Below w1.heap.size w1 w9∧Below w.heap.size w w9):=by
      refine ⟨(HR.out wr X o hO bw).1,((HR.out wr.drew X o hO (bw.trans ((bH wr).mono bw.size))).2).mono ?_⟩
      rintro y w2 ⟨rfl,b2⟩
      have b2':Below wr.heap.size wr w2:=(bH wr).trans b2
      have bA:Below w2.heap.size w2 (w2.alloc (.cells #[.int .i64 X,.int .i64 ((gM (aC S o.j):Nat):Int),.int .i64 o.fo] 307)):=(Below.refl _ _).alloc (Nat.le_refl _) _
      have bB:Below wr.heap.size wr (w2.alloc (.cells #[.int .i64 X,.int .i64 ((gM (aC S o.j):Nat):Int),.int .i64 o.fo] 307)):=b2'.trans (bA.mono b2'.size)
      have ZN:CL (w2.alloc (.cells #[.int .i64 X,.int .i64 ((gM (aC S o.j):Nat):Int),.int .i64 o.fo] 307)) w1.heap.size 307 u3 ((L.take i).filterMap (fM S)):=row.keep (fun j _ hj=>bB.block j hj)
      have hA:(w2.alloc (.cells #[.int .i64 X,.int .i64 ((gM (aC S o.j):Nat):Int),.int .i64 o.fo] 307)).heap[w2.heap.size]? = some (bx ⟨X,((gM (aC S o.j):Nat):Int),o.fo⟩):=by
       show (w2.heap.push _)[w2.heap.size]? = _
       rw [Array.getElem?_push,if_pos rfl]
      obtain ⟨x0,x1,x2⟩:=oJ hA
      have hcl:Cells (w2.alloc (.cells #[.int .i64 X,.int .i64 ((gM (aC S o.j):Nat):Int),.int .i64 o.fo] 307)) w2.heap.size 0 [⟨X,((gM (aC S o.j):Nat):Int),o.fo⟩]:=fun j hj=>by
       have:j=0:=by simp at hj;omega
       subst this
       exact ⟨x0,x1,x2⟩
      have bws:=QL.size
      have b2s:=b2'.size
      have bAs:=bA.size
      obtain ⟨v9,w9,hr,afM,IW⟩:=K9 ZN hcl 1 (by omega) (by simp) (by omega)
      have b19:Below w1.heap.size w1 w9:=⟨IW.os.trans (bB.os.trans QL.os),IW.tape.trans (bB.tape.trans QL.tape),IW.output.trans (bB.output.trans QL.output),by have:=IW.size;omega,fun j hj=>by
       rw [IW.block j (by omega) (fun e=>by have:=(row.lt j e.symm).1;omega),bB.block j (by omega)]
       exact QL.block j hj⟩
      have bw9:Below w.heap.size w w9:=b1.trans (b19.mono b1.size)
      have bwA:Below w.heap.size w (w2.alloc (.cells #[.int .i64 X,.int .i64 ((gM (aC S o.j):Nat):Int),.int .i64 o.fo] 307)):=bw.trans (bB.mono bw.size)
      have bw2:Below w.heap.size w w2:=bw.trans (b2'.mono bw.size)
      exact ⟨rfl,(HR.out w2 X o hO bw2).1,(HR.out _ X o hO bwA).1,v9,w9,hr _ rfl,(HR.out w9 X o hO bw9).1,afM,b19,bw9⟩
     obtain ⟨d0,hRs⟩:=hrs
     generalize ((gM (aC S o.j):Nat):Int)=R9 at *
     go_upto_region 7 with fail
     go_region_held3 (fun w'=>w'.cell? ⟨H.hs o.j,0,none⟩=some (wp (H.sp o.j))∧w'.cell? ⟨H.hs o.j,8,none⟩=some (.int .i64 o.fo)) (first|exact d0|exact d1|exact d2|exact d3) (first
      |(go_at_call 144;refine hRs.mono ?_;rintro e w2 ⟨rfl,d1,d2,v9,w9,hrun,d3,hR9⟩)
      |(refine pW rfl (.tmp 29) (.tmp 41) 242 rfl _ _ v9 w9 rfl rfl hrun ?_))
     all_goals
      go_wp2_with fail
      go_roundg (gk-1)
      case measure=>omega
      case rel=>
       obtain ⟨r1,r2,r3⟩:=hR9.out
       refine ⟨i+1,by omega,by go_num,?_,r2,r3⟩
       rw [HT.out,HE.out]
       exact r1
  ·have aG:i=L.length:=by omega
   have hT:L.take i=L:=by rw [aG];exact List.take_length
   rw [hT] at row
   obtain ⟨ad2,cap2,hv2,_,hcd⟩:=row.cds
   subst hv2
   have HD:Aside _:=hcd
   go_wp2_with fail
   go_ret
   exact ⟨ad2,⟨cap2,rfl⟩,HD.out,bw⟩
end
end Go.Proofs.YtippochapiolpaaGreatDoor
namespace Go.Proofs.YtippochapiolpaaGreatDoor
open Go.RowKit Go.Maps
inductive dP (p a k v:Int):KS→List Int→Int→KS→Prop
 |done {S:KS}{o:Ow}{er:Int}{P':PM}{D':Nat→Nat→Int}(ho:S.O p=some o) (h:uo S.n (aC S o.j) (iY S o.j) S.W a k v er P' D') (h12:er≠12):dP p a k v S [] er (S.space o.j P' D')
 |nobody {S:KS}{o:Ow}(ho:S.O p=some o) (h:uo S.n (aC S o.j) (iY S o.j) S.W a k v 12 (aC S o.j) S.W) (hv:¬0<(vJ (dQ S)).1):dP p a k v S [] 12 S
 |self {S:KS}{o:Ow}(ho:S.O p=some o) (h:uo S.n (aC S o.j) (iY S o.j) S.W a k v 12 (aC S o.j) S.W) (hv:0<(vJ (dQ S)).1) (he:(vJ (dQ S)).2=p):dP p a k v S [p] 10 (dD S p o 108)
 |goes {S:KS}{o:Ow}{x:Int}{ox:Ow}{went:List Int}{er:Int}{S':KS}(ho:S.O p=some o) (h:uo S.n (aC S o.j) (iY S o.j) S.W a k v 12 (aC S o.j) S.W) (hv:0<(vJ (dQ S)).1) (he:(vJ (dQ S)).2=x) (hx:S.O x=some ox) (h1:x≠1) (hne:x≠p) (r:dP p a k v (dD S x ox 108) went er S'):dP p a k v S (x :: went) er S'
section
variable {w w' V:World}{m:Int}{H:KH}{S:KS}{U:Nat→Nat→Int}{q:Nat}{A A':Nat→Prop}{p:Int}{o:Ow}
theorem Ga (c:Int) (w:World) (hg:w.cell? ⟨0,0,none⟩=some iB):Calls Tryz.prog 14 #[aI c] w fun e w'=>e=.returned (.int .i64 c)∧Below w.heap.size w w':=by
 by_cases h:c=0
 ·subst h
  refine (F9 w).mono ?_
  rintro e w' ⟨he,rfl⟩
  exact ⟨he,Below.refl _ _⟩
 ·rw [ax h];exact zw c w hg
theorem U5 {S:KS}{c:Cd}(h:c∈dQ S):c.pid≠1∧∃o,S.O c.pid=some o∧c=⟨c.pid,((gM (aC S o.j):Nat):Int),o.fo⟩:=by
 unfold dQ at h
 obtain ⟨x,hx,e⟩:=List.mem_filterMap.1 h
 unfold fM at e
 split at e
 ·cases e
 ·rename_i hne
  cases hO:S.O x with
  |none=>rw [hO] at e;cases e
  |some o=>
   rw [hO] at e
   obtain rfl:=Option.some.inj e
   exact ⟨hne,o,hO,rfl⟩
theorem Sz {S:KS}(h:0<(vJ (dQ S)).1):(vJ (dQ S)).2≠1∧∃o,S.O (vJ (dQ S)).2=some o∧0<gM (aC S o.j):=by
 obtain ⟨k,hk,e1,e2⟩:=aab h
 obtain ⟨h1,o,ho,ec⟩:=U5 (List.getElem_mem hk)
 rw [e1] at h1 ho
 refine ⟨h1,o,ho,?_⟩
 have hw:0<kY (dQ S)[k]:=by rw [e2];exact h
 have:=(VT.1 hw).1
 rw [ec] at this
 simp only at this
 omega
theorem qX {f f':Int→Option Cd}{x:Int}(hx':f' x=none) (hx:(f x).isSome=true):∀(l:List Int),(∀y∈l,f' y=none∨f' y=f y)→(l.filterMap f').length≤(l.filterMap f).length∧(x∈l→(l.filterMap f').length+1≤(l.filterMap f).length)
 | [],_=>⟨Nat.le_refl _,fun h=>by cases h⟩
 |y :: r,hl=>by
  obtain ⟨i1,i2⟩:=qX hx' hx r (fun z hz=>hl z (List.mem_cons_of_mem _ hz))
  have hy:=hl y List.mem_cons_self
  have c1:((y :: r).filterMap f').length=(r.filterMap f').length+if (f' y).isSome=true then 1 else 0:=by
   rw [List.filterMap_cons];cases f' y<;>simp
  have c2:((y :: r).filterMap f).length=(r.filterMap f).length+if (f y).isSome=true then 1 else 0:=by
   rw [List.filterMap_cons];cases f y<;>simp
  rw [c1,c2]
  have hle:(if (f' y).isSome=true then 1 else 0)≤(if (f y).isSome=true then 1 else 0):=by
   rcases hy with e|e
   ·rw [e];simp
   ·rw [e];exact Nat.le_refl _
  refine ⟨by omega,fun hm=>?_⟩
  rcases List.mem_cons.1 hm with e|e
  ·subst e
   rw [hx',hx]
   simp;omega
  ·have:=i2 e;omega
theorem OP (P:Ps) (x c:Int):aH (dI P x c)=aH P:=by
 unfold aH
 refine List.filter_congr (fun n _=>?_)
 unfold dI
 rw [Option.isSome_map]
theorem Qo (h:KN w m H S q A) {x:Int}{ox:Ow}(hx:S.O x=some ox) (h1:x≠1) (c:Int):(dQ (dD S x ox c)).length+1≤(dQ S).length:=by
 unfold dQ
 have e:(dD S x ox c).P=dI S.P x c:=rfl
 rw [e,OP]
 have wY:=h.1.mlt hx
 have f0:fM (dD S x ox c) x=none:=by
  unfold fM
  rw [if_neg h1]
  have:(dD S x ox c).O x=none:=by show jK S.O x x=none;unfold jK;rw [if_pos rfl]
  rw [this];rfl
 refine (qX f0 ?_ _ (fun y hy=>?_)).2 ?_
 ·unfold fM;rw [if_neg h1,hx];rfl
 ·by_cases e:y=x
  ·left;rw [e];exact f0
  ·right
   unfold fM
   have e1:(dD S x ox c).O y=S.O y:=by show jK S.O x y=_;unfold jK;rw [if_neg e]
   rw [e1]
   by_cases hy1:y=1
   ·rw [if_pos hy1,if_pos hy1]
   ·rw [if_neg hy1,if_neg hy1]
    cases hO:S.O y with
    |none=>rw [Option.map_none,Option.map_none]
    |some o'=>
     have hne:o'.j≠ox.j:=fun z=>e (h.1.inj hO hx z)
     have e2:aC (dD S x ox c) o'.j=aC S o'.j:=by
      have:aC (dD S x ox c) o'.j=if o'.j=ox.j then lG else aC S o'.j:=gB (S:=S.procs (dI S.P x c)) wY lG S.W o'.j
      rw [this,if_neg hne]
     rw [Option.map_some,Option.map_some,e2]
 ·have hr:aD S.P x=true:=by rw [←h.2.run x,hx];rfl
  obtain ⟨z,hz,_⟩:=dA.1 hr
  exact h.1.Vi.si.2 (by rw [hz];rfl)
theorem KX.zJ (h:KX w m H S U q A) {r:Option Nat}(g:w.grownBy w' r) (hr:∀x,r=some x→¬A x∧x≠4∧x≠0∧x≠8):KX w' m H S U q A:=by
 obtain ⟨G,k,e⟩:=h
 have hk:∀i,i<w.heap.size→r≠some i→w'.heap[i]? = w.heap[i]? := fun i hi hn=>g.block i hi (fun z=>hn z.symm)
 exact ⟨G,k.same g.size (fun i hi=>hk i (k.Bd i hi) (fun z=>(hr i z).1 ((e i).2 hi))) (hk _ k.qi (fun z=>(hr _ z).2.1 rfl)) (hk _ k.qm (fun z=>(hr _ z).2.2.1 rfl)) (hk _ k.jX (fun z=>(hr _ z).2.2.2 rfl)),e⟩
theorem Stp.zJ (st:Stp w V A A') {r:Option Nat}(g:V.grownBy w' r) (hr:∀x,r=some x→w.heap.size≤x):Stp w w' A A':=
 ⟨⟨g.os.trans st.wt.os,g.tape.trans st.wt.tape,g.output.trans st.wt.output,Nat.le_trans st.wt.size g.size,fun i hi hn=>by
  rw [g.block i (Nat.lt_of_lt_of_le hi st.wt.size) (fun z=>by have:=hr i z.symm;omega)]
  exact st.wt.block i hi hn⟩,st.own⟩
structure Wn (w0 w:World) (A:Nat→Prop) (v:Value) (l:List Int):Prop where
 row:w.ownsRow w0.heap.size 3 1 v l.length (l.map fun x=>.int .i64 x)
 off:∀g,v.ownBlock=some g→¬A g
theorem Wn.nil (w:World) (A:Nat→Prop):Wn w w A (.slice none 0 0) []:=⟨⟨rfl,.inl ⟨rfl,rfl⟩⟩,fun g e=>by cases e⟩
theorem Wn.p8 {w0:World}{v:Value}{l:List Int}(h:Wn w0 w A v l) (st:Stp w w' A A'):Wn w0 w' A' v l:=by
 refine ⟨⟨h.row.1,?_⟩,fun g e=>?_⟩
 ·rcases h.row.2 with z|⟨g,cap,cur,e,a1,a2,rest⟩
  ·exact .inl z
  ·refine .inr ⟨g,cap,cur,e,a1,?_,rest⟩
   rw [st.wt.block g (h.row.lt g (by rw [e];rfl)).2 (h.off g (by rw [e];rfl))]
   exact a2
 ·intro z
  rcases st.own g z with y|y
  ·exact h.off g e y
  ·have:=(h.row.lt g e).2;omega
theorem Us:∃i,Tryz.prog.info? 3=some i∧i.zero=some (.int .i64 0)∧i.size=1∧i.bytes=8:=info_parts (P:=Tryz.prog) (e:=3) (z:=.int .i64 0) (size:=1) (bytes:=8) (by kernel_rfl)
theorem Wn.more {w0:World}{v:Value}{l:List Int}(h:Wn w0 w A v l) (hl:l.length≤100) (h0:w0.heap.size≤w.heap.size) (hA:∀i,A i→i<w.heap.size) (x:Int):∃v' w',(∀ty,ty=46→(Builtin.append_ #[46,46] ty #[v,.slice (some ⟨w.heap.size,0,none⟩) 1 1]).run Tryz.prog (w.alloc (.cells #[.int .i64 x] 3))=.ok v' w')∧Wn w0 w' A v' (l ++ [x])∧w.grownBy w' v.ownBlock:=by
 obtain ⟨i0,hi0,hz0,hz1,hz2⟩:=Us
 obtain ⟨b1,s1,c1,_⟩:=sG w (.int .i64 x) 3
 have ZN:=h.row.alloc (.cells #[.int .i64 x] 3)
 obtain ⟨v',w',hr,ho,hg,_,hv⟩:=run_append_own_at (P:=Tryz.prog) (w.alloc (.cells #[.int .i64 x] 3)) w0.heap.size 46 46 3 i0 (.int .i64 0) 1 8 Tryz.underlying46 hi0 hz0 hz1 hz2 rfl (by decide) v l.length _ ZN ⟨w.heap.size,0,none⟩ 1 1 [.int .i64 x] rfl (fun j u hu=>by
  match j with
  |0=>
   simp only [List.getElem?_cons_zero,Option.some.injEq] at hu
   rw [←hu];exact c1
  |j+1=>simp at hu) (fun u hu=>by simp at hu;rw [hu];rfl) (by unfold maxLen;omega) (by omega) (by omega)
 refine ⟨v',w',fun ty e=>by rw [e];exact hr,⟨?_,fun g e=>?_⟩,?_⟩
 ·rw [List.length_append,List.map_append];exact ho
 ·rcases hv with z|z
  ·exact h.off g (by rw [←z];exact e)
  ·rw [z,s1] at e
   cases e
   intro y
   have:=hA _ y;omega
 ·exact ⟨hg.os,hg.tape,hg.output,by have:=hg.size;omega,fun i hi hn=>(hg.block i (by omega) hn).trans (b1.block i hi)⟩
end
section
variable {w w' V:World}{m:Int}{H:KH}{S:KS}{U:Nat→Nat→Int}{q:Nat}{A A':Nat→Prop}{p:Int}{o:Ow}
theorem uo.len {n:Nat}{P P':PM}{f:Int→Nat}{D D':Nat→Nat→Int}{a k v er:Int}(h:uo n P f D a k v er P' D'):bX P'=bX P:=by
 rcases h with ⟨_,_,rfl,_⟩|⟨_,_,_,_,rfl,_⟩|⟨_,_,_,_,rfl,_⟩|⟨hu,_,x,_,_,_,rfl,_⟩
 ·rfl
 ·rfl
 ·rfl
 ·refine pM ?_
  cases hP:P a with
  |none=>unfold dN at hu;rw [hP] at hu;simp at hu
  |some y=>rfl
theorem qV {P:Program}{ops:Array Oper}{rest:List Oper}{o:Oper}{a:Act}{w:World}{Q:Exit→Act→World→Prop}(hgd:o.guard=none) (s x:Operand) (t:TypeId)
 (ho:o.op=.call { callee:=.builtin .append,args:=#[s,x],argTypes:=#[t,t] }) (v y v':Value) (w':World) (hs:a.eval s=v) (hx:a.eval x=y)
 (hr:(Builtin.append_ #[t,t] o.type #[v,y]).run P w=.ok v' w') (h:wpList P ops Q rest (a.put o.dst v') w'):wpList P ops Q (o :: rest) a w:=by
 refine wpList_plain hgd fun K hK=>?_
 unfold Oper.wp execOp
 simp only [ho,resolve,invoke,builtin,Sem.run_bind,Sem.run_pure,Result.andThen_ok,List.map_toArray,List.map_cons,List.map_nil,hs,hx,hr]
 exact hK _ _ h
def DY (w:World) (m:Int) (H:KH) (S:KS) (q:Nat) (A:Nat→Prop) (p a k v:Int) (vw:Value) (er:Int) (w':World):Prop:=∃went S' A',dP p a k v S went er S'∧Wn w w' A' vw went∧KN w' m H S' q A'∧Stp w w' A A'
def vZ (w:World) (m:Int) (H:KH) (S:KS) (q:Nat) (A:Nat→Prop) (p a k v:Int) (o:Ow) (mm:Nat) (vw:Value) (wr:World):Prop:=∃l Sk Ak,(dQ Sk).length≤mm∧l.length+(dQ Sk).length≤24∧Sk.O p=some o∧(∀rest er S',dP p a k v Sk rest er S'→dP p a k v S (l ++ rest) er S')∧Wn w wr Ak vw l∧KN wr m H Sk q Ak∧Stp w wr A Ak
theorem Wn.lt {w0:World}{v:Value}{l:List Int}(h:Wn w0 w A v l):∀g,v.ownBlock=some g→w0.heap.size≤g∧g<w.heap.size:=h.row.lt
theorem vZ.step (hg:4<w.heap.size∧0<w.heap.size∧8<w.heap.size) {a k v:Int}{mm:Nat}{vw:Value}{wr:World}(h:vZ w m H S q A p a k v o mm vw wr) (hq:q≤400) (ha:(Lit.int .i64 a).wf=true) :
 wr.cell? ⟨H.hs o.j,0,none⟩=some (wp (H.sp o.j))∧Calls Tryz.prog 182 #[wp (H.sp o.j),.int .i64 a,.int .i64 k,.int .i64 v] wr fun y w1=>∃er,y=.returned (aI er)∧Calls Tryz.prog 14 #[aI er] w1 fun y w2=>y=.returned (.int .i64 er)∧(er≠12→DY w m H S q A p a k v vw er w2)∧
  (er=12→Calls Tryz.prog 184 #[wp H.kb] w2 fun y w3=>∃z,y=.returned z∧Calls Tryz.prog 183 #[z] w3 fun y w4=>∃X ok,y=.returned (.tuple #[.int .i64 X,.bool ok])∧(ok=false→DY w m H S q A p a k v vw 12 w4)∧
    (ok=true→Calls Tryz.prog 129 #[wp H.kb,.int .i64 X,.int .i64 108] w4 fun y w5=>y=.returned .nilIface∧∃v9 w9,(Builtin.append_ #[46,46] 46 #[vw,.slice (some ⟨w5.heap.size,0,none⟩) 1 1]).run Tryz.prog (w5.alloc (.cells #[.int .i64 X] 3))=.ok v9 w9∧(X=p→DY w m H S q A p a k v v9 10 w9)∧(X≠p→vZ w m H S q A p a k v o (mm-1) v9 w9∧1≤mm))):=by
 obtain ⟨l,Sk,Ak,h1,h2,ho,hacc,hw,hk,st⟩:=h
 refine ⟨(hk.1.hd ho).at 0,(hk.1.aag (hk.1.rR ho) a k v ha).mono ?_⟩
 rintro y w1 ⟨P',D',er,hS,rfl,A1,k1,st1⟩
 have kn1:KN w1 m H (Sk.space o.j P' D') q A1:=k1.RH hk.2 ho hk.1.len (hk.1.rR ho) hS.len
 refine ⟨er,rfl,(Ga er w1 k1.er).mono ?_⟩
 rintro y w2 ⟨rfl,b2⟩
 have hw1:=hw.p8 st1
 have st2:Stp w w2 A A1:=(st.trans st1).trans (.below b2)
 have hw2:=hw1.p8 (.below b2)
 have Vu:=kn1.below b2
 refine ⟨rfl,fun hne=>⟨l,_,A1,by have:=hacc _ _ _ (.done ho hS hne);rwa [List.append_nil] at this,hw2,Vu,st2⟩,fun h12=>?_⟩
 subst h12
 obtain ⟨rfl,rfl⟩:=hS.refused (by omega)
 rw [jS (hk.1.mlt ho)] at Vu
 refine Vu.1.candidates.mono ?_
 rintro y w3 ⟨ad,cap,rfl,hcd,b3⟩
 refine ⟨_,rfl,(VW w3 ad (dQ Sk) cap (by have:=Dk Sk;omega) hcd).mono ?_⟩
 rintro y w4 ⟨rfl,b4⟩
 have b24:Below w2.heap.size w2 w4:=b3.trans (b4.mono b3.size)
 have kn4:=Vu.below b24
 have st4:Stp w w4 A A1:=st2.trans (.below b24)
 have hw4:=hw2.p8 (.below b24)
 refine ⟨_,_,rfl,fun hok=>?_,fun hok=>?_⟩
 ·have hv:¬0<(vJ (dQ Sk)).1:=by simpa using hok
  exact ⟨l,Sk,A1,by have:=hacc _ _ _ (.nobody ho hS hv);rwa [List.append_nil] at this,hw4,kn4,st4⟩
 ·have hv:0<(vJ (dQ Sk)).1:=by simpa using hok
  obtain ⟨hx1,ox,hxo,hxr⟩:=Sz hv
  refine (kn4.EA hxo hq hx1 108).mono ?_
  rintro y w5 ⟨rfl,A5,k5,st5⟩
  have hw5:=hw4.p8 st5
  have acs:=st4.trans st5
  obtain ⟨v9,w9,hr,YK,IW⟩:=hw5.more (by omega) acs.wt.size k5.1.lt (vJ (dQ Sk)).2
  have hout:∀x,vw.ownBlock=some x→¬A5 x∧x≠4∧x≠0∧x≠8:=fun x e=>by
   have:=(hw5.lt x e).1
   exact ⟨hw5.off x e,by omega,by omega,by omega⟩
  have k9:KN w9 m H (dD Sk (vJ (dQ Sk)).2 ox 108) q A5:=⟨k5.1.zJ IW hout,k5.2⟩
  have st9:Stp w w9 A A5:=acs.zJ IW (fun x e=>(hw5.lt x e).1)
  refine ⟨rfl,v9,w9,hr _ rfl,fun he=>?_,fun hne=>?_⟩
  ·subst he
   have:ox=o:=by rw [ho] at hxo;exact (Option.some.inj hxo).symm
   subst this
   exact ⟨_,_,A5,hacc _ _ _ (.self ho hS hv rfl),YK,k9,st9⟩
  ·have hlt:=Qo hk hxo hx1 108
   refine ⟨⟨_,_,A5,by omega,?_,?_,fun rest er S' r=>?_,YK,k9,st9⟩,by omega⟩
   ·rw [List.length_append];simp only [List.length_cons,List.length_nil];omega
   ·show jK Sk.O (vJ (dQ Sk)).2 p=some o
    unfold jK
    rw [if_neg (Ne.symm hne)];exact ho
   ·rw [List.append_assoc]
    exact hacc _ _ _ (.goes ho hS hv rfl hxo hx1 hne r)
theorem KN.Oa (h:KN w m H S q A) (ho:S.O p=some o) (hq:q≤400) (a k v:Int) (ha:(Lit.int .i64 a).wf=true) :
 Calls Tryz.prog 116 #[wp H.kb,.int .i64 p,.int .i64 a,.int .i64 k,.int .i64 v] w fun y w'=>∃vw er,y=.returned (.tuple #[vw,aI er])∧DY w m H S q A p a k v vw er w':=by
 have hF:=h.1.ay ho
 have hg:4<w.heap.size∧0<w.heap.size∧8<w.heap.size:=by
  obtain ⟨G,k,e⟩:=h.1
  exact ⟨k.qi,k.qm,k.jX⟩
 have h0:vZ w m H S q A p a k v o (dQ S).length (.slice none 0 0) w:=⟨[],S,A,Nat.le_refl _,by have:=Dk S;simpa using this,ho,fun _ _ _ r=>r,Wn.nil w A,h,Stp.refl _ _⟩
 have hstep:=fun mm vw wr (hh:vZ w m H S q A p a k v o mm vw wr)=>hh.step hg hq ha
 have HS:Aside _:=hstep
 have H0:Aside _:=h0
 generalize (dQ S).length=N at *
 go_enter Tryz.func116,Tryz.ntmps116
 go_wp2_with (go_at_call 127;refine hF.mono ?_;rintro e w1 ⟨rfl,hw⟩;subst w1)
 go_loopg [14] N (fun mm s14 wr=>vZ w m H S q A p a k v o mm s14 wr)
 case atStart=>exact H0.out
 case round=>
  obtain ⟨d0,hSt⟩:=HS.out gk u14 wr hrel
  go_upto_region 6 with (go_at_call 182;refine hSt.mono ?_;rintro e w1 ⟨er,rfl,hT⟩)
  by_cases h12:er=12
  ·subst h12
   go_upto_region 9 with (first
    |(go_at_call 14;refine hT.mono ?_;rintro e w2 ⟨rfl,hx,hc⟩;have hc9:=hc rfl;clear hx hc)
    |(go_at_call 184;refine hc9.mono ?_;rintro e w3 ⟨z,rfl,hV⟩)
    |(go_at_call 183;refine hV.mono ?_;rintro e w4 ⟨X,ok,rfl,hf,ht⟩))
   have HF:Aside _:=hf
   have HT:Aside _:=ht
   cases ok with
   |false=>
    have hR:=HF.out rfl
    have HR:Aside _:=hR
    go_wp2_with fail
    go_ret2
    exact ⟨_,12,rfl,HR.out⟩
   |true=>
    have hE:=HT.out rfl
    go_upto_region 14 with (go_at_call 129;refine hE.mono ?_;rintro e w5 ⟨rfl,v9,w9,hrun,hp,hn⟩)
    have HP:Aside _:=hp
    have HN:Aside _:=hn
    by_cases hX:X=p
    ·have hR:=HP.out hX
     have HR:Aside _:=hR
     subst hX
     go_wp2_with (at_builtin;refine qV rfl _ _ 46 rfl _ _ v9 w9 rfl rfl hrun ?_)
     go_ret2
     exact ⟨_,10,rfl,HR.out⟩
    ·have hR:=HN.out hX
     have HR:Aside _:=hR
     have hX':(X == p)=false:=by simpa using hX
     go_wp2_with (at_builtin;refine qV rfl _ _ 46 rfl _ _ v9 w9 rfl rfl hrun ?_)
     go_roundg (gk-1)
     case measure=>have:=HR.out.2;omega
     case rel=>exact HR.out.1
  ·have Jh:(er != 12)=true:=by simpa using h12
   have HN:Aside (er≠12):=h12
   go_wp2_with (go_at_call 14;refine hT.mono ?_;rintro e w2 ⟨rfl,hx,hc⟩;have HX:Aside _:=hx;clear hx hc)
   go_ret2
   exact ⟨_,er,rfl,HX.out HN.out⟩
end
section
variable {w w' V:World}{m:Int}{H:KH}{S:KS}{U:Nat→Nat→Int}{q:Nat}{A A':Nat→Prop}{p:Int}{o:Ow}
noncomputable def xW (S:KS) (o:Ow) (x:Int) (s:List UInt8):Int×Int×DS:=bZ S.D (au S o.j) x s (o.m 2)
noncomputable def jY (S:KS) (p:Int) (o:Ow) (x:Int) (s:List UInt8):KS:=
 if (xW S o x s).2.1=14 then (S.files (xW S o x s).2.2 o.j (au S o.j)).procs (if eX S.P p 5=0 then kC S.P p 5 else S.P) else S.files (xW S o x s).2.2 o.j (au S o.j)
theorem KN.Ny (h:KN w m H S q A) (ho:S.O p=some o) (x:Int) (s:List UInt8) (hs:s.length<100000) :
 Calls Tryz.prog 120 #[wp H.kb,.int .i64 p,.int .i64 x,tx s] w fun y w'=>y=.returned (.tuple #[.int .i64 (xW S o x s).1,aI (xW S o x s).2.1])∧∃A',KN w' m H (jY S p o x s) (q+1) A'∧Stp w w' A A':=by
 have hF:=h.1.ay ho
 have hj:=h.1.rR ho
 have c0:=h.1.kP ho
 have hm:Calls Tryz.prog 188 #[lq (H.hs o.j),.int .i64 2] w.drew fun e w'=>e=.returned (.int .i64 (o.m 2))∧w'=w.drew:=((h.1.below (bH w)).hd ho).most 2 (by omega) (by omega)
 have hU:Calls Tryz.prog 187 #[wp H.f,wp (H.tb o.j),.int .i64 x,tx s,.int .i64 (o.m 2)] w.drew fun y w'=>y=.returned (.tuple #[.int .i64 (xW S o x s).1,aI (xW S o x s).2.1])∧(w'.cell? ⟨H.kb,2,none⟩=some (wp H.f)∧w'.cell? ⟨H.hs o.j,1,none⟩=some (wp (H.tb o.j)))∧Calls Tryz.prog 14 #[aI (xW S o x s).2.1] w' fun y w2=>y=.returned (.int .i64 (xW S o x s).2.1)∧w2.cell? ⟨H.kb,3,none⟩=some (wp H.t)∧((xW S o x s).2.1≠14→∃A',KN w2 m H (jY S p o x s) (q+1) A'∧Stp w w2 A A')∧((xW S o x s).2.1=14→Calls Tryz.prog 163 #[wp H.t,.int .i64 p,.int .i64 5] w2 fun y w3=>∃z,y=.returned z∧∃A',KN w3 m H (jY S p o x s) (q+1) A'∧Stp w w3 A A'):=by
  refine ((h.1.below (bH w)).Z8 hj x s hs (o.m 2)).mono ?_
  rintro y w1 ⟨rfl,A1,h1,st1⟩
  have st1':Stp w w1 A A1:=Stp.base (V:=w.drew) rfl rfl rfl rfl st1
  refine ⟨rfl,h1.kP (p:=p) (o:=o) ho,(Ga _ w1 h1.er).mono ?_⟩
  rintro y w2 ⟨rfl,b2⟩
  have kn1:KN w1 m H (S.files (xW S o x s).2.2 o.j (au S o.j)) (q+1) A1:=h1.ze h.2 ho hj rfl
  have Vu:=kn1.below b2
  have st2:Stp w w2 A A1:=st1'.trans (.below b2)
  refine ⟨rfl,Vu.1.c3,fun hne=>⟨A1,?_,st2⟩,fun he=>?_⟩
  ·unfold jY;rw [if_neg hne];exact Vu
  ·refine (Vu.1.Za p 5 (h.1.YG ho)).mono ?_
   rintro y w3 ⟨rfl,A3,k3,wW⟩
   refine ⟨_,rfl,A3,?_,st2.trans wW⟩
   unfold jY
   rw [if_pos he]
   exact k3.yV Vu.2 (fun x=>Cn _ _ _ _)
 generalize jY S p o x s=S2 at *
 generalize (xW S o x s).1=K at *
 generalize (xW S o x s).2.1=E at *
 generalize o.m 2=M2 at *
 go_enter Tryz.func120,Tryz.ntmps120
 go_upto_region 4 with (go_at_call 127;refine hF.mono ?_;rintro e w1 ⟨rfl,hw⟩;subst w1)
 go_region_held3 (fun w'=>w'.cell? ⟨H.kb,2,none⟩=some (wp H.f)∧w'.cell? ⟨H.hs o.j,1,none⟩=some (wp (H.tb o.j))) (first|exact c0|exact c1) (first
  |(go_at_call 188;refine hm.mono ?_;rintro e w9 ⟨rfl,YK⟩;subst w9)
  |(go_at_call 187;refine hU.mono ?_;rintro e w1 ⟨rfl,c1,hT⟩))
 all_goals
  by_cases hE:E=14
  ·subst hE
   go_upto_region 6 with (go_at_call 14;refine hT.mono ?_;rintro e w2 ⟨rfl,c3,hn,hy⟩)
   have hy9:=hy trivial
   go_wp2_with (go_at_call 163;refine hy9.mono ?_;rintro e w3 ⟨z,rfl,hR⟩)
   go_ret2
   exact ⟨rfl,hR⟩
  ·have hE':(E == 14)=false:=by simpa using hE
   have HE:Aside (E≠14):=hE
   go_wp2_with (go_at_call 14;refine hT.mono ?_;rintro e w2 ⟨rfl,c3,hn,hy⟩;have HN:Aside _:=hn;clear hn hy)
   go_ret2
   exact ⟨rfl,HN.out HE.out⟩
end
theorem aa6 {T:Wd}{s:Nat}{p:List UInt8}{z:Int}(hT:TrOk T) (hs:dF T s) (hM:aY T s p=0) (hz:gq T z):z<64:=by
 have acF:=(mF hT hM).2.2.2
 have h9:=hs.free (k:=z.toNat) (fun i hi=>hz.least i (by omega) (by have:=hz.pos;omega))
 have:=hz.pos
 omega
section
variable {D:DS}{Ts:List Ns}{k:Nat}
theorem Inv.link (h:Inv D Ts k) (p q:List UInt8):Inv { D with T:=kS D.T p q } Ts (k+1):=h.Nk (h.core.lv.link p q) (h.core.sm.link p q)
theorem Inv.rename (h:Inv D Ts k) (p q:List UInt8):Inv { D with T:=fG D.T p q } Ts (k+1):=h.Nk (h.core.lv.rename p q) (h.core.sm.rename p q)
theorem Inv.make (h:Inv D Ts k) {s:Nat}(hs:dF D.T s) {p:List UInt8}(hE:aY D.T s p=0) {z:Int}(hz:gq D.T z) (dir:Bool):Inv { D with T:=je D.T p dir z } Ts (k+1):=
 h.Nk (h.core.lv.make hE hz (aa6 h.core.lv.toTrOk hs hE hz) dir) (h.core.sm.make p dir z)
end
section
variable {w w' V:World}{m:Int}{H:KH}{S:KS}{U:Nat→Nat→Int}{q:Nat}{A A':Nat→Prop}{p:Int}{o:Ow}{f r k:Nat}{D:DS}{bs:List Nat}{Ts:List Ns}
theorem KD.Lu (h:KD w m f r D bs Ts k A) {fn:FuncId}{args:Array Value}{Q:Ending→Wd→Prop}(hI:∀y T',Q y T'→Inv { D with T:=T' } Ts (k+1))
 (hc:∀O,PT w r D.T O→Calls Tryz.prog fn args w fun y w'=>∃T' O',Q y T'∧PT w' r T' O'∧Stp w w' O O') :
 Calls Tryz.prog fn args w fun y w'=>∃T' A',Q y T'∧KD w' m f r { D with T:=T' } bs Ts (k+1) A'∧Stp w w' A A':=by
 obtain ⟨g,n,h1,hr,ht,hA⟩:=h.st
 obtain ⟨O,pt,hO⟩:=h1.tree
 rw [hr] at pt
 refine (hc O pt).mono ?_
 rintro y w' ⟨T',O',hQ,p',st⟩
 rw [←hr] at p'
 obtain ⟨g',a1,a2,a3,a4,_⟩:=h1.turn hO p' st
 have hst:Stp w w' A (fun i=>A i∨(w.heap.size≤i∧i<w'.heap.size)):=⟨st.wt.mono (fun i hi=>hA i (by rw [hO i hi];rfl)),fun i hi=>by
  rcases hi with hi|hi
  ·exact .inl hi
  ·exact .inr hi.1⟩
 refine ⟨T',_,hQ,⟨⟨g',n,a1,a4.trans hr,fun x hx hx'=>?_,fun i hi=>?_⟩,h.len,h.nd,fun b hb=>.inl (h.Vk b hb),hI y T' hQ,fun i hi=>?_,(hst.cO h.ml h.mn).1,(hst.cO h.ml h.mn).2,(hst.cO h.er h.en).1,(hst.cO h.er h.en).2⟩,hst⟩
 ·obtain ⟨Mx,tx⟩:=ht x hx hx'
  exact ⟨Mx,tx.Ra (st.wt.block _ tx.tab.lt (fun o=>by have:=hO _ o;rw [tx.off] at this;cases this)) a2 a3⟩
 ·by_cases e1:i<w.heap.size
  ·rw [a2 i e1] at hi;exact .inl (hA i hi)
  ·exact .inr ⟨by omega,a1.lt i hi⟩
 ·rcases hi with hi|hi
  ·exact Nat.lt_of_lt_of_le (h.lt i hi) st.wt.size
  ·exact hi.2
theorem KN.VZ (h:KN w m H S q A) (hq:q≤400) (s:List UInt8) (hs:s.length<100000) :
 Calls Tryz.prog 185 #[wp H.r,tx s] w fun y w'=>y=.returned (aI (dV S.D.T s))∧∃A',KN w' m H (S.tree (fF S.D.T s)) (q+1) A'∧Stp w w' A A':=by
 refine (h.1.Ls (Q:=fun y T'=>y=.returned (aI (dV S.D.T s))∧T'=fF S.D.T s) (fun bs Ad kd=>kd.Lu (fun y T' hQ=>?_) (fun O pt=>?_))).mono ?_
 ·obtain ⟨_,rfl⟩:=hQ;exact kd.inv.unlink s
 ·refine (pt.NS kd.inv.core.lv s hs m kd.ml (fun i C e=>by have:=kd.inv.core.sm.1 i C e;omega)).mono ?_
  rintro y w' ⟨rfl,p',st⟩
  exact ⟨_,_,⟨rfl,rfl⟩,p',st⟩
 ·rintro y w' ⟨T',⟨rfl,rfl⟩,A',k',st⟩
  exact ⟨rfl,A',k'.Lt h.2,st⟩
theorem KN.sV (h:KN w m H S q A) (ho:S.O p=some o) (hq:q≤400) (s:List UInt8) (hs:s.length<100000) :
 Calls Tryz.prog 117 #[wp H.kb,.int .i64 p,tx s] w fun y w'=>y=.returned (aI (dV S.D.T s))∧∃A',KN w' m H (S.tree (fF S.D.T s)) (q+1) A'∧Stp w w' A A':=by
 have hF:=h.1.ay ho
 have c1:=h.1.c1
 have hU:=h.VZ hq s hs
 generalize S.tree (fF S.D.T s)=S2 at *
 generalize dV S.D.T s=E at *
 go_enter Tryz.func117,Tryz.ntmps117
 go_wp2_with (first
  |(go_at_call 127;refine hF.mono ?_;rintro e w1 ⟨rfl,hw⟩;subst w1)
  |(go_at_call 185;refine hU.mono ?_;rintro e w1 ⟨rfl,hR⟩))
 go_ret
 exact ⟨rfl,hR⟩
theorem KN.adq (h:KN w m H S q A) (hq:q≤400) (s u:List UInt8) (hs:s.length<100000) (hu:u.length<100000) :
 Calls Tryz.prog 164 #[wp H.r,tx s,tx u] w fun y w'=>y=.returned (aI (ky S.D.T s u))∧∃A',KN w' m H (S.tree (kS S.D.T s u)) (q+1) A'∧Stp w w' A A':=by
 refine (h.1.Ls (Q:=fun y T'=>y=.returned (aI (ky S.D.T s u))∧T'=kS S.D.T s u) (fun bs Ad kd=>kd.Lu (fun y T' hQ=>?_) (fun O pt=>?_))).mono ?_
 ·obtain ⟨_,rfl⟩:=hQ;exact kd.inv.link s u
 ·refine (pt.XA kd.inv.core.lv s u hs hu m kd.ml (fun i C e=>by have:=kd.inv.core.sm.1 i C e;omega)).mono ?_
  rintro y w' ⟨rfl,p',st⟩
  exact ⟨_,_,⟨rfl,rfl⟩,p',st⟩
 ·rintro y w' ⟨T',⟨rfl,rfl⟩,A',k',st⟩
  exact ⟨rfl,A',k'.Lt h.2,st⟩
theorem KN.zG (h:KN w m H S q A) (ho:S.O p=some o) (hq:q≤400) (s u:List UInt8) (hs:s.length<100000) (hu:u.length<100000) :
 Calls Tryz.prog 102 #[wp H.kb,.int .i64 p,tx s,tx u] w fun y w'=>y=.returned (aI (ky S.D.T s u))∧∃A',KN w' m H (S.tree (kS S.D.T s u)) (q+1) A'∧Stp w w' A A':=by
 have hF:=h.1.ay ho
 have c1:=h.1.c1
 have hU:=h.adq hq s u hs hu
 generalize S.tree (kS S.D.T s u)=S2 at *
 generalize ky S.D.T s u=E at *
 go_enter Tryz.func102,Tryz.ntmps102
 go_wp2_with (first
  |(go_at_call 127;refine hF.mono ?_;rintro e w1 ⟨rfl,hw⟩;subst w1)
  |(go_at_call 164;refine hU.mono ?_;rintro e w1 ⟨rfl,hR⟩))
 go_ret
 exact ⟨rfl,hR⟩
theorem KN.WC (h:KN w m H S q A) (hq:q≤400) (s u:List UInt8) (hs:s.length<100000) (hu:u.length<100000) :
 Calls Tryz.prog 180 #[wp H.r,tx s,tx u] w fun y w'=>y=.returned (aI (eZ S.D.T s u))∧∃A',KN w' m H (S.tree (fG S.D.T s u)) (q+1) A'∧Stp w w' A A':=by
 refine (h.1.Ls (Q:=fun y T'=>y=.returned (aI (eZ S.D.T s u))∧T'=fG S.D.T s u) (fun bs Ad kd=>kd.Lu (fun y T' hQ=>?_) (fun O pt=>?_))).mono ?_
 ·obtain ⟨_,rfl⟩:=hQ;exact kd.inv.rename s u
 ·refine (pt.Oy kd.inv.core.lv s u hs hu m kd.ml (fun i C e=>by have:=kd.inv.core.sm.1 i C e;omega)).mono ?_
  rintro y w' ⟨rfl,p',st⟩
  exact ⟨_,_,⟨rfl,rfl⟩,p',st⟩
 ·rintro y w' ⟨T',⟨rfl,rfl⟩,A',k',st⟩
  exact ⟨rfl,A',k'.Lt h.2,st⟩
theorem KN.sZ (h:KN w m H S q A) (ho:S.O p=some o) (hq:q≤400) (s u:List UInt8) (hs:s.length<100000) (hu:u.length<100000) :
 Calls Tryz.prog 114 #[wp H.kb,.int .i64 p,tx s,tx u] w fun y w'=>y=.returned (aI (eZ S.D.T s u))∧∃A',KN w' m H (S.tree (fG S.D.T s u)) (q+1) A'∧Stp w w' A A':=by
 have hF:=h.1.ay ho
 have c1:=h.1.c1
 have hU:=h.WC hq s u hs hu
 generalize S.tree (fG S.D.T s u)=S2 at *
 generalize eZ S.D.T s u=E at *
 go_enter Tryz.func114,Tryz.ntmps114
 go_wp2_with (first
  |(go_at_call 127;refine hF.mono ?_;rintro e w1 ⟨rfl,hw⟩;subst w1)
  |(go_at_call 180;refine hU.mono ?_;rintro e w1 ⟨rfl,hR⟩))
 go_ret
 exact ⟨rfl,hR⟩
def Q6 (T:Wd) (s:Nat) (path:List UInt8) (c:Int) (T':Wd):Prop:=(aY T s path≠0∧c=aY T s path∧T'=T)∨(aY T s path=0∧c=0∧∃z,gq T z∧T'=je T path true z)
theorem KN.aaS (h:KN w m H S q A) (hq:q≤400) {s:Nat}(hs:dF S.D.T s) (path:List UInt8) (hp:path.length<100000) :
 Calls Tryz.prog 173 #[wp H.r,tx path] w fun y w'=>∃x c T',y=.returned (.tuple #[.int .i64 x,aI c])∧Q6 S.D.T s path c T'∧∃A',KN w' m H (S.tree T') (q+1) A'∧Stp w w' A A':=by
 refine (h.1.Ls (Q:=fun y T'=>∃x c,y=.returned (.tuple #[.int .i64 x,aI c])∧Q6 S.D.T s path c T') (fun bs Ad kd=>kd.Lu (fun y T' hQ=>?_) (fun O pt=>?_))).mono ?_
 ·obtain ⟨x,c,_,hM⟩:=hQ
  rcases hM with ⟨_,_,rfl⟩|⟨hE,_,z,hz,rfl⟩
  ·exact kd.inv.more (by omega)
  ·exact kd.inv.make hs hE hz true
 ·refine (pt.TZ kd.inv.core.lv hs path hp m kd.ml (fun i C e=>by have:=kd.inv.core.sm.1 i C e;omega)).mono ?_
  rintro y w' (⟨hE,rfl,p',st⟩|⟨hE,z,O',hz,h64,rfl,p',st⟩)
  ·exact ⟨_,_,⟨0,aY S.D.T s path,by rw [ax hE],.inl ⟨hE,rfl,rfl⟩⟩,p',st⟩
  ·exact ⟨_,_,⟨z,0,rfl,.inr ⟨hE,rfl,z,hz,rfl⟩⟩,p',st⟩
 ·rintro y w' ⟨T',⟨x,c,rfl,hM⟩,A',k',st⟩
  exact ⟨x,c,T',rfl,hM,A',k'.Lt h.2,st⟩
theorem KN.O7 (h:KN w m H S q A) (ho:S.O p=some o) (hq:q≤400) {s:Nat}(hs:dF S.D.T s) (path:List UInt8) (hp:path.length<100000) :
 Calls Tryz.prog 108 #[wp H.kb,.int .i64 p,tx path] w fun y w'=>∃c T',y=.returned (aI c)∧Q6 S.D.T s path c T'∧∃A',KN w' m H (S.tree T') (q+1) A'∧Stp w w' A A':=by
 have hF:=h.1.ay ho
 have c1:=h.1.c1
 have hU:=h.aaS hq hs path hp
 go_enter Tryz.func108,Tryz.ntmps108
 go_wp2_with (first
  |(go_at_call 127;refine hF.mono ?_;rintro e w1 ⟨rfl,hw⟩;subst w1)
  |(go_at_call 173;refine hU.mono ?_;rintro e w1 ⟨x,c,T',rfl,hR⟩))
 go_ret
 exact ⟨c,T',rfl,hR⟩
end
section
variable {w w' w1 w2 V:World}{m:Int}{H:KH}{S:KS}{U:Nat→Nat→Int}{q:Nat}{G:KG}{A A' X:Nat→Prop}{p:Int}{o:Ow}
theorem KX.adC (h:KX w m H S U q A) (ho:S.O p=some o) (hq:q≤400) (x y9:Int) {xk xh xn xt:Nat}(hb:rP w A [(xk,wp H.kb),(xh,wp (H.hs o.j)),(xn,.int .i64 x),(xt,.int .i64 y9)]) :
 Calls Tryz.prog 155 #[wp xk,wp xh,wp xn,wp xt] w fun y w'=>y=.returned (aI (fD (au S o.j) x y9))∧∃A',KX w' m H (S.files (fV S.D (au S o.j) x y9) o.j (fC (au S o.j) x y9)) U q A'∧Stp w w' A A':=by
 have cells:∀ {w':World}{A':Nat→Prop}{S':KS},KX w' m H S' U q A'→S'.O p=some o→rP w' A' [(xk,wp H.kb),(xh,wp (H.hs o.j)),(xn,.int .i64 x),(xt,.int .i64 y9)]→w'.cell? ⟨xk,0,none⟩=some (wp H.kb)∧w'.cell? ⟨H.kb,2,none⟩=some (wp H.f)∧w'.cell? ⟨xh,0,none⟩=some (wp (H.hs o.j))∧w'.cell? ⟨H.hs o.j,1,none⟩=some (wp (H.tb o.j))∧w'.cell? ⟨xn,0,none⟩=some (.int .i64 x)∧w'.cell? ⟨xt,0,none⟩=some (.int .i64 y9):=fun h' ho' b'=>
  ⟨(b' (xk,_) (by simp)).1,h'.c2,(b' (xh,_) (by simp)).1,(h'.hd ho').at 1,(b' (xn,_) (by simp)).1,(b' (xt,_) (by simp)).1⟩
 have c0:=cells h ho hb
 have hM:Calls Tryz.prog 156 #[wp H.f,wp (H.tb o.j),.int .i64 x,.int .i64 y9] w.drew fun y w'=>y=.returned (aI (fD (au S o.j) x y9))∧(w'.cell? ⟨xk,0,none⟩=some (wp H.kb)∧w'.cell? ⟨H.kb,2,none⟩=some (wp H.f)∧w'.cell? ⟨xh,0,none⟩=some (wp (H.hs o.j))∧w'.cell? ⟨H.hs o.j,1,none⟩=some (wp (H.tb o.j))∧w'.cell? ⟨xn,0,none⟩=some (.int .i64 x)∧w'.cell? ⟨xt,0,none⟩=some (.int .i64 y9))∧∃A',KX w' m H (S.files (fV S.D (au S o.j) x y9) o.j (fC (au S o.j) x y9)) U q A'∧Stp w w' A A':=by
  refine ((h.below (bH w)).adD (h.rR ho) hq x y9).mono ?_
  rintro y w' ⟨rfl,A',h',st⟩
  have st':Stp w w' A A':=Stp.base (V:=w.drew) rfl rfl rfl rfl st
  exact ⟨rfl,cells h' ho (hb.p8 st'),A',h',st'⟩
 generalize S.files (fV S.D (au S o.j) x y9) o.j (fC (au S o.j) x y9)=S2 at *
 generalize (fD (au S o.j) x y9:Int)=E at *
 go_enter Tryz.func155,Tryz.ntmps155
 go_upto_region 1 with fail
 go_region_held3 (fun w'=>w'.cell? ⟨xk,0,none⟩=some (wp H.kb)∧w'.cell? ⟨H.kb,2,none⟩=some (wp H.f)∧w'.cell? ⟨xh,0,none⟩=some (wp (H.hs o.j))∧w'.cell? ⟨H.hs o.j,1,none⟩=some (wp (H.tb o.j))∧w'.cell? ⟨xn,0,none⟩=some (.int .i64 x)∧w'.cell? ⟨xt,0,none⟩=some (.int .i64 y9)) (first|exact c0|exact c1) (first
  |(go_at_call 156;refine hM.mono ?_;rintro e w1 ⟨rfl,c1,hR⟩))
 all_goals
  go_wp2_with fail
  go_ret
  exact ⟨rfl,hR⟩
theorem KX.adB (h:KX w m H S U q A) (ho:S.O p=some o) (hq:q≤400) (y9:Int) {xk xh xt:Nat}(hb:rP w A [(xk,wp H.kb),(xh,wp (H.hs o.j)),(xt,.int .i64 y9)]) :
 Calls Tryz.prog 157 #[wp xk,wp xh,wp xt] w fun y w'=>y=.returned (aI (if aJ (au S o.j) y9=true then 0 else 7))∧∃A',KX w' m H (S.files (iU S.D (au S o.j) y9) o.j (gX (au S o.j) y9)) U q A'∧Stp w w' A A':=by
 have cells:∀ {w':World}{A':Nat→Prop}{S':KS},KX w' m H S' U q A'→S'.O p=some o→rP w' A' [(xk,wp H.kb),(xh,wp (H.hs o.j)),(xt,.int .i64 y9)]→w'.cell? ⟨xk,0,none⟩=some (wp H.kb)∧w'.cell? ⟨H.kb,2,none⟩=some (wp H.f)∧w'.cell? ⟨xh,0,none⟩=some (wp (H.hs o.j))∧w'.cell? ⟨H.hs o.j,1,none⟩=some (wp (H.tb o.j))∧w'.cell? ⟨xt,0,none⟩=some (.int .i64 y9):=fun h' ho' b'=>
  ⟨(b' (xk,_) (by simp)).1,h'.c2,(b' (xh,_) (by simp)).1,(h'.hd ho').at 1,(b' (xt,_) (by simp)).1⟩
 have c0:=cells h ho hb
 have hM:Calls Tryz.prog 148 #[wp H.f,wp (H.tb o.j),.int .i64 y9] w.drew fun y w'=>y=.returned (aI (if aJ (au S o.j) y9=true then 0 else 7))∧(w'.cell? ⟨xk,0,none⟩=some (wp H.kb)∧w'.cell? ⟨H.kb,2,none⟩=some (wp H.f)∧w'.cell? ⟨xh,0,none⟩=some (wp (H.hs o.j))∧w'.cell? ⟨H.hs o.j,1,none⟩=some (wp (H.tb o.j))∧w'.cell? ⟨xt,0,none⟩=some (.int .i64 y9))∧∃A',KX w' m H (S.files (iU S.D (au S o.j) y9) o.j (gX (au S o.j) y9)) U q A'∧Stp w w' A A':=by
  refine ((h.below (bH w)).Sg (h.rR ho) hq y9).mono ?_
  rintro y w' ⟨rfl,A',h',st⟩
  have st':Stp w w' A A':=Stp.base (V:=w.drew) rfl rfl rfl rfl st
  exact ⟨rfl,cells h' ho (hb.p8 st'),A',h',st'⟩
 generalize S.files (iU S.D (au S o.j) y9) o.j (gX (au S o.j) y9)=S2 at *
 generalize (if aJ (au S o.j) y9=true then 0 else 7:Int)=E at *
 go_enter Tryz.func157,Tryz.ntmps157
 go_upto_region 1 with fail
 go_region_held3 (fun w'=>w'.cell? ⟨xk,0,none⟩=some (wp H.kb)∧w'.cell? ⟨H.kb,2,none⟩=some (wp H.f)∧w'.cell? ⟨xh,0,none⟩=some (wp (H.hs o.j))∧w'.cell? ⟨H.hs o.j,1,none⟩=some (wp (H.tb o.j))∧w'.cell? ⟨xt,0,none⟩=some (.int .i64 y9)) (first|exact c0|exact c1) (first
  |(go_at_call 148;refine hM.mono ?_;rintro e w1 ⟨rfl,c1,hR⟩))
 all_goals
  go_wp2_with fail
  go_ret
  exact ⟨rfl,hR⟩
theorem P7 {N:Ns}{x y:Int}(h:fD N x y=0):aJ N x=true∧0≤y∧y≤7:=by
 unfold fD at h
 split at h
 ·rename_i hx
  split at h
  ·rename_i hy;exact ⟨hx,hy⟩
  ·omega
 ·omega
theorem EB {D:DS}{N:Ns}{x y:Int}(h:fD N x y≠0):fV D N x y=D∧fC N x y=N:=⟨if_neg (fun z=>h z.1),if_neg (fun z=>h z.1)⟩
theorem P8 {D:DS}{N:Ns}{x y:Int}(h8:N.length=8) (ht:∀z∈N,0≤z.1∧(z.1=0→z.2=false)) (hC:yN D N) (hpos:∀i (hi:i<N.length),0<N[i].1→∃c:Nat,D.R N[i].1=some (c:Int)∧0<c) (h:fD N x y=0) (hy:aJ N y=false) :
 iU (fV D N x y) (fC N x y) y=D∧gX (fC N x y) y=N∧aJ (fC N x y) y=true:=by
 obtain ⟨hx,y0,y7⟩:=P7 h
 obtain ⟨i,rfl,hi,aG,h0⟩:=dX hx h8
 obtain ⟨j,rfl⟩:∃j:Nat,y=j:=⟨y.toNat,by omega⟩
 have Lh:j<N.length:=by omega
 have hne:(i:Int)≠j:=fun e=>by
  have:i=j:=by omega
  subst this
  rw [hx] at hy;cases hy
 have hj0:N[j].1=0:=by
  have a:=(ht _ (List.getElem_mem Lh)).1
  have:¬0<N[j].1:=fun z=>by
   have:aJ N j=true:=by unfold aJ;rw [getD_in Lh];simp;omega
   rw [this] at hy;cases hy
  omega
 have e1:fV D N i j=jr D N[i].1:=by unfold fV;rw [if_pos ⟨h,hne⟩,getD_in aG,getD_in Lh,if_pos hj0]
 have e2:fC N i j=N.set j (N[i].1,false):=by unfold fC;rw [if_pos ⟨h,hne⟩,getD_in aG,Int.toNat_natCast]
 have hjS:j<(N.set j (N[i].1,false)).length:=by rw [List.length_set];exact Lh
 have e3:(N.set j (N[i].1,false))[j]=(N[i].1,false):=List.getElem_set_self hjS
 have hh:aJ (N.set j (N[i].1,false)) j=true:=by unfold aJ;rw [getD_in hjS,e3];simp;omega
 obtain ⟨e,c0,he,hc,_,_⟩:=hC i aG h0
 obtain ⟨c,hcr,hcp⟩:=hpos i aG h0
 rw [e1,e2]
 refine ⟨?_,?_,hh⟩
 ·unfold iU
  rw [if_pos hh,getD_in hjS,e3]
  unfold aT
  have r1:(jr D N[i].1).E N[i].1=some e:=he
  have r2:(jr D N[i].1).R N[i].1=some ((c:Int)+1):=by
   show (if N[i].1=N[i].1 then some ((D.R N[i].1).getD 0+1) else _)=_
   rw [if_pos rfl,hcr];rfl
  simp only [r1,r2]
  rw [if_pos (by omega)]
  have r3:(fun z=>if z=N[i].1 then some ((c:Int)+1-1) else (jr D N[i].1).R z)=D.R:=by
   funext z
   by_cases ez:z=N[i].1
   ·rw [if_pos ez,ez,hcr];congr 1;omega
   ·rw [if_neg ez]
    show (if z=N[i].1 then _ else D.R z)=D.R z
    rw [if_neg ez]
  rw [r3];rfl
 ·unfold gX
  rw [if_pos hh,Int.toNat_natCast,List.set_set]
  have:N[j]=((0:Int),false):=Prod.ext hj0 ((ht _ (List.getElem_mem Lh)).2 hj0)
  rw [←this,List.set_getElem_self]
def jA (S:KS) (o:Ow) (x y:Int):Int:=if fD (au S o.j) x y≠0 then fD (au S o.j) x y else if aJ (au S o.j) y=true∨lS S o 1 then 0 else 4
noncomputable def jO (S:KS) (o:Ow) (x y:Int):KS:=if jA S o x y=0 then S.files (fV S.D (au S o.j) x y) o.j (fC (au S o.j) x y) else S
def qw (N:Ns) (y:Int):Int:=if aJ N y=true then 0 else 1
theorem Sv {S:KS}{o:Ow}{x y:Int}(h8:(au S o.j).length=8) (hE:fD (au S o.j) x y=0):why (kZ S o.j) o.m 1 (qw (au S o.j) y)=jA S o x y:=by
 unfold jA
 rw [if_neg (not_not_intro hE)]
 unfold qw
 by_cases hy:aJ (au S o.j) y=true
 ·rw [if_pos hy,if_pos (.inl hy)]
  have e:kZ S o.j (1:Int).toNat=((ak (au S o.j):Nat):Int):=rfl
  unfold why
  rw [e,if_neg (by omega),if_neg (by omega),if_neg (by omega),if_neg (by omega)]
 ·rw [if_neg hy,LJ ⟨by omega,by omega⟩ h8]
  by_cases hf:lS S o 1
  ·have e1:(if ((ak (au S o.j):Nat):Int)+1≤o.m 1 then (0:Int) else 4)=0:=if_pos hf
   rw [e1,if_pos (Or.inr hf)]
  ·have e1:(if ((ak (au S o.j):Nat):Int)+1≤o.m 1 then (0:Int) else 4)=4:=if_neg hf
   rw [e1,if_neg (fun z=>Or.elim z hy hf)]
theorem KX.tabs (h:KX w m H S U q A) (ho:S.O p=some o):(∀z∈au S o.j,0≤z.1∧(z.1=0→z.2=false))∧yN S.D (au S o.j)∧∀i (hi:i<(au S o.j).length),0<(au S o.j)[i].1→∃c:Nat,S.D.R (au S o.j)[i].1=some (c:Int)∧0<c:=by
 have hj:=h.rR ho
 have e:=jc hj
 rw [e]
 refine ⟨(h.inv.tab _ (List.getElem_mem hj)).2,h.inv.LD hj,fun i hi h0=>?_⟩
 have hp:=fP hj hi
 exact ⟨_,by rw [h.inv.core.cR _ h0,if_pos hp],hp⟩
theorem KN.UK (h:KN w m H S q A) (ho:S.O p=some o) (hq:q≤400) (x y9:Int) :
 Calls Tryz.prog 95 #[wp H.kb,.int .i64 p,.int .i64 x,.int .i64 y9] w fun y w'=>y=.returned (aI (jA S o x y9))∧∃A',KN w' m H (jO S o x y9) q A'∧Stp w w' A A':=by
 have hj:=h.1.rR ho
 have h8:=h.1.oW o.j
 have hpay:∀(W:World) (xk xh xn xt:Nat),Below w.heap.size w W→rP W A [(xk,wp H.kb),(xh,wp (H.hs o.j)),(xn,.int .i64 x),(xt,.int .i64 y9)]→
  Calls Tryz.prog 154 #[wp (H.hs o.j),.int .i64 1,.int .i64 (qw (au S o.j) y9),.func (.func 155) #[] #[wp xk,wp xh,wp xn,wp xt],.func (.func 157) #[] #[wp xk,wp xh,wp xt]] W fun y w'=>∃c,y=.returned (aI c)∧c=jA S o x y9∧∃A',KN w' m H (jO S o x y9) q A'∧Stp w w' A A':=fun W xk xh xn xt bW bx=>by
  have hW:=h.1.below bW
  refine Aj (H.hs o.j) 1 (qw (au S o.j) y9) (fun args w=>by kernel_rfl) (fun args w=>by kernel_rfl) (R:=fun c w'=>c=jA S o x y9∧∃A',KN w' m H (jO S o x y9) q A'∧Stp w w' A A') ((hW.adC ho hq x y9 bx).mono ?_)
  rintro y w1 ⟨rfl,A1,h1,st1⟩
  refine ⟨_,rfl,fun hc=>?_,fun hc=>?_⟩
  ·have e1:jA S o x y9=fD (au S o.j) x y9:=if_pos hc
   have e2:jO S o x y9=S:=by unfold jO;rw [e1,if_neg hc]
   obtain ⟨d1,d2⟩:=EB (D:=S.D) hc
   rw [d1,d2,pJ hj] at h1
   rw [e1,e2]
   exact ⟨rfl,A1,⟨h1,h.2⟩,st1.after bW⟩
  ·have ew:=Sv (S:=S) (o:=o) h8 hc
   refine ⟨why (kZ S o.j) o.m 1 (qw (au S o.j) y9),((h1.hd (p:=p) (o:=o) ho).DV (h.1.Ji o.j) (h.2.fit p o ho).1 1 (qw (au S o.j) y9) h1.er (h1.hne (p:=p) (o:=o) ho)).mono ?_⟩
   rintro y w2 ⟨rfl,hd2,g2⟩
   obtain ⟨A2,h2,st2⟩:=h1.led (p:=p) (o:=o) ho hd2 g2
   have QR:Stp w w2 A A2:=(st1.after bW).trans st2
   refine ⟨rfl,fun hz=>?_,fun hz=>?_⟩
   ·have e2:jO S o x y9=S.files (fV S.D (au S o.j) x y9) o.j (fC (au S o.j) x y9):=by unfold jO;rw [←ew,if_pos hz]
    rw [←ew,e2]
    have hu:((ak (fC (au S o.j) x y9):Nat):Int)=ak (au S o.j)+qw (au S o.j) y9:=by
     rw [NL h8]
     unfold qw
     by_cases hy:aJ (au S o.j) y9=true
     ·rw [if_pos hy,if_neg (by rw [hy];simp)];rfl
     ·rw [if_neg hy,if_pos ⟨hc,by simpa using hy⟩];rfl
    refine ⟨hz.symm,A2,h2.toN (h.2.files ho _ _) (fun p' o' ho' k hk=>?_),QR⟩
    have:=Ai (S:=S) (o:=o) (D':=fV S.D (au S o.j) x y9) hj hu o'.j k hk
    rw [←this]
    unfold Jb QC
    rw [if_pos hz]
   ·have e2:jO S o x y9=S:=by unfold jO;rw [←ew,if_neg hz]
    have hy:aJ (au S o.j) y9=false:=by
     cases hyy:aJ (au S o.j) y9 with
     |false=>rfl
     |true=>
      exfalso
      apply hz
      rw [ew]
      unfold jA
      rw [if_neg (not_not_intro hc),if_pos (.inl hyy)]
    have hU2:KX w2 m H (S.files (fV S.D (au S o.j) x y9) o.j (fC (au S o.j) x y9)) (kZ S) q A2:=h2.JC (fun p' o' ho' k hk=>by
     by_cases ej:o'.j=o.j
     ·simp only [if_pos ej]
      unfold QC
      rw [if_neg hz,ej]
     ·simp only [if_neg ej])
    have bx2:rP w2 A2 [(xk,wp H.kb),(xh,wp (H.hs o.j)),(xt,.int .i64 y9)]:=fun y hy=>((bx.p8 st1).p8 st2) y (by simp at hy ⊢;rcases hy with z|z|z<;>simp [z])
    refine (hU2.adB (p:=p) (o:=o) ho hq y9 bx2).mono ?_
    rintro y w3 ⟨rfl,A3,h3,wW⟩
    obtain ⟨t1,t2,t3⟩:=h.1.tabs ho
    obtain ⟨u1,u2,u3⟩:=P8 h8 t1 t2 t3 hc hy
    have et:au (S.files (fV S.D (au S o.j) x y9) o.j (fC (au S o.j) x y9)) o.j=fC (au S o.j) x y9:=by rw [gY hj,if_pos rfl]
    rw [Iy,et] at h3
    have ed:(S.files (fV S.D (au S o.j) x y9) o.j (fC (au S o.j) x y9)).D=fV S.D (au S o.j) x y9:=rfl
    rw [ed,u1,u2,pJ hj] at h3
    rw [←ew,e2]
    exact ⟨_,rfl,rfl,A3,⟨h3,h.2⟩,QR.trans wW⟩
 have hF:=fun W (hb:Below w.heap.size w W)=>(h.1.below hb).ay ho
 have hH:∀(W:World) (xk xh xn xt:Nat),Below w.heap.size w W→rP W A [(xk,wp H.kb),(xh,wp (H.hs o.j)),(xn,.int .i64 x),(xt,.int .i64 y9)]→(W.cell? ⟨xk,0,none⟩=some (wp H.kb)∧W.cell? ⟨H.kb,2,none⟩=some (wp H.f)∧W.cell? ⟨xh,0,none⟩=some (wp (H.hs o.j))∧W.cell? ⟨H.hs o.j,1,none⟩=some (wp (H.tb o.j))∧W.cell? ⟨xt,0,none⟩=some (.int .i64 y9))∧Calls Tryz.prog 153 #[wp H.f,wp (H.tb o.j),.int .i64 y9] W.drew fun y w'=>y=.returned (.bool (aJ (au S o.j) y9))∧(w'.cell? ⟨xk,0,none⟩=some (wp H.kb)∧w'.cell? ⟨H.kb,2,none⟩=some (wp H.f)∧w'.cell? ⟨xh,0,none⟩=some (wp (H.hs o.j))∧w'.cell? ⟨H.hs o.j,1,none⟩=some (wp (H.tb o.j))∧w'.cell? ⟨xt,0,none⟩=some (.int .i64 y9))∧Below w.heap.size w w'∧rP w' A [(xk,wp H.kb),(xh,wp (H.hs o.j)),(xn,.int .i64 x),(xt,.int .i64 y9)]:=fun W xk xh xn xt bW bx=>by
  have kW:=h.1.below bW
  refine ⟨⟨(bx (xk,_) (by simp)).1,kW.c2,(bx (xh,_) (by simp)).1,(kW.hd ho).at 1,(bx (xt,_) (by simp)).1⟩,((kW.below (bH W)).og hj y9).mono ?_⟩
  rintro y w' ⟨rfl,b9⟩
  have b:Below W.heap.size W w':=(bH W).trans b9
  have bx':=bx.below b
  have k':=kW.below b
  exact ⟨rfl,⟨(bx' (xk,_) (by simp)).1,k'.c2,(bx' (xh,_) (by simp)).1,(k'.hd ho).at 1,(bx' (xt,_) (by simp)).1⟩,bW.trans (b.mono bW.size),bx'⟩
 have hA:=h.1.lt
 generalize jA S o x y9=E at *
 generalize jO S o x y9=S2 at *
 have adv:aJ (au S o.j) y9=true→qw (au S o.j) y9=0:=fun z=>if_pos z
 have aa1:aJ (au S o.j) y9=false→qw (au S o.j) y9=1:=fun z=>if_neg (by rw [z];simp)
 generalize qw (au S o.j) y9=C at *
 generalize aJ (au S o.j) y9=hb at *
 have HP:Aside _:=hpay
 have HF:Aside _:=hF
 have HH:Aside _:=hH
 have QP:Aside _:=adv
 have HC2:Aside _:=aa1
 go_enter Tryz.func95,Tryz.ntmps95
 go_upto_region 1 with fail
 obtain ⟨b3,s3,c1,c2,c3⟩:=Q4 w (wp H.kb) (.int .i64 x) (.int .i64 y9) 26 3 3
 generalize ((w.alloc (.cells #[wp H.kb] 26)).alloc (.cells #[.int .i64 x] 3)).alloc (.cells #[.int .i64 y9] 3)=W at *
 have hF:=HF.out W b3
 go_upto_region 5 with (go_at_call 127;refine hF.mono ?_;rintro e w1 ⟨rfl,hw⟩;subst w1)
 obtain ⟨b4,s4,c4,_⟩:=sG W (wp (H.hs o.j)) 59
 rw [s3] at c4
 have d1:=dm b4 c1
 have d2:=dm b4 c2
 have d3:=dm b4 c3
 generalize W.alloc (.cells #[wp (H.hs o.j)] 59)=V at *
 have bV:Below w.heap.size w V:=b3.trans (b4.mono b3.size)
 have bx:rP V A [(w.heap.size,wp H.kb),(w.heap.size+1+1+1,wp (H.hs o.j)),(w.heap.size+1,.int .i64 x),(w.heap.size+1+1,.int .i64 y9)]:=fun y hy=>by
  have hn:∀i,w.heap.size≤i→¬A i:=fun i hi z=>by have:=hA i z;omega
  simp only [List.mem_cons,List.not_mem_nil,or_false] at hy
  rcases hy with rfl|rfl|rfl|rfl
  ·exact ⟨d1,hn _ (Nat.le_refl _)⟩
  ·exact ⟨c4,hn _ (by omega)⟩
  ·exact ⟨d2,hn _ (by omega)⟩
  ·exact ⟨d3,hn _ (by omega)⟩
 obtain ⟨c0,hH⟩:=HH.out V _ _ _ _ bV bx
 go_region_held3 (fun w'=>w'.cell? ⟨w.heap.size,0,none⟩=some (wp H.kb)∧w'.cell? ⟨H.kb,2,none⟩=some (wp H.f)∧w'.cell? ⟨w.heap.size+1+1+1,0,none⟩=some (wp (H.hs o.j))∧w'.cell? ⟨H.hs o.j,1,none⟩=some (wp (H.tb o.j))∧w'.cell? ⟨w.heap.size+1+1,0,none⟩=some (.int .i64 y9)) (first|exact c0|exact c9) (first
  |(go_at_call 153;refine hH.mono ?_;rintro e w5 ⟨rfl,c9,b5,bx5⟩))
 all_goals
  have hP:=HP.out w5 _ _ _ _ b5 bx5
  have c5:=c9.2.2.1
  cases hb with
  |true=>
   have hC:=QP.out rfl
   subst hC
   go_wp2_with (go_at_call 154;refine hP.mono ?_;rintro e w6 ⟨c,rfl,hc,hR⟩)
   go_ret
   exact ⟨by rw [←hc];rfl,hR⟩
  |false=>
   have hC:=HC2.out rfl
   subst hC
   go_wp2_with (go_at_call 154;refine hP.mono ?_;rintro e w6 ⟨c,rfl,hc,hR⟩)
   go_ret
   exact ⟨by rw [←hc];rfl,hR⟩
end
section
variable {w w':World}{m:Int}{H:KH}{S:KS}{U:Nat→Nat→Int}{q:Nat}{A:Nat→Prop}{p:Int}{o:Ow}
theorem KX.Oh (h:KX w m H S U q A) (ho:S.O p=none) (hp:(Lit.int .i64 p).wf=true) :
 Calls Tryz.prog 76 #[wp H.kb,.int .i64 p] w fun y w'=>y=.returned (.tuple #[.bool false,eQ 7])∧w'=w:=by
 have hF:=h.j4 ho hp
 go_enter Tryz.func76,Tryz.ntmps76
 go_wp2_with (go_at_call 127;refine hF.mono ?_;rintro e w1 ⟨rfl,hw⟩;subst w1)
 go_ret2
 exact ⟨rfl,rfl⟩
end
def pO (w:World) (m:Int) (H:KH) (q:Nat) (A:Nat→Prop) (S':KS) (w':World):Prop:=∃H' A',(H'.kb=H.kb∧H'.ok=H.ok)∧KN w' m H' S' (q+1) A'∧Stp w w' A A'
section
variable {w w' V:World}{m:Int}{H:KH}{S S':KS}{U:Nat→Nat→Int}{q q':Nat}{A A':Nat→Prop}{p a b c:Int}{s t:List UInt8}{o:Ow}
theorem pO.mk (h:KN w' m H S' q' A') (hq:q'≤q+1) (st:Stp w w' A A'):pO w m H q A S' w':=⟨H,A',⟨rfl,rfl⟩,h.more hq,st⟩
theorem pO.same (h:KN w m H S q A) (hb:Below w.heap.size w w'):pO w m H q A S w':=.mk (h.below hb) (by omega) (.below hb)
theorem pO.before (h:pO V m H q A S' w') (hb:Below w.heap.size w V):pO w m H q A S' w':=by
 obtain ⟨H',A',e,k,st⟩:=h
 exact ⟨H',A',e,k,Stp.after hb st⟩
theorem pO.vK (h:pO w m H q A S' V) (hb:Below V.heap.size V w'):pO w m H q A S' w':=by
 obtain ⟨H',A',e,k,st⟩:=h
 exact ⟨H',A',e,k.below hb,st.trans (.below hb)⟩
end
end Go.Proofs.YtippochapiolpaaGreatDoor
namespace Go.Proofs.YtippochapiolpaaGreatDoor
section
variable {S S':KS}{p:Int}{o:Ow}{pg fd:Int}
theorem Rw {x:Int}{o':Ow}{c:Int}(h:(dD S p o c).O x=some o'):x≠p∧S.O x=some o':=by
 have h:jK S.O p x=some o':=h
 unfold jK at h
 split at h
 ·cases h
 ·rename_i z;exact ⟨z,h⟩
end
section
variable {w:World}{m:Int}{H:KH}{S S':KS}{q:Nat}{A:Nat→Prop}{p a b c k v:Int}{s t:List UInt8}{o:Ow}{pg fd:Int}
structure QN (S:KS):Prop where
 len:S.Ms.length=S.Ts.length
 lt:∀p o,S.O p=some o→o.j<S.Ts.length
 inj:∀p o p' o',S.O p=some o→S.O p'=some o'→o.j=o'.j→p=p'
theorem KN.lie (h:KN w m H S q A):QN S:=by
 obtain ⟨⟨G,k,_⟩,_⟩:=h
 exact ⟨k.len,k.lt,fun p o p' o' h1 h2 e=>k.hinj p o p' o' h1 h2 (by rw [e])⟩
theorem QN.ends (h:QN S) (c:Int):QN (dD S p o c):=
 ⟨by show (S.Ms.set o.j lG).length=(S.Ts.set o.j bQ).length;rw [List.length_set,List.length_set];exact h.len,
  fun x o' ho=>by show o'.j<(S.Ts.set o.j bQ).length;rw [List.length_set];exact h.lt x o' (Rw ho).2,
  fun x o1 y o2 h1 h2 e=>h.inj x o1 y o2 (Rw h1).2 (Rw h2).2 e⟩
end
section
variable {S S':KS}{p a k v:Int}{o:Ow}
theorem Es:∀ {l:List Nat}{x:Nat},x∈l→x≤l.sum
 |y :: l,x,h=>by
  rw [List.sum_cons]
  rcases List.mem_cons.1 h with rfl|h
  ·omega
  ·have:=Es h;omega
theorem rA (hl:o.j<S.Ms.length):(fun f=>sh (aC S o.j) f+iY S o.j f)=bI S.Ms:=by
 funext f
 unfold iY
 have:sh (aC S o.j) f≤bI S.Ms f:=by
  unfold bI
  refine Es (List.mem_map.2 ⟨aC S o.j,?_,rfl⟩)
  rw [pQ hl];exact List.getElem_mem hl
 omega
end
def mX (π:Int→Int) (P:PM):PM:=fun a=>(P a).map fun x=>(x.1,if x.2=-1 then -1 else π x.2)
section
variable {π:Int→Int} {P:PM}{a k u f:Int}{n:Nat}
theorem yZ (π:Int→Int) (P:PM) (a:Int):aR (mX π P) a=if aR P a=-1 then -1 else π (aR P a):=by
 unfold aR mX
 cases P a<;>simp
theorem Mo (π:Int→Int) (P:PM) (a:Int):(mX π P a).isSome=(P a).isSome:=by unfold mX;simp
theorem Ju (π:Int→Int) (P:PM) (a k u:Int):dN (mX π P) a k u=dN P a k u:=by
 unfold dN mX
 cases P a<;>rfl
theorem adl (π:Int→Int) (P:PM) (a:Int):(pg (mX π P) a).1=(pg P a).1:=by
 unfold pg mX
 cases P a<;>rfl
theorem RZ (π:Int→Int) (P:PM):bX (mX π P)=bX P:=sumTo_congr 64 0 fun i _ _=>by rw [Mo]
theorem aaP (h:∀a,aR P a≠-1→0≤π (aR P a)):gM (mX π P)=gM P:=sumTo_congr 64 0 fun i _ _=>by
 rw [yZ]
 by_cases e:aR P i=-1
 ·simp [e]
 ·have:=h _ e
  rw [if_neg e,if_neg (by omega),if_neg e]
theorem adk (h:∀a,aR P a≠-1→aR P a≠f→π (aR P a)≠π f) (hf:0≤f) (h0:0≤π f):sh (mX π P) (π f)=sh P f:=sumTo_congr 64 0 fun i _ _=>by
 rw [yZ]
 by_cases e:aR P i=-1
 ·rw [if_pos e,if_neg (by omega),if_neg (by omega)]
 ·rw [if_neg e]
  by_cases e2:aR P i=f
  ·rw [e2,if_pos rfl,if_pos rfl]
  ·rw [if_neg (h _ e e2),if_neg e2]
theorem aaQ (π:Int→Int) (P:PM) (a:Int) (p:Int×Int):mX π (dE P a p)=dE (mX π P) a (p.1,if p.2=-1 then -1 else π p.2):=by
 funext x
 unfold mX dE
 by_cases e:x=a<;>simp [e]
theorem TV {π':Int→Int} (h:∀a,aR P a≠-1→π' (aR P a)=π (aR P a)):mX π' P=mX π P:=by
 funext x
 have hx:=h x
 unfold aR at hx
 unfold mX
 cases e:P x with
 |none=>rfl
 |some y=>
  rw [e] at hx
  simp only at hx
  by_cases h1:y.2=-1
  ·simp [h1]
  ·simp [h1,hx h1]
end
theorem Eb:∀ {l:List Nat},0<l.sum→∃x∈l,0<x
 |x :: l,h=>by
  rw [List.sum_cons] at h
  by_cases e:0<x
  ·exact ⟨x,List.mem_cons_self,e⟩
  ·obtain ⟨y,hy,h2⟩:=Eb (l:=l) (by omega)
   exact ⟨y,List.mem_cons_of_mem _ hy,h2⟩
theorem BV (t:Int→Nat):∀m a,sumTo (fun f:Nat=>if (gT t (f:Int)).isSome then 1 else 0) a m=((List.range' a m).map (fun i:Nat=>(i:Int))).countP (fun f=>decide (0<t f))
 |0,_=>rfl
 |m+1,a=>by
  rw [sumTo,BV t m (a+1),List.range'_succ,List.map_cons,List.countP_cons]
  have e:(gT t (a:Int)).isSome=decide (0<t (a:Int)):=by
   unfold gT
   by_cases h:t (a:Int)=0
   ·rw [if_neg (fun z=>z.2 h),h];rfl
   ·rw [if_pos ⟨by omega,h⟩]
    have:0<t (a:Int):=by omega
    simp [this]
  rw [e]
  by_cases h:0<t (a:Int)
  ·simp [h];omega
  ·simp [h]
def frames (n:Nat):List Int:=(List.range' 0 n).map (fun i:Nat=>(i:Int))
theorem zT (t:Int→Nat) (n:Nat):used t n=(frames n).countP (fun f=>decide (0<t f)):=BV t n 0
theorem Ap {n:Nat}{f:Int}:f∈frames n↔0≤f∧f<(n:Int):=by
 unfold frames
 rw [List.mem_map]
 constructor
 ·rintro ⟨i,hi,rfl⟩
  have:=List.mem_range'_1.1 hi
  omega
 ·intro h
  exact ⟨f.toNat,List.mem_range'_1.2 (by omega),by omega⟩
theorem EU (n:Nat):(frames n).Nodup:=by
 unfold frames List.Nodup
 rw [List.pairwise_map]
 exact (List.nodup_range' (step:=1)).imp (fun h=>by omega)
theorem LM {t t':Int→Nat}{n:Nat}(π:Int→Int) (h:∀f,0≤f→f<(n:Int)→0<t f→0≤π f∧π f<(n:Int)∧0<t' (π f)) (hi:∀f g,0≤f→f<(n:Int)→0<t f→0≤g→g<(n:Int)→0<t g→π f=π g→f=g):used t n≤used t' n:=by
 rw [zT,zT,List.countP_eq_length_filter,List.countP_eq_length_filter]
 rw [←List.length_map (f:=π)]
 have hm:∀x,x∈(frames n).filter (fun f=>decide (0<t f))↔(0≤x∧x<(n:Int))∧0<t x:=fun x=>by
  rw [List.mem_filter,Ap];simp
 refine lD ?_ (fun y hy=>?_)
 ·unfold List.Nodup
  rw [List.pairwise_map]
  refine List.Pairwise.imp_of_mem (fun {a b} ha hb hab e=>?_) ((EU n).filter (fun f=>decide (0<t f)))
  have h1:=(hm a).1 ha
  have h2:=(hm b).1 hb
  exact hab (hi a b h1.1.1 h1.1.2 h1.2 h2.1.1 h2.1.2 h2.2 e)
 ·obtain ⟨x,hx,rfl⟩:=List.mem_map.1 hy
  have h1:=(hm x).1 hx
  have h2:=h x h1.1.1 h1.1.2 h1.2
  rw [List.mem_filter,Ap]
  exact ⟨⟨h2.1,h2.2.1⟩,by simpa using h2.2.2⟩
structure aX (π:Int→Int) (S S':KS):Prop where
 n:S'.n=S.n
 P:S'.P=S.P
 D:S'.D=S.D
 Ts:S'.Ts=S.Ts
 O:S'.O=S.O
 ms:S'.Ms=S.Ms.map (mX π)
 inj:∀f g,0≤f→0≤g→0<bI S.Ms f→0<bI S.Ms g→π f=π g→f=g
 pos:∀f,0≤f→0<bI S.Ms f→0≤π f∧π f<(S.n:Int)
 w:∀f (k:Nat),0≤f→0<bI S.Ms f→S'.W (π f).toNat k=S.W f.toNat k
def I4 (S S':KS):Prop:=∃π,aX π S S'
def jh (S:KS):Prop:=∀P∈S.Ms,lN S.n P
section
variable {S S':KS}{π:Int→Int} {P:PM}{f g:Int}{j:Nat}
theorem jh.at (ok:jh S) (hj:j<S.Ms.length):lN S.n (aC S j):=by rw [pQ hj];exact ok _ (List.getElem_mem hj)
theorem FQ (hj:j<S.Ms.length):aC S j∈S.Ms:=by rw [pQ hj];exact List.getElem_mem hj
theorem RB (hP:P∈S.Ms) (f:Int):sh P f≤bI S.Ms f:=Es (List.mem_map.2 ⟨P,hP,rfl⟩)
theorem vT {n:Nat}{a:Int}(hP:P∈S.Ms) (ok:lN n P) (h:aR P a≠-1):0≤aR P a∧0<bI S.Ms (aR P a):=by
 have h1:=yU ok h
 have h2:=RB hP (aR P a)
 rcases ok.frame a with e|e
 ·exact absurd e h
 ·exact ⟨e.1,by omega⟩
theorem SK {n:Nat}(hP:P∈S.Ms) (ok:lN n P) (hf:0≤f) (h:bI S.Ms f=0) (a:Int):aR P a≠f:=fun e=>by
 have:=(vT (a:=a) hP ok (by omega)).2
 rw [e] at this;omega
theorem aX.IU (h:aX π S S') (j:Nat):aC S' j=mX π (aC S j):=by
 unfold aC
 rw [h.ms,List.getD_eq_getElem?_getD,List.getElem?_map,List.getD_eq_getElem?_getD]
 cases S.Ms[j]?<;>rfl
theorem aX.shP (h:aX π S S') (ok:jh S) (hP:P∈S.Ms) (hf:0≤f) (hu:0<bI S.Ms f):sh (mX π P) (π f)=sh P f:=
 adk (fun a h1 h2 e=>by
  have h3:=vT (a:=a) hP (ok P hP) h1
  exact h2 (h.inj _ _ h3.1 hf h3.2 hu e)) hf (h.pos f hf hu).1
theorem aX.tot (h:aX π S S') (ok:jh S) (hf:0≤f) (hu:0<bI S.Ms f):bI S'.Ms (π f)=bI S.Ms f:=by
 rw [h.ms]
 unfold bI
 rw [List.map_map]
 exact congrArg List.sum (List.map_congr_left fun P hP=>h.shP ok hP hf hu)
theorem aX.back (h:aX π S S') (ok:jh S) (hg:0≤g) (hu:0<bI S'.Ms g):∃f,0≤f∧0<bI S.Ms f∧π f=g:=by
 rw [h.ms] at hu
 unfold bI at hu
 rw [List.map_map] at hu
 obtain ⟨x,hx,hx0⟩:=Eb hu
 obtain ⟨P,hP,rfl⟩:=List.mem_map.1 hx
 refine Classical.byContradiction fun hn=>?_
 have:sh (mX π P) g=0:=yg hg fun a e=>by
  rw [yZ] at e
  by_cases e1:aR P a=-1
  ·rw [if_pos e1] at e;omega
  ·rw [if_neg e1] at e
   have h3:=vT (a:=a) hP (ok P hP) e1
   exact hn ⟨_,h3.1,h3.2,e⟩
 have hx0:0<sh (mX π P) g:=hx0
 omega
theorem jh.lt (ok:jh S) (hf:0≤f) (hu:0<bI S.Ms f):f<(S.n:Int):=by
 unfold bI at hu
 obtain ⟨x,hx,hx0⟩:=Eb hu
 obtain ⟨P,hP,rfl⟩:=List.mem_map.1 hx
 refine Classical.byContradiction fun hn=>?_
 have:sh P f=0:=yg hf fun a e=>by
  rcases (ok P hP).frame a with z|z<;>omega
 omega
theorem aX.used (h:aX π S S') (ok:jh S):used (bI S'.Ms) S.n=used (bI S.Ms) S.n:=by
 have h9:Go.Proofs.YtippochapiolpaaGreatDoor.used (bI S.Ms) S.n≤Go.Proofs.YtippochapiolpaaGreatDoor.used (bI S'.Ms) S.n:=LM π (fun f h0 _ h2=>by
  have:=h.pos f h0 h2
  exact ⟨this.1,this.2,by rw [h.tot ok h0 h2];exact h2⟩) (fun f g a1 _ a3 b1 _ b3 e=>h.inj f g a1 b1 a3 b3 e)
 refine Nat.le_antisymm ?_ h9
 ·have hb:∀g,∃f,0≤g→0<bI S'.Ms g→0≤f∧0<bI S.Ms f∧π f=g:=fun g=>by
   by_cases h0:0≤g∧0<bI S'.Ms g
   ·obtain ⟨f,hf⟩:=h.back ok h0.1 h0.2
    exact ⟨f,fun _ _=>hf⟩
   ·exact ⟨0,fun a b=>absurd ⟨a,b⟩ h0⟩
  obtain ⟨ρ,hρ⟩:=Classical.axiomOfChoice hb
  refine LM ρ (fun g h0 _ h2=>?_) (fun f g a1 _ a3 b1 _ b3 e=>?_)
  ·have h3:=hρ g h0 h2
   exact ⟨h3.1,ok.lt h3.1 h3.2.1,h3.2.1⟩
  ·have h3:=hρ f a1 a3
   have h4:=hρ g b1 b3
   rw [←h3.2.2,←h4.2.2,e]
theorem aX.xQ (h:aX π S S') (ok:jh S) (hj:j<S.Ms.length) (hf:0≤f) (hu:0<bI S.Ms f):iY S' j (π f)=iY S j f:=by
 unfold iY
 rw [h.tot ok hf hu,h.IU,h.shP ok (FQ hj) hf hu]
end
section
variable {n:Nat}{P P1:PM}{o:Int→Nat}{D D1:Nat→Nat→Int}{a k v er:Int}
theorem uo.isA (h:uo n P o D a k v er P1 D1) (hu:dN P a k 2≠0):er=dN P a k 2∧P1=P∧D1=D:=by
 rcases h with ⟨_,h1,h2,h3⟩|⟨h1,_⟩|⟨h1,_⟩|⟨h1,_⟩
 ·exact ⟨h1,h2,h3⟩
 ·exact absurd h1 hu
 ·exact absurd h1 hu
 ·exact absurd h1 hu
theorem uo.isB (h:uo n P o D a k v er P1 D1) (hu:dN P a k 2=0) (hf:aR P a≠-1) (h1:sh P (aR P a)+o (aR P a)=1):er=0∧P1=P∧D1=upd D (aR P a).toNat k.toNat v:=by
 rcases h with ⟨h0,_⟩|⟨_,_,_,h2,h3,h4⟩|⟨_,h2,_⟩|⟨_,h2,_⟩
 ·exact absurd hu h0
 ·exact ⟨h2,h3,h4⟩
 ·exact absurd h2 (by omega)
 ·exact absurd h2 (by omega)
theorem uo.isC (h:uo n P o D a k v er P1 D1) (hu:dN P a k 2=0) (h1:¬(aR P a≠-1∧sh P (aR P a)+o (aR P a)=1)) (hn:used (fun f=>sh P f+o f) n=n):er=12∧P1=P∧D1=D:=by
 rcases h with ⟨h0,_⟩|⟨_,h2,h3,_⟩|⟨_,_,_,h2,h3,h4⟩|⟨_,_,f,hf,h2,_⟩
 ·exact absurd hu h0
 ·exact absurd ⟨h2,h3⟩ h1
 ·exact ⟨h2,h3,h4⟩
 ·have:=RX (R:=gT fun f=>sh P f+o f) hf ((Hl (by omega)).2 h2)
  unfold used at hn;omega
theorem uo.isD (h:uo n P o D a k v er P1 D1) (hu:dN P a k 2=0) (h1:¬(aR P a≠-1∧sh P (aR P a)+o (aR P a)=1)) (hn:used (fun f=>sh P f+o f) n≠n):∃f:Nat,f<n∧sh P (f:Int)+o (f:Int)=0∧er=0∧P1=dE P a ((pg P a).1,(f:Int))∧D1=upd (row D f (fq D (aR P a))) f k.toNat v:=by
 rcases h with ⟨h0,_⟩|⟨_,h2,h3,_⟩|⟨_,_,h2,_⟩|⟨_,_,h2⟩
 ·exact absurd hu h0
 ·exact absurd ⟨h2,h3⟩ h1
 ·exact absurd h2 hn
 ·exact h2
end
section
variable {S S':KS}{π:Int→Int} {P1 P1':PM}{W1 W1':Nat→Nat→Int}{f g a k v er QK:Int}{j:Nat}
theorem aX.space (h:aX π S S') {Q:PM}(ht:∀f,0≤f→0<bI (S.Ms.set j Q) f→0<bI S.Ms f):aX π (S.space j Q S.W) (S'.space j (mX π Q) S'.W):=
 ⟨h.n,h.P,h.D,h.Ts,h.O,by show S'.Ms.set j (mX π Q)=(S.Ms.set j Q).map (mX π);rw [h.ms,List.map_set],
  fun f g a1 b1 a2 b2 e=>h.inj f g a1 b1 (ht f a1 a2) (ht g b1 b2) e,fun f a1 a2=>h.pos f a1 (ht f a1 a2),fun f k a1 a2=>h.w f k a1 (ht f a1 a2)⟩
theorem LX (hj:j<S.Ms.length) (Q:PM) (f:Int):bI (S.Ms.set j Q) f+sh (aC S j) f=bI S.Ms f+sh Q f:=by
 unfold bI
 rw [List.map_set,pQ hj]
 have:∀(l:List Nat) (j x:Nat) (hj:j<l.length),(l.set j x).sum+l[j]=l.sum+x:=fun l=>by
  induction l with
  |nil=>intro j x hj;simp at hj
  |cons y l ih=>
   intro j x hj
   cases j with
   |zero=>simp;omega
   |succ j=>
    have:=ih j x (by simpa using hj)
    simp;omega
 have h1:=this (S.Ms.map fun P=>sh P f) j (sh Q f) (by simpa using hj)
 simp only [List.getElem_map] at h1
 exact h1
theorem Gy (W:Nat→Nat→Int) (x k k9:Nat) (F:Nat→Int) (v:Int):upd (row W x F) x k v x k9=if k9=k then v else F k9:=by
 unfold upd row
 by_cases e:k9=k<;>simp [e]
theorem uo.nY (h:aX π S S') (ok:jh S) (hj:j<S.Ms.length) (r:uo S.n (aC S j) (iY S j) S.W a k v er P1 W1) (r':uo S'.n (aC S' j) (iY S' j) S'.W a k v QK P1' W1'):er=QK∧I4 (S.space j P1 W1) (S'.space j P1' W1'):=by
 have hj':j<S'.Ms.length:=by rw [h.ms,List.length_map];exact hj
 have hP:=FQ hj
 have okP:=ok.at hj
 have hself:I4 (S.space j (aC S j) S.W) (S'.space j (aC S' j) S'.W):=by
  rw [jS hj,jS hj'];exact ⟨π,h⟩
 have eu:dN (aC S' j) a k 2=dN (aC S j) a k 2:=by rw [h.IU,Ju]
 have ef:aR (aC S' j) a=if aR (aC S j) a=-1 then -1 else π (aR (aC S j) a):=by rw [h.IU,yZ]
 have at9:aR (aC S j) a≠-1→0≤aR (aC S j) a∧0<bI S.Ms (aR (aC S j) a):=fun z=>vT hP okP z
 have et:aR (aC S j) a≠-1→sh (aC S' j) (π (aR (aC S j) a))+iY S' j (π (aR (aC S j) a))=sh (aC S j) (aR (aC S j) a)+iY S j (aR (aC S j) a):=fun z=>by
  obtain ⟨h1,h2⟩:=at9 z
  rw [h.xQ ok hj h1 h2,h.IU,h.shP ok hP h1 h2]
 have en:used (fun f=>sh (aC S' j) f+iY S' j f) S'.n=used (fun f=>sh (aC S j) f+iY S j f) S.n:=by
  rw [rA (S:=S') (o:=⟨j,fun _=>0,0⟩) hj',rA (S:=S) (o:=⟨j,fun _=>0,0⟩) hj,h.n]
  exact h.used ok
 by_cases hu:dN (aC S j) a k 2=0
 ·by_cases hB:aR (aC S j) a≠-1∧sh (aC S j) (aR (aC S j) a)+iY S j (aR (aC S j) a)=1
  ·obtain ⟨h1,h2⟩:=at9 hB.1
   have hp:=h.pos _ h1 h2
   rw [if_neg hB.1] at ef
   have hB':aR (aC S' j) a≠-1∧sh (aC S' j) (aR (aC S' j) a)+iY S' j (aR (aC S' j) a)=1:=by
    rw [ef,et hB.1];exact ⟨by omega,hB.2⟩
   obtain ⟨rfl,rfl,rfl⟩:=r.isB hu hB.1 hB.2
   obtain ⟨rfl,rfl,rfl⟩:=r'.isB (eu.trans hu) hB'.1 hB'.2
   refine ⟨rfl,π,?_⟩
   obtain ⟨π',s⟩:=hself
   have e1:S.Ms.set j (aC S j)=S.Ms:=by rw [pQ hj,List.set_getElem_self]
   have e2:S'.Ms.set j (aC S' j)=S'.Ms:=by rw [pQ hj',List.set_getElem_self]
   refine ⟨h.n,h.P,h.D,h.Ts,h.O,by show S'.Ms.set j _=(S.Ms.set j _).map _;rw [e1,e2];exact h.ms,?_,?_,?_⟩
   ·show ∀f g,0≤f→0≤g→0<bI (S.Ms.set j _) f→0<bI (S.Ms.set j _) g→_
    rw [e1];exact h.inj
   ·show ∀f,0≤f→0<bI (S.Ms.set j _) f→_
    rw [e1];exact h.pos
   ·show ∀f (k9:Nat),0≤f→0<bI (S.Ms.set j _) f→upd S'.W _ k.toNat v (π f).toNat k9=upd S.W _ k.toNat v f.toNat k9
    rw [e1]
    intro g k9 hg hgu
    have hg2:=h.pos g hg hgu
    unfold upd
    rw [ef]
    by_cases e:g=aR (aC S j) a
    ·subst e
     by_cases ek:k9=k.toNat
     ·rw [if_pos ⟨rfl,ek⟩,if_pos ⟨rfl,ek⟩]
     ·rw [if_neg (fun z=>ek z.2),if_neg (fun z=>ek z.2)];exact h.w _ k9 hg hgu
    ·rw [if_neg (fun z=>e (h.inj g _ hg h1 hgu h2 (by omega))),if_neg (fun z=>e (by omega))]
     exact h.w g k9 hg hgu
  ·have hB':¬(aR (aC S' j) a≠-1∧sh (aC S' j) (aR (aC S' j) a)+iY S' j (aR (aC S' j) a)=1):=fun z=>by
    by_cases e:aR (aC S j) a=-1
    ·rw [if_pos e] at ef;exact z.1 ef
    ·rw [if_neg e] at ef
     rw [ef,et e] at z
     exact hB ⟨e,z.2⟩
   by_cases hn:used (fun f=>sh (aC S j) f+iY S j f) S.n=S.n
   ·obtain ⟨rfl,rfl,rfl⟩:=r.isC hu hB hn
    obtain ⟨rfl,rfl,rfl⟩:=r'.isC (eu.trans hu) hB' (by rw [en,hn,h.n])
    exact ⟨rfl,hself⟩
   ·obtain ⟨x,hx,hx0,rfl,rfl,rfl⟩:=r.isD hu hB hn
    obtain ⟨x',hx',hx0',rfl,rfl,rfl⟩:=r'.isD (eu.trans hu) hB' (by rw [en,h.n];exact hn)
    refine ⟨rfl,fun g=>if g=(x:Int) then (x':Int) else π g,?_⟩
    have z0:bI S.Ms (x:Int)=0:=by
     have:=congrFun (rA (S:=S) (o:=⟨j,fun _=>0,0⟩) hj) (x:Int)
     simp only at this;omega
    have z0':bI S'.Ms (x':Int)=0:=by
     have:=congrFun (rA (S:=S') (o:=⟨j,fun _=>0,0⟩) hj') (x':Int)
     simp only at this;omega
    have hfr:∀Q∈S.Ms,mX (fun g=>if g=(x:Int) then (x':Int) else π g) Q=mX π Q:=fun Q hQ=>TV fun b hb=>if_neg (SK hQ (ok Q hQ) (by omega) z0 b)
    have hns:∀g,0≤g→0<bI (S.Ms.set j (dE (aC S j) a ((pg (aC S j) a).1,(x:Int)))) g→g=(x:Int)∨0<bI S.Ms g:=fun g hg hgu=>by
     by_cases e:g=(x:Int)
     ·exact .inl e
     ·right
      have h1:=LX hj (dE (aC S j) a ((pg (aC S j) a).1,(x:Int))) g
      have h2:sh (dE (aC S j) a ((pg (aC S j) a).1,(x:Int))) g≤sh (aC S j) g:=by
       refine sumTo_le 64 0 fun i _ _=>?_
       rw [yx]
       by_cases ei:(i:Int)=a
       ·rw [if_pos ei,if_neg (fun z=>e z.symm)];omega
       ·rw [if_neg ei];omega
      omega
    have hne:∀g,0≤g→0<bI S.Ms g→g≠(x:Int)∧π g≠(x':Int):=fun g hg hgu=>by
     refine ⟨fun e=>by rw [e] at hgu;omega,fun e=>?_⟩
     have:=h.tot ok hg hgu
     rw [e] at this;omega
    refine ⟨h.n,h.P,h.D,h.Ts,h.O,?_,fun f g hf hg hfu hgu e=>?_,fun f hf hfu=>?_,fun f k9 hf hfu=>?_⟩
    ·show S'.Ms.set j _=(S.Ms.set j _).map _
     rw [List.map_set,aaQ,hfr _ hP,h.IU,adl,List.map_congr_left hfr,←h.ms]
     rw [if_neg (by omega),if_pos rfl]
    ·rcases hns f hf hfu with e1|e1
     ·rcases hns g hg hgu with e2|e2
      ·omega
      ·have h2:=hne g hg e2
       simp only [if_pos e1,if_neg h2.1] at e
       exact absurd e.symm h2.2
     ·have h1:=hne f hf e1
      rcases hns g hg hgu with e2|e2
      ·simp only [if_pos e2,if_neg h1.1] at e
       exact absurd e h1.2
      ·have h2:=hne g hg e2
       simp only [if_neg h1.1,if_neg h2.1] at e
       exact h.inj f g hf hg e1 e2 e
    ·rcases hns f hf hfu with e1|e1
     ·simp only [if_pos e1]
      have:=h.n
      show 0≤(x':Int)∧(x':Int)<(S.n:Int)
      omega
     ·simp only [if_neg (hne f hf e1).1]
      exact h.pos f hf e1
    ·show upd (row S'.W x' (fq S'.W (aR (aC S' j) a))) x' k.toNat v (if f=(x:Int) then (x':Int) else π f).toNat k9=upd (row S.W x (fq S.W (aR (aC S j) a))) x k.toNat v f.toNat k9
     rcases hns f hf hfu with e1|e1
     ·rw [if_pos e1,e1,show ((x':Nat):Int).toNat=x' by omega,show ((x:Nat):Int).toNat=x by omega,Gy,Gy]
      by_cases ek:k9=k.toNat
      ·rw [if_pos ek,if_pos ek]
      ·rw [if_neg ek,if_neg ek,ef]
       unfold fq
       by_cases em:aR (aC S j) a=-1
       ·rw [if_pos em,if_pos rfl,if_pos em]
       ·obtain ⟨h1,h2⟩:=at9 em
        have hp:=h.pos _ h1 h2
        rw [if_neg em,if_neg (by omega),if_neg em]
        exact h.w _ k9 h1 h2
     ·have h1:=hne f hf e1
      have hp:=h.pos f hf e1
      rw [if_neg h1.1]
      unfold upd row
      rw [if_neg (fun z=>h1.2 (by omega)),if_neg (fun z=>h1.1 (by omega)),if_neg (fun z=>h1.2 (by omega)),if_neg (fun z=>h1.1 (by omega))]
      exact h.w f k9 hf e1
 ·obtain ⟨rfl,rfl,rfl⟩:=r.isA hu
  obtain ⟨rfl,rfl,rfl⟩:=r'.isA (by rw [eu];exact hu)
  exact ⟨eu.symm,hself⟩
end
def DC (D:Nat→Nat→Int):Prop:=∀f k,-9223372036854775808≤D f k∧D f k≤9223372036854775807
theorem DC.load {D:Nat→Nat→Int}(h:DC D) (P:PM) (a k:Int):-9223372036854775808≤jf P D a k∧jf P D a k≤9223372036854775807:=by
 unfold jf wd;split
 ·split
  ·omega
  ·exact h _ _
 ·omega
theorem uo.ZJ {n:Nat}{P P':PM}{f:Int→Nat}{D D':Nat→Nat→Int}{a k v er:Int}(h:uo n P f D a k v er P' D') (hD:DC D) (hv:-9223372036854775808≤v∧v≤9223372036854775807):DC D':=by
 have hu:∀D0:Nat→Nat→Int,DC D0→∀i j,DC (upd D0 i j v):=fun D0 h0 i j x y=>by
  unfold upd
  split
  ·exact hv
  ·exact h0 x y
 rcases h with ⟨_,_,_,rfl⟩|⟨_,_,_,_,_,rfl⟩|⟨_,_,_,_,_,rfl⟩|⟨_,_,x,_,_,_,_,rfl⟩
 ·exact hD
 ·exact hu _ hD _ _
 ·exact hD
 ·refine hu _ (fun i j=>?_) _ _
  unfold row fq
  split
  ·split
   ·omega
   ·exact hD _ _
  ·exact hD _ _
theorem dP.ZJ {S S':KS}{p a:Int}{went:List Int}{er k v:Int}(r:dP p a k v S went er S') (hD:DC S.W) (hv:-9223372036854775808≤v∧v≤9223372036854775807):DC S'.W:=by
 induction r with
 |done ho h h12=>exact h.ZJ hD hv
 |nobody ho h hv=>exact hD
 |self ho h hv he=>exact hD
 |goes ho h hv he hx h1 hne r ih=>exact ih hD
end Go.Proofs.YtippochapiolpaaGreatDoor
namespace Go.Proofs.YtippochapiolpaaGreatDoor
open Go.RowKit Go.Maps
section
variable {w w':World}{m:Int}{H:KH}{S:KS}{U:Nat→Nat→Int}{q:Nat}{A:Nat→Prop}{p:Int}{o:Ow}{f r:Nat}{D:DS}{bs:List Nat}{Ts:List Ns}{k:Nat}
def Zq (w w':World) (T:Wd) (path:List UInt8) (y:Ending):Prop:=(mZ T path≠0∧y=.returned (.tuple #[.slice none 0 0,eQ (mZ T path)]))∨(mZ T path=0∧∃v C,T (aF T path).1=some (.dir C)∧y=.returned (.tuple #[v,.nilIface])∧TxR w' w.heap.size v (uz C))
theorem KD.list (h:KD w m f r D bs Ts k A) (hk:k≤900) (path:List UInt8) (hp:path.length<100000) :
 Calls Tryz.prog 165 #[wp r,tx path] w fun y w'=>Zq w w' D.T path y∧Below w.heap.size w w':=by
 obtain ⟨g,n,h1,hr,ht,hA⟩:=h.st
 obtain ⟨O,pt,hO⟩:=h1.tree
 rw [hr] at pt
 by_cases hE:mZ D.T path=0
 ·obtain ⟨h2,C,hC⟩:=Kl hE
  refine (pt.Xx h.inv.core.lv path hp m h.ml h2 hC (by have:=h.inv.core.sm.1 _ C hC;omega)).mono ?_
  rintro y w' ⟨v,rfl,t,b⟩
  exact ⟨.inr ⟨hE,v,C,hC,rfl,t⟩,b⟩
 ·refine (pt.Xy h.inv.core.lv path hp m h.ml hE).mono ?_
  rintro y w' ⟨rfl,b⟩
  exact ⟨.inl ⟨hE,rfl⟩,b⟩
theorem KX.Uf (h:KX w m H S U q A) (ho:S.O p=some o) (hq:q≤400) (path:List UInt8) (hp:path.length<100000) :
 Calls Tryz.prog 103 #[wp H.kb,.int .i64 p,tx path] w fun y w'=>Zq w w' S.D.T path y∧Below w.heap.size w w':=by
 have hF:=h.ay ho
 have c1:=h.c1
 obtain ⟨G,k,e⟩:=h
 have hL:=k.kd.list (by omega) path hp
 clear k e ho hp
 go_enter Tryz.func103,Tryz.ntmps103
 go_wp2_with (first
  |(go_at_call 127;refine hF.mono ?_;rintro e w1 ⟨rfl,hw⟩;subst w1)
  |(go_at_call 165;refine hL.mono ?_;rintro e w1 ⟨⟨hE,rfl⟩|⟨hE,v,C,hC,rfl,t⟩,b1⟩))
 ·go_ret2
  exact ⟨.inl ⟨hE,rfl⟩,b1⟩
 ·go_ret2
  exact ⟨.inr ⟨hE,v,C,hC,rfl,t⟩,b1⟩
end
end Go.Proofs.YtippochapiolpaaGreatDoor

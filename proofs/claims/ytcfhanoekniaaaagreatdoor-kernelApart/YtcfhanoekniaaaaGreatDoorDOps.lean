/- What File comes to, plainly. -/
import Derived.Test.YtcfhanoekniaaaaGreatDoorQTab
import Derived.Test.YtcfhanoekniaaaaGreatDoorUMkdir
import Derived.Test.YtcfhanoekniaaaaGreatDoorSKeys
import Derived.Maps.RangeWalk
import Derived.Test.YtcfhanoekniaaaaGreatDoorUTake
import Derived.Sort.KeysCollected
import Derived.Maps.Views
import Derived.Test.YtcfhanoekniaaaaGreatDoorShelfW
import Derived.Test.YtcfhanoekniaaaaGreatDoorUUnlink
namespace Go.Proofs.YtcfhanoekniaaaaGreatDoor
open Go.RowKit Go.Maps
inductive iG (D:DS) (N:Ns) (n s:Nat) (p:List UInt8) (pr:Int) (mk:Bool):Int→Int→DS→Ns→Prop
 |arg (hp:¬(1≤pr∧pr≤3)):iG D N n s p pr mk 0 1 D N
 |full (hp:1≤pr∧pr≤3) (hr:¬roomy N n):iG D N n s p pr mk 0 12 D N
 |no (hp:1≤pr∧pr≤3) (hr:roomy N n) (hE:(aO D.T p).2≠0) (h7:¬((aO D.T p).2=7∧mk=true)):iG D N n s p pr mk 0 (aO D.T p).2 D N
 |dir (hp:1≤pr∧pr≤3) (hr:roomy N n) (hE:(aO D.T p).2=0) (hh:dU D.T (aO D.T p).1 1≠0):iG D N n s p pr mk 0 (dU D.T (aO D.T p).1 1) D N
 |opened (hp:1≤pr∧pr≤3) (hr:roomy N n) (hE:(aO D.T p).2=0) (hh:dU D.T (aO D.T p).1 1=0):iG D N n s p pr mk (au N) 0 (iR { D with T:=bP D.T (aO D.T p).1 1 } ⟨1,pr,(aO D.T p).1,0,0⟩) (addN D N)
 |MK (hp:1≤pr∧pr≤3) (hr:roomy N n) (hE:(aO D.T p).2=7) (hm:mk=true) (hM:aZ D.T s p≠0):iG D N n s p pr mk 0 (aZ D.T s p) D N
 |made (hp:1≤pr∧pr≤3) (hr:roomy N n) (hE:(aO D.T p).2=7) (hm:mk=true) (hM:aZ D.T s p=0) (k:Int) (hk:gP D.T k):iG D N n s p pr mk (au N) 0 (iR { D with T:=bP (gZ D.T p false k) k 1 } ⟨1,pr,k,0,0⟩) (addN D N)
theorem iY:∀ {N:Ns},(∀x∈N,0≤x.1)→(au N<0↔N.length≤aj N)
 | [],_=>by simp [au,aj]
 |x :: N,h=>by
  have ih:=iY (N:=N) (fun y hy=>h y (List.mem_cons_of_mem _ hy))
  have hx:=h x List.mem_cons_self
  have hl:=vo N
  rw [au]
  unfold aj at ih hl ⊢
  by_cases e:x.1=0
  ·rw [if_pos e,List.filter_cons_of_neg (by simp;omega),List.length_cons]
   constructor
   ·intro h9;omega
   ·intro h9;omega
  ·rw [if_neg e,List.filter_cons_of_pos (by simp;omega),List.length_cons,List.length_cons]
   rcases kg (N:=N) with h9|⟨i,h9,_⟩
   ·rw [h9] at ih
    rw [if_pos h9]
    constructor
    ·intro _;have:=ih.1 (by omega);omega
    ·intro _;omega
   ·rw [if_neg (by omega)]
    constructor
    ·intro h8;omega
    ·intro h8;have:=ih.2 (by omega);omega
end Go.Proofs.YtcfhanoekniaaaaGreatDoor
namespace Go.Proofs.YtcfhanoekniaaaaGreatDoor
open Go.RowKit Go.Maps
structure Au (D:DS) (e:En):Prop where
 kind:e.kind=1∨e.kind=2∨e.kind=3
 file:e.kind=1→1≤e.af∧e.af≤3∧0≤e.node∧e.node<1000∧0≤e.pos∧e.pos≤200
 bZ:e.kind=2→e.af=1
 into:e.kind=3→e.af=2
 pipe:e.kind≠1→0<e.pipe∧e.pipe≤D.nx∧∃p,D.P e.pipe=some p∧p.1.length≤16∧0≤p.2.1∧p.2.1<1000∧0≤p.2.2∧p.2.2<1000
def dh (D:DS) (N:Ns) (x a:Int):List UInt8×Int×DS:=if aG N x=true then (match D.E (N.getD x.toNat (0,false)).1 with
 |none=>([],7,D)
 |some e=>if e.af=2 then ([],13,D) else if e.kind=1 then (dS D.T e.node e.pos a,ji D.T e.node e.pos a,{ D with E:=fun j=>if j=(N.getD x.toNat (0,false)).1 then some { e with pos:=e.pos+(dS D.T e.node e.pos a).length } else D.E j }) else match D.P e.pipe with
  |none=>([],7,D)
  |some p=>(p.1.take a.toNat,GD p.2.2 p.1 a,{ D with P:=fun j=>if j=e.pipe then some (p.1.drop a.toNat,p.2.1,p.2.2) else D.P j })) else ([],7,D)
open Classical in
noncomputable def cu (D:DS) (N:Ns) (x:Int) (s:List UInt8) (a:Int):Int×Int×DS:=if aG N x=true then (match D.E (N.getD x.toNat (0,false)).1 with
 |none=>(0,7,D)
 |some e=>if e.af=1 then (0,13,D) else if e.kind=1 then (if ng s a e.pos then (0,4,D) else if cB D.T e.node e.pos s≠0 then (0,cB D.T e.node e.pos s,D) else ((s.length:Int),0,{ D with T:=eP D.T e.node e.pos s,E:=fun j=>if j=(N.getD x.toNat (0,false)).1 then some { e with pos:=e.pos+s.length } else D.E j })) else match D.P e.pipe with
  |none=>(0,7,D)
  |some p=>((LF p.2.1 p.1 s:Int),LG p.2.1 p.1 s,{ D with P:=fun j=>if j=e.pipe then some (EG p.2.1 p.1 s,p.2.1,p.2.2) else D.P j })) else (0,7,D)
section
variable {D:DS}{N:Ns}{i:Nat}{e:En}{a:Int}{s:List UInt8}
theorem NJ {x:Int}(h:aG N x=false):dh D N x a=([],7,D):=if_neg (by rw [h];simp)
theorem Jg {x:Int}(h:aG N x=false):cu D N x s a=(0,7,D):=if_neg (by rw [h];simp)
theorem jm (hi:i<8) (aD:i<N.length) (h0:0<N[i].1):aG N i=true:=by
 unfold aG
 rw [getD_in aD]
 simp [h0]
 omega
variable (hi:i<8) (aD:i<N.length) (h0:0<N[i].1) (he:D.E N[i].1=some e)
include hi h0 he
theorem Eg (hp:e.af=2):dh D N i a=([],13,D):=by
 unfold dh;rw [if_pos (jm hi aD h0),getD_in aD,he];simp only;rw [if_pos hp]
theorem FJ (hk:e.kind=1) (hp:e.af≠2):dh D N i a=(dS D.T e.node e.pos a,ji D.T e.node e.pos a,{ D with E:=fun j=>if j=N[i].1 then some { e with pos:=e.pos+(dS D.T e.node e.pos a).length } else D.E j }):=by
 unfold dh;rw [if_pos (jm hi aD h0),getD_in aD,he];simp only;rw [if_neg hp,if_pos hk]
theorem JS (hk:e.kind≠1) (hp:e.af≠2) {p:Pi}(hP:D.P e.pipe=some p):dh D N i a=(p.1.take a.toNat,GD p.2.2 p.1 a,{ D with P:=fun j=>if j=e.pipe then some (p.1.drop a.toNat,p.2.1,p.2.2) else D.P j }):=by
 unfold dh;rw [if_pos (jm hi aD h0),getD_in aD,he];simp only;rw [if_neg hp,if_neg hk,hP]
theorem BO (hp:e.af=1):cu D N i s a=(0,13,D):=by
 unfold cu;rw [if_pos (jm hi aD h0),getD_in aD,he];simp only;rw [if_pos hp]
theorem BN (hk:e.kind=1) (hp:e.af≠1) (hl:ng s a e.pos):cu D N i s a=(0,4,D):=by
 unfold cu;rw [if_pos (jm hi aD h0),getD_in aD,he];simp only;rw [if_neg hp,if_pos hk,if_pos hl]
theorem Fw (hk:e.kind=1) (hp:e.af≠1) (hl:¬ng s a e.pos) (hE:cB D.T e.node e.pos s≠0):cu D N i s a=(0,cB D.T e.node e.pos s,D):=by
 unfold cu;rw [if_pos (jm hi aD h0),getD_in aD,he];simp only;rw [if_neg hp,if_pos hk,if_neg hl,if_pos hE]
theorem D8 (hk:e.kind=1) (hp:e.af≠1) (hl:¬ng s a e.pos) (hE:cB D.T e.node e.pos s=0):cu D N i s a=((s.length:Int),0,{ D with T:=eP D.T e.node e.pos s,E:=fun j=>if j=N[i].1 then some { e with pos:=e.pos+s.length } else D.E j }):=by
 unfold cu;rw [if_pos (jm hi aD h0),getD_in aD,he];simp only;rw [if_neg hp,if_pos hk,if_neg hl,if_neg (fun h=>h hE)]
theorem Fv (hk:e.kind≠1) (hp:e.af≠1) {p:Pi}(hP:D.P e.pipe=some p):cu D N i s a=((LF p.2.1 p.1 s:Int),LG p.2.1 p.1 s,{ D with P:=fun j=>if j=e.pipe then some (EG p.2.1 p.1 s,p.2.1,p.2.2) else D.P j }):=by
 unfold cu;rw [if_pos (jm hi aD h0),getD_in aD,he];simp only;rw [if_neg hp,if_neg hk,hP]
end
end Go.Proofs.YtcfhanoekniaaaaGreatDoor
namespace Go.Proofs.YtcfhanoekniaaaaGreatDoor
open Go.RowKit Go.Maps
def Sm (k:Nat) (T:Wd):Prop:=(∀i C,T i=some (.dir C)→C.length≤k)∧∀i b x,T i=some (.file b x)→x≤k∧b.length≤200
section
variable {T:Wd}{k:Nat}
theorem Sm.more (h:Sm k T) {k':Nat}(hk:k≤k'):Sm k' T:=⟨fun i C e=>Nat.le_trans (h.1 i C e) hk,fun i b x e=>⟨Nat.le_trans (h.2 i b x e).1 hk,(h.2 i b x e).2⟩⟩
theorem Sm.set (h:Sm k T) (n:Int) {nd:Nd}(hd:∀C,nd=.dir C→C.length≤k) (hf:∀b x,nd=.file b x→x≤k∧b.length≤200):Sm k (bN T n nd):=by
 refine ⟨fun i C e=>?_,fun i b x e=>?_⟩
 ·by_cases e1:i=n
  ·subst e1;rw [ak] at e;exact hd C (Option.some.inj e)
  ·rw [ag _ e1] at e;exact h.1 i C e
 ·by_cases e1:i=n
  ·subst e1;rw [ak] at e;exact hf b x (Option.some.inj e)
  ·rw [ag _ e1] at e;exact h.2 i b x e
theorem Sm.add (h:Sm k T) (d n:Int) (nm:Nm):Sm (k+1) (fI T d nm n):=by
 cases hd:T d with
 |none=>rw [show fI T d nm n=T by unfold fI;rw [hd]];exact h.more (by omega)
 |some nd=>cases nd with
  |file b x=>rw [show fI T d nm n=T by unfold fI;rw [hd]];exact h.more (by omega)
  |dir C=>
   rw [jf hd]
   exact (h.more (Nat.le_succ k)).set d (fun C' e=>by cases e;have:=h.1 d C hd;simp;omega) (fun b x e=>by cases e)
theorem Sm.del (h:Sm k T) (d:Int) (nm:Nm):Sm k (aW T d nm):=by
 cases hd:T d with
 |none=>rw [show aW T d nm=T by unfold aW;rw [hd]];exact h
 |some nd=>cases nd with
  |file b x=>rw [show aW T d nm=T by unfold aW;rw [hd]];exact h
  |dir C=>
   rw [iJ hd]
   exact h.set d (fun C' e=>by cases e;exact Nat.le_trans (List.length_filter_le _ _) (h.1 d C hd)) (fun b x e=>by cases e)
theorem Sm.Mj (h:Sm k T):Sm k (gL T):=⟨fun i C e=>h.1 i C (xz e),fun i b x e=>h.2 i b x (xz e)⟩
theorem Sm.link (h:Sm k T) (p q:List UInt8):Sm (k+1) (lS T p q):=by
 unfold lS;split
 ·exact h.more (by omega)
 ·exact h.add _ _ _
theorem Sm.unlink (h:Sm k T) (p:List UInt8):Sm (k+1) (dY T p):=by
 unfold dY;split
 ·exact h.more (by omega)
 ·exact ((h.del _ _).Mj).more (by omega)
theorem Sm.rename (h:Sm k T) (p q:List UInt8):Sm (k+1) (ek T p q):=by
 unfold ek;split
 ·exact h.more (by omega)
 ·exact (h.del _ _).add _ _ _
theorem Sm.make (h:Sm k T) (p:List UInt8) (dir:Bool) (n:Int):Sm (k+1) (gZ T p dir n):=by
 unfold gZ
 refine (h.set n ?_ ?_).add _ _ _
 ·intro C e;cases dir<;>(simp [eH] at e);rw [e];simp
 ·intro b x e;cases dir<;>(simp [eH] at e);rw [e.1,←e.2];simp
theorem Sm.hold (h:Sm k T) (n by':Int) (hb:by'≤1):Sm (k+1) (bP T n by'):=by
 unfold bP
 split
 ·rename_i b x e
  split
  ·exact h.more (by omega)
  ·refine ((h.more (Nat.le_succ k)).set n (fun C e9=>by cases e9) (fun b' x' e9=>?_)).Mj
   cases e9
   have:=h.2 n b x e;exact ⟨by omega,this.2⟩
 ·exact h.more (by omega)
theorem Sm.write (h:Sm k T) (n a:Int) (x:List UInt8):Sm (k+1) (eP T n a x):=by
 unfold eP
 by_cases hh:cB T n a x≠0∨x=[]
 ·rw [if_pos hh];exact h.more (by omega)
 ·rw [if_neg hh]
  cases e:T n with
  |none=>exact h.more (by omega)
  |some nd=>cases nd with
   |dir C=>exact h.more (by omega)
   |file b y=>
    simp only
    refine (h.set n (fun C e9=>by cases e9) (fun b' x' e9=>?_)).more (by omega)
    cases e9
    have h2:=h.2 n b y e
    refine ⟨h2.1,?_⟩
    have hE:cB T n a x=0:=by
     by_cases e9:cB T n a x=0
     ·exact e9
     ·exact absurd (.inl e9) hh
    unfold cB at hE
    have hf:bF T n=0:=by unfold bF;rw [e]
    rw [if_neg (fun e=>e hf)] at hE
    by_cases ha:a<0
    ·rw [if_pos ha] at hE;omega
    ·rw [if_neg ha] at hE
     by_cases hl:(200:Int)<x.length∨200-(x.length:Int)<a
     ·rw [if_pos hl] at hE;omega
     ·rw [zy];omega
theorem bq.hold (hT:bq T) (n:Int) {by':Int}(hb:by'=1∨by'=-1) (hx:∀b x,T n=some (.file b x)→x+1≤1000):bq (bP T n by'):=by
 by_cases hz:bF T n=0
 ·obtain ⟨b,x,hn⟩:=kG hz
  rcases hb with rfl|rfl
  ·have hT':=hT.EM (b':=b) (x':=x+1) hn (hT.small n b x hn).1 (hx b x hn) (.inl (by omega))
   have hN:bP T n 1=bN T n (.file b (x+1)):=by
    unfold bP;rw [hn];simp only
    rw [if_neg (by omega),show ((x:Int)+1).toNat=x+1 by omega]
    exact xy hT'.toTrOk hT'.lv
   rw [hN];exact hT'
  ·cases x with
   |zero=>
    have hN:bP T n (-1)=T:=by unfold bP;rw [hn];simp only;rw [if_pos (by omega)]
    rw [hN];exact hT
   |succ x=>exact (zP hT hn).2.2
 ·have hN:bP T n by'=T:=by
   unfold bP
   cases hn:T n with
   |none=>rfl
   |some nd=>cases nd with
    |dir C=>rfl
    |file b x=>exact absurd (by unfold bF;rw [hn]) hz
  rw [hN];exact hT
theorem bq.JK (hT:bq T) {n:Int}{b b':List UInt8}{x:Nat}(hn:T n=some (.file b x)) (hb:b'.length≤256):bq (bN T n (.file b' x)):=by
 refine hT.EM hn hb (hT.small n b x hn).2 ?_
 rcases hT.lv n _ hn with e|e|e
 ·exact absurd e (Bu hT.toTrOk hn)
 ·exact .inr e
 ·exact .inl e
theorem bq.write (hT:bq T) (n a:Int) (x:List UInt8):bq (eP T n a x):=by
 unfold eP
 split
 ·exact hT
 ·rename_i hh
  split
  ·rename_i b y e
   refine hT.JK e ?_
   have hE:cB T n a x=0:=by
    by_cases e9:cB T n a x=0
    ·exact e9
    ·exact absurd (.inl e9) hh
   have hs:=(hT.small n b y e).1
   unfold cB at hE
   have hf:bF T n=0:=by unfold bF;rw [e]
   rw [if_neg (fun e=>e hf)] at hE
   by_cases ha:a<0
   ·rw [if_pos ha] at hE;omega
   ·rw [if_neg ha] at hE
    by_cases hl:(200:Int)<x.length∨200-(x.length:Int)<a
    ·rw [if_pos hl] at hE;omega
    ·rw [zy];omega
  ·exact hT
theorem bq.make (hT:bq T) {s:Nat}{p:List UInt8}(hE:aZ T s p=0) {n:Int}(hn:gP T n) (h1:n<64) (dir:Bool):bq (gZ T p dir n):=by
 obtain ⟨_,⟨C,hd,hl⟩,hnm,_⟩:=kF hT.toTrOk hE
 exact (zF hT dir hd hl hnm hn.none hn.pos h1).2.2.2
end
def iA (D:DS) (d:Int):DS:={ D with R:=fun j=>if j=d then some ((D.R j).getD 0+1) else D.R j }
theorem Ir {D:DS}{d c:Int}(hc:D.R d=some c):iA D d={ D with R:=fun j=>if j=d then some (c+1) else D.R j }:=by
 unfold iA
 congr 1
 funext j
 split
 ·rename_i e;rw [e,hc];rfl
 ·rfl
structure Cl (D:DS) (d:Int) (e:En) (c:Int):Prop extends CanClose D d e c where
 lv:bq D.T
def Live (D:DS) (N:Ns):Prop:=∀i (hi:i<N.length),0<N[i].1→(D.E N[i].1).isSome=true
section
variable {D:DS}{d:Int}{e:En}
theorem uO {c:Int}(hc:CanClose D d e c) (hm:0<c-1):aQ D d={ D with R:=fun i=>if i=d then some (c-1) else D.R i }:=by
 unfold aQ;rw [hc.dX,hc.cnt];simp only;rw [if_pos hm]
theorem uP {c:Int}(hc:CanClose D d e c) (hm:¬0<c-1) (hk:e.kind=1):aQ D d={ T:=bP D.T e.node (-1),E:=fun i=>if i=d then none else D.E i,R:=fun i=>if i=d then none else if i=d then some (c-1) else D.R i,P:=D.P,nx:=D.nx }:=by
 unfold aQ;rw [hc.dX,hc.cnt];simp only;rw [if_neg hm,if_pos hk]
theorem yj {c:Int}(hc:CanClose D d e c) (hm:¬0<c-1) (hk:e.kind≠1):aQ D d={ T:=D.T,E:=fun i=>if i=d then none else D.E i,R:=fun i=>if i=d then none else if i=d then some (c-1) else D.R i,P:=fun i=>if i=e.pipe then some (pW ((D.P e.pipe).getD ([],0,0)) e.kind) else D.P i,nx:=D.nx }:=by
 unfold aQ;rw [hc.dX,hc.cnt];simp only;rw [if_neg hm,if_neg hk]
end
def qx (d:Int) (N:Ns):Nat:=(N.filter (fun x=>x.1 == d)).length
def iB (d:Int) (Ts:List Ns):Nat:=(Ts.map (qx d)).sum
theorem IL (d:Int) (N:Ns):qx d N≤N.length:=List.length_filter_le _ _
theorem DR:∀(N:Ns) (d:Int) (i:Nat) (y:Int×Bool) (h:i<N.length),qx d (N.set i y)+(if N[i].1=d then 1 else 0)=qx d N+(if y.1=d then 1 else 0)
 | [],_,i,_,h=>by simp at h
 |x :: N,d,0,y,h=>by
  simp only [List.set_cons_zero,List.getElem_cons_zero,qx,List.filter_cons]
  by_cases e1:x.1=d<;>by_cases e2:y.1=d<;>simp [e1,e2]
 |x :: N,d,i+1,y,h=>by
  have ih:=DR N d i y (by simpa using h)
  simp only [List.set_cons_succ,List.getElem_cons_succ]
  unfold qx at ih ⊢
  rw [List.filter_cons,List.filter_cons]
  by_cases e1:x.1=d
  ·simp only [e1,beq_self_eq_true,if_true,List.length_cons];omega
  ·simp only [beq_eq_false_iff_ne.2 e1,Bool.false_eq_true,if_false];omega
theorem DN:∀(Ts:List Ns) (d:Int) (j:Nat) (N':Ns) (h:j<Ts.length),iB d (Ts.set j N')+qx d Ts[j]=iB d Ts+qx d N'
 | [],_,j,_,h=>by simp at h
 |x :: Ts,d,0,N',h=>by simp [iB];omega
 |x :: Ts,d,j+1,N',h=>by
  have ih:=DN Ts d j N' (by simpa using h)
  simp only [List.set_cons_succ,List.getElem_cons_succ]
  unfold iB at ih ⊢
  simp only [List.map_cons,List.sum_cons]
  omega
theorem oJ {Ts:List Ns}{j i:Nat}(hj:j<Ts.length) (hi:i<Ts[j].length) (d:Int) (y:Int×Bool):iB d (Ts.set j (Ts[j].set i y))+(if Ts[j][i].1=d then 1 else 0)=iB d Ts+(if y.1=d then 1 else 0):=by
 have h1:=DN Ts d j (Ts[j].set i y) hj
 have h2:=DR Ts[j] d i y hi
 omega
theorem IK:∀(d:Int) (Ts:List Ns),(∀N∈Ts,N.length=8)→iB d Ts≤8*Ts.length
 |_,[],_=>Nat.zero_le _
 |d,x :: Ts,h=>by
  have ih:=IK d Ts (fun N hN=>h N (List.mem_cons_of_mem _ hN))
  have h1:=IL d x
  have h2:=h x List.mem_cons_self
  unfold iB at ih ⊢
  simp only [List.map_cons,List.sum_cons,List.length_cons]
  omega
theorem OJ {N:Ns}{i:Nat}(hi:i<N.length):0<qx N[i].1 N:=List.length_pos_of_mem (List.mem_filter.2 ⟨List.getElem_mem hi,by simp⟩)
theorem eG:∀ {Ts:List Ns}{j i:Nat}(hj:j<Ts.length) (hi:i<Ts[j].length),0<iB Ts[j][i].1 Ts
 |x :: Ts,0,i,_,hi=>by
  have:=OJ (N:=x) (i:=i) hi
  simp only [iB,List.map_cons,List.sum_cons,List.getElem_cons_zero]
  omega
 |x :: Ts,j+1,i,hj,hi=>by
  have ih:=eG (Ts:=Ts) (j:=j) (i:=i) (by simpa using hj) hi
  simp only [iB,List.map_cons,List.sum_cons,List.getElem_cons_succ] at ih ⊢
  omega
structure kR (D:DS) (C:Int→Nat) (k:Nat):Prop where
 ja:Given D
 lv:bq D.T
 sm:Sm k D.T
 dX:∀d e,D.E d=some e→Au D e
 cE:∀d,0<d→((D.E d).isSome=true↔0<C d)
 cR:∀d,0<d→D.R d=if 0<C d then some (C d:Int) else none
section
variable {D:DS}{C C':Int→Nat}{k:Nat}{d:Int}{e:En}
theorem kR.congr (h:kR D C k) (hc:∀d,0<d→C d=C' d):kR D C' k:=
 ⟨h.ja,h.lv,h.sm,h.dX,fun d hd=>by rw [←hc d hd];exact h.cE d hd,fun d hd=>by rw [←hc d hd];exact h.cR d hd⟩
theorem kR.more (h:kR D C k) {k':Nat}(hk:k≤k'):kR D C k':=⟨h.ja,h.lv,h.sm.more hk,h.dX,h.cE,h.cR⟩
theorem kR.cl (h:kR D C k) (hd:0<d) (hc:0<C d) (hb:C d<100000):∃e,Cl D d e (C d):=by
 obtain ⟨e,he⟩:=Option.isSome_iff_exists.1 ((h.cE d hd).2 hc)
 have ok:=h.dX d e he
 have hg:=h.ja.e d (by rw [he];rfl)
 have hn:=h.ja.n1
 refine ⟨e,⟨hd,by omega,he,by rw [h.cR d hd,if_pos hc],by omega,by omega,ok.kind,fun hk=>?_,fun hk=>?_⟩,h.lv⟩
 ·have:=ok.file hk;omega
 ·obtain ⟨a1,a2,p,a3,a4,a5,a6,a7,a8⟩:=ok.pipe hk
  exact ⟨by omega,by omega,p,a3,a4,a5,a6,a7,a8⟩
theorem Au.keep {D D':DS}(h:Au D e) (hn:D.nx≤D'.nx) (hP:∀p x,D.P p=some x→x.1.length≤16→0≤x.2.1→x.2.1<1000→0≤x.2.2→x.2.2<1000→∃y,D'.P p=some y∧y.1.length≤16∧0≤y.2.1∧y.2.1<1000∧0≤y.2.2∧y.2.2<1000):Au D' e:=by
 refine ⟨h.kind,h.file,h.bZ,h.into,fun hk=>?_⟩
 obtain ⟨a1,a2,p,a3,a4,a5,a6,a7,a8⟩:=h.pipe hk
 exact ⟨a1,by omega,hP _ p a3 a4 a5 a6 a7 a8⟩
theorem Au.same {D D':DS}(h:Au D e) (hn:D.nx≤D'.nx) (hP:D'.P=D.P):Au D' e:=h.keep hn (fun p x a b c d e f=>⟨x,by rw [hP];exact a,b,c,d,e,f⟩)
theorem kR.inc (h:kR D C k) (hd:0<d) (hc:0<C d):kR (iA D d) (fun x=>if x=d then C d+1 else C x) k:=by
 have hR:D.R d=some (C d:Int):=by rw [h.cR d hd,if_pos hc]
 rw [Ir hR]
 refine ⟨⟨h.ja.n0,h.ja.n1,h.ja.e,fun x hx=>?_,h.ja.p⟩,h.lv,h.sm,fun x ex hx=>(h.dX x ex hx).same (Int.le_refl _) rfl,fun x hx=>?_,fun x hx=>?_⟩
 ·have hx':(if x=d then some ((C d:Int)+1) else D.R x).isSome=true:=hx
  by_cases e1:x=d
  ·subst e1;exact h.ja.r x (by rw [hR];rfl)
  ·rw [if_neg e1] at hx';exact h.ja.r x hx'
 ·show (D.E x).isSome=true↔0<(if x=d then C d+1 else C x)
  rw [h.cE x hx]
  by_cases e1:x=d
  ·subst e1;simp [hc]
  ·rw [if_neg e1]
 ·show (if x=d then some ((C d:Int)+1) else D.R x)=_
  by_cases e1:x=d
  ·subst e1
   simp
  ·rw [if_neg e1,h.cR x hx]
   simp only [if_neg e1]
theorem Sm.drop {T:Wd}(h:Sm k T) (n:Int):Sm k (bP T n (-1)):=by
 unfold bP
 split
 ·rename_i b x e
  split
  ·exact h
  ·refine (h.set n (fun C e9=>by cases e9) (fun b' x' e9=>?_)).Mj
   cases e9
   have:=h.2 n b x e;exact ⟨by omega,this.2⟩
 ·exact h
theorem kR.close (h:kR D C k) (hk:k≤900) (hd:0<d) (hc:0<C d) (hb:C d<100000):kR (aQ D d) (fun x=>if x=d then C d-1 else C x) k:=by
 obtain ⟨e,cl⟩:=h.cl hd hc hb
 have hgd:=h.ja.e d (by rw [cl.dX];rfl)
 by_cases hm:0<((C d:Int))-1
 ·rw [uO cl.toCanClose hm]
  refine ⟨⟨h.ja.n0,h.ja.n1,h.ja.e,fun x hx=>?_,h.ja.p⟩,h.lv,h.sm,fun x ex hx=>(h.dX x ex hx).same (Int.le_refl _) rfl,fun x hx=>?_,fun x hx=>?_⟩
  ·have hx':(if x=d then some ((C d:Int)-1) else D.R x).isSome=true:=hx
   by_cases e1:x=d
   ·subst e1;exact hgd
   ·rw [if_neg e1] at hx';exact h.ja.r x hx'
  ·show (D.E x).isSome=true↔0<(if x=d then C d-1 else C x)
   rw [h.cE x hx]
   by_cases e1:x=d
   ·subst e1;rw [if_pos rfl];omega
   ·rw [if_neg e1]
  ·show (if x=d then some ((C d:Int)-1) else D.R x)=_
   by_cases e1:x=d
   ·subst e1
    simp only [if_true]
    rw [if_pos (by omega)]
    congr 1;omega
   ·rw [if_neg e1,h.cR x hx]
    simp only [if_neg e1]
 ·have hc1:C d=1:=by omega
  have hE:∀x,0<x→((if x=d then none else D.E x:Option En).isSome=true↔0<(if x=d then C d-1 else C x)):=fun x hx=>by
   by_cases e1:x=d
   ·subst e1;simp [hc1]
   ·rw [if_neg e1,if_neg e1];exact h.cE x hx
  have hR:∀x,0<x→(if x=d then none else if x=d then some ((C d:Int)-1) else D.R x)=if 0<(if x=d then C d-1 else C x) then some (((if x=d then C d-1 else C x:Nat)):Int) else none:=fun x hx=>by
   by_cases e1:x=d
   ·subst e1;simp [hc1]
   ·rw [if_neg e1,if_neg e1,h.cR x hx]
    simp only [if_neg e1]
  have hgE:∀x,(if x=d then none else D.E x:Option En).isSome=true→0<x∧x≤D.nx:=fun x hx=>by
   by_cases e1:x=d
   ·rw [if_pos e1] at hx;cases hx
   ·rw [if_neg e1] at hx;exact h.ja.e x hx
  have hgR:∀x,(if x=d then none else if x=d then some ((C d:Int)-1) else D.R x:Option Int).isSome=true→0<x∧x≤D.nx:=fun x hx=>by
   by_cases e1:x=d
   ·rw [if_pos e1] at hx;cases hx
   ·rw [if_neg e1,if_neg e1] at hx;exact h.ja.r x hx
  by_cases hkd:e.kind=1
  ·rw [uP cl.toCanClose hm hkd]
   refine ⟨⟨h.ja.n0,h.ja.n1,hgE,hgR,h.ja.p⟩,h.lv.hold e.node (.inr rfl) (fun b x hx=>by have:=(h.sm.2 _ b x hx).1;omega),h.sm.drop _,fun x ex hx=>?_,hE,hR⟩
   have hx':(if x=d then none else D.E x:Option En)=some ex:=hx
   by_cases e1:x=d
   ·rw [if_pos e1] at hx';cases hx'
   ·rw [if_neg e1] at hx';exact (h.dX x ex hx').same (Int.le_refl _) rfl
  ·obtain ⟨a1,a2,p,a3,a4,a5,a6,a7,a8⟩:=(h.dX d e cl.dX).pipe hkd
   rw [yj cl.toCanClose hm hkd]
   refine ⟨⟨h.ja.n0,h.ja.n1,hgE,hgR,fun x hx=>?_⟩,h.lv,h.sm,fun x ex hx=>?_,hE,hR⟩
   ·have hx':(if x=e.pipe then some (pW ((D.P e.pipe).getD ([],0,0)) e.kind) else D.P x).isSome=true:=hx
    by_cases e1:x=e.pipe
    ·rw [e1];exact ⟨a1,a2⟩
    ·rw [if_neg e1] at hx';exact h.ja.p x hx'
   ·have hx':(if x=d then none else D.E x:Option En)=some ex:=hx
    by_cases e1:x=d
    ·rw [if_pos e1] at hx';cases hx'
    ·rw [if_neg e1] at hx'
     refine (h.dX x ex hx').keep (Int.le_refl _) (fun q y b1 b2 b3 b4 b5 b6=>?_)
     by_cases e2:q=e.pipe
     ·refine ⟨pW p e.kind,by show (if q=e.pipe then some (pW ((D.P e.pipe).getD ([],0,0)) e.kind) else D.P q)=_;rw [if_pos e2,a3];rfl,?_⟩
      unfold pW PS PR
      simp only
      refine ⟨a4,?_,?_,?_,?_⟩<;>(split<;>omega)
     ·exact ⟨y,(if_neg e2).trans b1,b2,b3,b4,b5,b6⟩
theorem Gm {x:Int}(h:((aQ D d).E x).isSome=true):(D.E x).isSome=true:=by
 unfold aQ at h
 split at h
 ·split at h
  ·exact h
  ·split at h
   ·have h':(if x=d then none else D.E x:Option En).isSome=true:=h
    by_cases e1:x=d
    ·rw [if_pos e1] at h';cases h'
    ·rw [if_neg e1] at h';exact h'
   ·have h':(if x=d then none else D.E x:Option En).isSome=true:=h
    by_cases e1:x=d
    ·rw [if_pos e1] at h';cases h'
    ·rw [if_neg e1] at h';exact h'
 ·exact h
end
structure Inv (D:DS) (Ts:List Ns) (k:Nat):Prop where
 core:kR D (fun d=>iB d Ts) k
 tab:∀N∈Ts,N.length=8∧∀x∈N,0≤x.1∧(x.1=0→x.2=false)
 few:Ts.length≤500
def vX (D:DS) (N:Ns):Prop:=∀i (hi:i<N.length),0<N[i].1→∃e c,D.E N[i].1=some e∧D.R N[i].1=some c∧0≤c∧c<100000
section
variable {D:DS}{Ts:List Ns}{k j i:Nat}{d:Int}{e:En}
theorem vX.live {N:Ns}(h:vX D N):Live D N:=fun i hi h0=>by
 obtain ⟨e,c,h1,_⟩:=h i hi h0
 rw [h1];rfl
theorem Inv.more (h:Inv D Ts k) {k':Nat}(hk:k≤k'):Inv D Ts k':=⟨h.core.more hk,h.tab,h.few⟩
theorem Inv.len (h:Inv D Ts k) (hj:j<Ts.length):Ts[j].length=8:=(h.tab _ (List.getElem_mem hj)).1
theorem Inv.GX (h:Inv D Ts k) (d:Int):iB d Ts≤4000:=by
 have:=IK d Ts (fun N hN=>(h.tab N hN).1)
 have:=h.few
 omega
theorem Inv.cl (h:Inv D Ts k) (hj:j<Ts.length) (hi:i<Ts[j].length) (h0:0<Ts[j][i].1):∃e,Cl D Ts[j][i].1 e (iB Ts[j][i].1 Ts):=
 h.core.cl h0 (eG hj hi) (by have:=h.GX Ts[j][i].1;omega)
theorem Inv.GZ (h:Inv D Ts k) (hj:j<Ts.length):vX D Ts[j]:=fun i hi h0=>by
 obtain ⟨e,c⟩:=h.cl hj hi h0
 exact ⟨e,_,c.dX,c.cnt,by omega,c.c1⟩
theorem Inv.live (h:Inv D Ts k) (hj:j<Ts.length):Live D Ts[j]:=(h.GZ hj).live
theorem rz {P:Ns→Prop}{N':Ns}(h:∀N∈Ts,P N) (hN:P N'):∀N∈Ts.set j N',P N:=fun N hm=>by
 rcases List.mem_or_eq_of_mem_set hm with h1|h1
 ·exact h N h1
 ·rw [h1];exact hN
theorem rD {N:Ns}(h:N.length=8∧∀x∈N,0≤x.1∧(x.1=0→x.2=false)) (y:Int×Bool) (hy:0≤y.1∧(y.1=0→y.2=false)):(N.set i y).length=8∧∀x∈N.set i y,0≤x.1∧(x.1=0→x.2=false):=by
 refine ⟨by rw [List.length_set];exact h.1,fun x hx=>?_⟩
 rcases List.mem_or_eq_of_mem_set hx with h1|h1
 ·exact h.2 x h1
 ·rw [h1];exact hy
theorem Inv.close (h:Inv D Ts k) (hk:k≤900) (hj:j<Ts.length) (hi:i<Ts[j].length) (h0:0<Ts[j][i].1):Inv (aQ D Ts[j][i].1) (Ts.set j (Ts[j].set i (0,false))) k:=by
 have hb:=h.GX Ts[j][i].1
 refine ⟨(h.core.close hk h0 (eG hj hi) (by omega)).congr (fun x hx=>?_),rz h.tab (rD (h.tab _ (List.getElem_mem hj)) _ ⟨by simp,fun _=>rfl⟩),by rw [List.length_set];exact h.few⟩
 have ht:=oJ hj hi x (0,false)
 have hp:=eG hj hi
 simp only at ht ⊢
 rw [if_neg (show ¬(0:Int)=x by omega)] at ht
 by_cases e1:x=Ts[j][i].1
 ·rw [if_pos e1]
  rw [if_pos e1.symm] at ht
  rw [←e1]
  omega
 ·rw [if_neg e1]
  rw [if_neg (fun z=>e1 z.symm)] at ht
  omega
theorem Inv.dup (h:Inv D Ts k) (hj:j<Ts.length) (hi:i<Ts[j].length) (h0:Ts[j][i].1=0) (hd:0<d) (hc:0<iB d Ts) (c:Bool):Inv (iA D d) (Ts.set j (Ts[j].set i (d,c))) k:=by
 refine ⟨(h.core.inc hd hc).congr (fun x hx=>?_),rz h.tab (rD (h.tab _ (List.getElem_mem hj)) _ ⟨by simp;omega,fun z=>by simp at z;omega⟩),by rw [List.length_set];exact h.few⟩
 have ht:=oJ hj hi x (d,c)
 simp only at ht ⊢
 rw [h0,if_neg (show ¬(0:Int)=x by omega)] at ht
 by_cases e1:x=d
 ·subst e1
  rw [if_pos rfl] at ht ⊢
  omega
 ·rw [if_neg e1]
  rw [if_neg (fun z=>e1 z.symm)] at ht
  omega
theorem Inv.dup2 (h:Inv D Ts k) (hk:k≤900) (hj:j<Ts.length) (hi:i<Ts[j].length) (h0:0<Ts[j][i].1) (hd:0<d) (hc:0<iB d Ts):Inv (aQ (iA D d) Ts[j][i].1) (Ts.set j (Ts[j].set i (d,false))) k∧∃e c,Cl (iA D d) Ts[j][i].1 e c:=by
 have h1:=h.core.inc hd hc
 have hp:=eG hj hi
 have hb:=h.GX Ts[j][i].1
 have hb2:(if Ts[j][i].1=d then iB d Ts+1 else iB Ts[j][i].1 Ts)<100000:=by
  by_cases e1:Ts[j][i].1=d
  ·rw [if_pos e1,←e1];omega
  ·rw [if_neg e1];omega
 have hp2:0<(if Ts[j][i].1=d then iB d Ts+1 else iB Ts[j][i].1 Ts):=by
  by_cases e1:Ts[j][i].1=d
  ·rw [if_pos e1];omega
  ·rw [if_neg e1];omega
 obtain ⟨e,cl⟩:=h1.cl h0 hp2 hb2
 refine ⟨⟨(h1.close hk h0 hp2 hb2).congr (fun x hx=>?_),rz h.tab (rD (h.tab _ (List.getElem_mem hj)) _ ⟨by simp;omega,fun z=>by simp at z;omega⟩),by rw [List.length_set];exact h.few⟩,e,_,cl⟩
 have ht:=oJ hj hi x (d,false)
 simp only at ht ⊢
 by_cases e1:x=Ts[j][i].1
 ·rw [if_pos e1]
  rw [if_pos e1.symm] at ht
  rw [←e1]
  by_cases e2:x=d
  ·subst e2
   rw [if_pos rfl] at ht ⊢
   omega
  ·rw [if_neg e2]
   rw [if_neg (fun z=>e2 z.symm)] at ht
   omega
 ·rw [if_neg e1]
  rw [if_neg (fun z=>e1 z.symm)] at ht
  by_cases e2:x=d
  ·subst e2
   rw [if_pos rfl] at ht ⊢
   omega
  ·rw [if_neg e2]
   rw [if_neg (fun z=>e2 z.symm)] at ht
   omega
theorem Inv.mark (h:Inv D Ts k) (hj:j<Ts.length) (x:Int) (c:Bool):Inv D (Ts.set j (jy Ts[j] x c)) k:=by
 unfold jy
 split
 ·rename_i hx
  obtain ⟨i,rfl,hi,aD,h0⟩:=dL hx (h.len hj)
  rw [getD_in aD,show (i:Int).toNat=i by omega]
  refine ⟨h.core.congr (fun x hx=>?_),rz h.tab (rD (h.tab _ (List.getElem_mem hj)) _ ⟨by simp;omega,fun z=>by simp at z;omega⟩),by rw [List.length_set];exact h.few⟩
  have ht:=oJ hj aD x (Ts[j][i].1,c)
  simp only at ht ⊢
  omega
 ·rw [List.set_getElem_self];exact h
theorem Inv.Me (h:Inv D Ts k) (he:D.E d=some e) {e':En}(hok:Au D e'):Inv { D with E:=fun i=>if i=d then some e' else D.E i } Ts k:=by
 have hs:∀x,(if x=d then some e' else D.E x).isSome=(D.E x).isSome:=fun x=>by
  by_cases e1:x=d
  ·rw [if_pos e1,e1,he];rfl
  ·rw [if_neg e1]
 refine ⟨⟨⟨h.core.ja.n0,h.core.ja.n1,fun x hx=>h.core.ja.e x (by rw [←hs];exact hx),h.core.ja.r,h.core.ja.p⟩,h.core.lv,h.core.sm,fun x ex hx=>?_,fun x hx=>by show (if x=d then some e' else D.E x).isSome=true↔_;rw [hs];exact h.core.cE x hx,h.core.cR⟩,h.tab,h.few⟩
 have hx':(if x=d then some e' else D.E x)=some ex:=hx
 by_cases e1:x=d
 ·rw [if_pos e1] at hx'
  obtain rfl:=Option.some.inj hx'
  exact hok.same (Int.le_refl _) rfl
 ·rw [if_neg e1] at hx'
  exact (h.core.dX x ex hx').same (Int.le_refl _) rfl
theorem Inv.bQ (h:Inv D Ts k) {p:Int}{x y:Pi}(hp:D.P p=some x) (hy:y.1.length≤16∧0≤y.2.1∧y.2.1<1000∧0≤y.2.2∧y.2.2<1000):Inv { D with P:=fun i=>if i=p then some y else D.P i } Ts k:=by
 refine ⟨⟨⟨h.core.ja.n0,h.core.ja.n1,h.core.ja.e,h.core.ja.r,fun q hq=>?_⟩,h.core.lv,h.core.sm,fun q ex hx=>(h.core.dX q ex hx).keep (Int.le_refl _) (fun r z a b c d e f=>?_),h.core.cE,h.core.cR⟩,h.tab,h.few⟩
 ·have hq':(if q=p then some y else D.P q).isSome=true:=hq
  by_cases e1:q=p
  ·rw [e1];exact h.core.ja.p p (by rw [hp];rfl)
  ·rw [if_neg e1] at hq';exact h.core.ja.p q hq'
 ·by_cases e1:r=p
  ·exact ⟨y,if_pos e1,hy⟩
  ·exact ⟨z,(if_neg e1).trans a,b,c,d,e,f⟩
theorem Inv.I6 (h:Inv D Ts k) {T':Wd}{k':Nat}(hT:bq T') (hs:Sm k' T'):Inv { D with T:=T' } Ts k':=
 ⟨⟨⟨h.core.ja.n0,h.core.ja.n1,h.core.ja.e,h.core.ja.r,h.core.ja.p⟩,hT,hs,fun q ex hx=>(h.core.dX q ex hx).same (Int.le_refl _) rfl,h.core.cE,h.core.cR⟩,h.tab,h.few⟩
theorem Inv.unlink (h:Inv D Ts k) (p:List UInt8):Inv { D with T:=dY D.T p } Ts (k+1):=h.I6 (h.core.lv.unlink p) (h.core.sm.unlink p)
theorem Inv.add (h:Inv D Ts k) (hn:D.nx<899) (hj:j<Ts.length) (hl:¬au Ts[j]<0) (hok:Au (iR D e) e):Inv (iR D e) (Ts.set j (addN D Ts[j])) k:=by
 have g:=h.core.ja
 obtain ⟨n1,n2,n3⟩:=g.new
 rcases kg (N:=Ts[j]) with VX|⟨i,hi,aD,hi0⟩
 ·omega
 have hN:addN D Ts[j]=Ts[j].set i (D.nx+1,false):=by unfold addN;rw [hi,show (i:Int).toNat=i by omega]
 have h0:=g.n0
 have hz:iB (D.nx+1) Ts=0:=by
  have:=h.core.cE (D.nx+1) (by omega)
  rw [n1] at this
  simp at this
  exact this
 rw [hN]
 have hcnt:∀x,0<x→iB x (Ts.set j (Ts[j].set i (D.nx+1,false)))=if x=D.nx+1 then 1 else iB x Ts:=fun x hx=>by
  have ht:=oJ hj aD x (D.nx+1,false)
  simp only at ht
  rw [hi0,if_neg (show ¬(0:Int)=x by omega)] at ht
  by_cases e1:x=D.nx+1
  ·rw [if_pos e1]
   rw [if_pos e1.symm,e1,hz] at ht
   rw [e1];omega
  ·rw [if_neg e1]
   rw [if_neg (fun z=>e1 z.symm)] at ht
   omega
 refine ⟨⟨g.add hn e,h.core.lv,h.core.sm,fun x ex hx=>?_,fun x hx=>?_,fun x hx=>?_⟩,rz h.tab (rD (h.tab _ (List.getElem_mem hj)) _ ⟨by simp;omega,fun z=>by simp at z;omega⟩),by rw [List.length_set];exact h.few⟩
 ·have hx':(if x=D.nx+1 then some e else D.E x)=some ex:=hx
  by_cases e1:x=D.nx+1
  ·rw [if_pos e1] at hx'
   obtain rfl:=Option.some.inj hx'
   exact hok
  ·rw [if_neg e1] at hx'
   exact (h.core.dX x ex hx').same (by show D.nx≤D.nx+1;omega) rfl
 ·show (if x=D.nx+1 then some e else D.E x).isSome=true↔_
  rw [hcnt x hx]
  by_cases e1:x=D.nx+1
  ·rw [if_pos e1,if_pos e1];simp
  ·rw [if_neg e1,if_neg e1];exact h.core.cE x hx
 ·show (if x=D.nx+1 then some 1 else D.R x)=_
  rw [hcnt x hx]
  by_cases e1:x=D.nx+1
  ·simp [e1]
  ·rw [if_neg e1,if_neg e1,h.core.cR x hx]
theorem mq {Ts:List Ns}{j:Nat}(_:j<Ts.length) (N':Ns) (h:j<(Ts.set j N').length):(Ts.set j N')[j]=N':=List.getElem_set_self h
theorem Da (Ts:List Ns) (j:Nat) (a b:Ns):(Ts.set j a).set j b=Ts.set j b:=List.set_set _
theorem Inv.kU (h:Inv D Ts k) (hj:j<Ts.length):Inv D (Ts.set j Ts[j]) k:=by rw [List.set_getElem_self];exact h
theorem Inv.file {n s:Nat}{p:List UInt8}{pr:Int}{mk:Bool}{x c:Int}{D':DS}{N':Ns}(h:Inv D Ts k) (hk:k≤890) (hn:D.nx<899) (hj:j<Ts.length) (hs:di D.T s) (hF:iG D Ts[j] n s p pr mk x c D' N'):Inv D' (Ts.set j N') (k+2):=by
 have hlv:=h.core.lv
 have hadd:∀T' nd,bq T'→Sm (k+2) T'→1≤pr∧pr≤3→0≤nd→nd<1000→roomy Ts[j] n→Inv (iR { D with T:=T' } ⟨1,pr,nd,0,0⟩) (Ts.set j (addN D Ts[j])) (k+2):=fun T' nd hT' hS' hp h0 h1 hr=>
  (h.I6 (T':=T') hT' hS').add (D:={ D with T:=T' }) (e:=⟨1,pr,nd,0,0⟩) hn hj hr.1 ⟨.inl rfl,fun _=>⟨hp.1,hp.2,h0,h1,by simp,by simp⟩,fun z=>by simp at z,fun z=>by simp at z,fun z=>absurd rfl z⟩
 cases hF with
 |opened hp hr hE hh=>
  have hkey:=hlv.key _ (nH hlv.toTrOk hE)
  exact hadd _ _ (hlv.hold _ (.inl rfl) (fun b x hx=>by have:=(h.core.sm.2 _ b x hx).1;omega)) ((h.core.sm.hold _ 1 (by omega)).more (by omega)) hp hkey.1 (by omega) hr
 |made hp hr hE hm hM z hz=>
  have Zj:z<64:=by
   have VK:=pG hlv.toTrOk hM hz
   have WG:=(kF hlv.toTrOk hM).2.2.2
   have h9:=hs.free (k:=z.toNat) (fun i hi=>hz.least i (by omega) (by have:=hz.pos;omega))
   have:=hz.pos
   omega
  have hlv1:=hlv.make hM hz Zj false
  have VK:=pG hlv.toTrOk hM hz
  exact hadd _ _ (hlv1.hold _ (.inl rfl) (fun b x hx=>by have:=VK.2 b x hx;omega)) ((h.core.sm.make p false z).hold _ 1 (by omega)) hp hz.pos (by omega) hr
 |_=>exact (h.kU hj).more (by omega)
end
def iO (D:DS) (N:Ns):DS:=N.foldl (fun D x=>if 0<x.1 then iA D x.1 else D) D
noncomputable def ai (all:Bool) (D:DS) (N:Ns):Nat→DS×Ns
 |0=>(D,N)
 |i+1=>if 0<(N.getD i (0,false)).1∧(all=true∨(N.getD i (0,false)).2=true) then (aQ (ai all D N i).1 (N.getD i (0,false)).1,(ai all D N i).2.set i (0,false)) else ai all D N i
section
variable {D:DS}{Ts:List Ns}{k j i:Nat}{d:Int}{e:En}
theorem Inv.adm (h:Inv D Ts k) (hj:j<Ts.length) (x a:Int):Inv (SV D Ts[j] x a) Ts k:=by
 unfold SV
 split
 ·rename_i hz
  unfold SS at hz
  split at hz
  ·cases he:D.E (Ts[j].getD x.toNat (0,false)).1 with
   |none=>exact h
   |some e=>
    rw [he] at hz
    simp only at hz ⊢
    have hok:=h.core.dX _ e he
    by_cases hk:e.kind=1
    ·rw [if_neg (fun z=>z hk)] at hz
     by_cases ha:0≤a∧a≤200
     ·refine h.Me he ⟨hok.kind,fun hk=>?_,hok.bZ,hok.into,hok.pipe⟩
      have:=hok.file hk
      exact ⟨this.1,this.2.1,this.2.2.1,this.2.2.2.1,ha.1,ha.2⟩
     ·rw [if_neg ha] at hz;omega
    ·rw [if_pos hk] at hz;omega
  ·omega
 ·exact h
theorem zk {T:Wd}{x a c:Int}(hs:Sm k T) (h0:0≤a) (h1:a≤200):a+(dS T x a c).length≤200:=by
 unfold dS
 split
 ·rename_i b y e
  have:=(hs.2 x b y e).2
  split
  ·simp;omega
  ·rw [List.length_take,List.length_drop];omega
 ·simp;omega
theorem Inv.read (h:Inv D Ts k) (hj:j<Ts.length) (x a:Int):Inv (dh D Ts[j] x a).2.2 Ts k:=by
 unfold dh
 split
 ·split
  ·exact h
  ·rename_i e he
   have hok:=h.core.dX _ e he
   split
   ·exact h
   ·split
    ·rename_i hk
     refine h.Me he ⟨hok.kind,fun hk=>?_,hok.bZ,hok.into,hok.pipe⟩
     obtain ⟨a1,a2,a3,a4,a5,a6⟩:=hok.file hk
     have:=zk (x:=e.node) (c:=a) h.core.sm a5 a6
     exact ⟨a1,a2,a3,a4,by simp only;omega,this⟩
    ·rename_i hk
     obtain ⟨a1,a2,p,a3,a4,a5,a6,a7,a8⟩:=hok.pipe hk
     rw [a3]
     exact h.bQ a3 ⟨by simp;omega,a5,a6,a7,a8⟩
 ·exact h
theorem Fx {T:Wd}{x a:Int}{s:List UInt8}(h:cB T x a s=0):a+s.length≤200:=by
 unfold cB at h
 split at h
 ·omega
 ·split at h
  ·omega
  ·split at h
   ·omega
   ·omega
theorem Inv.write (h:Inv D Ts k) (hj:j<Ts.length) (x:Int) (s:List UInt8) (a:Int):Inv (cu D Ts[j] x s a).2.2 Ts (k+1):=by
 have h1:=h.more (Nat.le_succ k)
 unfold cu
 split
 ·split
  ·exact h1
  ·rename_i e he
   have hok:=h.core.dX _ e he
   split
   ·exact h1
   ·split
    ·rename_i hk
     split
     ·exact h1
     ·split
      ·exact h1
      ·rename_i hE
       have hE':cB D.T e.node e.pos s=0:=by omega
       have h2:=h.I6 (h.core.lv.write e.node e.pos s) (h.core.sm.write e.node e.pos s)
       refine h2.Me (D:={ D with T:=eP D.T e.node e.pos s }) he ⟨hok.kind,fun hk=>?_,hok.bZ,hok.into,hok.pipe⟩
       obtain ⟨a1,a2,a3,a4,a5,a6⟩:=hok.file hk
       have:=Fx hE'
       exact ⟨a1,a2,a3,a4,by simp only;omega,this⟩
    ·rename_i hk
     obtain ⟨a1,a2,p,a3,a4,a5,a6,a7,a8⟩:=hok.pipe hk
     rw [a3]
     exact h1.bQ a3 ⟨Qh _ _ _ a4,a5,a6,a7,a8⟩
 ·exact h1
theorem Inv.ZP (h:Inv D Ts k) (hj:j<Ts.length) (x:Int):Inv (jR D Ts[j] x) (Ts.set j (jQ Ts[j] x)) k:=by
 by_cases hz:iQ Ts[j] x=0
 ·have hx:aG Ts[j] x=true:=by
   unfold iQ at hz
   by_cases e1:aG Ts[j] x=true
   ·exact e1
   ·rw [if_neg e1] at hz;omega
  obtain ⟨i,rfl,hi,aD,h0⟩:=dL hx (h.len hj)
  unfold iQ at hz
  rw [if_pos hx] at hz
  rcases kg (N:=Ts[j]) with hl|⟨y,hl,hyL,hy0⟩
  ·rw [hl] at hz;simp at hz
  have e0:iQ Ts[j] i=0:=by unfold iQ;rw [if_pos hx];exact hz
  have e1:jR D Ts[j] i=iA D Ts[j][i].1:=by unfold jR;rw [if_pos e0,getD_in aD];rfl
  have e2:jQ Ts[j] i=Ts[j].set y (Ts[j][i].1,false):=by unfold jQ;rw [if_pos e0,getD_in aD,hl,show (y:Int).toNat=y by omega]
  rw [e1,e2]
  exact h.dup hj hyL hy0 h0 (eG hj aD) false
 ·rw [show jR D Ts[j] x=D from if_neg hz,show jQ Ts[j] x=Ts[j] from if_neg hz]
  exact h.kU hj
theorem Inv.pipe (h:Inv D Ts k) (hn:D.nx<890) (hj:j<Ts.length) (hl1:¬au Ts[j]<0) (hl2:¬au (dC D Ts[j])<0):Inv (uy D) (Ts.set j (yL D Ts[j])) k:=by
 have g:=h.core.ja
 obtain ⟨n1,n2,n3⟩:=g.new
 have g0:=g.n0
 have hz:iB (D.nx+1) Ts=0:=by
  have:=h.core.cE (D.nx+1) (by omega)
  rw [n1] at this
  simp at this
  exact this
 have h0:Inv (jY D) Ts k:=by
  refine ⟨⟨g.Xi (by omega),h.core.lv,h.core.sm,fun x ex hx=>(h.core.dX x ex hx).keep (by show D.nx≤D.nx+1;omega) (fun p y a b c d e f=>?_),h.core.cE,h.core.cR⟩,h.tab,h.few⟩
  have:p≠D.nx+1:=fun e=>by rw [e,n3] at a;cases a
  exact ⟨y,(if_neg this).trans a,b,c,d,e,f⟩
 have XU:(jY D).P (D.nx+1)=some ([],1,1):=if_pos rfl
 have h1:Inv (ou D) (Ts.set j (dC D Ts[j])) k:=h0.add (D:=jY D) (e:=⟨2,1,0,D.nx+1,0⟩) (by show D.nx+1<899;omega) hj hl1 ⟨.inr (.inl rfl),fun z=>by simp at z,fun _=>rfl,fun z=>by simp at z,fun _=>⟨by simp only;omega,by show D.nx+1≤D.nx+1+1;omega,_,XU,by simp,by simp,by simp,by simp,by simp⟩⟩
 have hj1:j<(Ts.set j (dC D Ts[j])).length:=by rw [List.length_set];exact hj
 have hg1:=mq hj (dC D Ts[j]) hj1
 have h2:=h1.add (D:=ou D) (j:=j) (e:=⟨3,2,0,D.nx+1,0⟩) (by show D.nx+1+1<899;omega) hj1 (by rw [hg1];exact hl2) ⟨.inr (.inr rfl),fun z=>by simp at z,fun z=>by simp at z,fun _=>rfl,fun _=>⟨by simp only;omega,by show D.nx+1≤D.nx+1+1+1;omega,_,XU,by simp,by simp,by simp,by simp,by simp⟩⟩
 rw [hg1,Da] at h2
 exact h2
theorem kR.fork:∀(l:Ns) {D:DS}{C:Int→Nat},kR D C k→(∀x∈l,0<x.1→0<C x.1)→kR (iO D l) (fun d=>C d+qx d l) k
 | [],D,C,h,_=>h.congr (fun d _=>by simp [qx])
 |x :: l,D,C,h,hl=>by
  unfold iO
  rw [List.foldl_cons]
  by_cases hx:0<x.1
  ·rw [if_pos hx]
   refine (kR.fork l (h.inc hx (hl x List.mem_cons_self hx)) (fun y hy h0=>?_)).congr (fun d hd=>?_)
   ·show 0<(if y.1=x.1 then C x.1+1 else C y.1)
    split
    ·omega
    ·exact hl y (List.mem_cons_of_mem _ hy) h0
   ·simp only [qx,List.filter_cons]
    by_cases e1:d=x.1
    ·simp [e1];omega
    ·simp [e1,Ne.symm e1]
  ·rw [if_neg hx]
   refine (kR.fork l h (fun y hy h0=>hl y (List.mem_cons_of_mem _ hy) h0)).congr (fun d hd=>?_)
   simp only [qx,List.filter_cons]
   rw [if_neg (by simp;omega)]
theorem Inv.fork (h:Inv D Ts k) (hf:Ts.length<500) (hj:j<Ts.length):Inv (iO D Ts[j]) (Ts ++ [Ts[j]]) k:=by
 refine ⟨(kR.fork Ts[j] h.core (fun x hx h0=>?_)).congr (fun d hd=>?_),fun N hN=>?_,by rw [List.length_append];simp;omega⟩
 ·obtain ⟨i,hi,rfl⟩:=List.getElem_of_mem hx
  exact eG hj hi
 ·simp [iB]
 ·rcases List.mem_append.1 hN with h1|h1
  ·exact h.tab N h1
  ·rw [List.mem_singleton.1 h1];exact h.tab _ (List.getElem_mem hj)
theorem gy (all:Bool) (D:DS) (N:Ns):∀i,(ai all D N i).2.length=N.length∧∀x,i≤x→(ai all D N i).2[x]? = N[x]?
 |0=>⟨rfl,fun _ _=>rfl⟩
 |i+1=>by
  obtain ⟨h1,h2⟩:=gy all D N i
  rw [ai]
  split
  ·refine ⟨by simp only [List.length_set];exact h1,fun x hx=>?_⟩
   simp only
   rw [List.getElem?_set_ne (by omega)]
   exact h2 x (by omega)
  ·exact ⟨h1,fun x hx=>h2 x (by omega)⟩
theorem wS {all:Bool}{N:Ns}{i:Nat}(hi:i<N.length) (h:i<(ai all D N i).2.length):(ai all D N i).2[i]=N[i]:=by
 have:=(gy all D N i).2 i (Nat.le_refl _)
 rw [List.getElem?_eq_getElem h,List.getElem?_eq_getElem hi] at this
 exact Option.some.inj this
theorem Inv.free (h:Inv D Ts k) (hk:k≤900) (hj:j<Ts.length) (all:Bool):∀i,i≤8→Inv (ai all D Ts[j] i).1 (Ts.set j (ai all D Ts[j] i).2) k
 |0,_=>h.kU hj
 |i+1,hi=>by
  have ih:=Inv.free h hk hj all i (by omega)
  rw [ai]
  split
  ·rename_i hc
   have Yz:i<Ts[j].length:=by rw [h.len hj];omega
   have LM:i<(ai all D Ts[j] i).2.length:=by rw [(gy all D Ts[j] i).1];exact Yz
   have hj1:j<(Ts.set j (ai all D Ts[j] i).2).length:=by rw [List.length_set];exact hj
   have hg1:=mq hj (ai all D Ts[j] i).2 hj1
   have hgi:(Ts.set j (ai all D Ts[j] i).2)[j][i]'(by rw [hg1];exact LM)=Ts[j][i]:=by
    simp only [hg1]
    exact wS Yz LM
   have hD:Ts[j].getD i (0,false)=Ts[j][i]:=by rw [List.getD_eq_getElem?_getD,List.getElem?_eq_getElem Yz];rfl
   rw [hD] at hc ⊢
   have h2:=ih.close hk hj1 (i:=i) (by rw [hg1];exact LM) (by rw [hgi];exact hc.1)
   rw [hgi,hg1,Da] at h2
   exact h2
  ·exact ih
end
theorem Ov {T:Wd}{x:Int}(h:dU T x 1≠0):bP T x 1=T:=by
 unfold dU at h;unfold bP
 cases hn:T x with
 |none=>rfl
 |some nd=>cases nd with
  |dir C=>rfl
  |file b y=>
   rw [hn] at h
   simp only at h ⊢
   by_cases h9:(y:Int)+1<0
   ·omega
   ·rw [if_neg h9] at h;exact absurd rfl h
noncomputable def gM (D:DS) (N:Ns) (x:Int):DS:=if aG N x=true then aQ D (N.getD x.toNat (0,false)).1 else D
def fO (N:Ns) (x:Int):Ns:=if aG N x=true then N.set x.toNat (0,false) else N
def eD (N:Ns) (x y:Int):Int:=if aG N x=true then (if 0≤y∧y≤7 then 0 else 2) else 7
noncomputable def eO (D:DS) (N:Ns) (x y:Int):DS:=if eD N x y=0∧x≠y then (if (N.getD y.toNat (0,false)).1=0 then iA D (N.getD x.toNat (0,false)).1 else aQ (iA D (N.getD x.toNat (0,false)).1) (N.getD y.toNat (0,false)).1) else D
def dV (N:Ns) (x y:Int):Ns:=if eD N x y=0∧x≠y then N.set y.toNat ((N.getD x.toNat (0,false)).1,false) else N
def sV (N:Ns) (n:Nat):Prop:=aj N+2 > 8∨n+2 > 40
def qc (D:DS) (N:Ns) (n:Nat) (x y c:Int) (D':DS) (N':Ns):Prop:=(sV N n∧x=0∧y=0∧c=12∧D'=D∧N'=N)∨(¬sV N n∧x=au N∧y=au (dC D N)∧c=0∧D'=uy D∧N'=yL D N)
section
variable {D:DS}{Ts:List Ns}{k j i:Nat}{d:Int}{e:En}
theorem CP:∀(N:Ns) (i:Nat) (y:Int×Bool),aj (N.set i y)≤aj N+1
 | [],_,_=>by simp [aj]
 |x :: N,0,y=>by
  simp only [List.set_cons_zero,aj,List.filter_cons]
  split<;>split<;>simp<;>omega
 |x :: N,i+1,y=>by
  have:=CP N i y
  simp only [List.set_cons_succ,aj,List.filter_cons] at this ⊢
  split
  ·simp;omega
  ·exact this
theorem Inv.nn (h:Inv D Ts k) (hj:j<Ts.length):∀x∈Ts[j],0≤x.1:=fun x hx=>((h.tab _ (List.getElem_mem hj)).2 x hx).1
theorem Inv.zu (h:Inv D Ts k) (hj:j<Ts.length) {n:Nat}(hf:¬sV Ts[j] n):¬au Ts[j]<0∧¬au (dC D Ts[j])<0:=by
 have h0:=h.core.ja.n0
 have hl:=h.len hj
 have hu:aj Ts[j]+2≤8:=by unfold sV at hf;omega
 have e1:¬au Ts[j]<0:=fun z=>by
  have:=(iY (h.nn hj)).1 z;omega
 refine ⟨e1,fun z=>?_⟩
 have h2:∀x∈dC D Ts[j],0≤x.1:=fun x hx=>by
  unfold dC addN at hx
  rcases List.mem_or_eq_of_mem_set hx with h1|h1
  ·exact h.nn hj x h1
  ·rw [h1];show 0≤D.nx+1+1;omega
 have h3:=(iY h2).1 z
 have h4:aj (dC D Ts[j])≤aj Ts[j]+1:=CP _ _ _
 have h5:(dC D Ts[j]).length=8:=by unfold dC addN;rw [List.length_set];exact hl
 omega
theorem Inv.Vf (h:Inv D Ts k) (hk:k≤900) (hj:j<Ts.length) (x:Int):Inv (gM D Ts[j] x) (Ts.set j (fO Ts[j] x)) k:=by
 unfold gM fO
 by_cases hx:aG Ts[j] x=true
 ·obtain ⟨i,rfl,hi,aD,h0⟩:=dL hx (h.len hj)
  rw [if_pos hx,if_pos hx,getD_in aD,show (i:Int).toNat=i by omega]
  exact h.close hk hj aD h0
 ·rw [if_neg hx,if_neg hx];exact h.kU hj
theorem Inv.XB (h:Inv D Ts k) (hk:k≤900) (hj:j<Ts.length) (x y:Int):Inv (eO D Ts[j] x y) (Ts.set j (dV Ts[j] x y)) k:=by
 unfold eO dV
 by_cases hz:eD Ts[j] x y=0∧x≠y
 ·rw [if_pos hz,if_pos hz]
  obtain ⟨hz,hne⟩:=hz
  unfold eD at hz
  by_cases hx:aG Ts[j] x=true
  ·rw [if_pos hx] at hz
   by_cases hy:0≤y∧y≤7
   ·obtain ⟨i,rfl,hi,aD,h0⟩:=dL hx (h.len hj)
    obtain ⟨i2,rfl⟩:∃i2:Nat,y=i2:=⟨y.toNat,by omega⟩
    have Ap:i2<Ts[j].length:=by rw [h.len hj];omega
    rw [getD_in aD,getD_in Ap,show (i2:Int).toNat=i2 by omega]
    by_cases e0:Ts[j][i2].1=0
    ·rw [if_pos e0]
     exact h.dup hj Ap e0 h0 (eG hj aD) false
    ·rw [if_neg e0]
     have:=h.nn hj _ (List.getElem_mem Ap)
     exact (h.dup2 hk hj Ap (by omega) h0 (eG hj aD)).1
   ·rw [if_neg hy] at hz;omega
  ·rw [if_neg hx] at hz;omega
 ·rw [if_neg hz,if_neg hz];exact h.kU hj
end
end Go.Proofs.YtcfhanoekniaaaaGreatDoor

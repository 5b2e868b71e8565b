/- What File comes to, plainly. -/
import Derived.Test.YtcfhanoekniaaaaGreatDoorQTab
import Derived.Test.YtcfhanoekniaaaaGreatDoorUMkdir
import Derived.Test.YtcfhanoekniaaaaGreatDoorSKeys
import Derived.Maps.RangeWalk
import Derived.Test.YtcfhanoekniaaaaGreatDoorUTake
import Derived.Sort.KeysCollected
import Derived.Maps.Views
import Derived.Test.YtcfhanoekniaaaaGreatDoorShelfW
import Derived.Test.YtcfhanoekniaaaaGreatDoorUUnlink
namespace Go.Proofs.YtcfhanoekniaaaaGreatDoor
open Go.RowKit Go.Maps
inductive iP (D:DS) (N:Ns) (n s:Nat) (p:List UInt8) (pr:Int) (mk:Bool):Int→Int→DS→Ns→Prop
 |arg (hp:¬(1≤pr∧pr≤3)):iP D N n s p pr mk 0 1 D N
 |full (hp:1≤pr∧pr≤3) (hr:¬roomy N n):iP D N n s p pr mk 0 12 D N
 |no (hp:1≤pr∧pr≤3) (hr:roomy N n) (hE:(aS D.T p).2≠0) (h7:¬((aS D.T p).2=7∧mk=true)):iP D N n s p pr mk 0 (aS D.T p).2 D N
 |dir (hp:1≤pr∧pr≤3) (hr:roomy N n) (hE:(aS D.T p).2=0) (hh:dZ D.T (aS D.T p).1 1≠0):iP D N n s p pr mk 0 (dZ D.T (aS D.T p).1 1) D N
 |opened (hp:1≤pr∧pr≤3) (hr:roomy N n) (hE:(aS D.T p).2=0) (hh:dZ D.T (aS D.T p).1 1=0):iP D N n s p pr mk (au N) 0 (iW { D with T:=bR D.T (aS D.T p).1 1 } ⟨1,pr,(aS D.T p).1,0,0⟩) (addN D N)
 |Nc (hp:1≤pr∧pr≤3) (hr:roomy N n) (hE:(aS D.T p).2=7) (hm:mk=true) (hM:bC D.T s p≠0):iP D N n s p pr mk 0 (bC D.T s p) D N
 |made (hp:1≤pr∧pr≤3) (hr:roomy N n) (hE:(aS D.T p).2=7) (hm:mk=true) (hM:bC D.T s p=0) (k:Int) (hk:gZ D.T k):iP D N n s p pr mk (au N) 0 (iW { D with T:=bR (iD D.T p false k) k 1 } ⟨1,pr,k,0,0⟩) (addN D N)
theorem jf:∀ {N:Ns},(∀x∈N,0≤x.1)→(au N<0↔N.length≤aj N)
 | [],_=>by simp [au,aj]
 |x :: N,h=>by
  have ih:=jf (N:=N) (fun y hy=>h y (List.mem_cons_of_mem _ hy))
  have hx:=h x List.mem_cons_self
  have hl:=vJ N
  rw [au]
  unfold aj at ih hl ⊢
  by_cases e:x.1=0
  ·rw [if_pos e,List.filter_cons_of_neg (by simp;omega),List.length_cons]
   constructor
   ·intro h9;omega
   ·intro h9;omega
  ·rw [if_neg e,List.filter_cons_of_pos (by simp;omega),List.length_cons,List.length_cons]
   rcases kG (N:=N) with h9|⟨i,h9,_⟩
   ·rw [h9] at ih
    rw [if_pos h9]
    constructor
    ·intro _;have:=ih.1 (by omega);omega
    ·intro _;omega
   ·rw [if_neg (by omega)]
    constructor
    ·intro h8;omega
    ·intro h8;have:=ih.2 (by omega);omega
end Go.Proofs.YtcfhanoekniaaaaGreatDoor
namespace Go.Proofs.YtcfhanoekniaaaaGreatDoor
open Go.RowKit Go.Maps
structure AU (D:DS) (e:En):Prop where
 kind:e.kind=1∨e.kind=2∨e.kind=3
 file:e.kind=1→1≤e.ag∧e.ag≤3∧0≤e.node∧e.node<1000∧0≤e.pos∧e.pos≤200
 cB:e.kind=2→e.ag=1
 into:e.kind=3→e.ag=2
 pipe:e.kind≠1→0<e.pipe∧e.pipe≤D.nx∧∃p,D.P e.pipe=some p∧p.1.length≤16∧0≤p.2.1∧p.2.1<1000∧0≤p.2.2∧p.2.2<1000
def dz (D:DS) (N:Ns) (x a:Int):List UInt8×Int×DS:=if aH N x=true then (match D.E (N.getD x.toNat (0,false)).1 with
 |none=>([],7,D)
 |some e=>if e.ag=2 then ([],13,D) else if e.kind=1 then (dY D.T e.node e.pos a,jw D.T e.node e.pos a,{ D with E:=fun j=>if j=(N.getD x.toNat (0,false)).1 then some { e with pos:=e.pos+(dY D.T e.node e.pos a).length } else D.E j }) else match D.P e.pipe with
  |none=>([],7,D)
  |some p=>(p.1.take a.toNat,G8 p.2.2 p.1 a,{ D with P:=fun j=>if j=e.pipe then some (p.1.drop a.toNat,p.2.1,p.2.2) else D.P j })) else ([],7,D)
open Classical in
noncomputable def cO (D:DS) (N:Ns) (x:Int) (s:List UInt8) (a:Int):Int×Int×DS:=if aH N x=true then (match D.E (N.getD x.toNat (0,false)).1 with
 |none=>(0,7,D)
 |some e=>if e.ag=1 then (0,13,D) else if e.kind=1 then (if nD s a e.pos then (0,4,D) else if cZ D.T e.node e.pos s≠0 then (0,cZ D.T e.node e.pos s,D) else ((s.length:Int),0,{ D with T:=fe D.T e.node e.pos s,E:=fun j=>if j=(N.getD x.toNat (0,false)).1 then some { e with pos:=e.pos+s.length } else D.E j })) else match D.P e.pipe with
  |none=>(0,7,D)
  |some p=>((Me p.2.1 p.1 s:Int),Mf p.2.1 p.1 s,{ D with P:=fun j=>if j=e.pipe then some (E8 p.2.1 p.1 s,p.2.1,p.2.2) else D.P j })) else (0,7,D)
section
variable {D:DS}{N:Ns}{i:Nat}{e:En}{a:Int}{s:List UInt8}
theorem Oe {x:Int}(h:aH N x=false):dz D N x a=([],7,D):=if_neg (by rw [h];simp)
theorem JE {x:Int}(h:aH N x=false):cO D N x s a=(0,7,D):=if_neg (by rw [h];simp)
theorem jB (hi:i<8) (aF:i<N.length) (h0:0<N[i].1):aH N i=true:=by
 unfold aH
 rw [getD_in aF]
 simp [h0]
 omega
variable (hi:i<8) (aF:i<N.length) (h0:0<N[i].1) (he:D.E N[i].1=some e)
include hi h0 he
theorem EF (hp:e.ag=2):dz D N i a=([],13,D):=by
 unfold dz;rw [if_pos (jB hi aF h0),getD_in aF,he];simp only;rw [if_pos hp]
theorem F9 (hk:e.kind=1) (hp:e.ag≠2):dz D N i a=(dY D.T e.node e.pos a,jw D.T e.node e.pos a,{ D with E:=fun j=>if j=N[i].1 then some { e with pos:=e.pos+(dY D.T e.node e.pos a).length } else D.E j }):=by
 unfold dz;rw [if_pos (jB hi aF h0),getD_in aF,he];simp only;rw [if_neg hp,if_pos hk]
theorem Kk (hk:e.kind≠1) (hp:e.ag≠2) {p:Pi}(hP:D.P e.pipe=some p):dz D N i a=(p.1.take a.toNat,G8 p.2.2 p.1 a,{ D with P:=fun j=>if j=e.pipe then some (p.1.drop a.toNat,p.2.1,p.2.2) else D.P j }):=by
 unfold dz;rw [if_pos (jB hi aF h0),getD_in aF,he];simp only;rw [if_neg hp,if_neg hk,hP]
theorem Cg (hp:e.ag=1):cO D N i s a=(0,13,D):=by
 unfold cO;rw [if_pos (jB hi aF h0),getD_in aF,he];simp only;rw [if_pos hp]
theorem Cf (hk:e.kind=1) (hp:e.ag≠1) (hl:nD s a e.pos):cO D N i s a=(0,4,D):=by
 unfold cO;rw [if_pos (jB hi aF h0),getD_in aF,he];simp only;rw [if_neg hp,if_pos hk,if_pos hl]
theorem FT (hk:e.kind=1) (hp:e.ag≠1) (hl:¬nD s a e.pos) (hE:cZ D.T e.node e.pos s≠0):cO D N i s a=(0,cZ D.T e.node e.pos s,D):=by
 unfold cO;rw [if_pos (jB hi aF h0),getD_in aF,he];simp only;rw [if_neg hp,if_pos hk,if_neg hl,if_pos hE]
theorem Es (hk:e.kind=1) (hp:e.ag≠1) (hl:¬nD s a e.pos) (hE:cZ D.T e.node e.pos s=0):cO D N i s a=((s.length:Int),0,{ D with T:=fe D.T e.node e.pos s,E:=fun j=>if j=N[i].1 then some { e with pos:=e.pos+s.length } else D.E j }):=by
 unfold cO;rw [if_pos (jB hi aF h0),getD_in aF,he];simp only;rw [if_neg hp,if_pos hk,if_neg hl,if_neg (fun h=>h hE)]
theorem FR (hk:e.kind≠1) (hp:e.ag≠1) {p:Pi}(hP:D.P e.pipe=some p):cO D N i s a=((Me p.2.1 p.1 s:Int),Mf p.2.1 p.1 s,{ D with P:=fun j=>if j=e.pipe then some (E8 p.2.1 p.1 s,p.2.1,p.2.2) else D.P j }):=by
 unfold cO;rw [if_pos (jB hi aF h0),getD_in aF,he];simp only;rw [if_neg hp,if_neg hk,hP]
end
end Go.Proofs.YtcfhanoekniaaaaGreatDoor
namespace Go.Proofs.YtcfhanoekniaaaaGreatDoor
open Go.RowKit Go.Maps
def Sm (k:Nat) (T:Wd):Prop:=(∀i C,T i=some (.dir C)→C.length≤k)∧∀i b x,T i=some (.file b x)→x≤k∧b.length≤200
section
variable {T:Wd}{k:Nat}
theorem Sm.more (h:Sm k T) {k':Nat}(hk:k≤k'):Sm k' T:=⟨fun i C e=>Nat.le_trans (h.1 i C e) hk,fun i b x e=>⟨Nat.le_trans (h.2 i b x e).1 hk,(h.2 i b x e).2⟩⟩
theorem Sm.set (h:Sm k T) (n:Int) {nd:Nd}(hd:∀C,nd=.dir C→C.length≤k) (hf:∀b x,nd=.file b x→x≤k∧b.length≤200):Sm k (bQ T n nd):=by
 refine ⟨fun i C e=>?_,fun i b x e=>?_⟩
 ·by_cases e1:i=n
  ·subst e1;rw [ak] at e;exact hd C (Option.some.inj e)
  ·rw [ah _ e1] at e;exact h.1 i C e
 ·by_cases e1:i=n
  ·subst e1;rw [ak] at e;exact hf b x (Option.some.inj e)
  ·rw [ah _ e1] at e;exact h.2 i b x e
theorem Sm.add (h:Sm k T) (d n:Int) (nm:Nm):Sm (k+1) (fT T d nm n):=by
 cases hd:T d with
 |none=>rw [show fT T d nm n=T by unfold fT;rw [hd]];exact h.more (by omega)
 |some nd=>cases nd with
  |file b x=>rw [show fT T d nm n=T by unfold fT;rw [hd]];exact h.more (by omega)
  |dir C=>
   rw [jo hd]
   exact (h.more (Nat.le_succ k)).set d (fun C' e=>by cases e;have:=h.1 d C hd;simp;omega) (fun b x e=>by cases e)
theorem Sm.del (h:Sm k T) (d:Int) (nm:Nm):Sm k (bg T d nm):=by
 cases hd:T d with
 |none=>rw [show bg T d nm=T by unfold bg;rw [hd]];exact h
 |some nd=>cases nd with
  |file b x=>rw [show bg T d nm=T by unfold bg;rw [hd]];exact h
  |dir C=>
   rw [iT hd]
   exact h.set d (fun C' e=>by cases e;exact Nat.le_trans (List.length_filter_le _ _) (h.1 d C hd)) (fun b x e=>by cases e)
theorem Sm.MP (h:Sm k T):Sm k (gY T):=⟨fun i C e=>h.1 i C (xH e),fun i b x e=>h.2 i b x (xH e)⟩
theorem Sm.link (h:Sm k T) (p q:List UInt8):Sm (k+1) (lY T p q):=by
 unfold lY;split
 ·exact h.more (by omega)
 ·exact h.add _ _ _
theorem Sm.unlink (h:Sm k T) (p:List UInt8):Sm (k+1) (eG T p):=by
 unfold eG;split
 ·exact h.more (by omega)
 ·exact ((h.del _ _).MP).more (by omega)
theorem Sm.rename (h:Sm k T) (p q:List UInt8):Sm (k+1) (eO T p q):=by
 unfold eO;split
 ·exact h.more (by omega)
 ·exact (h.del _ _).add _ _ _
theorem Sm.make (h:Sm k T) (p:List UInt8) (dir:Bool) (n:Int):Sm (k+1) (iD T p dir n):=by
 unfold iD
 refine (h.set n ?_ ?_).add _ _ _
 ·intro C e;cases dir<;>(simp [eZ] at e);rw [e];simp
 ·intro b x e;cases dir<;>(simp [eZ] at e);rw [e.1,←e.2];simp
theorem Sm.hold (h:Sm k T) (n by':Int) (hb:by'≤1):Sm (k+1) (bR T n by'):=by
 unfold bR
 split
 ·rename_i b x e
  split
  ·exact h.more (by omega)
  ·refine ((h.more (Nat.le_succ k)).set n (fun C e9=>by cases e9) (fun b' x' e9=>?_)).MP
   cases e9
   have:=h.2 n b x e;exact ⟨by omega,this.2⟩
 ·exact h.more (by omega)
theorem Sm.write (h:Sm k T) (n a:Int) (x:List UInt8):Sm (k+1) (fe T n a x):=by
 unfold fe
 by_cases hh:cZ T n a x≠0∨x=[]
 ·rw [if_pos hh];exact h.more (by omega)
 ·rw [if_neg hh]
  cases e:T n with
  |none=>exact h.more (by omega)
  |some nd=>cases nd with
   |dir C=>exact h.more (by omega)
   |file b y=>
    simp only
    refine (h.set n (fun C e9=>by cases e9) (fun b' x' e9=>?_)).more (by omega)
    cases e9
    have h2:=h.2 n b y e
    refine ⟨h2.1,?_⟩
    have hE:cZ T n a x=0:=by
     by_cases e9:cZ T n a x=0
     ·exact e9
     ·exact absurd (.inl e9) hh
    unfold cZ at hE
    have hf:bI T n=0:=by unfold bI;rw [e]
    rw [if_neg (fun e=>e hf)] at hE
    by_cases ha:a<0
    ·rw [if_pos ha] at hE;omega
    ·rw [if_neg ha] at hE
     by_cases hl:(200:Int)<x.length∨200-(x.length:Int)<a
     ·rw [if_pos hl] at hE;omega
     ·rw [zM];omega
theorem bE.hold (hT:bE T) (n:Int) {by':Int}(hb:by'=1∨by'=-1) (hx:∀b x,T n=some (.file b x)→x+1≤1000):bE (bR T n by'):=by
 by_cases hz:bI T n=0
 ·obtain ⟨b,x,hn⟩:=kP hz
  rcases hb with rfl|rfl
  ·have hT':=hT.Fg (b':=b) (x':=x+1) hn (hT.small n b x hn).1 (hx b x hn) (.inl (by omega))
   have hN:bR T n 1=bQ T n (.file b (x+1)):=by
    unfold bR;rw [hn];simp only
    rw [if_neg (by omega),show ((x:Int)+1).toNat=x+1 by omega]
    exact xG hT'.toTrOk hT'.lv
   rw [hN];exact hT'
  ·cases x with
   |zero=>
    have hN:bR T n (-1)=T:=by unfold bR;rw [hn];simp only;rw [if_pos (by omega)]
    rw [hN];exact hT
   |succ x=>exact (Ac hT hn).2.2
 ·have hN:bR T n by'=T:=by
   unfold bR
   cases hn:T n with
   |none=>rfl
   |some nd=>cases nd with
    |dir C=>rfl
    |file b x=>exact absurd (by unfold bI;rw [hn]) hz
  rw [hN];exact hT
theorem bE.Ka (hT:bE T) {n:Int}{b b':List UInt8}{x:Nat}(hn:T n=some (.file b x)) (hb:b'.length≤256):bE (bQ T n (.file b' x)):=by
 refine hT.Fg hn hb (hT.small n b x hn).2 ?_
 rcases hT.lv n _ hn with e|e|e
 ·exact absurd e (BO hT.toTrOk hn)
 ·exact .inr e
 ·exact .inl e
theorem bE.write (hT:bE T) (n a:Int) (x:List UInt8):bE (fe T n a x):=by
 unfold fe
 split
 ·exact hT
 ·rename_i hh
  split
  ·rename_i b y e
   refine hT.Ka e ?_
   have hE:cZ T n a x=0:=by
    by_cases e9:cZ T n a x=0
    ·exact e9
    ·exact absurd (.inl e9) hh
   have hs:=(hT.small n b y e).1
   unfold cZ at hE
   have hf:bI T n=0:=by unfold bI;rw [e]
   rw [if_neg (fun e=>e hf)] at hE
   by_cases ha:a<0
   ·rw [if_pos ha] at hE;omega
   ·rw [if_neg ha] at hE
    by_cases hl:(200:Int)<x.length∨200-(x.length:Int)<a
    ·rw [if_pos hl] at hE;omega
    ·rw [zM];omega
  ·exact hT
theorem bE.make (hT:bE T) {s:Nat}{p:List UInt8}(hE:bC T s p=0) {n:Int}(hn:gZ T n) (h1:n<64) (dir:Bool):bE (iD T p dir n):=by
 obtain ⟨_,⟨C,hd,hl⟩,hnm,_⟩:=kN hT.toTrOk hE
 exact (zR hT dir hd hl hnm hn.none hn.pos h1).2.2.2
end
def ib (D:DS) (d:Int):DS:={ D with R:=fun j=>if j=d then some ((D.R j).getD 0+1) else D.R j }
theorem IV {D:DS}{d c:Int}(hc:D.R d=some c):ib D d={ D with R:=fun j=>if j=d then some (c+1) else D.R j }:=by
 unfold ib
 congr 1
 funext j
 split
 ·rename_i e;rw [e,hc];rfl
 ·rfl
structure Cl (D:DS) (d:Int) (e:En) (c:Int):Prop extends CanClose D d e c where
 lv:bE D.T
def Live (D:DS) (N:Ns):Prop:=∀i (hi:i<N.length),0<N[i].1→(D.E N[i].1).isSome=true
section
variable {D:DS}{d:Int}{e:En}
theorem uY {c:Int}(hc:CanClose D d e c) (hm:0<c-1):aQ D d={ D with R:=fun i=>if i=d then some (c-1) else D.R i }:=by
 unfold aQ;rw [hc.eF,hc.cnt];simp only;rw [if_pos hm]
theorem uZ {c:Int}(hc:CanClose D d e c) (hm:¬0<c-1) (hk:e.kind=1):aQ D d={ T:=bR D.T e.node (-1),E:=fun i=>if i=d then none else D.E i,R:=fun i=>if i=d then none else if i=d then some (c-1) else D.R i,P:=D.P,nx:=D.nx }:=by
 unfold aQ;rw [hc.eF,hc.cnt];simp only;rw [if_neg hm,if_pos hk]
theorem yz {c:Int}(hc:CanClose D d e c) (hm:¬0<c-1) (hk:e.kind≠1):aQ D d={ T:=D.T,E:=fun i=>if i=d then none else D.E i,R:=fun i=>if i=d then none else if i=d then some (c-1) else D.R i,P:=fun i=>if i=e.pipe then some (qc ((D.P e.pipe).getD ([],0,0)) e.kind) else D.P i,nx:=D.nx }:=by
 unfold aQ;rw [hc.eF,hc.cnt];simp only;rw [if_neg hm,if_neg hk]
end
def om (d:Int) (N:Ns):Nat:=(N.filter (fun x=>x.1 == d)).length
def fB (d:Int) (Ts:List Ns):Nat:=(Ts.map (om d)).sum
theorem Je (d:Int) (N:Ns):om d N≤N.length:=List.length_filter_le _ _
theorem Ee:∀(N:Ns) (d:Int) (i:Nat) (y:Int×Bool) (h:i<N.length),om d (N.set i y)+(if N[i].1=d then 1 else 0)=om d N+(if y.1=d then 1 else 0)
 | [],_,i,_,h=>by simp at h
 |x :: N,d,0,y,h=>by
  simp only [List.set_cons_zero,List.getElem_cons_zero,om,List.filter_cons]
  by_cases e1:x.1=d<;>by_cases e2:y.1=d<;>simp [e1,e2]
 |x :: N,d,i+1,y,h=>by
  have ih:=Ee N d i y (by simpa using h)
  simp only [List.set_cons_succ,List.getElem_cons_succ]
  unfold om at ih ⊢
  rw [List.filter_cons,List.filter_cons]
  by_cases e1:x.1=d
  ·simp only [e1,beq_self_eq_true,if_true,List.length_cons];omega
  ·simp only [beq_eq_false_iff_ne.2 e1,Bool.false_eq_true,if_false];omega
theorem Ec:∀(Ts:List Ns) (d:Int) (j:Nat) (N':Ns) (h:j<Ts.length),fB d (Ts.set j N')+om d Ts[j]=fB d Ts+om d N'
 | [],_,j,_,h=>by simp at h
 |x :: Ts,d,0,N',h=>by simp [fB];omega
 |x :: Ts,d,j+1,N',h=>by
  have ih:=Ec Ts d j N' (by simpa using h)
  simp only [List.set_cons_succ,List.getElem_cons_succ]
  unfold fB at ih ⊢
  simp only [List.map_cons,List.sum_cons]
  omega
theorem oQ {Ts:List Ns}{j i:Nat}(hj:j<Ts.length) (hi:i<Ts[j].length) (d:Int) (y:Int×Bool):fB d (Ts.set j (Ts[j].set i y))+(if Ts[j][i].1=d then 1 else 0)=fB d Ts+(if y.1=d then 1 else 0):=by
 have h1:=Ec Ts d j (Ts[j].set i y) hj
 have h2:=Ee Ts[j] d i y hi
 omega
theorem Jc:∀(d:Int) (Ts:List Ns),(∀N∈Ts,N.length=8)→fB d Ts≤8*Ts.length
 |_,[],_=>Nat.zero_le _
 |d,x :: Ts,h=>by
  have ih:=Jc d Ts (fun N hN=>h N (List.mem_cons_of_mem _ hN))
  have h1:=Je d x
  have h2:=h x List.mem_cons_self
  unfold fB at ih ⊢
  simp only [List.map_cons,List.sum_cons,List.length_cons]
  omega
theorem Ef {N:Ns}{i:Nat}(hi:i<N.length):0<om N[i].1 N:=List.length_pos_of_mem (List.mem_filter.2 ⟨List.getElem_mem hi,by simp⟩)
theorem eU:∀ {Ts:List Ns}{j i:Nat}(hj:j<Ts.length) (hi:i<Ts[j].length),0<fB Ts[j][i].1 Ts
 |x :: Ts,0,i,_,hi=>by
  have:=Ef (N:=x) (i:=i) hi
  simp only [fB,List.map_cons,List.sum_cons,List.getElem_cons_zero]
  omega
 |x :: Ts,j+1,i,hj,hi=>by
  have ih:=eU (Ts:=Ts) (j:=j) (i:=i) (by simpa using hj) hi
  simp only [fB,List.map_cons,List.sum_cons,List.getElem_cons_succ] at ih ⊢
  omega
structure lh (D:DS) (C:Int→Nat) (k:Nat):Prop where
 iV:Given D
 lv:bE D.T
 sm:Sm k D.T
 eF:∀d e,D.E d=some e→AU D e
 cE:∀d,0<d→((D.E d).isSome=true↔0<C d)
 cR:∀d,0<d→D.R d=if 0<C d then some (C d:Int) else none
section
variable {D:DS}{C C':Int→Nat}{k:Nat}{d:Int}{e:En}
theorem lh.congr (h:lh D C k) (hc:∀d,0<d→C d=C' d):lh D C' k:=
 ⟨h.iV,h.lv,h.sm,h.eF,fun d hd=>by rw [←hc d hd];exact h.cE d hd,fun d hd=>by rw [←hc d hd];exact h.cR d hd⟩
theorem lh.more (h:lh D C k) {k':Nat}(hk:k≤k'):lh D C k':=⟨h.iV,h.lv,h.sm.more hk,h.eF,h.cE,h.cR⟩
theorem lh.cl (h:lh D C k) (hd:0<d) (hc:0<C d) (hb:C d<100000):∃e,Cl D d e (C d):=by
 obtain ⟨e,he⟩:=Option.isSome_iff_exists.1 ((h.cE d hd).2 hc)
 have ok:=h.eF d e he
 have hg:=h.iV.e d (by rw [he];rfl)
 have hn:=h.iV.n1
 refine ⟨e,⟨hd,by omega,he,by rw [h.cR d hd,if_pos hc],by omega,by omega,ok.kind,fun hk=>?_,fun hk=>?_⟩,h.lv⟩
 ·have:=ok.file hk;omega
 ·obtain ⟨a1,a2,p,a3,a4,a5,a6,a7,a8⟩:=ok.pipe hk
  exact ⟨by omega,by omega,p,a3,a4,a5,a6,a7,a8⟩
theorem AU.keep {D D':DS}(h:AU D e) (hn:D.nx≤D'.nx) (hP:∀p x,D.P p=some x→x.1.length≤16→0≤x.2.1→x.2.1<1000→0≤x.2.2→x.2.2<1000→∃y,D'.P p=some y∧y.1.length≤16∧0≤y.2.1∧y.2.1<1000∧0≤y.2.2∧y.2.2<1000):AU D' e:=by
 refine ⟨h.kind,h.file,h.cB,h.into,fun hk=>?_⟩
 obtain ⟨a1,a2,p,a3,a4,a5,a6,a7,a8⟩:=h.pipe hk
 exact ⟨a1,by omega,hP _ p a3 a4 a5 a6 a7 a8⟩
theorem AU.same {D D':DS}(h:AU D e) (hn:D.nx≤D'.nx) (hP:D'.P=D.P):AU D' e:=h.keep hn (fun p x a b c d e f=>⟨x,by rw [hP];exact a,b,c,d,e,f⟩)
theorem lh.inc (h:lh D C k) (hd:0<d) (hc:0<C d):lh (ib D d) (fun x=>if x=d then C d+1 else C x) k:=by
 have hR:D.R d=some (C d:Int):=by rw [h.cR d hd,if_pos hc]
 rw [IV hR]
 refine ⟨⟨h.iV.n0,h.iV.n1,h.iV.e,fun x hx=>?_,h.iV.p⟩,h.lv,h.sm,fun x ex hx=>(h.eF x ex hx).same (Int.le_refl _) rfl,fun x hx=>?_,fun x hx=>?_⟩
 ·have hx':(if x=d then some ((C d:Int)+1) else D.R x).isSome=true:=hx
  by_cases e1:x=d
  ·subst e1;exact h.iV.r x (by rw [hR];rfl)
  ·rw [if_neg e1] at hx';exact h.iV.r x hx'
 ·show (D.E x).isSome=true↔0<(if x=d then C d+1 else C x)
  rw [h.cE x hx]
  by_cases e1:x=d
  ·subst e1;simp [hc]
  ·rw [if_neg e1]
 ·show (if x=d then some ((C d:Int)+1) else D.R x)=_
  by_cases e1:x=d
  ·subst e1
   simp
  ·rw [if_neg e1,h.cR x hx]
   simp only [if_neg e1]
theorem Sm.drop {T:Wd}(h:Sm k T) (n:Int):Sm k (bR T n (-1)):=by
 unfold bR
 split
 ·rename_i b x e
  split
  ·exact h
  ·refine (h.set n (fun C e9=>by cases e9) (fun b' x' e9=>?_)).MP
   cases e9
   have:=h.2 n b x e;exact ⟨by omega,this.2⟩
 ·exact h
theorem lh.close (h:lh D C k) (hk:k≤900) (hd:0<d) (hc:0<C d) (hb:C d<100000):lh (aQ D d) (fun x=>if x=d then C d-1 else C x) k:=by
 obtain ⟨e,cl⟩:=h.cl hd hc hb
 have hgd:=h.iV.e d (by rw [cl.eF];rfl)
 by_cases hm:0<((C d:Int))-1
 ·rw [uY cl.toCanClose hm]
  refine ⟨⟨h.iV.n0,h.iV.n1,h.iV.e,fun x hx=>?_,h.iV.p⟩,h.lv,h.sm,fun x ex hx=>(h.eF x ex hx).same (Int.le_refl _) rfl,fun x hx=>?_,fun x hx=>?_⟩
  ·have hx':(if x=d then some ((C d:Int)-1) else D.R x).isSome=true:=hx
   by_cases e1:x=d
   ·subst e1;exact hgd
   ·rw [if_neg e1] at hx';exact h.iV.r x hx'
  ·show (D.E x).isSome=true↔0<(if x=d then C d-1 else C x)
   rw [h.cE x hx]
   by_cases e1:x=d
   ·subst e1;rw [if_pos rfl];omega
   ·rw [if_neg e1]
  ·show (if x=d then some ((C d:Int)-1) else D.R x)=_
   by_cases e1:x=d
   ·subst e1
    simp only [if_true]
    rw [if_pos (by omega)]
    congr 1;omega
   ·rw [if_neg e1,h.cR x hx]
    simp only [if_neg e1]
 ·have hc1:C d=1:=by omega
  have hE:∀x,0<x→((if x=d then none else D.E x:Option En).isSome=true↔0<(if x=d then C d-1 else C x)):=fun x hx=>by
   by_cases e1:x=d
   ·subst e1;simp [hc1]
   ·rw [if_neg e1,if_neg e1];exact h.cE x hx
  have hR:∀x,0<x→(if x=d then none else if x=d then some ((C d:Int)-1) else D.R x)=if 0<(if x=d then C d-1 else C x) then some (((if x=d then C d-1 else C x:Nat)):Int) else none:=fun x hx=>by
   by_cases e1:x=d
   ·subst e1;simp [hc1]
   ·rw [if_neg e1,if_neg e1,h.cR x hx]
    simp only [if_neg e1]
  have hgE:∀x,(if x=d then none else D.E x:Option En).isSome=true→0<x∧x≤D.nx:=fun x hx=>by
   by_cases e1:x=d
   ·rw [if_pos e1] at hx;cases hx
   ·rw [if_neg e1] at hx;exact h.iV.e x hx
  have hgR:∀x,(if x=d then none else if x=d then some ((C d:Int)-1) else D.R x:Option Int).isSome=true→0<x∧x≤D.nx:=fun x hx=>by
   by_cases e1:x=d
   ·rw [if_pos e1] at hx;cases hx
   ·rw [if_neg e1,if_neg e1] at hx;exact h.iV.r x hx
  by_cases hkd:e.kind=1
  ·rw [uZ cl.toCanClose hm hkd]
   refine ⟨⟨h.iV.n0,h.iV.n1,hgE,hgR,h.iV.p⟩,h.lv.hold e.node (.inr rfl) (fun b x hx=>by have:=(h.sm.2 _ b x hx).1;omega),h.sm.drop _,fun x ex hx=>?_,hE,hR⟩
   have hx':(if x=d then none else D.E x:Option En)=some ex:=hx
   by_cases e1:x=d
   ·rw [if_pos e1] at hx';cases hx'
   ·rw [if_neg e1] at hx';exact (h.eF x ex hx').same (Int.le_refl _) rfl
  ·obtain ⟨a1,a2,p,a3,a4,a5,a6,a7,a8⟩:=(h.eF d e cl.eF).pipe hkd
   rw [yz cl.toCanClose hm hkd]
   refine ⟨⟨h.iV.n0,h.iV.n1,hgE,hgR,fun x hx=>?_⟩,h.lv,h.sm,fun x ex hx=>?_,hE,hR⟩
   ·have hx':(if x=e.pipe then some (qc ((D.P e.pipe).getD ([],0,0)) e.kind) else D.P x).isSome=true:=hx
    by_cases e1:x=e.pipe
    ·rw [e1];exact ⟨a1,a2⟩
    ·rw [if_neg e1] at hx';exact h.iV.p x hx'
   ·have hx':(if x=d then none else D.E x:Option En)=some ex:=hx
    by_cases e1:x=d
    ·rw [if_pos e1] at hx';cases hx'
    ·rw [if_neg e1] at hx'
     refine (h.eF x ex hx').keep (Int.le_refl _) (fun q y b1 b2 b3 b4 b5 b6=>?_)
     by_cases e2:q=e.pipe
     ·refine ⟨qc p e.kind,by show (if q=e.pipe then some (qc ((D.P e.pipe).getD ([],0,0)) e.kind) else D.P q)=_;rw [if_pos e2,a3];rfl,?_⟩
      unfold qc Qn Qm
      simp only
      refine ⟨a4,?_,?_,?_,?_⟩<;>(split<;>omega)
     ·exact ⟨y,(if_neg e2).trans b1,b2,b3,b4,b5,b6⟩
theorem GN {x:Int}(h:((aQ D d).E x).isSome=true):(D.E x).isSome=true:=by
 unfold aQ at h
 split at h
 ·split at h
  ·exact h
  ·split at h
   ·have h':(if x=d then none else D.E x:Option En).isSome=true:=h
    by_cases e1:x=d
    ·rw [if_pos e1] at h';cases h'
    ·rw [if_neg e1] at h';exact h'
   ·have h':(if x=d then none else D.E x:Option En).isSome=true:=h
    by_cases e1:x=d
    ·rw [if_pos e1] at h';cases h'
    ·rw [if_neg e1] at h';exact h'
 ·exact h
end
structure Inv (D:DS) (Ts:List Ns) (k:Nat):Prop where
 core:lh D (fun d=>fB d Ts) k
 tab:∀N∈Ts,N.length=8∧∀x∈N,0≤x.1∧(x.1=0→x.2=false)
 few:Ts.length≤500
def wC (D:DS) (N:Ns):Prop:=∀i (hi:i<N.length),0<N[i].1→∃e c,D.E N[i].1=some e∧D.R N[i].1=some c∧0≤c∧c<100000
section
variable {D:DS}{Ts:List Ns}{k j i:Nat}{d:Int}{e:En}
theorem wC.live {N:Ns}(h:wC D N):Live D N:=fun i hi h0=>by
 obtain ⟨e,c,h1,_⟩:=h i hi h0
 rw [h1];rfl
theorem Inv.more (h:Inv D Ts k) {k':Nat}(hk:k≤k'):Inv D Ts k':=⟨h.core.more hk,h.tab,h.few⟩
theorem Inv.len (h:Inv D Ts k) (hj:j<Ts.length):Ts[j].length=8:=(h.tab _ (List.getElem_mem hj)).1
theorem Inv.H5 (h:Inv D Ts k) (d:Int):fB d Ts≤4000:=by
 have:=Jc d Ts (fun N hN=>(h.tab N hN).1)
 have:=h.few
 omega
theorem Inv.cl (h:Inv D Ts k) (hj:j<Ts.length) (hi:i<Ts[j].length) (h0:0<Ts[j][i].1):∃e,Cl D Ts[j][i].1 e (fB Ts[j][i].1 Ts):=
 h.core.cl h0 (eU hj hi) (by have:=h.H5 Ts[j][i].1;omega)
theorem Inv.H6 (h:Inv D Ts k) (hj:j<Ts.length):wC D Ts[j]:=fun i hi h0=>by
 obtain ⟨e,c⟩:=h.cl hj hi h0
 exact ⟨e,_,c.eF,c.cnt,by omega,c.c1⟩
theorem Inv.live (h:Inv D Ts k) (hj:j<Ts.length):Live D Ts[j]:=(h.H6 hj).live
theorem rG {P:Ns→Prop}{N':Ns}(h:∀N∈Ts,P N) (hN:P N'):∀N∈Ts.set j N',P N:=fun N hm=>by
 rcases List.mem_or_eq_of_mem_set hm with h1|h1
 ·exact h N h1
 ·rw [h1];exact hN
theorem rO {N:Ns}(h:N.length=8∧∀x∈N,0≤x.1∧(x.1=0→x.2=false)) (y:Int×Bool) (hy:0≤y.1∧(y.1=0→y.2=false)):(N.set i y).length=8∧∀x∈N.set i y,0≤x.1∧(x.1=0→x.2=false):=by
 refine ⟨by rw [List.length_set];exact h.1,fun x hx=>?_⟩
 rcases List.mem_or_eq_of_mem_set hx with h1|h1
 ·exact h.2 x h1
 ·rw [h1];exact hy
theorem Inv.close (h:Inv D Ts k) (hk:k≤900) (hj:j<Ts.length) (hi:i<Ts[j].length) (h0:0<Ts[j][i].1):Inv (aQ D Ts[j][i].1) (Ts.set j (Ts[j].set i (0,false))) k:=by
 have hb:=h.H5 Ts[j][i].1
 refine ⟨(h.core.close hk h0 (eU hj hi) (by omega)).congr (fun x hx=>?_),rG h.tab (rO (h.tab _ (List.getElem_mem hj)) _ ⟨by simp,fun _=>rfl⟩),by rw [List.length_set];exact h.few⟩
 have ht:=oQ hj hi x (0,false)
 have hp:=eU hj hi
 simp only at ht ⊢
 rw [if_neg (show ¬(0:Int)=x by omega)] at ht
 by_cases e1:x=Ts[j][i].1
 ·rw [if_pos e1]
  rw [if_pos e1.symm] at ht
  rw [←e1]
  omega
 ·rw [if_neg e1]
  rw [if_neg (fun z=>e1 z.symm)] at ht
  omega
theorem Inv.dup (h:Inv D Ts k) (hj:j<Ts.length) (hi:i<Ts[j].length) (h0:Ts[j][i].1=0) (hd:0<d) (hc:0<fB d Ts) (c:Bool):Inv (ib D d) (Ts.set j (Ts[j].set i (d,c))) k:=by
 refine ⟨(h.core.inc hd hc).congr (fun x hx=>?_),rG h.tab (rO (h.tab _ (List.getElem_mem hj)) _ ⟨by simp;omega,fun z=>by simp at z;omega⟩),by rw [List.length_set];exact h.few⟩
 have ht:=oQ hj hi x (d,c)
 simp only at ht ⊢
 rw [h0,if_neg (show ¬(0:Int)=x by omega)] at ht
 by_cases e1:x=d
 ·subst e1
  rw [if_pos rfl] at ht ⊢
  omega
 ·rw [if_neg e1]
  rw [if_neg (fun z=>e1 z.symm)] at ht
  omega
theorem Inv.dup2 (h:Inv D Ts k) (hk:k≤900) (hj:j<Ts.length) (hi:i<Ts[j].length) (h0:0<Ts[j][i].1) (hd:0<d) (hc:0<fB d Ts):Inv (aQ (ib D d) Ts[j][i].1) (Ts.set j (Ts[j].set i (d,false))) k∧∃e c,Cl (ib D d) Ts[j][i].1 e c:=by
 have h1:=h.core.inc hd hc
 have hp:=eU hj hi
 have hb:=h.H5 Ts[j][i].1
 have hb2:(if Ts[j][i].1=d then fB d Ts+1 else fB Ts[j][i].1 Ts)<100000:=by
  by_cases e1:Ts[j][i].1=d
  ·rw [if_pos e1,←e1];omega
  ·rw [if_neg e1];omega
 have hp2:0<(if Ts[j][i].1=d then fB d Ts+1 else fB Ts[j][i].1 Ts):=by
  by_cases e1:Ts[j][i].1=d
  ·rw [if_pos e1];omega
  ·rw [if_neg e1];omega
 obtain ⟨e,cl⟩:=h1.cl h0 hp2 hb2
 refine ⟨⟨(h1.close hk h0 hp2 hb2).congr (fun x hx=>?_),rG h.tab (rO (h.tab _ (List.getElem_mem hj)) _ ⟨by simp;omega,fun z=>by simp at z;omega⟩),by rw [List.length_set];exact h.few⟩,e,_,cl⟩
 have ht:=oQ hj hi x (d,false)
 simp only at ht ⊢
 by_cases e1:x=Ts[j][i].1
 ·rw [if_pos e1]
  rw [if_pos e1.symm] at ht
  rw [←e1]
  by_cases e2:x=d
  ·subst e2
   rw [if_pos rfl] at ht ⊢
   omega
  ·rw [if_neg e2]
   rw [if_neg (fun z=>e2 z.symm)] at ht
   omega
 ·rw [if_neg e1]
  rw [if_neg (fun z=>e1 z.symm)] at ht
  by_cases e2:x=d
  ·subst e2
   rw [if_pos rfl] at ht ⊢
   omega
  ·rw [if_neg e2]
   rw [if_neg (fun z=>e2 z.symm)] at ht
   omega
theorem Inv.mark (h:Inv D Ts k) (hj:j<Ts.length) (x:Int) (c:Bool):Inv D (Ts.set j (jJ Ts[j] x c)) k:=by
 unfold jJ
 split
 ·rename_i hx
  obtain ⟨i,rfl,hi,aF,h0⟩:=dK hx (h.len hj)
  rw [getD_in aF,show (i:Int).toNat=i by omega]
  refine ⟨h.core.congr (fun x hx=>?_),rG h.tab (rO (h.tab _ (List.getElem_mem hj)) _ ⟨by simp;omega,fun z=>by simp at z;omega⟩),by rw [List.length_set];exact h.few⟩
  have ht:=oQ hj aF x (Ts[j][i].1,c)
  simp only at ht ⊢
  omega
 ·rw [List.set_getElem_self];exact h
theorem Inv.MH (h:Inv D Ts k) (he:D.E d=some e) {e':En}(hok:AU D e'):Inv { D with E:=fun i=>if i=d then some e' else D.E i } Ts k:=by
 have hs:∀x,(if x=d then some e' else D.E x).isSome=(D.E x).isSome:=fun x=>by
  by_cases e1:x=d
  ·rw [if_pos e1,e1,he];rfl
  ·rw [if_neg e1]
 refine ⟨⟨⟨h.core.iV.n0,h.core.iV.n1,fun x hx=>h.core.iV.e x (by rw [←hs];exact hx),h.core.iV.r,h.core.iV.p⟩,h.core.lv,h.core.sm,fun x ex hx=>?_,fun x hx=>by show (if x=d then some e' else D.E x).isSome=true↔_;rw [hs];exact h.core.cE x hx,h.core.cR⟩,h.tab,h.few⟩
 have hx':(if x=d then some e' else D.E x)=some ex:=hx
 by_cases e1:x=d
 ·rw [if_pos e1] at hx'
  obtain rfl:=Option.some.inj hx'
  exact hok.same (Int.le_refl _) rfl
 ·rw [if_neg e1] at hx'
  exact (h.core.eF x ex hx').same (Int.le_refl _) rfl
theorem Inv.bU (h:Inv D Ts k) {p:Int}{x y:Pi}(hp:D.P p=some x) (hy:y.1.length≤16∧0≤y.2.1∧y.2.1<1000∧0≤y.2.2∧y.2.2<1000):Inv { D with P:=fun i=>if i=p then some y else D.P i } Ts k:=by
 refine ⟨⟨⟨h.core.iV.n0,h.core.iV.n1,h.core.iV.e,h.core.iV.r,fun q hq=>?_⟩,h.core.lv,h.core.sm,fun q ex hx=>(h.core.eF q ex hx).keep (Int.le_refl _) (fun r z a b c d e f=>?_),h.core.cE,h.core.cR⟩,h.tab,h.few⟩
 ·have hq':(if q=p then some y else D.P q).isSome=true:=hq
  by_cases e1:q=p
  ·rw [e1];exact h.core.iV.p p (by rw [hp];rfl)
  ·rw [if_neg e1] at hq';exact h.core.iV.p q hq'
 ·by_cases e1:r=p
  ·exact ⟨y,if_pos e1,hy⟩
  ·exact ⟨z,(if_neg e1).trans a,b,c,d,e,f⟩
theorem Inv.Js (h:Inv D Ts k) {T':Wd}{k':Nat}(hT:bE T') (hs:Sm k' T'):Inv { D with T:=T' } Ts k':=
 ⟨⟨⟨h.core.iV.n0,h.core.iV.n1,h.core.iV.e,h.core.iV.r,h.core.iV.p⟩,hT,hs,fun q ex hx=>(h.core.eF q ex hx).same (Int.le_refl _) rfl,h.core.cE,h.core.cR⟩,h.tab,h.few⟩
theorem Inv.unlink (h:Inv D Ts k) (p:List UInt8):Inv { D with T:=eG D.T p } Ts (k+1):=h.Js (h.core.lv.unlink p) (h.core.sm.unlink p)
theorem Inv.add (h:Inv D Ts k) (hn:D.nx<899) (hj:j<Ts.length) (hl:¬au Ts[j]<0) (hok:AU (iW D e) e):Inv (iW D e) (Ts.set j (addN D Ts[j])) k:=by
 have g:=h.core.iV
 obtain ⟨n1,n2,n3⟩:=g.new
 rcases kG (N:=Ts[j]) with WI|⟨i,hi,aF,hi0⟩
 ·omega
 have hN:addN D Ts[j]=Ts[j].set i (D.nx+1,false):=by unfold addN;rw [hi,show (i:Int).toNat=i by omega]
 have h0:=g.n0
 have hz:fB (D.nx+1) Ts=0:=by
  have:=h.core.cE (D.nx+1) (by omega)
  rw [n1] at this
  simp at this
  exact this
 rw [hN]
 have hcnt:∀x,0<x→fB x (Ts.set j (Ts[j].set i (D.nx+1,false)))=if x=D.nx+1 then 1 else fB x Ts:=fun x hx=>by
  have ht:=oQ hj aF x (D.nx+1,false)
  simp only at ht
  rw [hi0,if_neg (show ¬(0:Int)=x by omega)] at ht
  by_cases e1:x=D.nx+1
  ·rw [if_pos e1]
   rw [if_pos e1.symm,e1,hz] at ht
   rw [e1];omega
  ·rw [if_neg e1]
   rw [if_neg (fun z=>e1 z.symm)] at ht
   omega
 refine ⟨⟨g.add hn e,h.core.lv,h.core.sm,fun x ex hx=>?_,fun x hx=>?_,fun x hx=>?_⟩,rG h.tab (rO (h.tab _ (List.getElem_mem hj)) _ ⟨by simp;omega,fun z=>by simp at z;omega⟩),by rw [List.length_set];exact h.few⟩
 ·have hx':(if x=D.nx+1 then some e else D.E x)=some ex:=hx
  by_cases e1:x=D.nx+1
  ·rw [if_pos e1] at hx'
   obtain rfl:=Option.some.inj hx'
   exact hok
  ·rw [if_neg e1] at hx'
   exact (h.core.eF x ex hx').same (by show D.nx≤D.nx+1;omega) rfl
 ·show (if x=D.nx+1 then some e else D.E x).isSome=true↔_
  rw [hcnt x hx]
  by_cases e1:x=D.nx+1
  ·rw [if_pos e1,if_pos e1];simp
  ·rw [if_neg e1,if_neg e1];exact h.core.cE x hx
 ·show (if x=D.nx+1 then some 1 else D.R x)=_
  rw [hcnt x hx]
  by_cases e1:x=D.nx+1
  ·simp [e1]
  ·rw [if_neg e1,if_neg e1,h.core.cR x hx]
theorem mM {Ts:List Ns}{j:Nat}(_:j<Ts.length) (N':Ns) (h:j<(Ts.set j N').length):(Ts.set j N')[j]=N':=List.getElem_set_self h
theorem Dr (Ts:List Ns) (j:Nat) (a b:Ns):(Ts.set j a).set j b=Ts.set j b:=List.set_set _
theorem Inv.lu (h:Inv D Ts k) (hj:j<Ts.length):Inv D (Ts.set j Ts[j]) k:=by rw [List.set_getElem_self];exact h
theorem Inv.file {n s:Nat}{p:List UInt8}{pr:Int}{mk:Bool}{x c:Int}{D':DS}{N':Ns}(h:Inv D Ts k) (hk:k≤890) (hn:D.nx<899) (hj:j<Ts.length) (hs:dm D.T s) (hF:iP D Ts[j] n s p pr mk x c D' N'):Inv D' (Ts.set j N') (k+2):=by
 have hlv:=h.core.lv
 have hadd:∀T' nd,bE T'→Sm (k+2) T'→1≤pr∧pr≤3→0≤nd→nd<1000→roomy Ts[j] n→Inv (iW { D with T:=T' } ⟨1,pr,nd,0,0⟩) (Ts.set j (addN D Ts[j])) (k+2):=fun T' nd hT' hS' hp h0 h1 hr=>
  (h.Js (T':=T') hT' hS').add (D:={ D with T:=T' }) (e:=⟨1,pr,nd,0,0⟩) hn hj hr.1 ⟨.inl rfl,fun _=>⟨hp.1,hp.2,h0,h1,by simp,by simp⟩,fun z=>by simp at z,fun z=>by simp at z,fun z=>absurd rfl z⟩
 cases hF with
 |opened hp hr hE hh=>
  have hkey:=hlv.key _ (nP hlv.toTrOk hE)
  exact hadd _ _ (hlv.hold _ (.inl rfl) (fun b x hx=>by have:=(h.core.sm.2 _ b x hx).1;omega)) ((h.core.sm.hold _ 1 (by omega)).more (by omega)) hp hkey.1 (by omega) hr
 |made hp hr hE hm hM z hz=>
  have ZV:z<64:=by
   have Wq:=pM hlv.toTrOk hM hz
   have Xm:=(kN hlv.toTrOk hM).2.2.2
   have h9:=hs.free (k:=z.toNat) (fun i hi=>hz.least i (by omega) (by have:=hz.pos;omega))
   have:=hz.pos
   omega
  have hlv1:=hlv.make hM hz ZV false
  have Wq:=pM hlv.toTrOk hM hz
  exact hadd _ _ (hlv1.hold _ (.inl rfl) (fun b x hx=>by have:=Wq.2 b x hx;omega)) ((h.core.sm.make p false z).hold _ 1 (by omega)) hp hz.pos (by omega) hr
 |_=>exact (h.lu hj).more (by omega)
end
def gW (D:DS) (N:Ns):DS:=N.foldl (fun D x=>if 0<x.1 then ib D x.1 else D) D
noncomputable def ai (all:Bool) (D:DS) (N:Ns):Nat→DS×Ns
 |0=>(D,N)
 |i+1=>if 0<(N.getD i (0,false)).1∧(all=true∨(N.getD i (0,false)).2=true) then (aQ (ai all D N i).1 (N.getD i (0,false)).1,(ai all D N i).2.set i (0,false)) else ai all D N i
section
variable {D:DS}{Ts:List Ns}{k j i:Nat}{d:Int}{e:En}
theorem Inv.aea (h:Inv D Ts k) (hj:j<Ts.length) (x a:Int):Inv (TF D Ts[j] x a) Ts k:=by
 unfold TF
 split
 ·rename_i hz
  unfold TE at hz
  split at hz
  ·cases he:D.E (Ts[j].getD x.toNat (0,false)).1 with
   |none=>exact h
   |some e=>
    rw [he] at hz
    simp only at hz ⊢
    have hok:=h.core.eF _ e he
    by_cases hk:e.kind=1
    ·rw [if_neg (fun z=>z hk)] at hz
     by_cases ha:0≤a∧a≤200
     ·refine h.MH he ⟨hok.kind,fun hk=>?_,hok.cB,hok.into,hok.pipe⟩
      have:=hok.file hk
      exact ⟨this.1,this.2.1,this.2.2.1,this.2.2.2.1,ha.1,ha.2⟩
     ·rw [if_neg ha] at hz;omega
    ·rw [if_pos hk] at hz;omega
  ·omega
 ·exact h
theorem zC {T:Wd}{x a c:Int}(hs:Sm k T) (h0:0≤a) (h1:a≤200):a+(dY T x a c).length≤200:=by
 unfold dY
 split
 ·rename_i b y e
  have:=(hs.2 x b y e).2
  split
  ·simp;omega
  ·rw [List.length_take,List.length_drop];omega
 ·simp;omega
theorem Inv.read (h:Inv D Ts k) (hj:j<Ts.length) (x a:Int):Inv (dz D Ts[j] x a).2.2 Ts k:=by
 unfold dz
 split
 ·split
  ·exact h
  ·rename_i e he
   have hok:=h.core.eF _ e he
   split
   ·exact h
   ·split
    ·rename_i hk
     refine h.MH he ⟨hok.kind,fun hk=>?_,hok.cB,hok.into,hok.pipe⟩
     obtain ⟨a1,a2,a3,a4,a5,a6⟩:=hok.file hk
     have:=zC (x:=e.node) (c:=a) h.core.sm a5 a6
     exact ⟨a1,a2,a3,a4,by simp only;omega,this⟩
    ·rename_i hk
     obtain ⟨a1,a2,p,a3,a4,a5,a6,a7,a8⟩:=hok.pipe hk
     rw [a3]
     exact h.bU a3 ⟨by simp;omega,a5,a6,a7,a8⟩
 ·exact h
theorem FU {T:Wd}{x a:Int}{s:List UInt8}(h:cZ T x a s=0):a+s.length≤200:=by
 unfold cZ at h
 split at h
 ·omega
 ·split at h
  ·omega
  ·split at h
   ·omega
   ·omega
theorem Inv.write (h:Inv D Ts k) (hj:j<Ts.length) (x:Int) (s:List UInt8) (a:Int):Inv (cO D Ts[j] x s a).2.2 Ts (k+1):=by
 have h1:=h.more (Nat.le_succ k)
 unfold cO
 split
 ·split
  ·exact h1
  ·rename_i e he
   have hok:=h.core.eF _ e he
   split
   ·exact h1
   ·split
    ·rename_i hk
     split
     ·exact h1
     ·split
      ·exact h1
      ·rename_i hE
       have hE':cZ D.T e.node e.pos s=0:=by omega
       have h2:=h.Js (h.core.lv.write e.node e.pos s) (h.core.sm.write e.node e.pos s)
       refine h2.MH (D:={ D with T:=fe D.T e.node e.pos s }) he ⟨hok.kind,fun hk=>?_,hok.cB,hok.into,hok.pipe⟩
       obtain ⟨a1,a2,a3,a4,a5,a6⟩:=hok.file hk
       have:=FU hE'
       exact ⟨a1,a2,a3,a4,by simp only;omega,this⟩
    ·rename_i hk
     obtain ⟨a1,a2,p,a3,a4,a5,a6,a7,a8⟩:=hok.pipe hk
     rw [a3]
     exact h1.bU a3 ⟨QL _ _ _ a4,a5,a6,a7,a8⟩
 ·exact h1
theorem Inv.aau (h:Inv D Ts k) (hj:j<Ts.length) (x:Int):Inv (jR D Ts[j] x) (Ts.set j (kg Ts[j] x)) k:=by
 by_cases hz:iZ Ts[j] x=0
 ·have hx:aH Ts[j] x=true:=by
   unfold iZ at hz
   by_cases e1:aH Ts[j] x=true
   ·exact e1
   ·rw [if_neg e1] at hz;omega
  obtain ⟨i,rfl,hi,aF,h0⟩:=dK hx (h.len hj)
  unfold iZ at hz
  rw [if_pos hx] at hz
  rcases kG (N:=Ts[j]) with hl|⟨y,hl,WH,hy0⟩
  ·rw [hl] at hz;simp at hz
  have e0:iZ Ts[j] i=0:=by unfold iZ;rw [if_pos hx];exact hz
  have e1:jR D Ts[j] i=ib D Ts[j][i].1:=by unfold jR;rw [if_pos e0,getD_in aF];rfl
  have e2:kg Ts[j] i=Ts[j].set y (Ts[j][i].1,false):=by unfold kg;rw [if_pos e0,getD_in aF,hl,show (y:Int).toNat=y by omega]
  rw [e1,e2]
  exact h.dup hj WH hy0 h0 (eU hj aF) false
 ·rw [show jR D Ts[j] x=D from if_neg hz,show kg Ts[j] x=Ts[j] from if_neg hz]
  exact h.lu hj
theorem Inv.pipe (h:Inv D Ts k) (hn:D.nx<890) (hj:j<Ts.length) (hl1:¬au Ts[j]<0) (hl2:¬au (dG D Ts[j])<0):Inv (rC D) (Ts.set j (yY D Ts[j])) k:=by
 have g:=h.core.iV
 obtain ⟨n1,n2,n3⟩:=g.new
 have g0:=g.n0
 have hz:fB (D.nx+1) Ts=0:=by
  have:=h.core.cE (D.nx+1) (by omega)
  rw [n1] at this
  simp at this
  exact this
 have h0:Inv (jG D) Ts k:=by
  refine ⟨⟨g.TI (by omega),h.core.lv,h.core.sm,fun x ex hx=>(h.core.eF x ex hx).keep (by show D.nx≤D.nx+1;omega) (fun p y a b c d e f=>?_),h.core.cE,h.core.cR⟩,h.tab,h.few⟩
  have:p≠D.nx+1:=fun e=>by rw [e,n3] at a;cases a
  exact ⟨y,(if_neg this).trans a,b,c,d,e,f⟩
 have Yu:(jG D).P (D.nx+1)=some ([],1,1):=if_pos rfl
 have h1:Inv (oI D) (Ts.set j (dG D Ts[j])) k:=h0.add (D:=jG D) (e:=⟨2,1,0,D.nx+1,0⟩) (by show D.nx+1<899;omega) hj hl1 ⟨.inr (.inl rfl),fun z=>by simp at z,fun _=>rfl,fun z=>by simp at z,fun _=>⟨by simp only;omega,by show D.nx+1≤D.nx+1+1;omega,_,Yu,by simp,by simp,by simp,by simp,by simp⟩⟩
 have hj1:j<(Ts.set j (dG D Ts[j])).length:=by rw [List.length_set];exact hj
 have hg1:=mM hj (dG D Ts[j]) hj1
 have h2:=h1.add (D:=oI D) (j:=j) (e:=⟨3,2,0,D.nx+1,0⟩) (by show D.nx+1+1<899;omega) hj1 (by rw [hg1];exact hl2) ⟨.inr (.inr rfl),fun z=>by simp at z,fun z=>by simp at z,fun _=>rfl,fun _=>⟨by simp only;omega,by show D.nx+1≤D.nx+1+1+1;omega,_,Yu,by simp,by simp,by simp,by simp,by simp⟩⟩
 rw [hg1,Dr] at h2
 exact h2
theorem lh.fork:∀(l:Ns) {D:DS}{C:Int→Nat},lh D C k→(∀x∈l,0<x.1→0<C x.1)→lh (gW D l) (fun d=>C d+om d l) k
 | [],D,C,h,_=>h.congr (fun d _=>by simp [om])
 |x :: l,D,C,h,hl=>by
  unfold gW
  rw [List.foldl_cons]
  by_cases hx:0<x.1
  ·rw [if_pos hx]
   refine (lh.fork l (h.inc hx (hl x List.mem_cons_self hx)) (fun y hy h0=>?_)).congr (fun d hd=>?_)
   ·show 0<(if y.1=x.1 then C x.1+1 else C y.1)
    split
    ·omega
    ·exact hl y (List.mem_cons_of_mem _ hy) h0
   ·simp only [om,List.filter_cons]
    by_cases e1:d=x.1
    ·simp [e1];omega
    ·simp [e1,Ne.symm e1]
  ·rw [if_neg hx]
   refine (lh.fork l h (fun y hy h0=>hl y (List.mem_cons_of_mem _ hy) h0)).congr (fun d hd=>?_)
   simp only [om,List.filter_cons]
   rw [if_neg (by simp;omega)]
theorem Inv.fork (h:Inv D Ts k) (hf:Ts.length<500) (hj:j<Ts.length):Inv (gW D Ts[j]) (Ts ++ [Ts[j]]) k:=by
 refine ⟨(lh.fork Ts[j] h.core (fun x hx h0=>?_)).congr (fun d hd=>?_),fun N hN=>?_,by rw [List.length_append];simp;omega⟩
 ·obtain ⟨i,hi,rfl⟩:=List.getElem_of_mem hx
  exact eU hj hi
 ·simp [fB]
 ·rcases List.mem_append.1 hN with h1|h1
  ·exact h.tab N h1
  ·rw [List.mem_singleton.1 h1];exact h.tab _ (List.getElem_mem hj)
theorem fH (all:Bool) (D:DS) (N:Ns):∀i,(ai all D N i).2.length=N.length∧∀x,i≤x→(ai all D N i).2[x]? = N[x]?
 |0=>⟨rfl,fun _ _=>rfl⟩
 |i+1=>by
  obtain ⟨h1,h2⟩:=fH all D N i
  rw [ai]
  split
  ·refine ⟨by simp only [List.length_set];exact h1,fun x hx=>?_⟩
   simp only
   rw [List.getElem?_set_ne (by omega)]
   exact h2 x (by omega)
  ·exact ⟨h1,fun x hx=>h2 x (by omega)⟩
theorem rY {all:Bool}{N:Ns}{i:Nat}(hi:i<N.length) (h:i<(ai all D N i).2.length):(ai all D N i).2[i]=N[i]:=by
 have:=(fH all D N i).2 i (Nat.le_refl _)
 rw [List.getElem?_eq_getElem h,List.getElem?_eq_getElem hi] at this
 exact Option.some.inj this
theorem Inv.free (h:Inv D Ts k) (hk:k≤900) (hj:j<Ts.length) (all:Bool):∀i,i≤8→Inv (ai all D Ts[j] i).1 (Ts.set j (ai all D Ts[j] i).2) k
 |0,_=>h.lu hj
 |i+1,hi=>by
  have ih:=Inv.free h hk hj all i (by omega)
  rw [ai]
  split
  ·rename_i hc
   have Ul:i<Ts[j].length:=by rw [h.len hj];omega
   have Fa:i<(ai all D Ts[j] i).2.length:=by rw [(fH all D Ts[j] i).1];exact Ul
   have hj1:j<(Ts.set j (ai all D Ts[j] i).2).length:=by rw [List.length_set];exact hj
   have hg1:=mM hj (ai all D Ts[j] i).2 hj1
   have hgi:(Ts.set j (ai all D Ts[j] i).2)[j][i]'(by rw [hg1];exact Fa)=Ts[j][i]:=by
    simp only [hg1]
    exact rY Ul Fa
   have hD:Ts[j].getD i (0,false)=Ts[j][i]:=by rw [List.getD_eq_getElem?_getD,List.getElem?_eq_getElem Ul];rfl
   rw [hD] at hc ⊢
   have h2:=ih.close hk hj1 (i:=i) (by rw [hg1];exact Fa) (by rw [hgi];exact hc.1)
   rw [hgi,hg1,Dr] at h2
   exact h2
  ·exact ih
end
theorem OZ {T:Wd}{x:Int}(h:dZ T x 1≠0):bR T x 1=T:=by
 unfold dZ at h;unfold bR
 cases hn:T x with
 |none=>rfl
 |some nd=>cases nd with
  |dir C=>rfl
  |file b y=>
   rw [hn] at h
   simp only at h ⊢
   by_cases h9:(y:Int)+1<0
   ·omega
   ·rw [if_neg h9] at h;exact absurd rfl h
noncomputable def fK (D:DS) (N:Ns) (x:Int):DS:=if aH N x=true then aQ D (N.getD x.toNat (0,false)).1 else D
def gp (N:Ns) (x:Int):Ns:=if aH N x=true then N.set x.toNat (0,false) else N
def eu (N:Ns) (x y:Int):Int:=if aH N x=true then (if 0≤y∧y≤7 then 0 else 2) else 7
noncomputable def eB (D:DS) (N:Ns) (x y:Int):DS:=if eu N x y=0∧x≠y then (if (N.getD y.toNat (0,false)).1=0 then ib D (N.getD x.toNat (0,false)).1 else aQ (ib D (N.getD x.toNat (0,false)).1) (N.getD y.toNat (0,false)).1) else D
def ek (N:Ns) (x y:Int):Ns:=if eu N x y=0∧x≠y then N.set y.toNat ((N.getD x.toNat (0,false)).1,false) else N
def tL (N:Ns) (n:Nat):Prop:=aj N+2 > 8∨n+2 > 40
def qm (D:DS) (N:Ns) (n:Nat) (x y c:Int) (D':DS) (N':Ns):Prop:=(tL N n∧x=0∧y=0∧c=12∧D'=D∧N'=N)∨(¬tL N n∧x=au N∧y=au (dG D N)∧c=0∧D'=rC D∧N'=yY D N)
section
variable {D:DS}{Ts:List Ns}{k j i:Nat}{d:Int}{e:En}
theorem Df:∀(N:Ns) (i:Nat) (y:Int×Bool),aj (N.set i y)≤aj N+1
 | [],_,_=>by simp [aj]
 |x :: N,0,y=>by
  simp only [List.set_cons_zero,aj,List.filter_cons]
  split<;>split<;>simp<;>omega
 |x :: N,i+1,y=>by
  have:=Df N i y
  simp only [List.set_cons_succ,aj,List.filter_cons] at this ⊢
  split
  ·simp;omega
  ·exact this
theorem Inv.nn (h:Inv D Ts k) (hj:j<Ts.length):∀x∈Ts[j],0≤x.1:=fun x hx=>((h.tab _ (List.getElem_mem hj)).2 x hx).1
theorem Inv.zJ (h:Inv D Ts k) (hj:j<Ts.length) {n:Nat}(hf:¬tL Ts[j] n):¬au Ts[j]<0∧¬au (dG D Ts[j])<0:=by
 have h0:=h.core.iV.n0
 have hl:=h.len hj
 have hu:aj Ts[j]+2≤8:=by unfold tL at hf;omega
 have e1:¬au Ts[j]<0:=fun z=>by
  have:=(jf (h.nn hj)).1 z;omega
 refine ⟨e1,fun z=>?_⟩
 have h2:∀x∈dG D Ts[j],0≤x.1:=fun x hx=>by
  unfold dG addN at hx
  rcases List.mem_or_eq_of_mem_set hx with h1|h1
  ·exact h.nn hj x h1
  ·rw [h1];show 0≤D.nx+1+1;omega
 have h3:=(jf h2).1 z
 have h4:aj (dG D Ts[j])≤aj Ts[j]+1:=Df _ _ _
 have h5:(dG D Ts[j]).length=8:=by unfold dG addN;rw [List.length_set];exact hl
 omega
theorem Inv.VM (h:Inv D Ts k) (hk:k≤900) (hj:j<Ts.length) (x:Int):Inv (fK D Ts[j] x) (Ts.set j (gp Ts[j] x)) k:=by
 unfold fK gp
 by_cases hx:aH Ts[j] x=true
 ·obtain ⟨i,rfl,hi,aF,h0⟩:=dK hx (h.len hj)
  rw [if_pos hx,if_pos hx,getD_in aF,show (i:Int).toNat=i by omega]
  exact h.close hk hj aF h0
 ·rw [if_neg hx,if_neg hx];exact h.lu hj
theorem Inv.X8 (h:Inv D Ts k) (hk:k≤900) (hj:j<Ts.length) (x y:Int):Inv (eB D Ts[j] x y) (Ts.set j (ek Ts[j] x y)) k:=by
 unfold eB ek
 by_cases hz:eu Ts[j] x y=0∧x≠y
 ·rw [if_pos hz,if_pos hz]
  obtain ⟨hz,hne⟩:=hz
  unfold eu at hz
  by_cases hx:aH Ts[j] x=true
  ·rw [if_pos hx] at hz
   by_cases hy:0≤y∧y≤7
   ·obtain ⟨i,rfl,hi,aF,h0⟩:=dK hx (h.len hj)
    obtain ⟨i2,rfl⟩:∃i2:Nat,y=i2:=⟨y.toNat,by omega⟩
    have AP:i2<Ts[j].length:=by rw [h.len hj];omega
    rw [getD_in aF,getD_in AP,show (i2:Int).toNat=i2 by omega]
    by_cases e0:Ts[j][i2].1=0
    ·rw [if_pos e0]
     exact h.dup hj AP e0 h0 (eU hj aF) false
    ·rw [if_neg e0]
     have:=h.nn hj _ (List.getElem_mem AP)
     exact (h.dup2 hk hj AP (by omega) h0 (eU hj aF)).1
   ·rw [if_neg hy] at hz;omega
  ·rw [if_neg hx] at hz;omega
 ·rw [if_neg hz,if_neg hz];exact h.lu hj
end
end Go.Proofs.YtcfhanoekniaaaaGreatDoor

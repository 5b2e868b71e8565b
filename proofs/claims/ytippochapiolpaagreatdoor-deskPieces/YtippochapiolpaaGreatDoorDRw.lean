/- Ours. -/
import Derived.Test.YtippochapiolpaaGreatDoorWAbs
import Derived.Test.YtippochapiolpaaGreatDoorTubes3
import Derived.Test.YtippochapiolpaaGreatDoorJAbs
import Derived.Deep.RegionHeld3
set_option maxHeartbeats 2000000
set_option maxRecDepth 100000
namespace Go.Proofs.YtippochapiolpaaGreatDoor
open Go.Proofs.Tryz(func215 ntmps215 prog results215)
section
open Go.RowKit Go.Maps
abbrev Ns:=List (Int×Bool)
def nv(N:Ns):List Value:=N.flatMap (fun x=>[.int .i64 x.1,.bool x.2])
def ak(N:Ns):Nat:=(N.filter (fun x=>decide (0<x.1))).length
def ai:Ns->Int
 | []=>-1
 |x::N=>if x.1=0 then 0 else if ai N=-1 then -1 else ai N+1
def aJ(N:Ns)(n:Int):Bool:=decide (0<=n)&&decide (n<=7)&&decide (0<(N.getD n.toNat (0,false)).1)
theorem Re:∀(N:Ns) (i:Nat) (h:i<N.length),(nv N)[2*i]? = some (.int .i64 N[i].1)/\(nv N)[2*i+1]? = some (.bool N[i].2)
 | [],i,h=>by simp at h
 |x::N,0,h=>⟨rfl,rfl⟩
 |x::N,i+1,h=>by
  have:=Re N i (by simpa using h);unfold nv at this ⊢;rw[List.flatMap_cons,show 2*(i+1)=(2*i)+1+1 by omega];exact this
theorem NF{N:Ns}{i:Nat}(h:i<N.length):ak (N.take (i+1))=ak (N.take i)+if 0<N[i].1 then 1 else 0:=by
 unfold ak;rw[List.take_succ_eq_append_getElem h,List.filter_append,List.length_append];by_cases e:0<N[i].1
 ·simp[e]
 ·simp[e]
theorem yc(N:Ns):ak N<=N.length:=List.length_filter_le _ _
theorem zD(w:World)(a b:Value)(t:TypeId):(w.alloc (.cells #[a,b] t)).cell? ⟨w.heap.size,0,none⟩=some a/\(w.alloc (.cells #[a,b] t)).cell? ⟨w.heap.size,1,none⟩=some b:=by
 refine⟨?_,?_⟩<;>simp
theorem zS{B:Nat}{w w':World}(h:Below B w w'):Below B w w'.drew:=⟨h.os,h.tape,h.output,h.size,h.block⟩
theorem Ay:∀ {N:Ns},(∀x∈N,x.1≠0)->ai N=-1
 | [],_=>rfl
 |x::N,h=>by
  rw[ai,if_neg (h x List.mem_cons_self),Ay (fun y a=>h y (List.mem_cons_of_mem _ a)),if_pos rfl]
theorem GJ:∀ {N:Ns}{i:Nat}(a:i<N.length),(∀j (c:j<i),N[j].1≠0)->N[i].1=0->ai N=i
 |x::N,0,_,_,h=>by rw[ai,if_pos (show x.1=0 from h)];rfl
 |x::N,i+1,a,hn,h=>by
  have b:=GJ (N:=N) (i:=i) (by simpa using a) (fun j c=>hn (j+1) (by omega)) h;rw[ai,if_neg (show ¬x.1=0 from hn 0 (by omega)),b,if_neg (by omega)];rfl
theorem mg:∀ {N:Ns},ai N=-1\/(∃i:Nat,ai N=i/\∃h:i<N.length,N[i].1=0)
 | []=>.inl rfl
 |x::N=>by
  rw[ai];by_cases e:x.1=0
  ·rw[if_pos e];exact .inr ⟨0,rfl,by simp,e⟩
  ·rw[if_neg e];rcases mg (N:=N) with h|⟨i,h,a,b⟩
   ·rw[if_pos h];exact .inl rfl
   ·rw[if_neg (by omega),h];exact .inr ⟨i+1,rfl,by simpa using a,b⟩
theorem Jt:∀(N:Ns) (i:Nat) (x:Int×Bool),i<N.length->((nv N).set (2*i) (.int .i64 x.1)).set (2*i+1) (.bool x.2)=nv (N.set i x)
 | [],i,x,h=>by simp at h
 |y::N,0,x,h=>rfl
 |y::N,i+1,x,h=>by
  have a:=Jt N i x (by simpa using h);have e:nv (y::N)=.int .i64 y.1 :: .bool y.2::nv N:=rfl;have b:nv ((y::N).set (i+1) x)=.int .i64 y.1 :: .bool y.2::nv (N.set i x):=rfl;rw[e,b,<-a,show 2*(i+1)=(2*i)+1+1 by omega,show 2*i+1+1+1=(2*i+1)+1+1 by omega];rfl
structure En where
 kind:Int
 af:Int
 node:Int
 pipe:Int
 pos:Int
abbrev Pi:=List UInt8×Int×Int
structure DS where
 T:Wd
 E:Int->Option En
 R:Int->Option Int
 P:Int->Option Pi
 nx:Int
theorem dU{N:Ns}{n:Int}(h:aJ N n=true)(c:N.length=8):∃i:Nat,n=i/\i<8/\∃a:i<N.length,0<N[i].1:=by
 unfold aJ at h;simp only[Bool.and_eq_true,decide_eq_true_eq] at h;obtain⟨⟨e,d⟩,b⟩:=h;have a:n.toNat<N.length:=by omega
 refine⟨n.toNat,by omega,by omega,a,?_⟩;rw[List.getD_eq_getElem?_getD,List.getElem?_eq_getElem a] at b;exact b
def kR(N:Ns)(n:Int)(c:Bool):Ns:=if aJ N n=true then N.set n.toNat ((N.getD n.toNat (0,false)).1,c) else N
def kg(D:DS)(N:Ns)(n a:Int):Int:=if aJ N n=true then (match D.E (N.getD n.toNat (0,false)).1 with
 |some e=>if e.kind≠1 then 6 else if 0<=a/\a<=200 then 0 else 2
 |none=>6) else 7
def kr(D:DS)(N:Ns)(n a:Int):DS:=if kg D N n a=0 then (match D.E (N.getD n.toNat (0,false)).1 with
 |some e=>{ D with E:=fun i=>if i=(N.getD n.toNat (0,false)).1 then some { e with pos:=a } else D.E i }
 |none=>D) else D
theorem getD_in{N:Ns}{i:Nat}(a:i<N.length):N.getD (i:Int).toNat (0,false)=N[i]:=by
 rw[List.getD_eq_getElem?_getD,show (i:Int).toNat=i by omega,List.getElem?_eq_getElem a];rfl
def jH(N:Ns)(n:Int):Int:=if aJ N n=true then (if ai N<0 then 12 else 0) else 7
def lL(N:Ns)(n:Int):Ns:=if jH N n=0 then N.set (ai N).toNat ((N.getD n.toNat (0,false)).1,false) else N
def lM(D:DS)(N:Ns)(n:Int):DS:=if jH N n=0 then { D with R:=fun i=>if i=(N.getD n.toNat (0,false)).1 then some ((D.R i).getD 0+1) else D.R i } else D
def jr(N:Ns)(n:Int):Int:=if jH N n=0 then ai N else 0
def rU(p:Pi)(kd:Int):Pi:=(p.1,Vw p.2.1 kd,Vv p.2.2 kd)
noncomputable def aT(D:DS)(k:Int):DS:=match D.E k,D.R k with
 |some e,some c=>if 0<c-1 then { D with R:=fun i=>if i=k then some (c-1) else D.R i } else
  if e.kind=1 then { T:=dh D.T e.node (-1),E:=fun i=>if i=k then none else D.E i,R:=fun i=>if i=k then none else if i=k then some (c-1) else D.R i,P:=D.P,nx:=D.nx }
  else { T:=D.T,E:=fun i=>if i=k then none else D.E i,R:=fun i=>if i=k then none else if i=k then some (c-1) else D.R i,P:=fun i=>if i=e.pipe then some (rU ((D.P e.pipe).getD ([],0,0)) e.kind) else D.P i,nx:=D.nx }
 |_,_=>D
structure CanClose (D:DS) (k:Int) (e:En) (c:Int):Prop where
 k0:0<k
 k1:k<100000
 gz:D.E k=some e
 cnt:D.R k=some c
 c0:0<c
 c1:c<100000
 kind:e.kind=1\/e.kind=2\/e.kind=3
 node:e.kind=1->0<=e.node/\e.node<100000
 pipe:e.kind≠1->0<=e.pipe/\e.pipe<100000/\∃p,D.P e.pipe=some p/\p.1.length<=16/\0<=p.2.1/\p.2.1<1000/\0<=p.2.2/\p.2.2<1000
def jL(D:DS)(e:En):DS:={ D with E:=fun i=>if i=D.nx+1 then some e else D.E i,R:=fun i=>if i=D.nx+1 then some 1 else D.R i,nx:=D.nx+1 }
def addN(D:DS)(N:Ns):Ns:=N.set (ai N).toNat (D.nx+1,false)
structure Given (D:DS):Prop where
 n0:0<=D.nx
 n1:D.nx<5000
 e:∀x,(D.E x).isSome=true->0<x/\x<=D.nx
 r:∀x,(D.R x).isSome=true->0<x/\x<=D.nx
 p:∀x,(D.P x).isSome=true->0<x/\x<=D.nx
section
variable {D:DS}
theorem Given.new(g:Given D):D.E (D.nx+1)=none/\D.R (D.nx+1)=none/\D.P (D.nx+1)=none:=by
 refine⟨?_,?_,?_⟩
 ·cases h:D.E (D.nx+1) with
  |none=>rfl
  |some e=>have:=g.e _ (by rw[h];rfl);omega
 ·cases h:D.R (D.nx+1) with
  |none=>rfl
  |some e=>have:=g.r _ (by rw[h];rfl);omega
 ·cases h:D.P (D.nx+1) with
  |none=>rfl
  |some e=>have:=g.p _ (by rw[h];rfl);omega
theorem Given.add(g:Given D)(h:D.nx<4999)(e:En):Given (jL D e):=by
 have d:∀x,¬x=D.nx+1->x<=D.nx->x<=D.nx+1:=fun x _ h=>by omega
 refine⟨by show 0<=D.nx+1;have:=g.n0;omega,by show D.nx+1<5000;omega,fun x b=>?_,fun x b=>?_,fun x b=>?_⟩
 ·show 0<x/\x<=D.nx+1;by_cases c:x=D.nx+1
  ·have:=g.n0;omega
  ·have a:(if x=D.nx+1 then some e else D.E x).isSome=true:=b;rw[if_neg c] at a;have:=g.e x a;omega
 ·show 0<x/\x<=D.nx+1;by_cases c:x=D.nx+1
  ·have:=g.n0;omega
  ·have a:(if x=D.nx+1 then some (1:Int) else D.R x).isSome=true:=b;rw[if_neg c] at a;have:=g.r x a;omega
 ·show 0<x/\x<=D.nx+1;have:=g.p x b;omega
def lV(D:DS):DS:={ D with P:=fun i=>if i=D.nx+1 then some ([],1,1) else D.P i,nx:=D.nx+1 }
def qA(D:DS):DS:=jL (lV D) ⟨2,1,0,D.nx+1,0⟩
def xg(D:DS):DS:=jL (qA D) ⟨3,2,0,D.nx+1,0⟩
def dI(D:DS)(N:Ns):Ns:=addN (lV D) N
def BH(D:DS)(N:Ns):Ns:=addN (qA D) (dI D N)
theorem Given.ac2(g:Given D)(h:D.nx<4999):Given (lV D):=by
 refine⟨by show 0<=D.nx+1;have:=g.n0;omega,by show D.nx+1<5000;omega,fun x b=>?_,fun x b=>?_,fun x b=>?_⟩
 ·show 0<x/\x<=D.nx+1;have:=g.e x b;omega
 ·show 0<x/\x<=D.nx+1;have:=g.r x b;omega
 ·show 0<x/\x<=D.nx+1;by_cases c:x=D.nx+1
  ·have:=g.n0;omega
  ·have a:(if x=D.nx+1 then some (([],1,1):Pi) else D.P x).isSome=true:=b;rw[if_neg c] at a;have:=g.p x a;omega
end
def roomy(N:Ns)(sE:Nat):Prop:=¬ai N<0/\sE<40
def o5(x:List UInt8)(a ps:Int):Prop:=x≠[]/\(a<(x.length:Int)\/a-(x.length:Int)<ps)
def qh(T:Wd):DS:=⟨T,fun _=>none,fun _=>none,fun _=>none,0⟩
theorem Il(T:Wd):Given (qh T):=⟨Int.le_refl _,by show (0:Int)<5000;omega,fun x h=>(by cases h),fun x h=>(by cases h),fun x h=>(by cases h)⟩
section
variable {w:World}
theorem MR{g n:Nat}{M:Int->Option Value}{t e:TypeId}(m:aK w g n M)(d:prog.underlying t=some (.map 3 e))(a:Int)(f:(Lit.int .i64 a).wf=true):∃b,(∀c,(Builtin.delete_ #[t,3] c #[.map (some g),.int .i64 a]).run prog w=.ok (.tuple #[]) b)/\aK b g (if (M a).isSome then n-1 else n) (fun i=>if i=a then none else M i)/\w.grownBy b (some g):=by
 obtain⟨b,k,j,h⟩:=m.del d a f 3;refine⟨b,fun c=>?_,j,h⟩;rw[<-k];rfl
end
theorem rF{T:Wd}{p:List UInt8}{s:Nat}{k:Int}(h:TrOk T)(i:aY T s p=0)(g:fV T k):dV (jd T p false k) k 1=0/\∀b x,jd T p false k k=some (.file b x)->x=0:=by
 obtain⟨_,⟨C,c,f⟩,_,_⟩:=mF h i;have a:(ae T p).1≠k:=fun e=>by rw[e,g.none] at c;cases c
 have d:jd T p false k k=some (.file [] 0):=by
  unfold jd;rw[j5 (show cB T k (fO false) (ae T p).1=some (.dir C) by rw[ag _ a];exact c),ag _ (Ne.symm a),aj];rfl
 refine⟨?_,fun b x e=>?_⟩
 ·unfold dV;rw[d];rfl
 ·rw[d] at e;cases e;rfl
structure QT (w:World) (b:Nat) (M:Ns):Prop where
 blk:w.heap[b]? = some (.cells (nv M).toArray 116)
 len:M.length=8
 pos:∀x∈M,0<=x.1/\x.1<100000/\(x.1=0->x.2=false)
def IY(M:Ns)(n:Int):Int×Bool:=if 0<=n/\n<=7 then M.getD n.toNat (0,false) else (0,false)
abbrev nuv(x:Int×Bool):Value:=.agg #[.int .i64 x.1,.bool x.2]
theorem zf{M:Ns}(b:M.length=8){i:Nat}(a:i<8):IY M i=M[i]'(by rw[b];exact a):=by
 unfold IY;rw[if_pos (by omega),getD_in (by rw[b];exact a)]
theorem RF(b:Nat)(w:World):(binOp BinOp.eql 111 (wp b) (.pointer none)).run prog w=.ok (.bool false) w:=by kernel_rfl
theorem Xd(w:World):(w.alloc (.cells #[.int .i64 0,.bool false] 113)).heap[w.heap.size]? = some (.cells #[.int .i64 0,.bool false] 113):=by
 show (w.heap.push _)[w.heap.size]? = _;rw[Array.getElem?_push,if_pos rfl]
theorem LQ{W:World}{i:Nat}{x y:Value}{t:TypeId}(h:W.heap[i]? = some (.cells #[x,y] t))(u v:Value):((W.setCell ⟨i,0,none⟩ u).setCell ⟨i,1,none⟩ v).cell? ⟨i,0,none⟩=some u/\((W.setCell ⟨i,0,none⟩ u).setCell ⟨i,1,none⟩ v).cell? ⟨i,1,none⟩=some v:=by
 have b:=aS W i 0 u _ _ _ h;have a:=aS _ i 1 v _ _ _ b;exact⟨by rw[cell_of_row _ i 0 _ _ _ a];rfl,by rw[cell_of_row _ i 1 _ _ _ a];rfl⟩
section
variable {w w':World}{b:Nat}{M:Ns}
theorem QT.keep(h:QT w b M)(a:w'.heap[b]? = w.heap[b]?):QT w' b M:=⟨a.trans h.blk,h.len,h.pos⟩
theorem QT.lt(h:QT w b M):b<w.heap.size:=(Array.getElem?_eq_some_iff.1 h.blk).1
theorem QT.below(h:QT w b M)(a:Below w.heap.size w w'):QT w' b M:=h.keep (a.block b h.lt)
theorem QT.at(h:QT w b M){i:Nat}(a:i<8):w.cell? ⟨b,i*2,none⟩=some (.int .i64 (M[i]'(by rw[h.len];exact a)).1)/\w.cell? ⟨b,i*2+1,none⟩=some (.bool (M[i]'(by rw[h.len];exact a)).2):=by
 obtain⟨d,c⟩:=Re M i (by rw[h.len];exact a);rw[cell_of_row _ _ _ _ _ _ h.blk,cell_of_row _ _ _ _ _ _ h.blk];rw[Nat.mul_comm];exact⟨by simpa using d,by simpa using c⟩
theorem QT.free(h:QT w b M)(o:Nat):w.frozen? ⟨b,o,none⟩=false:=by
 simp[World.frozen?,h.blk]
theorem QT.nn(h:QT w b M){i:Nat}(a:i<M.length):0<=M[i].1/\M[i].1<100000/\(M[i].1=0->M[i].2=false):=h.pos _ (List.getElem_mem a)
theorem QT.xw(h:QT w b M)(n:Int):Calls prog 215 #[wp b,.int .i64 n] w fun e d=>e=.returned (nuv (IY M n))/\Below w.heap.size w d:=by
 have r:=RF b;have q:Below w.heap.size w (w.alloc (.cells #[.int .i64 0,.bool false] 113)):=(Below.refl _ w).alloc (Nat.le_refl _) _;have m:=h.below q;have a:=Xd w;have g:(w.alloc (.cells #[.int .i64 0,.bool false] 113)).cell? ⟨w.heap.size,0,none⟩=some (.int .i64 0):=by rw[cell_of_row _ _ 0 _ _ _ a];rfl
 have f:(w.alloc (.cells #[.int .i64 0,.bool false] 113)).cell? ⟨w.heap.size,1,none⟩=some (.bool false):=by rw[cell_of_row _ _ 1 _ _ _ a];rfl
 have s0:=fun u v=>(LQ a u v).1;have s1:=fun u v=>(LQ a u v).2;by_cases k:n<0
 ·rw[show IY M n=(0,false) from if_neg (by omega)];go_enter func215,ntmps215
  go_wp2_with fail
  refine bodyPost_ret (v:=.agg #[.int .i64 0,.bool false]) (by simp[results,results215,go_sem]) rfl ⟨rfl,?_⟩
  repeat first|exact Below.refl _ _|refine Below.alloc ?_ (by first|omega|(simp<;>omega)) _|refine Below.setCell ?_ (by first|omega|(simp<;>omega)) _
 ·by_cases j:8<=n
  ·rw[show IY M n=(0,false) from if_neg (by omega)];go_enter func215,ntmps215
   go_wp2_with fail
   refine bodyPost_ret (v:=.agg #[.int .i64 0,.bool false]) (by simp[results,results215,go_sem]) rfl ⟨rfl,?_⟩
   repeat first|exact Below.refl _ _|refine Below.alloc ?_ (by first|omega|(simp<;>omega)) _|refine Below.setCell ?_ (by first|omega|(simp<;>omega)) _
  ·obtain⟨i,rfl⟩:∃i:Nat,n=i:=⟨n.toNat,by omega⟩;have c:i<8:=by omega
   rw[zf h.len c];obtain⟨p,o⟩:=m.at c;generalize (M[i]'(by rw[h.len];exact c))=x at *;obtain⟨X,Y⟩:=x;simp only at p o;have l:(i:Int)<8:=by omega
   go_enter func215,ntmps215
   go_wp2_with fail
   refine bodyPost_ret (v:=.agg #[.int .i64 X,.bool Y]) (by simp[results,results215,go_sem]) rfl ⟨rfl,?_⟩
   repeat first|exact Below.refl _ _|refine Below.alloc ?_ (by first|omega|(simp<;>omega)) _|refine Below.setCell ?_ (by first|omega|(simp<;>omega)) _
theorem lJ(w:World)(X:Int)(Y:Bool):Calls prog 216 #[.agg #[.int .i64 X,.bool Y]] w fun e a=>e=.returned (.bool (X==0))/\Below w.heap.size w a:=by
 have b:Below w.heap.size w (w.alloc (.cells #[.int .i64 X,.bool Y] 113)):=(Below.refl _ w).alloc (Nat.le_refl _) _;obtain⟨d,c⟩:=zD w (.int .i64 X) (.bool Y) 113;go_enter Tryz.func216,Tryz.ntmps216
 go_wp2_with fail
 go_ret;exact⟨rfl,b⟩
theorem acA{M:Ns}(g:M.length=8)(c:∀x∈M,0<=x.1)(n:Int):aJ M n=!((IY M n).1==0):=by
 by_cases d:0<=n/\n<=7
 ·obtain⟨i,rfl⟩:∃i:Nat,n=i:=⟨n.toNat,by omega⟩;have e:i<8:=by omega
  have b:i<M.length:=by omega
  rw[zf g e];unfold aJ;rw[getD_in b];have:=c _ (List.getElem_mem b);have j:decide ((0:Int)<=(i:Int))=true:=by simp
  have h:decide ((i:Int)<=7)=true:=by simp;omega
  rw[j,h];by_cases a:M[i].1=0
  ·rw[a];rfl
  ·have:(0:Int)<M[i].1:=by omega
   simp[this,a]
 ·rw[show IY M n=(0,false) from if_neg d];unfold aJ;have f:(decide (0<=n)&&decide (n<=7))=false:=by
   simp only[Bool.and_eq_false_iff,decide_eq_false_iff_not];omega
  rw[f];rfl
theorem QT.JA(h:QT w b M)(f:Nat)(n:Int):Calls prog 153 #[wp f,wp b,.int .i64 n] w fun e c=>e=.returned (.bool (aJ M n))/\Below w.heap.size w c:=by
 rw[acA h.len (fun x d=>(h.pos x d).1) n];have g:=h.xw n;generalize IY M n=x at *;obtain⟨X,Y⟩:=x;go_enter Tryz.func153,Tryz.ntmps153
 go_wp2_with (first
  |(go_at_call 215;refine g.mono ?_;rintro e k ⟨rfl,a⟩)
  |(go_at_call 216;refine(lJ _ X Y).mono ?_;rintro e j ⟨rfl,i⟩))
 go_ret;exact⟨rfl,a.trans (i.mono a.size)⟩
theorem QT.xZ(h:QT w b M):Calls prog 145 #[wp b] w fun e w'=>e=.returned (.int .i64 (ak M:Int))/\Below w.heap.size w w':=by
 have y:Aside (M.length=8):=h.len;go_enter Tryz.func145,Tryz.ntmps145
 go_wp2_with fail
 go_loopg [3,4,5] 8 (fun g s3 _ s5 z=>∃i:Nat,Aside (i+g=8)/\s3=.int .i64 (ak (M.take i):Int)/\s5=.int .i64 (i:Int)/\Below w.heap.size w z)
 case atStart=>exact⟨0,rfl,rfl,rfl,Below.refl _ _⟩
 case round=>
  obtain⟨i,r,rfl,rfl,d⟩:=hrel;have B:i<=8:=by have:=r.out;omega
  have s:(i:Int)<=8:=by omega
  by_cases A:(i:Int)<8
  ·have u:i<M.length:=by have:=y.out;omega
   have o:=(h.below d).xw i;rw[zf h.len (by omega)] at o;have m:=(h.nn u).1;have a:=NF (N:=M) (i:=i) u;have v:=yc (M.take i);rw[List.length_take] at v;obtain⟨U,n⟩:∃U,ak (M.take i)=U:=⟨_,rfl⟩;obtain⟨k,f⟩:∃k,ak (M.take (i+1))=k:=⟨_,rfl⟩;rw[n,f] at a;rw[n] at v;have D:(U:Int)<=8:=by omega
   have l:Aside (ak (M.take (i+1))=k):=f;rw[n];generalize M[i]=x at *;obtain⟨X,Y⟩:=x;simp only at a m;have c:=d.size;by_cases t:X=0
   ·subst t;rw[if_neg (by omega)] at a;have q:Aside (k=U):=a;go_wp2_with (first
     |(go_at_call 215;refine o.mono ?_;rintro e w1 ⟨rfl,j⟩)
     |(go_at_call 216;refine(lJ _ 0 Y).mono ?_;rintro e w2 ⟨rfl,p⟩))
    go_roundg (7-i)
    case measure=>have:=r.out;omega
    case rel=>exact⟨i+1,(show i+1+(7-i)=8 by omega),by rw[l.out,q.out],by rfl,d.trans ((j.trans (p.mono j.size)).mono c)⟩
   ·rw[if_pos (by omega)] at a;have q:Aside (k=U+1):=a;have C:(X==0)=false:=by simpa using t
    go_wp2_with (first
     |(go_at_call 215;refine o.mono ?_;rintro e w1 ⟨rfl,j⟩)
     |(go_at_call 216;refine(lJ _ X Y).mono ?_;rintro e w2 ⟨rfl,p⟩))
    go_roundg (7-i)
    case measure=>have:=r.out;omega
    case rel=>exact⟨i+1,(show i+1+(7-i)=8 by omega),by rw[l.out,q.out];rfl,by rfl,d.trans ((j.trans (p.mono j.size)).mono c)⟩
  ·have E:M.take i=M:=List.take_of_length_le (by have:=y.out;omega);rw[E];go_wp2_with fail
   go_ret;exact⟨rfl,d⟩
end
inductive iM (D:DS) (N:Ns) (n s:Nat) (p:List UInt8) (pr:Int) (mk:Bool):Int->Int->DS->Ns->Prop
 |arg (hp:¬(1<=pr/\pr<=3)):iM D N n s p pr mk 0 1 D N
 |full (hp:1<=pr/\pr<=3) (hr:¬roomy N n):iM D N n s p pr mk 0 12 D N
 |no (hp:1<=pr/\pr<=3) (hr:roomy N n) (hE:(aF D.T p).2≠0) (h7:¬((aF D.T p).2=7/\mk=true)):iM D N n s p pr mk 0 (aF D.T p).2 D N
 |dir (hp:1<=pr/\pr<=3) (hr:roomy N n) (hE:(aF D.T p).2=0) (hh:dV D.T (aF D.T p).1 1≠0):iM D N n s p pr mk 0 (dV D.T (aF D.T p).1 1) D N
 |opened (hp:1<=pr/\pr<=3) (hr:roomy N n) (hE:(aF D.T p).2=0) (hh:dV D.T (aF D.T p).1 1=0):iM D N n s p pr mk (ai N) 0 (jL { D with T:=dh D.T (aF D.T p).1 1 } ⟨1,pr,(aF D.T p).1,0,0⟩) (addN D N)
 |yQ (hp:1<=pr/\pr<=3) (hr:roomy N n) (hE:(aF D.T p).2=7) (hm:mk=true) (hM:aY D.T s p≠0):iM D N n s p pr mk 0 (aY D.T s p) D N
 |made (hp:1<=pr/\pr<=3) (hr:roomy N n) (hE:(aF D.T p).2=7) (hm:mk=true) (hM:aY D.T s p=0) (k:Int) (hk:fV D.T k):iM D N n s p pr mk (ai N) 0 (jL { D with T:=dh (jd D.T p false k) k 1 } ⟨1,pr,k,0,0⟩) (addN D N)
theorem iM.one{D:DS}{N:Ns}{n s:Nat}{p:List UInt8}{b:Int}{mk:Bool}{k c k' d:Int}{E f:DS}{L e:Ns}(h:iM D N n s p b mk k c E L)(a:iM D N n s p b mk k' d f e):k=k'/\c=d/\E=f/\L=e:=by
 cases h with
 |made hp hr hE hm hM k hk=>
  cases a with
  |made hp' hr' hE' hm' hM' k' hk'=>obtain rfl:=hk.same hk';exact⟨rfl,rfl,rfl,rfl⟩
  |no hp' hr' hE' h7=>exact absurd ⟨hE,hm⟩ h7
  |_=>first|contradiction|(exfalso;omega)
 |no hp hr hE h7=>
  cases a with
  |no=>exact⟨rfl,rfl,rfl,rfl⟩
  |made hp' hr' hE' hm' hM' k' hk'=>exact absurd ⟨hE',hm'⟩ h7
  |yQ hp' hr' hE' hm' hM'=>exact absurd ⟨hE',hm'⟩ h7
  |_=>first|contradiction|(exfalso;omega)
 |yQ hp hr hE hm hM=>
  cases a with
  |yQ=>exact⟨rfl,rfl,rfl,rfl⟩
  |no hp' hr' hE' h7=>exact absurd ⟨hE,hm⟩ h7
  |_=>first|contradiction|(exfalso;omega)
 |_=>cases a<;>first|exact⟨rfl,rfl,rfl,rfl⟩|contradiction|(exfalso;omega)
theorem jR:∀ {N:Ns},(∀x∈N,0<=x.1)->(ai N<0↔N.length<=ak N)
 | [],_=>by simp[ai,ak]
 |x::N,h=>by
  have b:=jR (N:=N) (fun y c=>h y (List.mem_cons_of_mem _ c));have g:=h x List.mem_cons_self;have d:=yc N;rw[ai];unfold ak at b d ⊢;by_cases e:x.1=0
  ·rw[if_pos e,List.filter_cons_of_neg (by simp;omega),List.length_cons];constructor
   ·intro a;omega
   ·intro a;omega
  ·rw[if_neg e,List.filter_cons_of_pos (by simp;omega),List.length_cons,List.length_cons];rcases mg (N:=N) with a|⟨i,a,_⟩
   ·rw[a] at b;rw[if_pos a];constructor
    ·intro _;have:=b.1 (by omega);omega
    ·intro _;omega
   ·rw[if_neg (by omega)];constructor
    ·intro f;omega
    ·intro f;have:=b.2 (by omega);omega
end
section
open Go.RowKit Go.Maps
structure DD (D:DS) (e:En):Prop where
 kind:e.kind=1\/e.kind=2\/e.kind=3
 file:e.kind=1->1<=e.af/\e.af<=3/\0<=e.node/\e.node<1000/\0<=e.pos/\e.pos<=200
 aR:e.kind=2->e.af=1
 into:e.kind=3->e.af=2
 pipe:e.kind≠1->0<e.pipe/\e.pipe<=D.nx/\∃p,D.P e.pipe=some p/\p.1.length<=16/\0<=p.2.1/\p.2.1<1000/\0<=p.2.2/\p.2.2<1000
def bR(D:DS)(N:Ns)(x a:Int):List UInt8×Int×DS:=if aJ N x=true then (match D.E (N.getD x.toNat (0,false)).1 with
 |none=>([],7,D)
 |some e=>if e.af=2 then ([],13,D) else if e.kind=1 then (eG D.T e.node e.pos a,jw D.T e.node e.pos a,{ D with E:=fun j=>if j=(N.getD x.toNat (0,false)).1 then some { e with pos:=e.pos+(eG D.T e.node e.pos a).length } else D.E j }) else match D.P e.pipe with
  |none=>([],7,D)
  |some p=>(p.1.take a.toNat,IQ p.2.2 p.1 a,{ D with P:=fun j=>if j=e.pipe then some (p.1.drop a.toNat,p.2.1,p.2.2) else D.P j })) else ([],7,D)
open Classical in
noncomputable def bZ(D:DS)(N:Ns)(x:Int)(s:List UInt8)(a:Int):Int×Int×DS:=if aJ N x=true then (match D.E (N.getD x.toNat (0,false)).1 with
 |none=>(0,7,D)
 |some e=>if e.af=1 then (0,13,D) else if e.kind=1 then (if o5 s a e.pos then (0,4,D) else if cZ D.T e.node e.pos s≠0 then (0,cZ D.T e.node e.pos s,D) else ((s.length:Int),0,{ D with T:=fU D.T e.node e.pos s,E:=fun j=>if j=(N.getD x.toNat (0,false)).1 then some { e with pos:=e.pos+s.length } else D.E j })) else match D.P e.pipe with
  |none=>(0,7,D)
  |some p=>((Nc p.2.1 p.1 s:Int),Le p.2.1 p.1 s,{ D with P:=fun j=>if j=e.pipe then some (I6 p.2.1 p.1 s,p.2.1,p.2.2) else D.P j })) else (0,7,D)
section
variable {D:DS}{N:Ns}{i:Nat}{e:En}{a:Int}{s:List UInt8}
theorem Tu{x:Int}(h:aJ N x=false):bR D N x a=([],7,D):=if_neg (by rw[h];simp)
theorem NA{x:Int}(h:aJ N x=false):bZ D N x s a=(0,7,D):=if_neg (by rw[h];simp)
theorem kH(c:i<8)(b:i<N.length)(a:0<N[i].1):aJ N i=true:=by
 unfold aJ;rw[getD_in b];simp[a];omega
variable (hi:i<8) (aG:i<N.length) (h0:0<N[i].1) (he:D.E N[i].1=some e)
include hi h0 he
theorem Ic(b:e.af=2):bR D N i a=([],13,D):=by
 unfold bR;rw[if_pos (kH hi aG h0),getD_in aG,he];simp only;rw[if_pos b]
theorem J5(c:e.kind=1)(b:e.af≠2):bR D N i a=(eG D.T e.node e.pos a,jw D.T e.node e.pos a,{ D with E:=fun j=>if j=N[i].1 then some { e with pos:=e.pos+(eG D.T e.node e.pos a).length } else D.E j }):=by
 unfold bR;rw[if_pos (kH hi aG h0),getD_in aG,he];simp only;rw[if_neg b,if_pos c]
theorem OC(c:e.kind≠1)(b:e.af≠2){p:Pi}(d:D.P e.pipe=some p):bR D N i a=(p.1.take a.toNat,IQ p.2.2 p.1 a,{ D with P:=fun j=>if j=e.pipe then some (p.1.drop a.toNat,p.2.1,p.2.2) else D.P j }):=by
 unfold bR;rw[if_pos (kH hi aG h0),getD_in aG,he];simp only;rw[if_neg b,if_neg c,d]
theorem EM(b:e.af=1):bZ D N i s a=(0,13,D):=by
 unfold bZ;rw[if_pos (kH hi aG h0),getD_in aG,he];simp only;rw[if_pos b]
theorem EL(d:e.kind=1)(b:e.af≠1)(c:o5 s a e.pos):bZ D N i s a=(0,4,D):=by
 unfold bZ;rw[if_pos (kH hi aG h0),getD_in aG,he];simp only;rw[if_neg b,if_pos d,if_pos c]
theorem JN(d:e.kind=1)(b:e.af≠1)(c:¬o5 s a e.pos)(f:cZ D.T e.node e.pos s≠0):bZ D N i s a=(0,cZ D.T e.node e.pos s,D):=by
 unfold bZ;rw[if_pos (kH hi aG h0),getD_in aG,he];simp only;rw[if_neg b,if_pos d,if_neg c,if_pos f]
theorem Hq(d:e.kind=1)(b:e.af≠1)(c:¬o5 s a e.pos)(f:cZ D.T e.node e.pos s=0):bZ D N i s a=((s.length:Int),0,{ D with T:=fU D.T e.node e.pos s,E:=fun j=>if j=N[i].1 then some { e with pos:=e.pos+s.length } else D.E j }):=by
 unfold bZ;rw[if_pos (kH hi aG h0),getD_in aG,he];simp only;rw[if_neg b,if_pos d,if_neg c,if_neg (fun h=>h f)]
theorem JM(c:e.kind≠1)(b:e.af≠1){p:Pi}(d:D.P e.pipe=some p):bZ D N i s a=((Nc p.2.1 p.1 s:Int),Le p.2.1 p.1 s,{ D with P:=fun j=>if j=e.pipe then some (I6 p.2.1 p.1 s,p.2.1,p.2.2) else D.P j }):=by
 unfold bZ;rw[if_pos (kH hi aG h0),getD_in aG,he];simp only;rw[if_neg b,if_neg c,d]
end
end
end Go.Proofs.YtippochapiolpaaGreatDoor

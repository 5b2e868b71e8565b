/- What is open, and by which numbers: plainly. -/
import Derived.Test.YtcfhanoekniaaaaGreatDoorWAbs
import Derived.Test.YtcfhanoekniaaaaGreatDoorTubes3
import Derived.Test.YtcfhanoekniaaaaGreatDoorJAbs
import Derived.Deep.LoopGhost
import Derived.Outline
import Derived.Deep.RegionHeld3
set_option maxHeartbeats 2000000
set_option maxRecDepth 100000
namespace Go.Proofs.YtcfhanoekniaaaaGreatDoor
open Go.RowKit Go.Maps
abbrev Ns:=List (Int×Bool)
def nv (N:Ns):List Value:=N.flatMap (fun x=>[.int .i64 x.1,.bool x.2])
def aj (N:Ns):Nat:=(N.filter (fun x=>decide (0<x.1))).length
def au:Ns→Int
 | []=>-1
 |x :: N=>if x.1=0 then 0 else if au N=-1 then -1 else au N+1
def aG (N:Ns) (n:Int):Bool:=decide (0≤n) && decide (n≤7) && decide (0<(N.getD n.toNat (0,false)).1)
theorem Mq:∀(N:Ns) (i:Nat) (h:i<N.length),(nv N)[2*i]? = some (.int .i64 N[i].1)∧(nv N)[2*i+1]? = some (.bool N[i].2)
 | [],i,h=>by simp at h
 |x :: N,0,h=>⟨rfl,rfl⟩
 |x :: N,i+1,h=>by
  have:=Mq N i (by simpa using h)
  unfold nv at this ⊢
  rw [List.flatMap_cons,show 2*(i+1)=(2*i)+1+1 by omega]
  exact this
theorem Jj {N:Ns}{i:Nat}(h:i<N.length):aj (N.take (i+1))=aj (N.take i)+if 0<N[i].1 then 1 else 0:=by
 unfold aj
 rw [List.take_succ_eq_append_getElem h,List.filter_append,List.length_append]
 by_cases e:0<N[i].1
 ·simp [e]
 ·simp [e]
theorem vo (N:Ns):aj N≤N.length:=List.length_filter_le _ _
theorem wM (w:World) (a b:Value) (t:TypeId):(w.alloc (.cells #[a,b] t)).cell? ⟨w.heap.size,0,none⟩=some a∧(w.alloc (.cells #[a,b] t)).cell? ⟨w.heap.size,1,none⟩=some b:=by
 refine ⟨?_,?_⟩<;>simp
theorem wZ {B:Nat}{w w':World}(h:Below B w w'):Below B w w'.drew:=⟨h.os,h.tape,h.output,h.size,h.block⟩
theorem xQ:∀ {N:Ns},(∀x∈N,x.1≠0)→au N=-1
 | [],_=>rfl
 |x :: N,h=>by
  rw [au,if_neg (h x List.mem_cons_self),xQ (fun y hy=>h y (List.mem_cons_of_mem _ hy)),if_pos rfl]
theorem Dq:∀ {N:Ns}{i:Nat}(hi:i<N.length),(∀j (hj:j<i),N[j].1≠0)→N[i].1=0→au N=i
 |x :: N,0,_,_,h=>by rw [au,if_pos (show x.1=0 from h)];rfl
 |x :: N,i+1,hi,hn,h=>by
  have ih:=Dq (N:=N) (i:=i) (by simpa using hi) (fun j hj=>hn (j+1) (by omega)) h
  rw [au,if_neg (show ¬x.1=0 from hn 0 (by omega)),ih,if_neg (by omega)];rfl
theorem kg:∀ {N:Ns},au N=-1∨(∃i:Nat,au N=i∧∃h:i<N.length,N[i].1=0)
 | []=>.inl rfl
 |x :: N=>by
  rw [au]
  by_cases e:x.1=0
  ·rw [if_pos e];exact .inr ⟨0,rfl,by simp,e⟩
  ·rw [if_neg e]
   rcases kg (N:=N) with h|⟨i,h,hi,h0⟩
   ·rw [if_pos h];exact .inl rfl
   ·rw [if_neg (by omega),h]
    exact .inr ⟨i+1,rfl,by simpa using hi,h0⟩
theorem E5:∀(N:Ns) (i:Nat) (x:Int×Bool),i<N.length→((nv N).set (2*i) (.int .i64 x.1)).set (2*i+1) (.bool x.2)=nv (N.set i x)
 | [],i,x,h=>by simp at h
 |y :: N,0,x,h=>rfl
 |y :: N,i+1,x,h=>by
  have ih:=E5 N i x (by simpa using h)
  have e:nv (y :: N)=.int .i64 y.1 :: .bool y.2 :: nv N:=rfl
  have e2:nv ((y :: N).set (i+1) x)=.int .i64 y.1 :: .bool y.2 :: nv (N.set i x):=rfl
  rw [e,e2,←ih,show 2*(i+1)=(2*i)+1+1 by omega,show 2*i+1+1+1=(2*i+1)+1+1 by omega]
  rfl
structure En where
 kind:Int
 af:Int
 node:Int
 pipe:Int
 pos:Int
abbrev Pi:=List UInt8×Int×Int
structure DS where
 T:Wd
 E:Int→Option En
 R:Int→Option Int
 P:Int→Option Pi
 nx:Int
theorem dL {N:Ns}{n:Int}(h:aG N n=true) (hL:N.length=8):∃i:Nat,n=i∧i<8∧∃hi:i<N.length,0<N[i].1:=by
 unfold aG at h
 simp only [Bool.and_eq_true,decide_eq_true_eq] at h
 obtain ⟨⟨h0,h1⟩,h2⟩:=h
 have hi:n.toNat<N.length:=by omega
 refine ⟨n.toNat,by omega,by omega,hi,?_⟩
 rw [List.getD_eq_getElem?_getD,List.getElem?_eq_getElem hi] at h2
 exact h2
def jy (N:Ns) (n:Int) (c:Bool):Ns:=if aG N n=true then N.set n.toNat ((N.getD n.toNat (0,false)).1,c) else N
def SS (D:DS) (N:Ns) (n a:Int):Int:=if aG N n=true then (match D.E (N.getD n.toNat (0,false)).1 with
 |some e=>if e.kind≠1 then 6 else if 0≤a∧a≤200 then 0 else 2
 |none=>6) else 7
def SV (D:DS) (N:Ns) (n a:Int):DS:=if SS D N n a=0 then (match D.E (N.getD n.toNat (0,false)).1 with
 |some e=>{ D with E:=fun i=>if i=(N.getD n.toNat (0,false)).1 then some { e with pos:=a } else D.E i }
 |none=>D) else D
theorem getD_in {N:Ns}{i:Nat}(hi:i<N.length):N.getD (i:Int).toNat (0,false)=N[i]:=by
 rw [List.getD_eq_getElem?_getD,show (i:Int).toNat=i by omega,List.getElem?_eq_getElem hi];rfl
def iQ (N:Ns) (n:Int):Int:=if aG N n=true then (if au N<0 then 12 else 0) else 7
def jQ (N:Ns) (n:Int):Ns:=if iQ N n=0 then N.set (au N).toNat ((N.getD n.toNat (0,false)).1,false) else N
def jR (D:DS) (N:Ns) (n:Int):DS:=if iQ N n=0 then { D with R:=fun i=>if i=(N.getD n.toNat (0,false)).1 then some ((D.R i).getD 0+1) else D.R i } else D
def iC (N:Ns) (n:Int):Int:=if iQ N n=0 then au N else 0
def pW (p:Pi) (kd:Int):Pi:=(p.1,PS p.2.1 kd,PR p.2.2 kd)
noncomputable def aQ (D:DS) (k:Int):DS:=match D.E k,D.R k with
 |some e,some c=>if 0<c-1 then { D with R:=fun i=>if i=k then some (c-1) else D.R i } else
  if e.kind=1 then { T:=bP D.T e.node (-1),E:=fun i=>if i=k then none else D.E i,R:=fun i=>if i=k then none else if i=k then some (c-1) else D.R i,P:=D.P,nx:=D.nx }
  else { T:=D.T,E:=fun i=>if i=k then none else D.E i,R:=fun i=>if i=k then none else if i=k then some (c-1) else D.R i,P:=fun i=>if i=e.pipe then some (pW ((D.P e.pipe).getD ([],0,0)) e.kind) else D.P i,nx:=D.nx }
 |_,_=>D
structure CanClose (D:DS) (k:Int) (e:En) (c:Int):Prop where
 k0:0<k
 k1:k<100000
 dX:D.E k=some e
 cnt:D.R k=some c
 c0:0<c
 c1:c<100000
 kind:e.kind=1∨e.kind=2∨e.kind=3
 node:e.kind=1→0≤e.node∧e.node<100000
 pipe:e.kind≠1→0≤e.pipe∧e.pipe<100000∧∃p,D.P e.pipe=some p∧p.1.length≤16∧0≤p.2.1∧p.2.1<1000∧0≤p.2.2∧p.2.2<1000
def iR (D:DS) (e:En):DS:={ D with E:=fun i=>if i=D.nx+1 then some e else D.E i,R:=fun i=>if i=D.nx+1 then some 1 else D.R i,nx:=D.nx+1 }
def addN (D:DS) (N:Ns):Ns:=N.set (au N).toNat (D.nx+1,false)
structure Given (D:DS):Prop where
 n0:0≤D.nx
 n1:D.nx<900
 e:∀x,(D.E x).isSome=true→0<x∧x≤D.nx
 r:∀x,(D.R x).isSome=true→0<x∧x≤D.nx
 p:∀x,(D.P x).isSome=true→0<x∧x≤D.nx
section
variable {D:DS}
theorem Given.new (g:Given D):D.E (D.nx+1)=none∧D.R (D.nx+1)=none∧D.P (D.nx+1)=none:=by
 refine ⟨?_,?_,?_⟩
 ·cases h:D.E (D.nx+1) with
  |none=>rfl
  |some e=>have:=g.e _ (by rw [h];rfl);omega
 ·cases h:D.R (D.nx+1) with
  |none=>rfl
  |some e=>have:=g.r _ (by rw [h];rfl);omega
 ·cases h:D.P (D.nx+1) with
  |none=>rfl
  |some e=>have:=g.p _ (by rw [h];rfl);omega
theorem Given.add (g:Given D) (h:D.nx<899) (e:En):Given (iR D e):=by
 have hx:∀x,¬x=D.nx+1→x≤D.nx→x≤D.nx+1:=fun x _ h=>by omega
 refine ⟨by show 0≤D.nx+1;have:=g.n0;omega,by show D.nx+1<900;omega,fun x hs=>?_,fun x hs=>?_,fun x hs=>?_⟩
 ·show 0<x∧x≤D.nx+1
  by_cases e1:x=D.nx+1
  ·have:=g.n0;omega
  ·have hs':(if x=D.nx+1 then some e else D.E x).isSome=true:=hs
   rw [if_neg e1] at hs'
   have:=g.e x hs';omega
 ·show 0<x∧x≤D.nx+1
  by_cases e1:x=D.nx+1
  ·have:=g.n0;omega
  ·have hs':(if x=D.nx+1 then some (1:Int) else D.R x).isSome=true:=hs
   rw [if_neg e1] at hs'
   have:=g.r x hs';omega
 ·show 0<x∧x≤D.nx+1
  have:=g.p x hs;omega
def jY (D:DS):DS:={ D with P:=fun i=>if i=D.nx+1 then some ([],1,1) else D.P i,nx:=D.nx+1 }
def ou (D:DS):DS:=iR (jY D) ⟨2,1,0,D.nx+1,0⟩
def uy (D:DS):DS:=iR (ou D) ⟨3,2,0,D.nx+1,0⟩
def dC (D:DS) (N:Ns):Ns:=addN (jY D) N
def yL (D:DS) (N:Ns):Ns:=addN (ou D) (dC D N)
theorem Given.Xi (g:Given D) (h:D.nx<899):Given (jY D):=by
 refine ⟨by show 0≤D.nx+1;have:=g.n0;omega,by show D.nx+1<900;omega,fun x hs=>?_,fun x hs=>?_,fun x hs=>?_⟩
 ·show 0<x∧x≤D.nx+1
  have:=g.e x hs;omega
 ·show 0<x∧x≤D.nx+1
  have:=g.r x hs;omega
 ·show 0<x∧x≤D.nx+1
  by_cases e1:x=D.nx+1
  ·have:=g.n0;omega
  ·have hs':(if x=D.nx+1 then some (([],1,1):Pi) else D.P x).isSome=true:=hs
   rw [if_neg e1] at hs'
   have:=g.p x hs';omega
end
def roomy (N:Ns) (sE:Nat):Prop:=¬au N<0∧sE<40
def ng (x:List UInt8) (a ps:Int):Prop:=x≠[]∧(a<(x.length:Int)∨a-(x.length:Int)<ps)
def nZ (T:Wd):DS:=⟨T,fun _=>none,fun _=>none,fun _=>none,0⟩
theorem Ej (T:Wd):Given (nZ T):=⟨Int.le_refl _,by show (0:Int)<900;omega,fun x h=>(by cases h),fun x h=>(by cases h),fun x h=>(by cases h)⟩
section
variable {w:World}
theorem IE {g n:Nat}{M:Int→Option Value}{t e:TypeId}(m:aF w g n M) (ht:Tryz.prog.underlying t=some (.map 3 e)) (a:Int) (ha:(Lit.int .i64 a).wf=true):∃w',(∀ty,(Builtin.delete_ #[t,3] ty #[.map (some g),.int .i64 a]).run Tryz.prog w=.ok (.tuple #[]) w')∧aF w' g (if (M a).isSome then n-1 else n) (fun i=>if i=a then none else M i)∧w.grownBy w' (some g):=by
 obtain ⟨w',h1,h2,h3⟩:=m.del ht a ha 3
 refine ⟨w',fun ty=>?_,h2,h3⟩
 rw [←h1]
 rfl
end
theorem pG {T:Wd}{p:List UInt8}{s:Nat}{k:Int}(hT:TrOk T) (hM:aZ T s p=0) (hk:gP T k):dU (gZ T p false k) k 1=0∧∀b x,gZ T p false k k=some (.file b x)→x=0:=by
 obtain ⟨_,⟨C,hd,hlk⟩,_,_⟩:=kF hT hM
 have hdk:(ae T p).1≠k:=fun e=>by rw [e,hk.none] at hd;cases hd
 have hv:gZ T p false k k=some (.file [] 0):=by
  unfold gZ
  rw [jf (show bN T k (eH false) (ae T p).1=some (.dir C) by rw [ag _ hdk];exact hd),ag _ (Ne.symm hdk),ak]
  rfl
 refine ⟨?_,fun b x e=>?_⟩
 ·unfold dU
  rw [hv]
  rfl
 ·rw [hv] at e;cases e;rfl
structure QT (w:World) (b:Nat) (M:Ns):Prop where
 blk:w.heap[b]? = some (.cells (nv M).toArray 216)
 len:M.length=8
 pos:∀x∈M,0≤x.1∧x.1<100000∧(x.1=0→x.2=false)
def EE (M:Ns) (n:Int):Int×Bool:=if 0≤n∧n≤7 then M.getD n.toNat (0,false) else (0,false)
abbrev Ym (x:Int×Bool):Value:=.agg #[.int .i64 x.1,.bool x.2]
theorem wB {M:Ns}(hL:M.length=8) {i:Nat}(hi:i<8):EE M i=M[i]'(by rw [hL];exact hi):=by
 unfold EE
 rw [if_pos (by omega),getD_in (by rw [hL];exact hi)]
theorem MP (b:Nat) (w:World):(binOp BinOp.eql 111 (wp b) (.pointer none)).run Tryz.prog w=.ok (.bool false) w:=by kernel_rfl
theorem Rb (w:World):(w.alloc (.cells #[.int .i64 0,.bool false] 213)).heap[w.heap.size]? = some (.cells #[.int .i64 0,.bool false] 213):=by
 show (w.heap.push _)[w.heap.size]? = _
 rw [Array.getElem?_push,if_pos rfl]
theorem Hl {W:World}{i:Nat}{x y:Value}{t:TypeId}(h:W.heap[i]? = some (.cells #[x,y] t)) (u v:Value):((W.setCell ⟨i,0,none⟩ u).setCell ⟨i,1,none⟩ v).cell? ⟨i,0,none⟩=some u∧((W.setCell ⟨i,0,none⟩ u).setCell ⟨i,1,none⟩ v).cell? ⟨i,1,none⟩=some v:=by
 have h1:=aN W i 0 u _ _ _ h
 have h2:=aN _ i 1 v _ _ _ h1
 exact ⟨by rw [cell_of_row _ i 0 _ _ _ h2];rfl,by rw [cell_of_row _ i 1 _ _ _ h2];rfl⟩
section
variable {w w':World}{b:Nat}{M:Ns}
theorem QT.keep (h:QT w b M) (hk:w'.heap[b]? = w.heap[b]?):QT w' b M:=⟨hk.trans h.blk,h.len,h.pos⟩
theorem QT.lt (h:QT w b M):b<w.heap.size:=(Array.getElem?_eq_some_iff.1 h.blk).1
theorem QT.below (h:QT w b M) (hb:Below w.heap.size w w'):QT w' b M:=h.keep (hb.block b h.lt)
theorem QT.at (h:QT w b M) {i:Nat}(hi:i<8):w.cell? ⟨b,i*2,none⟩=some (.int .i64 (M[i]'(by rw [h.len];exact hi)).1)∧w.cell? ⟨b,i*2+1,none⟩=some (.bool (M[i]'(by rw [h.len];exact hi)).2):=by
 obtain ⟨e1,e2⟩:=Mq M i (by rw [h.len];exact hi)
 rw [cell_of_row _ _ _ _ _ _ h.blk,cell_of_row _ _ _ _ _ _ h.blk]
 rw [Nat.mul_comm]
 exact ⟨by simpa using e1,by simpa using e2⟩
theorem QT.free (h:QT w b M) (o:Nat):w.frozen? ⟨b,o,none⟩=false:=by
 simp [World.frozen?,h.blk]
theorem QT.nn (h:QT w b M) {i:Nat}(hi:i<M.length):0≤M[i].1∧M[i].1<100000∧(M[i].1=0→M[i].2=false):=h.pos _ (List.getElem_mem hi)
theorem QT.uB (h:QT w b M) (n:Int):Calls Tryz.prog 217 #[wp b,.int .i64 n] w fun e w'=>e=.returned (Ym (EE M n))∧Below w.heap.size w w':=by
 have h9:=MP b
 have bA:Below w.heap.size w (w.alloc (.cells #[.int .i64 0,.bool false] 213)):=(Below.refl _ w).alloc (Nat.le_refl _) _
 have hA:=h.below bA
 have hn:=Rb w
 have hr0:(w.alloc (.cells #[.int .i64 0,.bool false] 213)).cell? ⟨w.heap.size,0,none⟩=some (.int .i64 0):=by rw [cell_of_row _ _ 0 _ _ _ hn];rfl
 have hr1:(w.alloc (.cells #[.int .i64 0,.bool false] 213)).cell? ⟨w.heap.size,1,none⟩=some (.bool false):=by rw [cell_of_row _ _ 1 _ _ _ hn];rfl
 have s0:=fun u v=>(Hl hn u v).1
 have s1:=fun u v=>(Hl hn u v).2
 by_cases hn0:n<0
 ·rw [show EE M n=(0,false) from if_neg (by omega)]
  clear h hA hn
  go_enter Tryz.func217,Tryz.ntmps217
  go_wp2_with fail
  refine bodyPost_ret (v:=.agg #[.int .i64 0,.bool false]) (by simp [results,Tryz.results217,go_sem]) rfl ⟨rfl,?_⟩
  repeat first|exact Below.refl _ _|refine Below.alloc ?_ (by first|omega|(simp<;>omega)) _|refine Below.setCell ?_ (by first|omega|(simp<;>omega)) _
 ·by_cases Yu:8≤n
  ·rw [show EE M n=(0,false) from if_neg (by omega)]
   clear h hA hn
   go_enter Tryz.func217,Tryz.ntmps217
   go_wp2_with fail
   refine bodyPost_ret (v:=.agg #[.int .i64 0,.bool false]) (by simp [results,Tryz.results217,go_sem]) rfl ⟨rfl,?_⟩
   repeat first|exact Below.refl _ _|refine Below.alloc ?_ (by first|omega|(simp<;>omega)) _|refine Below.setCell ?_ (by first|omega|(simp<;>omega)) _
  ·obtain ⟨i,rfl⟩:∃i:Nat,n=i:=⟨n.toNat,by omega⟩
   have hi:i<8:=by omega
   rw [wB h.len hi]
   obtain ⟨c0,c1⟩:=hA.at hi
   generalize (M[i]'(by rw [h.len];exact hi))=x at *
   obtain ⟨X,Y⟩:=x
   simp only at c0 c1
   have VM:(i:Int)<8:=by omega
   clear h hA hn hn0 Yu
   go_enter Tryz.func217,Tryz.ntmps217
   go_wp2_with fail
   refine bodyPost_ret (v:=.agg #[.int .i64 X,.bool Y]) (by simp [results,Tryz.results217,go_sem]) rfl ⟨rfl,?_⟩
   repeat first|exact Below.refl _ _|refine Below.alloc ?_ (by first|omega|(simp<;>omega)) _|refine Below.setCell ?_ (by first|omega|(simp<;>omega)) _
theorem jO (w:World) (X:Int) (Y:Bool):Calls Tryz.prog 218 #[.agg #[.int .i64 X,.bool Y]] w fun e w'=>e=.returned (.bool (X == 0))∧Below w.heap.size w w':=by
 have bA:Below w.heap.size w (w.alloc (.cells #[.int .i64 X,.bool Y] 213)):=(Below.refl _ w).alloc (Nat.le_refl _) _
 obtain ⟨c0,c1⟩:=wM w (.int .i64 X) (.bool Y) 213
 go_enter Tryz.func218,Tryz.ntmps218
 go_wp2_with fail
 go_ret
 exact ⟨rfl,bA⟩
theorem WT {M:Ns}(hL:M.length=8) (hp:∀x∈M,0≤x.1) (n:Int):aG M n=!((EE M n).1 == 0):=by
 by_cases hn:0≤n∧n≤7
 ·obtain ⟨i,rfl⟩:∃i:Nat,n=i:=⟨n.toNat,by omega⟩
  have hi:i<8:=by omega
  have aD:i<M.length:=by omega
  rw [wB hL hi]
  unfold aG
  rw [getD_in aD]
  have:=hp _ (List.getElem_mem aD)
  have e1:decide ((0:Int)≤(i:Int))=true:=by simp
  have e2:decide ((i:Int)≤7)=true:=by simp;omega
  rw [e1,e2]
  by_cases h0:M[i].1=0
  ·rw [h0];rfl
  ·have:(0:Int)<M[i].1:=by omega
   simp [this,h0]
 ·rw [show EE M n=(0,false) from if_neg hn]
  unfold aG
  have hb:(decide (0≤n) && decide (n≤7))=false:=by
   simp only [Bool.and_eq_false_iff,decide_eq_false_iff_not];omega
  rw [hb];rfl
theorem QT.Fe (h:QT w b M) (f:Nat) (n:Int):Calls Tryz.prog 206 #[wp f,wp b,.int .i64 n] w fun e w'=>e=.returned (.bool (aG M n))∧Below w.heap.size w w':=by
 rw [WT h.len (fun x hx=>(h.pos x hx).1) n]
 have hA:=h.uB n
 generalize EE M n=x at *
 obtain ⟨X,Y⟩:=x
 clear h
 go_enter Tryz.func206,Tryz.ntmps206
 go_wp2_with (first
  |(go_at_call 217;refine hA.mono ?_;rintro e w1 ⟨rfl,b1⟩)
  |(go_at_call 218;refine (jO _ X Y).mono ?_;rintro e w2 ⟨rfl,b2⟩))
 go_ret
 exact ⟨rfl,b1.trans (b2.mono b1.size)⟩
theorem QT.vk (h:QT w b M):Calls Tryz.prog 118 #[wp b] w fun e w'=>e=.returned (.int .i64 (aj M:Int))∧Below w.heap.size w w':=by
 have HL:Aside (M.length=8):=h.len
 go_enter Tryz.func118,Tryz.ntmps118
 go_wp2_with fail
 go_loopg [3,4,5] 8 (fun g s3 _ s5 wx=>∃i:Nat,Aside (i+g=8)∧s3=.int .i64 (aj (M.take i):Int)∧s5=.int .i64 (i:Int)∧Below w.heap.size w wx)
 case atStart=>exact ⟨0,rfl,rfl,rfl,Below.refl _ _⟩
 case round=>
  obtain ⟨i,HI,rfl,rfl,hb⟩:=hrel
  have hi9:i≤8:=by have:=HI.out;omega
  have hi9':(i:Int)≤8:=by omega
  by_cases hlt:(i:Int)<8
  ·have aD:i<M.length:=by have:=HL.out;omega
   have hA:=(h.below hb).uB i
   rw [wB h.len (by omega)] at hA
   have hnn:=(h.nn aD).1
   have hu:=Jj (N:=M) (i:=i) aD
   have Ph:=vo (M.take i)
   rw [List.length_take] at Ph
   obtain ⟨U,hU⟩:∃U,aj (M.take i)=U:=⟨_,rfl⟩
   obtain ⟨U2,Cn⟩:∃U2,aj (M.take (i+1))=U2:=⟨_,rfl⟩
   rw [hU,Cn] at hu
   rw [hU] at Ph
   have Pk:(U:Int)≤8:=by omega
   have HU2:Aside (aj (M.take (i+1))=U2):=Cn
   rw [hU]
   generalize M[i]=x at *
   obtain ⟨X,Y⟩:=x
   simp only at hu hnn
   have hsz:=hb.size
   clear hU Cn h
   by_cases hX:X=0
   ·subst hX
    rw [if_neg (by omega)] at hu
    have HU:Aside (U2=U):=hu
    clear hu Ph hnn
    go_wp2_with (first
     |(go_at_call 217;refine hA.mono ?_;rintro e w1 ⟨rfl,b1⟩)
     |(go_at_call 218;refine (jO _ 0 Y).mono ?_;rintro e w2 ⟨rfl,b2⟩))
    go_roundg (7-i)
    case measure=>have:=HI.out;omega
    case rel=>exact ⟨i+1,(show i+1+(7-i)=8 by omega),by rw [HU2.out,HU.out],by rfl,hb.trans ((b1.trans (b2.mono b1.size)).mono hsz)⟩
   ·rw [if_pos (by omega)] at hu
    have HU:Aside (U2=U+1):=hu
    have XO:(X == 0)=false:=by simpa using hX
    clear hu Ph hnn hX
    go_wp2_with (first
     |(go_at_call 217;refine hA.mono ?_;rintro e w1 ⟨rfl,b1⟩)
     |(go_at_call 218;refine (jO _ X Y).mono ?_;rintro e w2 ⟨rfl,b2⟩))
    go_roundg (7-i)
    case measure=>have:=HI.out;omega
    case rel=>exact ⟨i+1,(show i+1+(7-i)=8 by omega),by rw [HU2.out,HU.out];rfl,by rfl,hb.trans ((b1.trans (b2.mono b1.size)).mono hsz)⟩
  ·have e8:M.take i=M:=List.take_of_length_le (by have:=HL.out;omega)
   rw [e8]
   go_wp2_with fail
   go_ret
   exact ⟨rfl,hb⟩
end
end Go.Proofs.YtcfhanoekniaaaaGreatDoor

/- Package desc: leave, free, by their Go texts. -/
import Derived.Test.YtcfhanoekniaaaaGreatDoorUUnlink
import Derived.Test.YtcfhanoekniaaaaGreatDoorDOps
import Derived.Test.YtcfhanoekniaaaaGreatDoorUTake
import Derived.Test.YtcfhanoekniaaaaGreatDoorUMkdir
import Derived.Test.YtcfhanoekniaaaaGreatDoorTell
set_option maxHeartbeats 4000000
set_option maxRecDepth 100000
namespace Go.Proofs.YtcfhanoekniaaaaGreatDoor
open Go.RowKit Go.Maps
section
variable {w w' w2:World}{f b n:Nat}{D D':DS}{g g':QG}{M N N':Ns}{d k:Int}{e:En}
theorem QF.Gm (h:QF w f D g n):Calls Tryz.prog 240 #[wp f,.int .i64 0] w fun x w'=>x=.returned (.tuple #[])∧w'=w:=by
 have c1:=h.cells.2
 have hlk:=h.look (k:=0) (by omega) (by omega)
 rw [BJ h.k0] at hlk
 have h9:=qG f
 have h8:=BP
 clear h
 go_enter Tryz.func240,Tryz.ntmps240
 go_wp2_with fail
 refine bodyPost_ret (results_none rfl _ _ _) rfl ?_
 exact ⟨rfl,rfl⟩
theorem QF.Gn (h:QF w f D g n) (hk:g.K k=some d) {c:Int}(hc:CanClose D d e c) (hm:0<c-1):Calls Tryz.prog 240 #[wp f,.int .i64 k] w fun x w'=>x=.returned (.tuple #[])∧(∃g' n',QF w' f (aQ D d) g' n'∧Ext w (aQ D d) g g')∧Wt (fun i=>(g.di i).isSome=true) w w':=by
 obtain ⟨_,hk0,hk1⟩:=h.key k d hk
 have c1:=h.cells.2
 have hlk:=h.look (k:=k) (by omega) hk1
 rw [rQ hk] at hlk
 have h9:=qG f
 have h8:=Bf (g.B d)
 obtain ⟨_,_,e2,_,_,_,ez⟩:=h.ll hc.eF hc.cnt
 have ez2:=ez 2
 obtain ⟨_,_,_,hkb⟩:=h.eF d e hc.eF
 have h1:=h.count hc.eF (c-1)
 have g1:=aY w (g.B d) 2 (.int .i64 (c-1))
 obtain ⟨_,_,e2',_,_,_,_⟩:=h1.ll hc.eF (if_pos rfl)
 rw [uY hc hm]
 have hfin:(∃g' n',QF (w.setCell ⟨g.B d,2,none⟩ (.int .i64 (c-1))) f { D with R:=fun i=>if i=d then some (c-1) else D.R i } g' n'∧Ext w { D with R:=fun i=>if i=d then some (c-1) else D.R i } g g')∧Wt (fun i=>(g.di i).isSome=true) w (w.setCell ⟨g.B d,2,none⟩ (.int .i64 (c-1))):=⟨⟨g,n,h1,Ext.refl _ _ _⟩,Wt.grown g1 (by rw [hkb];rfl)⟩
 have hw1:wrap64 (c-1)=c-1:=by have:=hc.c0;have:=hc.c1;unfold wrap64;omega
 have hz:((c-1:Int) == 0)=false:=by simp;omega
 generalize ({ D with R:=fun i=>if i=d then some (c-1) else D.R i }:DS)=D2 at *
 generalize g.B d=q at *
 clear h hk hc hm ez hkb h1 g1
 go_enter Tryz.func240,Tryz.ntmps240
 go_wp2_with fail
 go_end0
 exact ⟨rfl,hfin⟩
structure LvS (w w2 w3:World) (f:Nat) (g:QG) (D:DS) (k d c:Int) (e:En):Prop where
 c1:w.cell? ⟨f,1,none⟩=some (.map (some g.gO))
 lk:(Instr.lookup 207 (.map (some g.gO)) (.int .i64 k) false).run Tryz.prog w=.ok (wp (g.B d)) w
 e2:w.cell? ⟨g.B d,2,none⟩=some (.int .i64 c)
 ez:w.frozen? ⟨g.B d,2,none⟩=false
 e2':(w.setCell ⟨g.B d,2,none⟩ (.int .i64 (c-1))).cell? ⟨g.B d,2,none⟩=some (.int .i64 (c-1))
 c1':(w.setCell ⟨g.B d,2,none⟩ (.int .i64 (c-1))).cell? ⟨f,1,none⟩=some (.map (some g.gO))
 del:∀ty,(Builtin.delete_ #[207,3] ty #[.map (some g.gO),.int .i64 k]).run Tryz.prog (w.setCell ⟨g.B d,2,none⟩ (.int .i64 (c-1)))=.ok (.tuple #[]) w3
 wt:Wt (fun i=>(g.di i).isSome=true) w w3
 tag:g.di (g.B d)=some (.eF d)
 blk:w3.heap[g.B d]? = some (.cells (jH g e (c-1)) 238)
 st:∃n',QF w3 f { D with E:=fun i=>if i=d then none else D.E i,R:=fun i=>if i=d then none else if i=d then some (c-1) else D.R i } { g with K:=fun i=>if i=k then none else g.K i } n'
theorem QF.leaving (h:QF w f D g n) (hk:g.K k=some d) {c:Int}(hc:CanClose D d e c):∃w3,LvS w w w3 f g D k d c e:=by
 obtain ⟨_,hk0,hk1⟩:=h.key k d hk
 have hlk:=h.look (k:=k) (by omega) hk1
 rw [rQ hk] at hlk
 obtain ⟨_,_,e2,_,_,_,ez⟩:=h.ll hc.eF hc.cnt
 obtain ⟨c9,PS,hblk,hkb⟩:=h.eF d e hc.eF
 have h1:=h.count hc.eF (c-1)
 have g1:=aY w (g.B d) 2 (.int .i64 (c-1))
 obtain ⟨_,_,e2',_,_,_,_⟩:=h1.ll hc.eF (if_pos rfl)
 obtain ⟨w3,hdel,pm,g3⟩:=I7 h1.map Tryz.underlying207 k (iy (by omega) (by omega))
 have h3:=h1.gone hk pm g3
 refine ⟨w3,h.cells.2,hlk,e2,ez 2,e2',h1.cells.2,hdel,(Wt.grown g1 (by rw [hkb];rfl)).trans (Wt.grown g3 (by rw [h.tm];rfl)),hkb,?_,_,h3⟩
 rw [g3.block _ (h1.lt _ (by rw [hkb];rfl)) (fun x=>nz hkb h.tm (by simp) (Option.some.inj x))]
 exact D8 hblk _
theorem D7 {w3:World}(hk:g.K k=some d) (hE:D'.E d=none) (hg:g'.K=fun i=>if i=k then none else g.K i) (hka:∀i,i<w.heap.size→g'.di i=g.di i) (hr:g'.r=g.r) (_:w3=w3):Ext w D' g g':=by
 refine ⟨hka,fun i x hi hx=>?_,hr⟩
 rw [hg]
 show (if i=k then none else g.K i)=some x
 by_cases e1:i=k
 ·rw [e1,hk] at hi
  rw [←Option.some.inj hi,hE] at hx
  cases hx
 ·rw [if_neg e1];exact hi
theorem QF.Gp (h:QF w f D g n) (hk:g.K k=some d) {c:Int}(hc:Cl D d e c) (hm:¬0<c-1):Calls Tryz.prog 240 #[wp f,.int .i64 k] w fun x w'=>x=.returned (.tuple #[])∧(∃g' n',QF w' f (aQ D d) g' n'∧Ext w (aQ D d) g g')∧Wt (fun i=>(g.di i).isSome=true) w w':=by
 obtain ⟨w3,L⟩:=h.leaving hk hc.toCanClose
 obtain ⟨n',h3⟩:=L.st
 have hsz:=L.wt.size
 have Yt:Calls Tryz.prog 297 #[wp f,wp (g.B d)] w3 fun x w'=>x=.returned (.tuple #[])∧(∃g' n',QF w' f (aQ D d) g' n'∧Ext w (aQ D d) g g')∧Wt (fun i=>(g.di i).isSome=true) w w':=by
  by_cases hkd:e.kind=1
  ·have hpv:pv g e=.pointer none:=if_pos hkd
   have hnd:=hc.node hkd
   refine (h3.J6 (q:=g.B d) L.blk L.tag hkd hc.lv hnd.1 hnd.2).mono ?_
   rintro x w' ⟨rfl,⟨g',a1,a2,a3,a4⟩,wt⟩
   rw [uZ hc.toCanClose hm hkd]
   exact ⟨rfl,⟨g',n',a1,D7 (w3:=w3) hk (if_pos rfl) a3 (fun i hi=>a2 i (by omega)) a4 rfl⟩,L.wt.trans wt⟩
  ·obtain ⟨q0,q1,p,hp,hpl,f0,f1,i0,i1⟩:=hc.pipe hkd
   have hpv:pv g e=wp (g.Q e.pipe):=if_neg hkd
   have hblk:=L.blk
   rw [jH,hpv] at hblk
   refine (h3.N8 (q:=g.B d) (p:=e.pipe) hblk L.tag hkd hp ⟨f0,f1⟩ ⟨i0,i1⟩).mono ?_
   rintro x w' ⟨rfl,a1,wt⟩
   rw [yz hc.toCanClose hm hkd,hp]
   exact ⟨rfl,⟨_,n',a1,D7 (w3:=w3) hk (if_pos rfl) rfl (fun i hi=>rfl) rfl rfl⟩,L.wt.trans wt⟩
 have hc1:c=1:=by have:=hc.c0;omega
 subst hc1
 have c1:=L.c1
 have hlk:=L.lk
 have e2:=L.e2
 have ez:=L.ez
 have e2':=L.e2'
 have c1':=L.c1'
 have hdel:=L.del
 have h9:=qG f
 have h8:=Bf (g.B d)
 generalize aQ D d=D2 at *
 simp only [show (1:Int)-1=0 by omega] at e2' c1' hdel
 generalize g.B d=q at *
 clear h hk hc hm L h3 hsz
 go_enter Tryz.func240,Tryz.ntmps240
 go_wp2_with (go_at_call 297;refine Yt.mono ?_;rintro x w4 ⟨rfl,hR⟩)
 go_end0
 exact ⟨rfl,hR⟩
theorem QF.DL (h:QF w f D g n) (hk:g.K k=some d) {c:Int}(hc:Cl D d e c):Calls Tryz.prog 240 #[wp f,.int .i64 k] w fun x w'=>x=.returned (.tuple #[])∧(∃g' n',QF w' f (aQ D d) g' n'∧Ext w (aQ D d) g g')∧Wt (fun i=>(g.di i).isSome=true) w w':=by
 by_cases hm:0<c-1
 ·exact h.Gn hk hc.toCanClose hm
 ·exact h.Gp hk hc hm
theorem QF.lD (h:QF w f D g n) (t:dE w b g M N) {i:Nat}(hi:i<8) (aF:i<N.length) (h0:0<N[i].1) {c:Int}(hc:Cl D N[i].1 e c) (hl:Live (aQ D N[i].1) (N.set i (0,false))) :
 Calls Tryz.prog 142 #[wp f,wp b,.int .i64 (i:Int)] w fun x w'=>x=.returned (.tuple #[])∧dC w w' f (aQ D N[i].1) g b (N.set i (0,false)):=by
 have hM:i<M.length:=by have:=t.tab.len;omega
 have hk:=t.keyOf hM aF h0
 obtain ⟨t0,t1⟩:=t.tab.at hi
 have z0:=t.tab.free (i*2)
 have z1:=t.tab.free (i*2+1)
 have hT1:=t.set (i:=i) (0,false) (0,false) (t.tab.put hi (0,false) ⟨by simp,by simp,fun _=>rfl⟩) ⟨rfl,.inl ⟨rfl,rfl⟩⟩
 have g1:=QT.zD w b i (.int .i64 0) (.bool false)
 have h1:=h.Bb t.off g1
 obtain ⟨W,hW⟩:∃W,(w.setCell ⟨b,i*2,none⟩ (.int .i64 0)).setCell ⟨b,i*2+1,none⟩ (.bool false)=W:=⟨_,rfl⟩
 simp only at hT1
 rw [hW] at hT1 g1 h1
 have hL:=h1.DL hk hc
 have hfin:∀w',(∃g' n',QF w' f (aQ D N[i].1) g' n'∧Ext W (aQ D N[i].1) g g')→Wt (fun i=>(g.di i).isSome=true) W w'→dC w w' f (aQ D N[i].1) g b (N.set i (0,false)):=fun w' hx wt=>by
  obtain ⟨g',n',a1,a2⟩:=hx
  have hsz:W.heap.size=w.heap.size:=by rw [←hW];simp [World.setCell]
  refine ⟨⟨g',n',_,a1,hT1.other a2 (wt.block b hT1.tab.lt (by rw [t.off];simp)) hl,⟨fun j hj=>a2.di j (by omega),a2.key,a2.r⟩⟩,(Wt.grown g1 (.inr rfl)).trans (wt.mono (fun j hj=>.inl hj))⟩
 generalize aQ D N[i].1=D2 at *
 generalize N.set i (0,false)=N2 at *
 generalize M[i].1=X at *
 generalize M[i].2=Y at *
 have Wu:(i:Int)<8:=by omega
 clear h t hk hc hT1 g1 h1 hl h0
 go_enter Tryz.func142,Tryz.ntmps142
 go_upto_region 2 with fail
 clear t0 t1 z0 z1 hW
 go_wp2_with (go_at_call 240;refine hL.mono ?_;rintro x w4 ⟨rfl,hR,wt⟩)
 go_end0
 exact ⟨rfl,hfin _ hR wt⟩
end
section
variable {w w' w2:World}{f b n:Nat}{D D':DS}{g g':QG}{M N N':Ns}{d k:Int}{e:En}
theorem QF.same (h:QF w f D g n) (t:dE w b g M N) (hb:Below w.heap.size w w'):dC w w' f D g b N:=⟨⟨g,n,M,h.below hb,t.below hb,Ext.refl _ _ _⟩,Wt.below _ hb⟩
theorem dC.upon (hb:Below w.heap.size w w') (h:dC w' w2 f D' g b N'):dC w w2 f D' g b N':=by
 obtain ⟨⟨g',n',M',a,c,x⟩,wt⟩:=h
 exact ⟨⟨g',n',M',a,c,⟨fun i hi=>x.di i (Nat.lt_of_lt_of_le hi hb.size),x.key,x.r⟩⟩,(Wt.below _ hb).trans wt⟩
theorem QF.xq (h:QF w f D g n) (t:dE w b g M N) (x:Int) (hx:aH N x=false):Calls Tryz.prog 57 #[wp f,wp b,.int .i64 x] w fun y w'=>y=.returned (eX 7)∧dC w w' f D g b N:=by
 have hF:=h.aU t x hx
 have hs:∀w',Below w.heap.size w w'→dC w w' f D g b N:=fun w' hb=>h.same t hb
 clear h t hx
 go_enter Tryz.func57,Tryz.ntmps57
 go_wp2_with (go_at_call 141;refine hF.mono ?_;rintro y w1 ⟨rfl,b1⟩)
 go_ret
 exact ⟨rfl,hs _ b1⟩
theorem QF.xg (h:QF w f D g n) (t:dE w b g M N) {i:Nat}(hi:i<8) (aF:i<N.length) (h0:0<N[i].1) {c:Int}(hc:Cl D N[i].1 e c) (hl:Live (aQ D N[i].1) (N.set i (0,false))) :
 Calls Tryz.prog 57 #[wp f,wp b,.int .i64 (i:Int)] w fun y w'=>y=.returned .nilIface∧dC w w' f (aQ D N[i].1) g b (N.set i (0,false)):=by
 have hF:=h.aC t hi aF h0
 have sS:∀V,Below w.heap.size w V→Calls Tryz.prog 142 #[wp f,wp b,.int .i64 (i:Int)] V fun x w'=>x=.returned (.tuple #[])∧dC w w' f (aQ D N[i].1) g b (N.set i (0,false)):=fun V hV=>by
  refine ((h.below hV).lD (t.below hV) hi aF h0 hc hl).mono ?_
  rintro x w' ⟨rfl,hG⟩
  exact ⟨rfl,hG.upon hV⟩
 generalize aQ D N[i].1=D2 at *
 generalize N.set i (0,false)=N2 at *
 generalize g.B N[i].1=q at *
 clear h t hc hl h0
 go_enter Tryz.func57,Tryz.ntmps57
 go_wp2_with (first
  |(go_at_call 141;refine hF.mono ?_;rintro y w1 ⟨rfl,b1⟩)
  |(go_at_call 142;refine (sS _ b1).mono ?_;rintro y w2 ⟨rfl,hG⟩))
 go_ret
 exact ⟨rfl,hG⟩
theorem QF.RU (h:QF w f D g n) (t:dE w b g M N) (x:Int) (c:Bool):Calls Tryz.prog 265 #[wp f,wp b,.int .i64 x,.bool c] w fun y w'=>y=.returned (aJ (if aH N x=true then 0 else 7))∧dC w w' f D g b (jJ N x c):=by
 by_cases hx:aH N x=true
 ·obtain ⟨i,rfl,hi,aF,h0⟩:=dK hx t.len
  rw [if_pos hx]
  have hmN:jJ N i c=N.set i (N[i].1,c):=by
   unfold jJ
   rw [if_pos hx,getD_in aF,show (i:Int).toNat=i by omega]
  rw [hmN]
  have hM:i<M.length:=by have:=t.tab.len;omega
  have hk:=t.keyOf hM aF h0
  obtain ⟨_,hk0,_⟩:=h.key _ _ hk
  have hF:=h.aC t hi aF h0
  have hfin:∀V,Below w.heap.size w V→(∃u,V.cell? ⟨b,i*2+1,none⟩=some u)∧V.frozen? ⟨b,i*2+1,none⟩=false∧dC w (V.setCell ⟨b,i*2+1,none⟩ (.bool c)) f D g b (N.set i (N[i].1,c)):=fun V hV=>by
   have tV:=t.below hV
   have t2:=tV.set (i:=i) (M[i].1,c) (N[i].1,c) (tV.tab.mark hi c (by omega)) ⟨rfl,.inr ⟨h0,hk⟩⟩
   have gg:=aY V b (i*2+1) (.bool c)
   exact ⟨⟨_,(tV.tab.at hi).2⟩,tV.tab.free _,⟨⟨g,n,_,(h.below hV).Bb t.off gg,t2,Ext.refl _ _ _⟩,(Wt.below _ hV).trans (Wt.grown gg (.inr rfl))⟩⟩
  generalize N.set i (N[i].1,c)=N2 at *
  generalize g.B N[i].1=q at *
  have Wu:(i:Int)<8:=by omega
  clear h t hx hmN hk h0
  go_enter Tryz.func265,Tryz.ntmps265
  go_upto_region 4 with (go_at_call 141;refine hF.mono ?_;rintro y w1 ⟨rfl,b1⟩)
  obtain ⟨⟨u,c1⟩,z1,hG⟩:=hfin _ b1
  clear hfin hF
  go_wp2_with fail
  go_ret
  exact ⟨rfl,hG⟩
 ·have hx':aH N x=false:=by simpa using hx
  rw [if_neg hx,show jJ N x c=N from if_neg hx]
  have hF:=h.aU t x hx'
  have hs:∀w',Below w.heap.size w w'→dC w w' f D g b N:=fun w' hb=>h.same t hb
  clear h t hx hx'
  go_enter Tryz.func265,Tryz.ntmps265
  go_wp2_with (go_at_call 141;refine hF.mono ?_;rintro y w1 ⟨rfl,b1⟩)
  go_ret
  exact ⟨rfl,hs _ b1⟩
end
section
variable {w w' w2:World}{f b n:Nat}{D D':DS}{g g':QG}{M N N':Ns}{d k:Int}{e:En}
theorem QF.vQ (h:QF w f D g n) (t:dE w b g M N) {i:Nat}(hi:i<8) (hk:g.K k=some d) (hd:0<d) (he:D.E d=some e) {c:Int}(hc:D.R d=some c) (hc0:0≤c) (hc1:c<100000) :
 Calls Tryz.prog 239 #[wp f,wp b,.int .i64 (i:Int),.int .i64 k] w fun x w'=>x=.returned (.tuple #[])∧QF w' f (ib D d) g n∧dE w' b g (M.set i (k,false)) (N.set i (d,false))∧dC w w' f (ib D d) g b (N.set i (d,false)):=by
 rw [IV hc]
 refine (h.BK t hi hk hd he hc hc0 hc1).mono ?_
 rintro x w' ⟨rfl,a1,a2,wt⟩
 exact ⟨rfl,a1,a2,⟨g,n,_,a1,a2,Ext.refl _ _ _⟩,wt⟩
theorem Pb (hx:iZ N k=0):jR D N k=ib D (N.getD k.toNat (0,false)).1:=if_pos hx
theorem QF.VI (h:QF w f D g n) (t:dE w b g M N) (x:Int) (hC:wC D N) :
 Calls Tryz.prog 205 #[wp f,wp b,.int .i64 x] w fun y w'=>y=.returned (.tuple #[.int .i64 (iK N x),aJ (iZ N x)])∧dC w w' f (jR D N x) g b (kg N x):=by
 have hs:∀w',Below w.heap.size w w'→dC w w' f D g b N:=fun w' hb=>h.same t hb
 have Ty:∀V,Below w.heap.size w V→Calls Tryz.prog 278 #[wp b] V fun y w'=>y=.returned (.tuple #[.int .i64 (au N),.bool (decide (0≤au N))])∧Below w.heap.size w w':=fun V hV=>by
  refine ((t.below hV).kF (h.below hV)).mono ?_
  rintro y w' ⟨rfl,b1⟩
  exact ⟨rfl,hV.trans (b1.mono hV.size)⟩
 by_cases hx:aH N x=true
 ·obtain ⟨i,rfl,hi,aF,h0⟩:=dK hx t.len
  have hF:=h.aC t hi aF h0
  obtain ⟨e,c,he,hc,hc0,hc1⟩:=hC i aF h0
  have hM:i<M.length:=by have:=t.tab.len;omega
  have hk:=t.keyOf hM aF h0
  rcases kG (N:=N) with hl|⟨j,hl,sQ,hj0⟩
  ·have e1:iZ N i=12:=by unfold iZ;rw [if_pos hx,hl];rfl
   have e2:jR D N i=D:=by unfold jR;rw [if_neg (by rw [e1];decide)]
   have e3:kg N i=N:=by unfold kg;rw [if_neg (by rw [e1];decide)]
   have e4:iK N i=0:=by unfold iK;rw [if_neg (by rw [e1];decide)]
   rw [e1,e2,e3,e4]
   rw [hl] at Ty
   generalize g.B N[i].1=q at *
   clear h t hC e1 e2 e3 e4 hl he hc hc0 hc1 hk h0 hx
   go_enter Tryz.func205,Tryz.ntmps205
   go_wp2_with (first
    |(go_at_call 141;refine hF.mono ?_;rintro y w1 ⟨rfl,b1⟩)
    |(go_at_call 278;refine (Ty _ b1).mono ?_;rintro y w2 ⟨rfl,b2⟩))
   go_ret2
   exact ⟨rfl,hs _ b2⟩
  ·have Yn:j<8:=by have:=t.len;omega
   have e1:iZ N i=0:=by unfold iZ;rw [if_pos hx,hl,if_neg (by omega)]
   have e2:jR D N i=ib D N[i].1:=by rw [Pb e1,getD_in aF]
   have e3:kg N i=N.set j (N[i].1,false):=by unfold kg;rw [if_pos e1,getD_in aF,hl,show (j:Int).toNat=j by omega]
   have e4:iK N i=j:=by unfold iK;rw [if_pos e1,hl]
   rw [e1,e2,e3,e4]
   rw [hl,show decide ((0:Int)≤(j:Int))=true by simp] at Ty
   have hcell:∀V,Below w.heap.size w V→V.cell? ⟨b,i*2,none⟩=some (.int .i64 M[i].1)∧Calls Tryz.prog 239 #[wp f,wp b,.int .i64 (j:Int),.int .i64 M[i].1] V fun x w'=>x=.returned (.tuple #[])∧dC w w' f (ib D N[i].1) g b (N.set j (N[i].1,false)):=fun V hV=>by
    refine ⟨((t.below hV).tab.at hi).1,((h.below hV).vQ (t.below hV) Yn hk h0 he hc hc0 hc1).mono ?_⟩
    rintro x w' ⟨rfl,_,_,hG⟩
    exact ⟨rfl,hG.upon hV⟩
   generalize ib D N[i].1=D2 at *
   generalize N.set j (N[i].1,false)=N2 at *
   generalize g.B N[i].1=q at *
   generalize M[i].1=X at *
   have Wu:(i:Int)<8:=by omega
   clear h t hC e1 e2 e3 e4 hl he hc hc0 hc1 hk h0 hx hj0 hs
   go_enter Tryz.func205,Tryz.ntmps205
   go_upto_region 7 with (first
    |(go_at_call 141;refine hF.mono ?_;rintro y w1 ⟨rfl,b1⟩)
    |(go_at_call 278;refine (Ty _ b1).mono ?_;rintro y w2 ⟨rfl,b2⟩))
   obtain ⟨c0,Tz⟩:=hcell _ b2
   clear hcell Ty hF
   go_wp2_with (go_at_call 239;refine Tz.mono ?_;rintro y w3 ⟨rfl,hG⟩)
   go_ret2
   exact ⟨rfl,hG⟩
 ·have hx':aH N x=false:=by simpa using hx
  have e1:iZ N x=7:=if_neg hx
  have e2:jR D N x=D:=by unfold jR;rw [if_neg (by rw [e1];decide)]
  have e3:kg N x=N:=by unfold kg;rw [if_neg (by rw [e1];decide)]
  have e4:iK N x=0:=by unfold iK;rw [if_neg (by rw [e1];decide)]
  rw [e1,e2,e3,e4]
  have hF:=h.aU t x hx'
  clear h t hx hx' e1 e2 e3 e4 hC Ty
  go_enter Tryz.func205,Tryz.ntmps205
  go_wp2_with (go_at_call 141;refine hF.mono ?_;rintro y w1 ⟨rfl,b1⟩)
  go_ret2
  exact ⟨rfl,hs _ b1⟩
theorem QF.rT (h:QF w f D g n) (t:dE w b g M N) (x y:Int) (hx:aH N x=false):Calls Tryz.prog 208 #[wp f,wp b,.int .i64 x,.int .i64 y] w fun z w'=>z=.returned (eX 7)∧dC w w' f D g b N:=by
 have hF:=h.aU t x hx
 have hs:∀w',Below w.heap.size w w'→dC w w' f D g b N:=fun w' hb=>h.same t hb
 clear h t hx
 go_enter Tryz.func208,Tryz.ntmps208
 go_wp2_with (go_at_call 141;refine hF.mono ?_;rintro y w1 ⟨rfl,b1⟩)
 go_ret
 exact ⟨rfl,hs _ b1⟩
theorem QF.GJ (h:QF w f D g n) (t:dE w b g M N) (x y:Int) (hx:aH N x=true) (hy:¬(0≤y∧y≤7)):Calls Tryz.prog 208 #[wp f,wp b,.int .i64 x,.int .i64 y] w fun z w'=>z=.returned (eX 2)∧dC w w' f D g b N:=by
 obtain ⟨i,rfl,hi,aF,h0⟩:=dK hx t.len
 have hF:=h.aC t hi aF h0
 have hs:∀w',Below w.heap.size w w'→dC w w' f D g b N:=fun w' hb=>h.same t hb
 generalize g.B N[i].1=q at *
 clear h t hx h0
 by_cases hy0:y<0
 ·clear hy
  go_enter Tryz.func208,Tryz.ntmps208
  go_wp2_with (go_at_call 141;refine hF.mono ?_;rintro y w1 ⟨rfl,b1⟩)
  go_ret
  exact ⟨rfl,hs _ b1⟩
 ·have hy8:8≤y:=by omega
  clear hy
  go_enter Tryz.func208,Tryz.ntmps208
  go_wp2_with (go_at_call 141;refine hF.mono ?_;rintro y w1 ⟨rfl,b1⟩)
  go_ret
  exact ⟨rfl,hs _ b1⟩
theorem QF.Lx (h:QF w f D g n) (t:dE w b g M N) (x:Int) (hx:aH N x=true):Calls Tryz.prog 208 #[wp f,wp b,.int .i64 x,.int .i64 x] w fun z w'=>z=.returned .nilIface∧dC w w' f D g b N:=by
 obtain ⟨i,rfl,hi,aF,h0⟩:=dK hx t.len
 have hF:=h.aC t hi aF h0
 have hs:∀w',Below w.heap.size w w'→dC w w' f D g b N:=fun w' hb=>h.same t hb
 generalize g.B N[i].1=q at *
 clear h t hx h0
 have Wu:(i:Int)<8:=by omega
 go_enter Tryz.func208,Tryz.ntmps208
 go_wp2_with (go_at_call 141;refine hF.mono ?_;rintro y w1 ⟨rfl,b1⟩)
 go_ret
 exact ⟨rfl,hs _ b1⟩
theorem QF.SA (h:QF w f D g n) (t:dE w b g M N) {i j:Nat}(hi:i<8) (hj:j<8) (aF:i<N.length) (sQ:j<N.length) (hne:i≠j) (h0:0<N[i].1) (hC:wC D N) {D2:DS}
 (hD2:(N[j].1=0∧D2=ib D N[i].1)∨(0<N[j].1∧D2=aQ (ib D N[i].1) N[j].1∧(∃e c,Cl (ib D N[i].1) N[j].1 e c))) (hl:Live D2 (N.set j (N[i].1,false))) :
 Calls Tryz.prog 208 #[wp f,wp b,.int .i64 (i:Int),.int .i64 (j:Int)] w fun z w'=>z=.returned .nilIface∧dC w w' f D2 g b (N.set j (N[i].1,false)):=by
 have hF:=h.aC t hi aF h0
 obtain ⟨e,c,he,hc,hc0,hc1⟩:=hC i aF h0
 have hM:i<M.length:=by have:=t.tab.len;omega
 have hMj:j<M.length:=by have:=t.tab.len;omega
 have hk:=t.keyOf hM aF h0
 have hcell:∀V,Below w.heap.size w V→V.cell? ⟨b,i*2,none⟩=some (.int .i64 M[i].1)∧V.cell? ⟨b,j*2,none⟩=some (.int .i64 M[j].1)∧Calls Tryz.prog 239 #[wp f,wp b,.int .i64 (j:Int),.int .i64 M[i].1] V fun x w'=>x=.returned (.tuple #[])∧Calls Tryz.prog 240 #[wp f,.int .i64 M[j].1] w' fun y w2=>y=.returned (.tuple #[])∧dC w w2 f D2 g b (N.set j (N[i].1,false)):=fun V hV=>by
  refine ⟨((t.below hV).tab.at hi).1,((t.below hV).tab.at hj).1,((h.below hV).vQ (t.below hV) hj hk h0 he hc hc0 hc1).mono ?_⟩
  rintro x w' ⟨rfl,a1,a2,hG⟩
  refine ⟨rfl,?_⟩
  rcases hD2 with ⟨z0,rfl⟩|⟨z0,rfl,e2,c2,hcl⟩
  ·have hz:=(t.pos h j hMj sQ).2.2 z0
   rw [hz]
   refine a1.Gm.mono ?_
   rintro y w2 ⟨rfl,rfl⟩
   exact ⟨rfl,hG.upon hV⟩
  ·refine (a1.DL (t.keyOf hMj sQ z0) hcl).mono ?_
   rintro y w2 ⟨rfl,⟨g',n',b1,b2⟩,Cx⟩
   have hsz:=hG.wt.size
   have hsV:=hV.size
   refine ⟨rfl,⟨⟨g',n',_,b1,a2.other b2 (Cx.block b a2.tab.lt (by rw [t.off];simp)) hl,⟨fun x hx=>b2.di x (by omega),b2.key,b2.r⟩⟩,(Wt.below _ hV).trans (hG.wt.trans (Cx.mono (fun x hx=>.inl hx)))⟩⟩
 generalize N.set j (N[i].1,false)=N2 at *
 generalize g.B N[i].1=q at *
 generalize M[i].1=X at *
 generalize M[j].1=Y at *
 have Wu:(i:Int)<8:=by omega
 have Yn:(j:Int)<8:=by omega
 have hij:((i:Int) == (j:Int))=false:=by simp;omega
 clear h t hC hD2 hl he hc hc0 hc1 hk h0 hne
 go_enter Tryz.func208,Tryz.ntmps208
 go_upto_region 8 with (go_at_call 141;refine hF.mono ?_;rintro y w1 ⟨rfl,b1⟩)
 obtain ⟨c0,c1,Tz⟩:=hcell _ b1
 clear hcell hF
 go_wp2_with (first
  |(go_at_call 239;refine Tz.mono ?_;rintro y w3 ⟨rfl,hLv⟩)
  |(go_at_call 240;refine hLv.mono ?_;rintro y w4 ⟨rfl,hG⟩))
 go_ret
 exact ⟨rfl,hG⟩
end
section
variable {w w' w2 w0:World}{f b n q:Nat}{D D':DS}{g g':QG}{M N N':Ns}{d k:Int}{e:En}
theorem QF.ZU (h:QF w f D g n) {i:Nat}(hi:∀j:Nat,1≤j→j≤i→(g.K j).isSome=true):i≤n:=by
 obtain ⟨Dt,_,_,h1,h2,h3⟩:=h.map.data
 have h4:=nH (a:=(List.range i).map (fun j:Nat=>((j+1:Nat):Int))) (b:=Go.intKeys Dt) (List.pairwise_map.2 (List.nodup_range.imp (fun {a b} h e=>h (by omega)))) (fun x hx=>by
  obtain ⟨j,hj,rfl⟩:=List.mem_map.1 hx
  have:=List.mem_range.1 hj
  refine (h3 _).2 ?_
  rw [Option.isSome_map]
  exact hi (j+1) (by omega) (by omega))
 rw [h2] at h4
 simpa using h4
theorem OB (D:DS) (e:En):ib (Fj D e) (D.nx+1)=iW D e:=by
 unfold ib Fj iW
 congr 1
 funext j
 by_cases ej:j=D.nx+1
 ·simp [ej]
 ·simp [ej]
def Jv (w w':World) (f:Nat) (D':DS) (g:QG) (b:Nat) (N':Ns) (n':Nat):Prop:=(∃g' M',QF w' f D' g' n'∧dE w' b g' M' N'∧Ext w D' g g'∧g'.Q=g.Q)∧Wt (fun i=>(g.di i).isSome=true∨i=b) w w'
theorem Jv.go {n':Nat}(h:Jv w w' f D' g b N' n'):dC w w' f D' g b N':=by
 obtain ⟨⟨g',M',a,c,x,_⟩,wt⟩:=h
 exact ⟨⟨g',n',M',a,c,x⟩,wt⟩
structure AdS (w0 w w2:World) (f b q n:Nat) (g:QG) (D:DS) (N:Ns) (k:Int) (e:En):Prop where
 run:(Instr.mapUpdate 207 (.map (some g.gO)) (.int .i64 k) (wp q)).run Tryz.prog w=.ok () w2
 least:Calls Tryz.prog 278 #[wp b] w2 fun y w'=>y=.returned (.tuple #[.int .i64 (au N),.bool (decide (0≤au N))])∧Calls Tryz.prog 239 #[wp f,wp b,.int .i64 (au N),.int .i64 k] w' fun y w3=>y=.returned (.tuple #[])∧Jv w0 w3 f (iW D e) g b (addN D N) (n+1)
theorem QF.adding (h:QF w0 f D g n) (t:dE w0 b g M N) (hb:Below w0.heap.size w0 w) (hq:w0.heap.size≤q) (hw:w.heap[q]? = some (.cells (jH g e 0) 238)) (hE:D.E (D.nx+1)=none) (h0:0≤D.nx) (hl:¬au N<0) (hL:Live D N) (hn:n<1000) (hk:g.K k=none) (hk0:0<k) (hk1:k<100000):∃w2,AdS w0 w w2 f b q n g D N k e:=by
 have hB:=h.below hb
 obtain ⟨w2,hrun,pm,g2⟩:=hB.map.put Tryz.underlying207 (by unfold maxLen;omega) k (iy (by omega) (by omega)) (wp q)
 rw [hk] at pm
 obtain ⟨g',a1,a2,a3,a4,a5,a6,a7⟩:=h.Vt hq hb hE hk hk0 hk1 hw pm g2
 have hx:Ext w0 (Fj D e) g g':=⟨a2,fun i x hi _=>by
  rw [a3]
  show (if i=k then some (D.nx+1) else g.K i)=some x
  rw [if_neg (fun e9=>by rw [e9,hk] at hi;cases hi)]
  exact hi,a4⟩
 have hLn:Live (Fj D e) N:=fun i hi hp=>by
  show (if N[i].1=D.nx+1 then some e else D.E N[i].1).isSome=true
  split
  ·rfl
  ·exact hL i hi hp
 have Cx:Wt (fun i=>(g.di i).isSome=true∨i=b) w0 w2:=(Wt.below _ hb).trans (Wt.grown g2 (.inl (by rw [h.tm];rfl)))
 have hbk:w2.heap[b]? = w0.heap[b]? := by
  rw [g2.block b (t.below hb).tab.lt (fun x=>by have:=h.tm;rw [←Option.some.inj x,t.off] at this;cases this)]
  exact hb.block b t.tab.lt
 have t2:dE w2 b g' M N:=t.other hx hbk hLn
 refine ⟨w2,hrun,((t2.kF a1).mono ?_)⟩
 rintro y w3 ⟨rfl,b3⟩
 refine ⟨rfl,?_⟩
 rcases kG (N:=N) with WI|⟨j,hj,sQ,hj0⟩
 ·omega
 have Yn:j<8:=by have:=t.len;omega
 rw [hj]
 refine ((a1.below b3).vQ (t2.below b3) Yn (k:=k) (d:=D.nx+1) (by rw [a3];exact if_pos rfl) (by omega) (show (Fj D e).E (D.nx+1)=some e from if_pos rfl) (show (Fj D e).R (D.nx+1)=some 0 from if_pos rfl) (by omega) (by omega)).mono ?_
 rintro y w4 ⟨rfl,c1,c2,hG⟩
 rw [OB] at c1
 have hN:addN D N=N.set j (D.nx+1,false):=by unfold addN;rw [hj,show (j:Int).toNat=j by omega]
 rw [hN]
 refine ⟨rfl,⟨⟨g',_,c1,c2,⟨a2,fun i x hi _=>by
  rw [a3]
  show (if i=k then some (D.nx+1) else g.K i)=some x
  rw [if_neg (fun e9=>by rw [e9,hk] at hi;cases hi)]
  exact hi,a4⟩,a7⟩,?_⟩⟩
 have hw4:=hG.wt
 refine ⟨hw4.os.trans (b3.os.trans Cx.os),hw4.tape.trans (b3.tape.trans Cx.tape),hw4.output.trans (b3.output.trans Cx.output),Nat.le_trans Cx.size (Nat.le_trans b3.size hw4.size),fun i hi hA=>?_⟩
 have hsz:=Cx.size
 have aed:=b3.size
 rw [hw4.block i (by omega) (fun hx=>hA (by
  rcases hx with hx|hx
  ·rw [a2 i hi] at hx;exact .inl hx
  ·exact .inr hx)),b3.block i (by omega)]
 exact Cx.block i hi hA
theorem QF.wL (h:QF w0 f D g n) (t:dE w0 b g M N) (hb:Below w0.heap.size w0 w) (hq:w0.heap.size≤q) (hw:w.heap[q]? = some (.cells (jH g e 0) 238)) (hE:D.E (D.nx+1)=none) (h0:0≤D.nx) (hl:¬au N<0) (hL:Live D N) (hn:n<1000) :
 Calls Tryz.prog 236 #[wp f,wp b,wp q] w fun x w'=>x=.returned (.int .i64 (au N))∧Jv w0 w' f (iW D e) g b (addN D N) (n+1):=by
 have hB:=h.below hb
 have c1:=hB.cells.2
 have h8:=Bf
 have h7:=BP
 have HA:Aside (∀k:Int,g.K k=none→0<k→k<100000→∃w2,AdS w0 w w2 f b q n g D N k e):=fun k hk hk0 hk1=>h.adding t hb hq hw hE h0 hl hL hn hk hk0 hk1
 have HK:Aside (∀i:Nat,(∀j:Nat,1≤j→j≤i→(g.K j).isSome=true)→i≤n):=fun i hi=>h.ZU hi
 have HL:Aside (∀k:Int,0≤k→k<100000→(Instr.lookup 207 (.map (some g.gO)) (.int .i64 k) false).run Tryz.prog w=.ok (gv g k) w):=fun k h0 h1=>hB.look h0 h1
 have h9:=qG f
 have hen:∀q (W:World),(binOp BinOp.neq 232 (wp q) (.pointer none)).run Tryz.prog W=.ok (.bool true) W:=fun q W=>by kernel_rfl
 have hel:∀(W:World),(binOp BinOp.neq 232 (.pointer none) (.pointer none)).run Tryz.prog W=.ok (.bool false) W:=fun W=>by kernel_rfl
 have HN:Aside (n<1000):=hn
 clear h t hb hq hw hE h0 hl hL hn hB
 go_enter Tryz.func236,Tryz.ntmps236
 go_wp2_with fail
 go_loopg [7] n (fun mm s7 wr=>∃i:Nat,Aside (i+mm=n)∧s7=.int .i64 ((i:Int)+1)∧Aside (∀j:Nat,1≤j→j≤i→(g.K j).isSome=true)∧wr=w)
 case atStart=>exact ⟨0,(show 0+n=n by omega),rfl,fun j h1 h2=>by omega,rfl⟩
 case round=>
  obtain ⟨i,HI,rfl,hall,hwr⟩:=hrel
  subst hwr
  have hi9:(i:Int)<1000:=by have:=HI.out;have:=HN.out;omega
  have hlk:=HL.out ((i:Int)+1) (by omega) (by omega)
  cases hK:g.K ((i:Int)+1) with
  |some d=>
   rw [rQ hK] at hlk
   have HX:Aside (∀j:Nat,1≤j→j≤i+1→(g.K j).isSome=true):=fun j h1 h2=>by
    by_cases e1:j=i+1
    ·subst e1;rw [show ((i+1:Nat):Int)=(i:Int)+1 by omega,hK];rfl
    ·exact hall.out j h1 (by omega)
   have HI2:Aside (i+1≤n):=HK.out (i+1) HX.out
   clear hK
   go_wp2_with fail
   go_roundg (n-(i+1))
   case measure=>have:=HI.out;have:=HI2.out;omega
   case rel=>exact ⟨i+1,(show i+1+(n-(i+1))=n by have:=HI2.out;omega),by rw [show ((i+1:Nat):Int)+1=(i:Int)+1+1 by omega],HX,rfl⟩
  |none=>
   rw [BJ hK] at hlk
   obtain ⟨w2,A⟩:=HA.out ((i:Int)+1) hK (by omega) (by omega)
   have hrun:=A.run
   have Ty:=A.least
   clear A hK
   go_wp2_with (first
    |(go_at_call 278;refine Ty.mono ?_;rintro y w3 ⟨rfl,Tz⟩)
    |(go_at_call 239;refine Tz.mono ?_;rintro y w4 ⟨rfl,hG⟩))
   go_ret
   exact ⟨rfl,hG⟩
end
structure qy (w w':World) (f:Nat) (D:DS) (T':Wd) (g:QG) (n b:Nat) (M N:Ns):Prop where
 ex:∃g',QF w' f { D with T:=T' } g' n∧dE w' b g' M N∧(∀i,i<w.heap.size→g'.di i=g.di i)∧g'.K=g.K∧g'.r=g.r∧g'.B=g.B
 wt:Wt (fun i=>(g.di i).isSome=true∨i=b) w w'
section
variable {w w' w2 w0 w1:World}{f b n q:Nat}{D D':DS}{g g' g1:QG}{M N N':Ns}{d k m:Int}{e:En}{T':Wd}
theorem dE.MQ (t:dE w b g M N) (hk:w'.heap[b]? = w.heap[b]?) (hx:∀i,i<w.heap.size→g'.di i=g.di i) (hK:g'.K=g.K):dE w' b g' M N:=
 ⟨t.tab.keep hk,(hx b t.tab.lt).trans t.off,t.len,by rw [hK];exact t.rel⟩
theorem QF.AX (h:QF w f D g n) (t:dE w b g M N) {O O':Nat→Prop}(hO:∀i,O i→g.di i=some .tree) (p:PT w' g.r T' O') (st:Stp w w' O O'):qy w w' f D T' g n b M N:=by
 obtain ⟨g',a1,a2,a3,a4,a5⟩:=h.turn hO p st
 have hb:w'.heap[b]? = w.heap[b]? := st.wt.block b t.tab.lt (fun o=>by have:=hO b o;rw [t.off] at this;cases this)
 exact ⟨⟨g',a1,t.MQ hb a2 a3,a2,a3,a4,a5⟩,st.wt.mono (fun i hi=>.inl (by rw [hO i hi];rfl))⟩
theorem QF.still (h:QF w f D g n) (t:dE w b g M N) (hb:Below w.heap.size w w'):qy w w' f D D.T g n b M N:=⟨⟨g,h.below hb,t.below hb,fun _ _=>rfl,rfl,rfl,rfl⟩,Wt.below _ hb⟩
theorem qy.upon (hb:Below w.heap.size w w1) (h:qy w1 w' f D T' g n b M N):qy w w' f D T' g n b M N:=by
 obtain ⟨⟨g',a1,a2,a3,a4⟩,wt⟩:=h
 exact ⟨⟨g',a1,a2,fun i hi=>a3 i (Nat.lt_of_lt_of_le hi hb.size),a4⟩,(Wt.below _ hb).trans wt⟩
theorem qy.go (h:qy w w' f D T' g n b M N):dC w w' f { D with T:=T' } g b N:=by
 obtain ⟨⟨g',a1,a2,a3,a4,a5,_⟩,wt⟩:=h
 exact ⟨⟨g',n,M,a1,a2,a3,fun k d hk _=>by rw [a4];exact hk,a5⟩,wt⟩
theorem Wt.weaken {A A':Nat→Prop}(h:Wt A w w') (k:Wt A' w' w2) (hA:∀i,i<w.heap.size→A' i→A i):Wt A w w2:=
 ⟨k.os.trans h.os,k.tape.trans h.tape,k.output.trans h.output,Nat.le_trans h.size k.size,fun i hi hn=>(k.block i (Nat.lt_of_lt_of_le hi h.size) (fun z=>hn (hA i hi z))).trans (h.block i hi hn)⟩
theorem dC.after (hx:∀i,i<w.heap.size→g1.di i=g.di i) (hK:g1.K=g.K) (hr:g1.r=g.r) (wt:Wt (fun i=>(g.di i).isSome=true∨i=b) w w1) (h:dC w1 w2 f D' g1 b N'):dC w w2 f D' g b N':=by
 obtain ⟨⟨g',n',M',a1,a2,a3⟩,Cx⟩:=h
 refine ⟨⟨g',n',M',a1,a2,⟨fun i hi=>(a3.di i (Nat.lt_of_lt_of_le hi wt.size)).trans (hx i hi),fun k d hk hd=>a3.key k d (by rw [hK];exact hk) hd,a3.r.trans hr⟩⟩,wt.weaken Cx (fun i hi z=>by
  rcases z with z|z
  ·exact .inl (by rw [←hx i hi];exact z)
  ·exact .inr z)⟩
theorem QF.T9 (h:QF w f D g n) (hT:bE D.T) (p:List UInt8) (hp:p.length<100000) (hm:w.cell? ⟨4,0,none⟩=some (.int .i64 m)):Calls Tryz.prog 307 #[wp g.r,tx p] w fun e w'=>e=.returned (.tuple #[.int .i64 (aS D.T p).1,aJ (aS D.T p).2])∧Below w.heap.size w w':=by
 obtain ⟨O,pt,hO⟩:=h.tree
 obtain ⟨gN,s,B,G,V,pt⟩:=pt
 exact pt.find_ok hT.toTrOk (pt.num.pos hT.toTrOk) p hp m hm
theorem QF.XW (h:QF w f D g n) (t:dE w b g M N) (hT:bE D.T) (x:Int) (hx0:0≤x) (hx1:x<100000) (hx:∀b y,D.T x=some (.file b y)→y+1≤1000):Calls Tryz.prog 277 #[wp g.r,.int .i64 x] w fun e w'=>e=.returned (aJ (dZ D.T x 1))∧qy w w' f D (bR D.T x 1) g n b M N:=by
 obtain ⟨O,pt,hO⟩:=h.tree
 refine (pt.Sc hT x (iy hx0 (by omega)) hx).mono ?_
 rintro e w' ⟨rfl,p',st⟩
 exact ⟨rfl,h.AX t hO p' st⟩
theorem QF.XQ (h:QF w f D g n) (t:dE w b g M N) (hT:bE D.T) {s:Nat}(hs:dm D.T s) (p:List UInt8) (hp:p.length<100000) (hm:w.cell? ⟨4,0,none⟩=some (.int .i64 m)) (hC:∀k C,D.T k=some (.dir C)→C.length≤1000) :
 Calls Tryz.prog 322 #[wp g.r,tx p] w fun e w'=>(bC D.T s p≠0∧e=.returned (.tuple #[.int .i64 0,eX (bC D.T s p)])∧qy w w' f D D.T g n b M N)∨(bC D.T s p=0∧∃k,gZ D.T k∧k<64∧e=.returned (.tuple #[.int .i64 k,.nilIface])∧qy w w' f D (iD D.T p false k) g n b M N):=by
 obtain ⟨O,pt,hO⟩:=h.tree
 refine (pt.LG hT hs p hp m hm hC).mono ?_
 rintro e w' (⟨a,rfl,p',st⟩|⟨a,k,O',b1,c,rfl,p',st⟩)
 ·exact .inl ⟨a,rfl,h.AX t hO p' st⟩
 ·exact .inr ⟨a,k,b1,c,rfl,h.AX t hO p' st⟩
theorem TC (c:Int) (w:World) (hg:w.cell? ⟨0,0,none⟩=some fJ):Calls Tryz.prog 17 #[aJ c] w fun e w'=>e=.returned (.int .i64 c)∧Below w.heap.size w w':=by
 by_cases h:c=0
 ·subst h
  refine (Dk w).mono ?_
  rintro e w' ⟨rfl,rfl⟩
  exact ⟨rfl,Below.refl _ _⟩
 ·rw [aB h];exact Dl c w hg
theorem cell_below {v:Value}{q:Nat}(hg:w.cell? ⟨q,0,none⟩=some v) (hb:Below w.heap.size w w'):w'.cell? ⟨q,0,none⟩=some v:=by
 rw [hb.cell (p:=⟨q,0,none⟩) (World.block_lt_of_cell? w _ hg)];exact hg
theorem QF.Kz (h:QF w f D g n) (hT:bE D.T) (p:List UInt8) (hp:p.length<100000) (hm:w.cell? ⟨4,0,none⟩=some (.int .i64 m)) (hg:w.cell? ⟨0,0,none⟩=some fJ) (mk:Bool) (hmk:¬((aS D.T p).2=7∧mk=true)) :
 Calls Tryz.prog 276 #[wp f,tx p,.bool mk] w fun e w'=>e=.returned (.tuple #[.int .i64 (aS D.T p).1,aJ (aS D.T p).2])∧Below w.heap.size w w':=by
 have hF:=h.T9 hT p hp hm
 have c0:=h.cells.1
 have WQ:∀V,Below w.heap.size w V→Calls Tryz.prog 17 #[aJ (aS D.T p).2] V fun e w'=>e=.returned (.int .i64 (aS D.T p).2)∧Below w.heap.size w w':=fun V hV=>by
  refine (TC _ V (cell_below hg hV)).mono ?_
  rintro e w' ⟨rfl,b1⟩
  exact ⟨rfl,hV.trans (b1.mono hV.size)⟩
 generalize (aS D.T p).1=k at *
 generalize (aS D.T p).2=c at *
 clear h hT hp hm hg
 cases mk with
 |false=>
  clear hmk WQ
  generalize aJ c=U at *
  go_enter Tryz.func276,Tryz.ntmps276
  go_wp2_with (go_at_call 307;refine hF.mono ?_;rintro y w1 ⟨rfl,b1⟩)
  go_ret2
  exact ⟨rfl,b1⟩
 |true=>
  have hc7:(c == 7)=false:=by simpa using hmk
  clear hmk
  generalize aJ c=U at *
  go_enter Tryz.func276,Tryz.ntmps276
  go_wp2_with (first
   |(go_at_call 307;refine hF.mono ?_;rintro y w1 ⟨rfl,b1⟩)
   |(go_at_call 17;refine (WQ _ b1).mono ?_;rintro y w2 ⟨rfl,b2⟩))
  go_ret2
  exact ⟨rfl,b2⟩
theorem QF.Ky (h:QF w f D g n) (t:dE w b g M N) (hT:bE D.T) {s:Nat}(hs:dm D.T s) (p:List UInt8) (hp:p.length<100000) (hm:w.cell? ⟨4,0,none⟩=some (.int .i64 m)) (hg:w.cell? ⟨0,0,none⟩=some fJ) (hC:∀k C,D.T k=some (.dir C)→C.length≤1000) (hE:(aS D.T p).2=7) :
 Calls Tryz.prog 276 #[wp f,tx p,.bool true] w fun e w'=>(bC D.T s p≠0∧e=.returned (.tuple #[.int .i64 0,eX (bC D.T s p)])∧qy w w' f D D.T g n b M N)∨(bC D.T s p=0∧∃k,gZ D.T k∧k<64∧e=.returned (.tuple #[.int .i64 k,.nilIface])∧qy w w' f D (iD D.T p false k) g n b M N):=by
 have hF:=h.T9 hT p hp hm
 rw [hE] at hF
 have c0:=h.cells.1
 have WQ:∀V,Below w.heap.size w V→Calls Tryz.prog 17 #[aJ 7] V fun e w'=>e=.returned (.int .i64 7)∧Below w.heap.size w w':=fun V hV=>by
  refine (TC _ V (cell_below hg hV)).mono ?_
  rintro e w' ⟨rfl,b1⟩
  exact ⟨rfl,hV.trans (b1.mono hV.size)⟩
 have Yy:∀V,Below w.heap.size w V→V.cell? ⟨f,0,none⟩=some (wp g.r)∧Calls Tryz.prog 322 #[wp g.r,tx p] V fun e w'=>∃k c,e=.returned (.tuple #[.int .i64 k,aJ c])∧((bC D.T s p≠0∧k=0∧c=bC D.T s p∧qy w w' f D D.T g n b M N)∨(bC D.T s p=0∧gZ D.T k∧k<64∧c=0∧qy w w' f D (iD D.T p false k) g n b M N)):=fun V hV=>by
  refine ⟨(h.below hV).cells.1,((h.below hV).XQ (t.below hV) hT hs p hp (cell_below hm hV) hC).mono ?_⟩
  rintro e w' (⟨a,rfl,st⟩|⟨a,k,b1,c,rfl,st⟩)
  ·exact ⟨0,bC D.T s p,by rw [aB a],.inl ⟨a,rfl,rfl,st.upon hV⟩⟩
  ·exact ⟨k,0,rfl,.inr ⟨a,b1,c,rfl,st.upon hV⟩⟩
 have HQ:Aside (∀(w':World) (k c:Int),((bC D.T s p≠0∧k=0∧c=bC D.T s p∧qy w w' f D D.T g n b M N)∨(bC D.T s p=0∧gZ D.T k∧k<64∧c=0∧qy w w' f D (iD D.T p false k) g n b M N))→((bC D.T s p≠0∧Ending.returned (.tuple #[.int .i64 k,aJ c])=.returned (.tuple #[.int .i64 0,eX (bC D.T s p)])∧qy w w' f D D.T g n b M N)∨(bC D.T s p=0∧∃j,gZ D.T j∧j<64∧Ending.returned (.tuple #[.int .i64 k,aJ c])=.returned (.tuple #[.int .i64 j,.nilIface])∧qy w w' f D (iD D.T p false j) g n b M N))):=fun w' k c hx=>by
  rcases hx with ⟨a,rfl,rfl,st⟩|⟨a,b1,b2,rfl,st⟩
  ·exact .inl ⟨a,by rw [aB a],st⟩
  ·exact .inr ⟨a,k,b1,b2,rfl,st⟩
 have HM:Aside (∀V,Below w.heap.size w V→V.cell? ⟨f,0,none⟩=some (wp g.r)∧Calls Tryz.prog 322 #[wp g.r,tx p] V fun e w'=>∃k c,e=.returned (.tuple #[.int .i64 k,aJ c])∧((bC D.T s p≠0∧k=0∧c=bC D.T s p∧qy w w' f D D.T g n b M N)∨(bC D.T s p=0∧gZ D.T k∧k<64∧c=0∧qy w w' f D (iD D.T p false k) g n b M N))):=Yy
 generalize (aS D.T p).1=k0 at *
 clear h t hT hp hm hg hE hC hs Yy
 go_enter Tryz.func276,Tryz.ntmps276
 go_upto_region 3 with (first
  |(go_at_call 307;refine hF.mono ?_;rintro y w1 ⟨rfl,b1⟩)
  |(go_at_call 17;refine (WQ _ b1).mono ?_;rintro y w2 ⟨rfl,b2⟩))
 obtain ⟨c2,Yy⟩:=HM.out _ b2
 clear hF WQ c0
 go_wp2_with (go_at_call 322;refine Yy.mono ?_;rintro y w3 ⟨k,c,rfl,hR⟩;have HR:Aside _:=hR;clear hR)
 go_ret2
 exact HQ.out _ _ _ HR.out
end
section
variable {w w' w2 w0 w1:World}{f b n q k j:Nat}{D D' D1 D2:DS}{g g' g1:QG}{M M1 N N' N1 N2:Ns}{d m:Int}{e:En}{T':Wd}{Ts:List Ns}
theorem dC.comp (h:QF w f D g n) (wt:Wt (fun i=>(g.di i).isSome=true∨i=b) w w1) (hx:Ext w D1 g g1) (h2:dC w1 w2 f D2 g1 b N2) (hs:∀d,(D.E d).isSome=true→(D2.E d).isSome=true→(D1.E d).isSome=true):dC w w2 f D2 g b N2:=by
 obtain ⟨⟨g2,n2,M2,a1,a2,a3⟩,Cx⟩:=h2
 refine ⟨⟨g2,n2,M2,a1,a2,⟨fun i hi=>(a3.di i (Nat.lt_of_lt_of_le hi wt.size)).trans (hx.di i hi),fun k d hk hd=>a3.key k d (hx.key k d hk (hs d (h.key k d hk).1 hd)) hd,a3.r.trans hx.r⟩⟩,wt.weaken Cx (fun i hi z=>?_)⟩
 rcases z with z|z
 ·exact .inl (by rw [←hx.di i hi];exact z)
 ·exact .inr z
theorem dC.freed (h:QF w f D g n) (I:Inv D Ts k) (hk:k≤900) (hj:j<Ts.length) (hN:Ts[j]=N) {all:Bool}{i:Nat}(hi:i<8) (aF:i<N.length) (h0:0<N[i].1) (ha:all=true∨N[i].2=true) (hG:dC w w1 f (ai all D N i).1 g b (ai all D N i).2) :
 Calls Tryz.prog 142 #[wp f,wp b,.int .i64 (i:Int)] w1 fun x w'=>x=.returned (.tuple #[])∧dC w w' f (ai all D N (i+1)).1 g b (ai all D N (i+1)).2:=by
 have Fa:i<(ai all D N i).2.length:=by rw [(fH all D N i).1];exact aF
 have hat:=rY (D:=D) (all:=all) aF Fa
 have hD:N.getD i (0,false)=N[i]:=by rw [List.getD_eq_getElem?_getD,List.getElem?_eq_getElem aF];rfl
 have e1:ai all D N (i+1)=(aQ (ai all D N i).1 N[i].1,(ai all D N i).2.set i (0,false)):=by
  rw [ai,hD,if_pos ⟨h0,ha⟩]
 have I1:=I.free hk hj all i (by omega)
 have I2:=I.free hk hj all (i+1) (by omega)
 rw [hN] at I1 I2
 rw [e1] at I2 ⊢
 have hj1:j<(Ts.set j (ai all D N i).2).length:=by rw [List.length_set];exact hj
 have hj2:j<(Ts.set j ((ai all D N i).2.set i (0,false))).length:=by rw [List.length_set];exact hj
 have hg1:=mM hj (ai all D N i).2 hj1
 have hg2:=mM hj ((ai all D N i).2.set i (0,false)) hj2
 have hl:=I2.live hj2
 rw [hg2] at hl
 have hcn:=I1.cl hj1 (i:=i) (by rw [hg1];exact Fa)
 simp only [hg1] at hcn
 rw [hat] at hcn
 obtain ⟨e,cl⟩:=hcn h0
 obtain ⟨⟨g1,n1,M1,a1,a2,a3⟩,wt⟩:=hG
 have hf:=a1.lD a2 hi Fa (by rw [hat];exact h0) (e:=e) (c:=fB N[i].1 (Ts.set j (ai all D N i).2)) (by rw [hat];exact cl) (by rw [hat];exact hl)
 rw [hat] at hf
 refine hf.mono ?_
 rintro x w' ⟨rfl,hG2⟩
 exact ⟨rfl,dC.comp h wt a3 hG2 (fun d _ hd=>GN hd)⟩
theorem yn {all:Bool}{i:Nat}(aF:i<N.length) (hc:¬(0<N[i].1∧(all=true∨N[i].2=true))):ai all D N (i+1)=ai all D N i:=by
 have hD:N.getD i (0,false)=N[i]:=by rw [List.getD_eq_getElem?_getD,List.getElem?_eq_getElem aF];rfl
 rw [ai,hD,if_neg hc]
theorem dC.Xz {all:Bool}{i:Nat}(hi:i<8) (aF:i<N.length) (hG:dC w w1 f (ai all D N i).1 g b (ai all D N i).2):∃x:Int×Bool,Calls Tryz.prog 217 #[wp b,.int .i64 (i:Int)] w1 (fun e w'=>e=.returned (.agg #[.int .i64 x.1,.bool x.2])∧dC w w' f (ai all D N i).1 g b (ai all D N i).2)∧(x.1=0↔N[i].1=0)∧0≤N[i].1∧x.2=N[i].2∧(x.1=0→x.2=false):=by
 have Fa:i<(ai all D N i).2.length:=by rw [(fH all D N i).1];exact aF
 have hat:=rY (D:=D) (all:=all) aF Fa
 have hG':=hG
 obtain ⟨⟨g1,n1,M1,a1,a2,a3⟩,wt⟩:=hG
 have hM:i<M1.length:=by rw [a2.tab.len];exact hi
 have h1:=a2.tab.uL i
 rw [wJ a2.tab.len hi] at h1
 have hp:=(a2.pos a1 i hM Fa).2
 have hr:=(a2.rel i hM Fa).1
 rw [hat] at hp hr
 have hnn:=a2.ZP i Fa
 rw [hat] at hnn
 refine ⟨M1[i],h1.mono ?_,hp,hnn,hr.symm,(a2.tab.nn hM).2.2⟩
 rintro e w' ⟨rfl,b1⟩
 exact ⟨rfl,⟨⟨g1,n1,M1,a1.below b1,a2.below b1,a3⟩,wt.trans (Wt.below _ b1)⟩⟩
theorem dC.behind (h:dC w w1 f D' g b N') (hb:Below w1.heap.size w1 w2):dC w w2 f D' g b N':=by
 obtain ⟨⟨g1,n1,M1,a1,a2,a3⟩,wt⟩:=h
 exact ⟨⟨g1,n1,M1,a1.below hb,a2.below hb,a3⟩,wt.trans (Wt.below _ hb)⟩
theorem QF.xu (h:QF w f D g n) (t:dE w b g M N) (I:Inv D Ts k) (hk:k≤900) (hj:j<Ts.length) (hN:Ts[j]=N) :
 Calls Tryz.prog 250 #[wp f,wp b] w fun y w'=>y=.returned (.tuple #[])∧dC w w' f (ai true D N 8).1 g b (ai true D N 8).2:=by
 have hL:N.length=8:=t.len
 have hG0:dC w w f (ai true D N 0).1 g b (ai true D N 0).2:=h.same t (Below.refl _ _)
 have HA:Aside (∀i (hi:i<8) (aF:i<N.length) W,dC w W f (ai true D N i).1 g b (ai true D N i).2→∃x:Int×Bool,Calls Tryz.prog 217 #[wp b,.int .i64 (i:Int)] W (fun e w'=>e=.returned (.agg #[.int .i64 x.1,.bool x.2])∧dC w w' f (ai true D N i).1 g b (ai true D N i).2)∧(x.1=0↔N[i].1=0)∧0≤N[i].1∧x.2=N[i].2∧(x.1=0→x.2=false)):=fun i hi aF W hG=>dC.Xz hi aF hG
 have HF:Aside (∀i (hi:i<8) (aF:i<N.length) W,0<N[i].1→(true=true∨N[i].2=true)→dC w W f (ai true D N i).1 g b (ai true D N i).2→Calls Tryz.prog 142 #[wp f,wp b,.int .i64 (i:Int)] W fun x w'=>x=.returned (.tuple #[])∧dC w w' f (ai true D N (i+1)).1 g b (ai true D N (i+1)).2):=fun i hi aF W h0 ha hG=>dC.freed h I hk hj hN hi aF h0 ha hG
 have HS:Aside (∀i (aF:i<N.length) W,¬(0<N[i].1∧(true=true∨N[i].2=true))→dC w W f (ai true D N i).1 g b (ai true D N i).2→dC w W f (ai true D N (i+1)).1 g b (ai true D N (i+1)).2):=fun i aF W h0 hG=>by
  rw [yn aF h0];exact hG
 have HL:Aside (N.length=8):=hL
 have hfm:=wU
 clear h t I hk hN hj hL
 go_enter Tryz.func250,Tryz.ntmps250
 go_wp2_with fail
 go_loopg [4,5] 8 (fun mm _ s5 wx=>∃i:Nat,Aside (i+mm=8)∧s5=.int .i64 (i:Int)∧dC w wx f (ai true D N i).1 g b (ai true D N i).2)
 case atStart=>exact ⟨0,rfl,rfl,hG0⟩
 case round=>
  obtain ⟨i,HI,rfl,hG⟩:=hrel
  have hi9':(i:Int)≤8:=by have:=HI.out;omega
  by_cases hlt:(i:Int)<8
  ·have vV:Aside (i<N.length):=by show i<N.length;have:=HL.out;omega
   have Qr:Aside (i<8):=by show i<8;omega
   obtain ⟨⟨X,Y⟩,hAt,hx0,hnn,hy,hfr⟩:=HA.out i Qr.out vV.out _ hG
   simp only at hAt hx0 hy hfr
   by_cases hX:X=0
   ·have Qt:Aside (¬(0<(N[i]'vV.out).1∧(true=true∨(N[i]'vV.out).2=true))):=fun z=>by have:=hx0.1 hX;omega
    subst hX
    clear hG hx0 hnn hy hfr
    go_wp2_with (first
     |(go_at_call 217;refine hAt.mono ?_;rintro e w1 ⟨rfl,hG1⟩)
     |(go_at_call 218;refine (j3 _ 0 _).mono ?_;rintro e w2 ⟨rfl,b2⟩))
    go_roundg (7-i)
    case measure=>have:=HI.out;omega
    case rel=>exact ⟨i+1,(show i+1+(7-i)=8 by omega),by rfl,HS.out i vV.out _ Qt.out (hG1.behind b2)⟩
   ·have Qt:Aside (0<(N[i]'vV.out).1∧(true=true∨(N[i]'vV.out).2=true)):=⟨by have:(N[i]'vV.out).1≠0:=fun z=>hX (hx0.2 z);omega,.inl rfl⟩
    have Yo:(X == 0)=false:=by simpa using hX
    clear hG hx0 hnn hy hfr hX
    go_wp2_with (first
     |(go_at_call 217;refine hAt.mono ?_;rintro e w1 ⟨rfl,hG1⟩)
     |(go_at_call 218;refine (j3 _ X _).mono ?_;rintro e w2 ⟨rfl,b2⟩;have sS:=HF.out i Qr.out vV.out _ Qt.out.1 Qt.out.2 (hG1.behind b2))
     |(go_at_call 142;refine sS.mono ?_;rintro e w3 ⟨rfl,hG3⟩))
    go_roundg (7-i)
    case measure=>have:=HI.out;omega
    case rel=>exact ⟨i+1,(show i+1+(7-i)=8 by omega),by rfl,hG3⟩
  ·have H8:Aside (i=8):=by show i=8;omega
   have Zo:dC w wr f (ai true D N 8).1 g b (ai true D N 8).2:=by rw [←H8.out];exact hG
   clear hG
   go_wp2_with fail
   go_end0
   exact ⟨rfl,Zo⟩
theorem QF.Sr (h:QF w f D g n) (t:dE w b g M N) (I:Inv D Ts k) (hk:k≤900) (hj:j<Ts.length) (hN:Ts[j]=N) :
 Calls Tryz.prog 115 #[wp f,wp b] w fun y w'=>y=.returned (.tuple #[])∧dC w w' f (ai false D N 8).1 g b (ai false D N 8).2:=by
 have hL:N.length=8:=t.len
 have hG0:dC w w f (ai false D N 0).1 g b (ai false D N 0).2:=h.same t (Below.refl _ _)
 have HA:Aside (∀i (hi:i<8) (aF:i<N.length) W,dC w W f (ai false D N i).1 g b (ai false D N i).2→∃x:Int×Bool,Calls Tryz.prog 217 #[wp b,.int .i64 (i:Int)] W (fun e w'=>e=.returned (.agg #[.int .i64 x.1,.bool x.2])∧dC w w' f (ai false D N i).1 g b (ai false D N i).2)∧(x.1=0↔N[i].1=0)∧0≤N[i].1∧x.2=N[i].2∧(x.1=0→x.2=false)):=fun i hi aF W hG=>dC.Xz hi aF hG
 have HF:Aside (∀i (hi:i<8) (aF:i<N.length) W,0<N[i].1→(false=true∨N[i].2=true)→dC w W f (ai false D N i).1 g b (ai false D N i).2→Calls Tryz.prog 142 #[wp f,wp b,.int .i64 (i:Int)] W fun x w'=>x=.returned (.tuple #[])∧dC w w' f (ai false D N (i+1)).1 g b (ai false D N (i+1)).2):=fun i hi aF W h0 ha hG=>dC.freed h I hk hj hN hi aF h0 ha hG
 have HS:Aside (∀i (aF:i<N.length) W,¬(0<N[i].1∧(false=true∨N[i].2=true))→dC w W f (ai false D N i).1 g b (ai false D N i).2→dC w W f (ai false D N (i+1)).1 g b (ai false D N (i+1)).2):=fun i aF W h0 hG=>by
  rw [yn aF h0];exact hG
 have HL:Aside (N.length=8):=hL
 have hfm:=wU
 clear h t I hk hN hj hL
 go_enter Tryz.func115,Tryz.ntmps115
 go_wp2_with fail
 go_loopg [4,5] 8 (fun mm _ s5 wx=>∃i:Nat,Aside (i+mm=8)∧s5=.int .i64 (i:Int)∧dC w wx f (ai false D N i).1 g b (ai false D N i).2)
 case atStart=>exact ⟨0,rfl,rfl,hG0⟩
 case round=>
  obtain ⟨i,HI,rfl,hG⟩:=hrel
  have hi9':(i:Int)≤8:=by have:=HI.out;omega
  by_cases hlt:(i:Int)<8
  ·have vV:Aside (i<N.length):=by show i<N.length;have:=HL.out;omega
   have Qr:Aside (i<8):=by show i<8;omega
   obtain ⟨⟨X,Y⟩,hAt,hx0,hnn,hy,hfr⟩:=HA.out i Qr.out vV.out _ hG
   simp only at hAt hx0 hy hfr
   by_cases hX:Y=false
   ·have Qt:Aside (¬(0<(N[i]'vV.out).1∧(false=true∨(N[i]'vV.out).2=true))):=fun z=>by rcases z.2 with z2|z2;exact absurd z2 (by simp);rw [←hy,hX] at z2;cases z2
    subst hX
    clear hG hx0 hnn hy hfr
    go_wp2_with (go_at_call 217;refine hAt.mono ?_;rintro e w1 ⟨rfl,hG1⟩)
    go_roundg (7-i)
    case measure=>have:=HI.out;omega
    case rel=>exact ⟨i+1,(show i+1+(7-i)=8 by omega),by rfl,HS.out i vV.out _ Qt.out hG1⟩
   ·have Qt:Aside (0<(N[i]'vV.out).1∧(false=true∨(N[i]'vV.out).2=true)):=⟨by have:X≠0:=fun z=>hX (hfr z);have:(N[i]'vV.out).1≠0:=fun z=>this (hx0.2 z);omega,.inr (by rw [←hy];simpa using hX)⟩
    have hX2:Y=true:=by simpa using hX
    have hfl:=wU X Y
    rw [hX2] at hAt
    clear hG hx0 hnn hy hfr hX
    clear hX2 hfl
    go_wp2_with (first
     |(go_at_call 217;refine hAt.mono ?_;rintro e w1 ⟨rfl,hG1⟩;have sS:=HF.out i Qr.out vV.out _ Qt.out.1 Qt.out.2 hG1)
     |(go_at_call 142;refine sS.mono ?_;rintro e w3 ⟨rfl,hG3⟩))
    go_roundg (7-i)
    case measure=>have:=HI.out;omega
    case rel=>exact ⟨i+1,(show i+1+(7-i)=8 by omega),by rfl,hG3⟩
  ·have H8:Aside (i=8):=by show i=8;omega
   have Zo:dC w wr f (ai false D N 8).1 g b (ai false D N 8).2:=by rw [←H8.out];exact hG
   clear hG
   go_wp2_with fail
   go_end0
   exact ⟨rfl,Zo⟩
end
theorem zZ {D:DS}{N:Ns}{i:Nat}(hi:i<N.length):gW D (N.take (i+1))=if 0<N[i].1 then ib (gW D (N.take i)) N[i].1 else gW D (N.take i):=by
 unfold gW
 rw [List.take_succ_eq_append_getElem hi,List.foldl_append]
 rfl
def upTo (N:Ns) (i:Nat):Ns:=N.take i ++ List.replicate (8-i) (0,false)
theorem NK {N:Ns}(h:N.length=8) {i:Nat}(hi:i≤8):(upTo N i).length=8:=by
 unfold upTo;rw [List.length_append,List.length_take,List.length_replicate];omega
theorem Dg {N:Ns}(h:N.length=8):upTo N 8=N:=by
 unfold upTo;rw [List.take_of_length_le (by omega)];simp
theorem wO {N:Ns}(h:N.length=8) {i:Nat}(hi:i<8):(upTo N i).set i (N[i]'(by omega))=upTo N (i+1):=by
 unfold upTo
 rw [List.set_append,List.length_take,if_neg (by omega),show 8-i=(8-(i+1))+1 by omega,List.replicate_succ,List.take_succ_eq_append_getElem (by omega),show i-min i N.length=0 by omega,List.append_assoc]
 rfl
theorem zn {N:Ns}(h:N.length=8) {i:Nat}(hi:i<8) (h0:N[i]'(by omega)=(0,false)):upTo N (i+1)=upTo N i:=by
 rw [←wO h hi,h0]
 unfold upTo
 rw [List.set_append,List.length_take,if_neg (by omega),show 8-i=(8-(i+1))+1 by omega,List.replicate_succ,show i-min i N.length=0 by omega]
 rfl
section
variable {w w' w2 w0 w1:World}{f b n q k j:Nat}{D D' D1 D2:DS}{g g' g1:QG}{M M1 N N' N1 N2:Ns}{d m:Int}{e:En}{T':Wd}{Ts:List Ns}
structure yV (w W:World) (f b n:Nat) (D:DS) (g:QG) (M N:Ns) (i:Nat):Prop where
 q:QF W f (gW D (N.take i)) g n
 t:dE W b g M N
 u:dE W w.heap.size g (upTo M i) (upTo N i)
 wt:Wt (fun i=>(g.di i).isSome=true) w W
 lt:b<w.heap.size
theorem yV.below {W:World}{i:Nat}(h:yV w W f b n D g M N i) (hb:Below W.heap.size W w'):yV w w' f b n D g M N i:=⟨h.q.below hb,h.t.below hb,h.u.below hb,h.wt.trans (Wt.below _ hb),h.lt⟩
theorem IQ (h:QF w f D g n):g.di w.heap.size=none:=by
 cases e:g.di w.heap.size with
 |none=>rfl
 |some t=>have:=h.lt _ (by rw [e];rfl);omega
theorem yV.give {W:World}{i:Nat}(h:yV w W f b n D g M N i) (I:Inv D Ts k) (hj:j<Ts.length) (hN:Ts[j]=N) (hi:i<8) (hiM:i<M.length) (aF:i<N.length) (h0:0<N[i].1) :
 Calls Tryz.prog 239 #[wp f,wp w.heap.size,.int .i64 (i:Int),.int .i64 M[i].1] W fun x w'=>x=.returned (.tuple #[])∧w'.cell? ⟨b,i*2+1,none⟩=some (.bool M[i].2)∧(∃v,w'.cell? ⟨w.heap.size,i*2+1,none⟩=some v)∧w'.frozen? ⟨w.heap.size,i*2+1,none⟩=false∧∀V,V.heap=(w'.setCell ⟨w.heap.size,i*2+1,none⟩ (.bool M[i].2)).heap→V.os=w'.os→V.tape=w'.tape→V.output=w'.output→yV w V f b n D g M N (i+1):=by
 have hk:=h.t.keyOf hiM aF h0
 have hMl:=h.t.tab.len
 have hNl:=h.t.len
 have hIc:=lh.fork (N.take i) I.core (fun x hx hx0=>by
  rw [←hN] at hx
  obtain ⟨y,hy,rfl⟩:=List.getElem_of_mem (List.mem_of_mem_take hx)
  exact eU hj hy)
 have hcp:0<fB N[i].1 Ts:=by
  have:=eU (Ts:=Ts) (j:=j) (i:=i) hj (by rw [hN];exact aF)
  simp only [hN] at this
  exact this
 have h64:=I.H5 N[i].1
 have hcl:=Je N[i].1 (N.take i)
 rw [List.length_take] at hcl
 obtain ⟨e,cl⟩:=hIc.cl h0 (by omega) (by omega)
 have hR:=cl.cnt
 refine (h.q.vQ h.u hi hk h0 cl.eF hR (by omega) cl.c1).mono ?_
 rintro x w' ⟨rfl,a1,a2,hG⟩
 have hk0:=(h.q.key _ _ hk).2.1
 have hub:(upTo M i).length=8:=NK hMl (by omega)
 have hwt:=hG.wt
 have hbw:b≠w.heap.size:=fun e9=>by have:=h.lt;omega
 have hbk:w'.heap[b]? = W.heap[b]? := hwt.block b h.t.tab.lt (by
  rintro (z|z)
  ·rw [h.t.off] at z;cases z
  ·exact hbw z)
 have t1:dE w' b g M N:=h.t.keep hbk
 refine ⟨rfl,(t1.tab.at hi).2,⟨_,(a2.tab.at hi).2⟩,a2.tab.free _,fun V hV ho ht hou=>?_⟩
 have hm0:((upTo M i).set i (M[i].1,false))[i]'(by rw [List.length_set,hub];exact hi)=(M[i].1,false):=List.getElem_set_self _
 have tm:=a2.tab.mark hi M[i].2 (by rw [hm0];simp only;omega)
 rw [hm0] at tm
 simp only [List.set_set] at tm
 have Zl:(upTo M i).set i (M[i].1,M[i].2)=upTo M (i+1):=wO hMl hi
 have Zk:(upTo N i).set i (N[i].1,N[i].2)=upTo N (i+1):=wO hNl hi
 have tu:=a2.set (i:=i) (M[i].1,M[i].2) (N[i].1,N[i].2) (by rw [List.set_set];exact tm) ⟨(h.t.rel i hiM aF).1,.inr ⟨h0,hk⟩⟩
 rw [List.set_set,List.set_set,Zl,Zk] at tu
 have gg:=aY w' w.heap.size (i*2+1) (.bool M[i].2)
 have q1:=a1.Bb h.u.off gg
 have hsz:V.heap.size=(w'.setCell ⟨w.heap.size,i*2+1,none⟩ (.bool M[i].2)).heap.size:=by rw [hV]
 have hD:gW D (N.take (i+1))=ib (gW D (N.take i)) N[i].1:=by rw [zZ aF,if_pos h0]
 refine ⟨by rw [hD];exact q1.keep (fun x _=>by rw [hV]) (by omega),t1.keep (by rw [hV];exact gg.block b (t1.tab.lt) (fun z=>hbw (Option.some.inj z))),tu.keep (by rw [hV]),?_,h.lt⟩
 refine ⟨ho.trans (hwt.os.trans h.wt.os),ht.trans (hwt.tape.trans h.wt.tape),hou.trans (hwt.output.trans h.wt.output),?_,fun x hx hA=>?_⟩
 ·have:=gg.size;have:=hwt.size;have:=h.wt.size;omega
 ·have:=h.wt.size
  have:=hwt.size
  rw [hV,gg.block x (by omega) (fun z=>by have:=Option.some.inj z;omega),hwt.block x (by omega) (by
   rintro (z|z)
   ·exact hA z
   ·omega)]
  exact h.wt.block x hx hA
theorem yV.skip {W:World}{i:Nat}(h:yV w W f b n D g M N i) (hi:i<8) (hiM:i<M.length) (aF:i<N.length) (h0:¬0<N[i].1):yV w W f b n D g M N (i+1):=by
 have hr:=h.t.rel i hiM aF
 have hM0:M[i].1=0∧N[i].1=0:=by
  rcases hr.2 with z|z
  ·exact z
  ·exact absurd z.1 h0
 have hm:=(h.t.tab.nn hiM).2.2 hM0.1
 have Zl:M[i]=(0,false):=Prod.ext hM0.1 hm
 have Zk:N[i]=(0,false):=Prod.ext hM0.2 (hr.1.trans hm)
 refine ⟨by rw [zZ aF,if_neg h0];exact h.q,h.t,?_,h.wt,h.lt⟩
 rw [zn h.t.tab.len hi Zl,zn h.t.len hi Zk]
 exact h.u
theorem yV.first (h:QF w f D g n) (t:dE w b g M N):yV w (w.alloc (.cells (nv (List.replicate 8 (0,false))).toArray 216)) f b n D g M N 0:=by
 have bA:Below w.heap.size w (w.alloc (.cells (nv (List.replicate 8 (0,false))).toArray 216)):=(Below.refl _ w).alloc (Nat.le_refl _) _
 have hn:(w.alloc (.cells (nv (List.replicate 8 (0,false))).toArray 216)).heap[w.heap.size]? = some (.cells (nv (List.replicate 8 (0,false))).toArray 216):=by
  show (w.heap.push _)[w.heap.size]? = _
  rw [Array.getElem?_push,if_pos rfl]
 refine ⟨h.below bA,t.below bA,⟨⟨hn,rfl,fun x hx=>?_⟩,IQ h,rfl,fun i h1 h2=>?_⟩,Wt.below _ bA,t.tab.lt⟩
 ·have:=List.eq_of_mem_replicate (show x∈List.replicate 8 ((0:Int),false) from hx)
  rw [this];simp
 ·have e1:(upTo M 0)[i]=(0,false):=List.eq_of_mem_replicate (show (upTo M 0)[i]∈List.replicate 8 ((0:Int),false) from List.getElem_mem h1)
  have e2:(upTo N 0)[i]=(0,false):=List.eq_of_mem_replicate (show (upTo N 0)[i]∈List.replicate 8 ((0:Int),false) from List.getElem_mem h2)
  exact ⟨(congrArg Prod.snd e2).trans (congrArg Prod.snd e1).symm,.inl ⟨congrArg Prod.fst e1,congrArg Prod.fst e2⟩⟩
theorem QF.rR (h:QF w f D g n) (t:dE w b g M N) (I:Inv D Ts k) (hj:j<Ts.length) (hN:Ts[j]=N) :
 Calls Tryz.prog 140 #[wp f,wp b] w fun y w'=>y=.returned (wp w.heap.size)∧QF w' f (gW D N) g n∧dE w' b g M N∧dE w' w.heap.size g M N∧Wt (fun i=>(g.di i).isSome=true) w w':=by
 have hF0:=yV.first h t
 have HL:Aside (N.length=8∧M.length=8):=⟨t.len,t.tab.len⟩
 have HG:Aside (∀(W:World) (i:Nat),yV w W f b n D g M N i→i<8→∀(hiM:i<M.length) (aF:i<N.length),0<N[i].1→Calls Tryz.prog 239 #[wp f,wp w.heap.size,.int .i64 (i:Int),.int .i64 M[i].1] W fun x w'=>x=.returned (.tuple #[])∧w'.cell? ⟨b,i*2+1,none⟩=some (.bool M[i].2)∧(∃v,w'.cell? ⟨w.heap.size,i*2+1,none⟩=some v)∧w'.frozen? ⟨w.heap.size,i*2+1,none⟩=false∧∀V,V.heap=(w'.setCell ⟨w.heap.size,i*2+1,none⟩ (.bool M[i].2)).heap→V.os=w'.os→V.tape=w'.tape→V.output=w'.output→yV w V f b n D g M N (i+1)):=fun W i hF hi hiM aF h0=>hF.give I hj hN hi hiM aF h0
 have HFd:Aside (∀(W:World) (i:Nat),yV w W f b n D g M N i→i<8→∀(hiM:i<M.length) (aF:i<N.length),0<N[i].1→Calls Tryz.prog 141 #[wp f,wp b,.int .i64 (i:Int)] W fun x w'=>∃q,x=.returned (.tuple #[wp q,.nilIface])∧yV w w' f b n D g M N i∧w'.cell? ⟨b,i*2,none⟩=some (.int .i64 M[i].1)):=fun W i hF hi hiM aF h0=>by
  refine (hF.q.aC hF.t hi aF h0).mono ?_
  rintro x w' ⟨rfl,b1⟩
  have hF1:=hF.below b1
  exact ⟨_,rfl,hF1,(hF1.t.tab.at hi).1⟩
 have HFn:Aside (∀(W:World) (i:Nat),yV w W f b n D g M N i→i<8→∀(aF:i<N.length),N[i].1≤0→Calls Tryz.prog 141 #[wp f,wp b,.int .i64 (i:Int)] W fun x w'=>x=.returned (.tuple #[.pointer none,eX 7])∧yV w w' f b n D g M N (i+1)):=fun W i hF hi aF h0=>by
  refine (hF.q.aU hF.t i (by unfold aH;rw [getD_in aF];simp;omega)).mono ?_
  rintro x w' ⟨rfl,b1⟩
  exact ⟨rfl,(hF.below b1).skip hi (by have:=hF.t.tab.len;omega) aF (by omega)⟩
 clear h t I hj hN
 go_enter Tryz.func140,Tryz.ntmps140
 go_wp2_with fail
 go_loopg [6,7,8,11] 8 (fun mm _ _ _ s11 wx=>∃i:Nat,Aside (i+mm=8)∧s11=.int .i64 (i:Int)∧yV w wx f b n D g M N i)
 case atStart=>exact ⟨0,rfl,rfl,hF0⟩
 case round=>
  obtain ⟨i,HI,rfl,hF⟩:=hrel
  have hi9':(i:Int)≤8:=by have:=HI.out;omega
  by_cases hlt:(i:Int)<8
  ·have vV:Aside (i<N.length):=by show i<N.length;have:=HL.out;omega
   have YK:Aside (i<M.length):=by show i<M.length;have:=HL.out;omega
   have Qr:Aside (i<8):=by show i<8;omega
   by_cases h0:0<(N[i]'vV.out).1
   ·have Mm:=HFd.out _ i hF Qr.out YK.out vV.out h0
    have H0:Aside (0<(N[i]'vV.out).1):=h0
    have HGv:Aside (∀W,yV w W f b n D g M N i→_):=fun W hW=>HG.out W i hW Qr.out YK.out vV.out H0.out
    generalize (M[i]'YK.out).1=X at *
    generalize (M[i]'YK.out).2=Y at *
    clear h0 hF H0
    go_upto_region 7 with (go_at_call 141;refine Mm.mono ?_;rintro x w2 ⟨q,rfl,hF2,c2⟩)
    have Tz:=HGv.out _ hF2
    clear Mm hF2
    go_upto_region 8 with (go_at_call 239;refine Tz.mono ?_;rintro x w3 ⟨rfl,c3,⟨v,c4⟩,z4,hN⟩)
    have HN:Aside _:=hN
    clear hN Tz c2
    go_region
    all_goals
     go_wp2_with fail
     go_roundg (7-i)
     case measure=>have:=HI.out;omega
     case rel=>exact ⟨i+1,(show i+1+(7-i)=8 by omega),by rfl,HN.out _ rfl rfl rfl rfl⟩
   ·have Mm:=HFn.out _ i hF Qr.out vV.out (by omega)
    clear h0 hF
    go_wp2_with (go_at_call 141;refine Mm.mono ?_;rintro x w2 ⟨rfl,hF2⟩)
    go_roundg (7-i)
    case measure=>have:=HI.out;omega
    case rel=>exact ⟨i+1,(show i+1+(7-i)=8 by omega),by rfl,hF2⟩
  ·have h8:i=8:=by omega
   subst h8
   have hq:=hF.q
   have hu:=hF.u
   have ht:=hF.t
   have hw:=hF.wt
   rw [List.take_of_length_le (by have:=HL.out;omega)] at hq
   rw [Dg HL.out.1,Dg HL.out.2] at hu
   clear hF
   go_wp2_with fail
   go_ret
   exact ⟨rfl,hq,ht,hu,hw⟩
end
end Go.Proofs.YtcfhanoekniaaaaGreatDoor

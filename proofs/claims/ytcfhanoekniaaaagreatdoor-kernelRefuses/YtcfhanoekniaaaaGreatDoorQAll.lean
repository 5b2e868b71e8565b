/- Package desc: leave, free, by their Go texts. -/
import Derived.Test.YtcfhanoekniaaaaGreatDoorUUnlink
import Derived.Test.YtcfhanoekniaaaaGreatDoorDOps
import Derived.Test.YtcfhanoekniaaaaGreatDoorUTake
import Derived.Test.YtcfhanoekniaaaaGreatDoorUMkdir
import Derived.Test.YtcfhanoekniaaaaGreatDoorTell
set_option maxHeartbeats 8000000
set_option maxRecDepth 100000
namespace Go.Proofs.YtcfhanoekniaaaaGreatDoor
open Go.RowKit Go.Maps
section
variable {w w' w2:World}{f b n:Nat}{D D':DS}{g g':QG}{M N N':Ns}{d k:Int}{e:En}
theorem QF.leave_none (h:QF w f D g n):Calls Tryz.prog 240 #[wp f,.int .i64 0] w fun x w'=>x=.returned (.tuple #[])∧w'=w:=by
 have c1:=h.cells.2
 have hlk:=h.look (k:=0) (by omega) (by omega)
 rw [gv_none h.k0] at hlk
 have h9:=fil_ne f
 have h8:=ent_nil
 clear h
 go_enter Tryz.func240,Tryz.ntmps240
 go_wp2_with fail
 refine bodyPost_ret (results_none rfl _ _ _) rfl ?_
 exact ⟨rfl,rfl⟩
theorem QF.leave_more (h:QF w f D g n) (hk:g.K k=some d) {c:Int}(hc:CanClose D d e c) (hm:0<c-1):Calls Tryz.prog 240 #[wp f,.int .i64 k] w fun x w'=>x=.returned (.tuple #[])∧(∃g' n',QF w' f (closeK D d) g' n'∧Ext w (closeK D d) g g')∧Wt (fun i=>(g.kap i).isSome=true) w w':=by
 obtain ⟨_,hk0,hk1⟩:=h.key k d hk
 have c1:=h.cells.2
 have hlk:=h.look (k:=k) (by omega) hk1
 rw [gv_some hk] at hlk
 have h9:=fil_ne f
 have h8:=ent_ne (g.B d)
 obtain ⟨_,_,e2,_,_,_,ez⟩:=h.ecell hc.ent hc.cnt
 have ez2:=ez 2
 obtain ⟨_,_,_,hkb⟩:=h.ent d e hc.ent
 have h1:=h.count hc.ent (c-1)
 have g1:=tgrown_set w (g.B d) 2 (.int .i64 (c-1))
 obtain ⟨_,_,e2',_,_,_,_⟩:=h1.ecell hc.ent (if_pos rfl)
 rw [closeK_more hc hm]
 have hfin:(∃g' n',QF (w.setCell ⟨g.B d,2,none⟩ (.int .i64 (c-1))) f { D with R:=fun i=>if i=d then some (c-1) else D.R i } g' n'∧Ext w { D with R:=fun i=>if i=d then some (c-1) else D.R i } g g')∧Wt (fun i=>(g.kap i).isSome=true) w (w.setCell ⟨g.B d,2,none⟩ (.int .i64 (c-1))):=⟨⟨g,n,h1,Ext.refl _ _ _⟩,Wt.grown g1 (by rw [hkb];rfl)⟩
 have hw1:wrap64 (c-1)=c-1:=by have:=hc.c0;have:=hc.c1;unfold wrap64;omega
 have hz:((c-1:Int) == 0)=false:=by simp;omega
 generalize ({ D with R:=fun i=>if i=d then some (c-1) else D.R i }:DS)=D2 at *
 generalize g.B d=q at *
 clear h hk hc hm ez hkb h1 g1
 go_enter Tryz.func240,Tryz.ntmps240
 go_wp2_with fail
 go_end0
 exact ⟨rfl,hfin⟩
structure LvS (w w2 w3:World) (f:Nat) (g:QG) (D:DS) (k d c:Int) (e:En):Prop where
 c1:w.cell? ⟨f,1,none⟩=some (.map (some g.gO))
 lk:(Instr.lookup 207 (.map (some g.gO)) (.int .i64 k) false).run Tryz.prog w=.ok (wp (g.B d)) w
 e2:w.cell? ⟨g.B d,2,none⟩=some (.int .i64 c)
 ez:w.frozen? ⟨g.B d,2,none⟩=false
 e2':(w.setCell ⟨g.B d,2,none⟩ (.int .i64 (c-1))).cell? ⟨g.B d,2,none⟩=some (.int .i64 (c-1))
 c1':(w.setCell ⟨g.B d,2,none⟩ (.int .i64 (c-1))).cell? ⟨f,1,none⟩=some (.map (some g.gO))
 del:∀ty,(Builtin.delete_ #[207,3] ty #[.map (some g.gO),.int .i64 k]).run Tryz.prog (w.setCell ⟨g.B d,2,none⟩ (.int .i64 (c-1)))=.ok (.tuple #[]) w3
 wt:Wt (fun i=>(g.kap i).isSome=true) w w3
 tag:g.kap (g.B d)=some (.ent d)
 blk:w3.heap[g.B d]? = some (.cells (ecells g e (c-1)) 238)
 st:∃n',QF w3 f { D with E:=fun i=>if i=d then none else D.E i,R:=fun i=>if i=d then none else if i=d then some (c-1) else D.R i } { g with K:=fun i=>if i=k then none else g.K i } n'
theorem QF.leaving (h:QF w f D g n) (hk:g.K k=some d) {c:Int}(hc:CanClose D d e c):∃w3,LvS w w w3 f g D k d c e:=by
 obtain ⟨_,hk0,hk1⟩:=h.key k d hk
 have hlk:=h.look (k:=k) (by omega) hk1
 rw [gv_some hk] at hlk
 obtain ⟨_,_,e2,_,_,_,ez⟩:=h.ecell hc.ent hc.cnt
 obtain ⟨c9,hc9,hblk,hkb⟩:=h.ent d e hc.ent
 have h1:=h.count hc.ent (c-1)
 have g1:=tgrown_set w (g.B d) 2 (.int .i64 (c-1))
 obtain ⟨_,_,e2',_,_,_,_⟩:=h1.ecell hc.ent (if_pos rfl)
 obtain ⟨w3,hdel,pm,g3⟩:=del_run h1.map Tryz.underlying207 k (wf_few (by omega) (by omega))
 have h3:=h1.gone hk pm g3
 refine ⟨w3,h.cells.2,hlk,e2,ez 2,e2',h1.cells.2,hdel,(Wt.grown g1 (by rw [hkb];rfl)).trans (Wt.grown g3 (by rw [h.tm];rfl)),hkb,?_,_,h3⟩
 rw [g3.block _ (h1.lt _ (by rw [hkb];rfl)) (fun x=>tag_ne hkb h.tm (by simp) (Option.some.inj x))]
 exact ent_put2 hblk _
theorem ext_gone {w3:World}(hk:g.K k=some d) (hE:D'.E d=none) (hg:g'.K=fun i=>if i=k then none else g.K i) (hka:∀i,i<w.heap.size→g'.kap i=g.kap i) (hr:g'.r=g.r) (_:w3=w3):Ext w D' g g':=by
 refine ⟨hka,fun i x hi hx=>?_,hr⟩
 rw [hg]
 show (if i=k then none else g.K i)=some x
 by_cases e1:i=k
 ·rw [e1,hk] at hi
  rw [←Option.some.inj hi,hE] at hx
  cases hx
 ·rw [if_neg e1];exact hi
theorem QF.leave_last (h:QF w f D g n) (hk:g.K k=some d) {c:Int}(hc:Cl D d e c) (hm:¬0<c-1):Calls Tryz.prog 240 #[wp f,.int .i64 k] w fun x w'=>x=.returned (.tuple #[])∧(∃g' n',QF w' f (closeK D d) g' n'∧Ext w (closeK D d) g g')∧Wt (fun i=>(g.kap i).isSome=true) w w':=by
 obtain ⟨w3,L⟩:=h.leaving hk hc.toCanClose
 obtain ⟨n',h3⟩:=L.st
 have hsz:=L.wt.size
 have hSh:Calls Tryz.prog 297 #[wp f,wp (g.B d)] w3 fun x w'=>x=.returned (.tuple #[])∧(∃g' n',QF w' f (closeK D d) g' n'∧Ext w (closeK D d) g g')∧Wt (fun i=>(g.kap i).isSome=true) w w':=by
  by_cases hkd:e.kind=1
  ·have hpv:pv g e=.pointer none:=if_pos hkd
   have hnd:=hc.node hkd
   refine (h3.shut_file (q:=g.B d) L.blk L.tag hkd hc.lv hnd.1 hnd.2).mono ?_
   rintro x w' ⟨rfl,⟨g',a1,a2,a3,a4⟩,wt⟩
   rw [closeK_file hc.toCanClose hm hkd]
   exact ⟨rfl,⟨g',n',a1,ext_gone (w3:=w3) hk (if_pos rfl) a3 (fun i hi=>a2 i (by omega)) a4 rfl⟩,L.wt.trans wt⟩
  ·obtain ⟨q0,q1,p,hp,hpl,f0,f1,i0,i1⟩:=hc.pipe hkd
   have hpv:pv g e=wp (g.Q e.pipe):=if_neg hkd
   have hblk:=L.blk
   rw [ecells,hpv] at hblk
   refine (h3.shut_end (q:=g.B d) (p:=e.pipe) hblk L.tag hkd hp ⟨f0,f1⟩ ⟨i0,i1⟩).mono ?_
   rintro x w' ⟨rfl,a1,wt⟩
   rw [closeK_end hc.toCanClose hm hkd,hp]
   exact ⟨rfl,⟨_,n',a1,ext_gone (w3:=w3) hk (if_pos rfl) rfl (fun i hi=>rfl) rfl rfl⟩,L.wt.trans wt⟩
 have hc1:c=1:=by have:=hc.c0;omega
 subst hc1
 have c1:=L.c1
 have hlk:=L.lk
 have e2:=L.e2
 have ez:=L.ez
 have e2':=L.e2'
 have c1':=L.c1'
 have hdel:=L.del
 have h9:=fil_ne f
 have h8:=ent_ne (g.B d)
 generalize closeK D d=D2 at *
 simp only [show (1:Int)-1=0 by omega] at e2' c1' hdel
 generalize g.B d=q at *
 clear h hk hc hm L h3 hsz
 go_enter Tryz.func240,Tryz.ntmps240
 go_wp2_with (go_at_call 297;refine hSh.mono ?_;rintro x w4 ⟨rfl,hR⟩)
 go_end0
 exact ⟨rfl,hR⟩
theorem QF.leave_ok (h:QF w f D g n) (hk:g.K k=some d) {c:Int}(hc:Cl D d e c):Calls Tryz.prog 240 #[wp f,.int .i64 k] w fun x w'=>x=.returned (.tuple #[])∧(∃g' n',QF w' f (closeK D d) g' n'∧Ext w (closeK D d) g g')∧Wt (fun i=>(g.kap i).isSome=true) w w':=by
 by_cases hm:0<c-1
 ·exact h.leave_more hk hc.toCanClose hm
 ·exact h.leave_last hk hc hm
theorem QF.free_ok (h:QF w f D g n) (t:QTb w b g M N) {i:Nat}(hi:i<8) (hiL:i<N.length) (h0:0<N[i].1) {c:Int}(hc:Cl D N[i].1 e c) (hl:Live (closeK D N[i].1) (N.set i (0,false))) :
 Calls Tryz.prog 142 #[wp f,wp b,.int .i64 (i:Int)] w fun x w'=>x=.returned (.tuple #[])∧QGo w w' f (closeK D N[i].1) g b (N.set i (0,false)):=by
 have hM:i<M.length:=by have:=t.tab.len;omega
 have hk:=t.keyOf hM hiL h0
 obtain ⟨t0,t1⟩:=t.tab.at hi
 have z0:=t.tab.free (i*2)
 have z1:=t.tab.free (i*2+1)
 have hT1:=t.set (i:=i) (0,false) (0,false) (t.tab.put hi (0,false) ⟨by simp,by simp,fun _=>rfl⟩) ⟨rfl,.inl ⟨rfl,rfl⟩⟩
 have g1:=QT.put_grown w b i (.int .i64 0) (.bool false)
 have h1:=h.offTab t.off g1
 obtain ⟨W,hW⟩:∃W,(w.setCell ⟨b,i*2,none⟩ (.int .i64 0)).setCell ⟨b,i*2+1,none⟩ (.bool false)=W:=⟨_,rfl⟩
 simp only at hT1
 rw [hW] at hT1 g1 h1
 have hL:=h1.leave_ok hk hc
 have hfin:∀w',(∃g' n',QF w' f (closeK D N[i].1) g' n'∧Ext W (closeK D N[i].1) g g')→Wt (fun i=>(g.kap i).isSome=true) W w'→QGo w w' f (closeK D N[i].1) g b (N.set i (0,false)):=fun w' hx wt=>by
  obtain ⟨g',n',a1,a2⟩:=hx
  have hsz:W.heap.size=w.heap.size:=by rw [←hW];simp [World.setCell]
  refine ⟨⟨g',n',_,a1,hT1.other a2 (wt.block b hT1.tab.lt (by rw [t.off];simp)) hl,⟨fun j hj=>a2.kap j (by omega),a2.key,a2.r⟩⟩,(Wt.grown g1 (.inr rfl)).trans (wt.mono (fun j hj=>.inl hj))⟩
 generalize closeK D N[i].1=D2 at *
 generalize N.set i (0,false)=N2 at *
 generalize M[i].1=X at *
 generalize M[i].2=Y at *
 have hi8:(i:Int)<8:=by omega
 clear h t hk hc hT1 g1 h1 hl h0
 go_enter Tryz.func142,Tryz.ntmps142
 go_upto_region 2 with fail
 clear t0 t1 z0 z1 hW
 go_wp2_with (go_at_call 240;refine hL.mono ?_;rintro x w4 ⟨rfl,hR,wt⟩)
 go_end0
 exact ⟨rfl,hfin _ hR wt⟩
end
section
variable {w w' w2:World}{f b n:Nat}{D D':DS}{g g':QG}{M N N':Ns}{d k:Int}{e:En}
theorem QF.same (h:QF w f D g n) (t:QTb w b g M N) (hb:Below w.heap.size w w'):QGo w w' f D g b N:=⟨⟨g,n,M,h.below hb,t.below hb,Ext.refl _ _ _⟩,Wt.below _ hb⟩
theorem QGo.upon (hb:Below w.heap.size w w') (h:QGo w' w2 f D' g b N'):QGo w w2 f D' g b N':=by
 obtain ⟨⟨g',n',M',a,c,x⟩,wt⟩:=h
 exact ⟨⟨g',n',M',a,c,⟨fun i hi=>x.kap i (Nat.lt_of_lt_of_le hi hb.size),x.key,x.r⟩⟩,(Wt.below _ hb).trans wt⟩
theorem QF.close_no (h:QF w f D g n) (t:QTb w b g M N) (x:Int) (hx:hasN N x=false):Calls Tryz.prog 57 #[wp f,wp b,.int .i64 x] w fun y w'=>y=.returned (uer 7)∧QGo w w' f D g b N:=by
 have hF:=h.find_no t x hx
 have hs:∀w',Below w.heap.size w w'→QGo w w' f D g b N:=fun w' hb=>h.same t hb
 clear h t hx
 go_enter Tryz.func57,Tryz.ntmps57
 go_wp2_with (go_at_call 141;refine hF.mono ?_;rintro y w1 ⟨rfl,b1⟩)
 go_ret
 exact ⟨rfl,hs _ b1⟩
theorem QF.close_ok (h:QF w f D g n) (t:QTb w b g M N) {i:Nat}(hi:i<8) (hiL:i<N.length) (h0:0<N[i].1) {c:Int}(hc:Cl D N[i].1 e c) (hl:Live (closeK D N[i].1) (N.set i (0,false))) :
 Calls Tryz.prog 57 #[wp f,wp b,.int .i64 (i:Int)] w fun y w'=>y=.returned .nilIface∧QGo w w' f (closeK D N[i].1) g b (N.set i (0,false)):=by
 have hF:=h.find_yes t hi hiL h0
 have hFr:∀V,Below w.heap.size w V→Calls Tryz.prog 142 #[wp f,wp b,.int .i64 (i:Int)] V fun x w'=>x=.returned (.tuple #[])∧QGo w w' f (closeK D N[i].1) g b (N.set i (0,false)):=fun V hV=>by
  refine ((h.below hV).free_ok (t.below hV) hi hiL h0 hc hl).mono ?_
  rintro x w' ⟨rfl,hG⟩
  exact ⟨rfl,hG.upon hV⟩
 generalize closeK D N[i].1=D2 at *
 generalize N.set i (0,false)=N2 at *
 generalize g.B N[i].1=q at *
 clear h t hc hl h0
 go_enter Tryz.func57,Tryz.ntmps57
 go_wp2_with (first
  |(go_at_call 141;refine hF.mono ?_;rintro y w1 ⟨rfl,b1⟩)
  |(go_at_call 142;refine (hFr _ b1).mono ?_;rintro y w2 ⟨rfl,hG⟩))
 go_ret
 exact ⟨rfl,hG⟩
theorem QF.mark_ok (h:QF w f D g n) (t:QTb w b g M N) (x:Int) (c:Bool):Calls Tryz.prog 265 #[wp f,wp b,.int .i64 x,.bool c] w fun y w'=>y=.returned (uev (if hasN N x=true then 0 else 7))∧QGo w w' f D g b (markN N x c):=by
 by_cases hx:hasN N x=true
 ·obtain ⟨i,rfl,hi,hiL,h0⟩:=hasN_at hx t.len
  rw [if_pos hx]
  have hmN:markN N i c=N.set i (N[i].1,c):=by
   unfold markN
   rw [if_pos hx,getD_in hiL,show (i:Int).toNat=i by omega]
  rw [hmN]
  have hM:i<M.length:=by have:=t.tab.len;omega
  have hk:=t.keyOf hM hiL h0
  obtain ⟨_,hk0,_⟩:=h.key _ _ hk
  have hF:=h.find_yes t hi hiL h0
  have hfin:∀V,Below w.heap.size w V→(∃u,V.cell? ⟨b,i*2+1,none⟩=some u)∧V.frozen? ⟨b,i*2+1,none⟩=false∧QGo w (V.setCell ⟨b,i*2+1,none⟩ (.bool c)) f D g b (N.set i (N[i].1,c)):=fun V hV=>by
   have tV:=t.below hV
   have t2:=tV.set (i:=i) (M[i].1,c) (N[i].1,c) (tV.tab.mark hi c (by omega)) ⟨rfl,.inr ⟨h0,hk⟩⟩
   have gg:=tgrown_set V b (i*2+1) (.bool c)
   exact ⟨⟨_,(tV.tab.at hi).2⟩,tV.tab.free _,⟨⟨g,n,_,(h.below hV).offTab t.off gg,t2,Ext.refl _ _ _⟩,(Wt.below _ hV).trans (Wt.grown gg (.inr rfl))⟩⟩
  generalize N.set i (N[i].1,c)=N2 at *
  generalize g.B N[i].1=q at *
  have hi8:(i:Int)<8:=by omega
  clear h t hx hmN hk h0
  go_enter Tryz.func265,Tryz.ntmps265
  go_upto_region 4 with (go_at_call 141;refine hF.mono ?_;rintro y w1 ⟨rfl,b1⟩)
  obtain ⟨⟨u,c1⟩,z1,hG⟩:=hfin _ b1
  clear hfin hF
  go_wp2_with fail
  go_ret
  exact ⟨rfl,hG⟩
 ·have hx':hasN N x=false:=by simpa using hx
  rw [if_neg hx,show markN N x c=N from if_neg hx]
  have hF:=h.find_no t x hx'
  have hs:∀w',Below w.heap.size w w'→QGo w w' f D g b N:=fun w' hb=>h.same t hb
  clear h t hx hx'
  go_enter Tryz.func265,Tryz.ntmps265
  go_wp2_with (go_at_call 141;refine hF.mono ?_;rintro y w1 ⟨rfl,b1⟩)
  go_ret
  exact ⟨rfl,hs _ b1⟩
end
section
variable {w w' w2:World}{f b n:Nat}{D D':DS}{g g':QG}{M N N':Ns}{d k:Int}{e:En}
theorem QF.give_go (h:QF w f D g n) (t:QTb w b g M N) {i:Nat}(hi:i<8) (hk:g.K k=some d) (hd:0<d) (he:D.E d=some e) {c:Int}(hc:D.R d=some c) (hc0:0≤c) (hc1:c<100000) :
 Calls Tryz.prog 239 #[wp f,wp b,.int .i64 (i:Int),.int .i64 k] w fun x w'=>x=.returned (.tuple #[])∧QF w' f (incR D d) g n∧QTb w' b g (M.set i (k,false)) (N.set i (d,false))∧QGo w w' f (incR D d) g b (N.set i (d,false)):=by
 rw [incR_eq hc]
 refine (h.give_ok t hi hk hd he hc hc0 hc1).mono ?_
 rintro x w' ⟨rfl,a1,a2,wt⟩
 exact ⟨rfl,a1,a2,⟨g,n,_,a1,a2,Ext.refl _ _ _⟩,wt⟩
theorem dupD_inc (hx:dupE N k=0):dupD D N k=incR D (N.getD k.toNat (0,false)).1:=if_pos hx
theorem QF.dup_ok (h:QF w f D g n) (t:QTb w b g M N) (x:Int) (hC:Cnted D N) :
 Calls Tryz.prog 205 #[wp f,wp b,.int .i64 x] w fun y w'=>y=.returned (.tuple #[.int .i64 (dupK N x),uev (dupE N x)])∧QGo w w' f (dupD D N x) g b (dupN N x):=by
 have hs:∀w',Below w.heap.size w w'→QGo w w' f D g b N:=fun w' hb=>h.same t hb
 have hLs:∀V,Below w.heap.size w V→Calls Tryz.prog 278 #[wp b] V fun y w'=>y=.returned (.tuple #[.int .i64 (leastN N),.bool (decide (0≤leastN N))])∧Below w.heap.size w w':=fun V hV=>by
  refine ((t.below hV).least_ok (h.below hV)).mono ?_
  rintro y w' ⟨rfl,b1⟩
  exact ⟨rfl,hV.trans (b1.mono hV.size)⟩
 by_cases hx:hasN N x=true
 ·obtain ⟨i,rfl,hi,hiL,h0⟩:=hasN_at hx t.len
  have hF:=h.find_yes t hi hiL h0
  obtain ⟨e,c,he,hc,hc0,hc1⟩:=hC i hiL h0
  have hM:i<M.length:=by have:=t.tab.len;omega
  have hk:=t.keyOf hM hiL h0
  rcases least_lt (N:=N) with hl|⟨j,hl,hjL,hj0⟩
  ·have e1:dupE N i=12:=by unfold dupE;rw [if_pos hx,hl];rfl
   have e2:dupD D N i=D:=by unfold dupD;rw [if_neg (by rw [e1];decide)]
   have e3:dupN N i=N:=by unfold dupN;rw [if_neg (by rw [e1];decide)]
   have e4:dupK N i=0:=by unfold dupK;rw [if_neg (by rw [e1];decide)]
   rw [e1,e2,e3,e4]
   rw [hl] at hLs
   generalize g.B N[i].1=q at *
   clear h t hC e1 e2 e3 e4 hl he hc hc0 hc1 hk h0 hx
   go_enter Tryz.func205,Tryz.ntmps205
   go_wp2_with (first
    |(go_at_call 141;refine hF.mono ?_;rintro y w1 ⟨rfl,b1⟩)
    |(go_at_call 278;refine (hLs _ b1).mono ?_;rintro y w2 ⟨rfl,b2⟩))
   go_ret2
   exact ⟨rfl,hs _ b2⟩
  ·have hj8:j<8:=by have:=t.len;omega
   have e1:dupE N i=0:=by unfold dupE;rw [if_pos hx,hl,if_neg (by omega)]
   have e2:dupD D N i=incR D N[i].1:=by rw [dupD_inc e1,getD_in hiL]
   have e3:dupN N i=N.set j (N[i].1,false):=by unfold dupN;rw [if_pos e1,getD_in hiL,hl,show (j:Int).toNat=j by omega]
   have e4:dupK N i=j:=by unfold dupK;rw [if_pos e1,hl]
   rw [e1,e2,e3,e4]
   rw [hl,show decide ((0:Int)≤(j:Int))=true by simp] at hLs
   have hcell:∀V,Below w.heap.size w V→V.cell? ⟨b,i*2,none⟩=some (.int .i64 M[i].1)∧Calls Tryz.prog 239 #[wp f,wp b,.int .i64 (j:Int),.int .i64 M[i].1] V fun x w'=>x=.returned (.tuple #[])∧QGo w w' f (incR D N[i].1) g b (N.set j (N[i].1,false)):=fun V hV=>by
    refine ⟨((t.below hV).tab.at hi).1,((h.below hV).give_go (t.below hV) hj8 hk h0 he hc hc0 hc1).mono ?_⟩
    rintro x w' ⟨rfl,_,_,hG⟩
    exact ⟨rfl,hG.upon hV⟩
   generalize incR D N[i].1=D2 at *
   generalize N.set j (N[i].1,false)=N2 at *
   generalize g.B N[i].1=q at *
   generalize M[i].1=X at *
   have hi8:(i:Int)<8:=by omega
   clear h t hC e1 e2 e3 e4 hl he hc hc0 hc1 hk h0 hx hj0 hs
   go_enter Tryz.func205,Tryz.ntmps205
   go_upto_region 7 with (first
    |(go_at_call 141;refine hF.mono ?_;rintro y w1 ⟨rfl,b1⟩)
    |(go_at_call 278;refine (hLs _ b1).mono ?_;rintro y w2 ⟨rfl,b2⟩))
   obtain ⟨c0,hGv⟩:=hcell _ b2
   clear hcell hLs hF
   go_wp2_with (go_at_call 239;refine hGv.mono ?_;rintro y w3 ⟨rfl,hG⟩)
   go_ret2
   exact ⟨rfl,hG⟩
 ·have hx':hasN N x=false:=by simpa using hx
  have e1:dupE N x=7:=if_neg hx
  have e2:dupD D N x=D:=by unfold dupD;rw [if_neg (by rw [e1];decide)]
  have e3:dupN N x=N:=by unfold dupN;rw [if_neg (by rw [e1];decide)]
  have e4:dupK N x=0:=by unfold dupK;rw [if_neg (by rw [e1];decide)]
  rw [e1,e2,e3,e4]
  have hF:=h.find_no t x hx'
  clear h t hx hx' e1 e2 e3 e4 hC hLs
  go_enter Tryz.func205,Tryz.ntmps205
  go_wp2_with (go_at_call 141;refine hF.mono ?_;rintro y w1 ⟨rfl,b1⟩)
  go_ret2
  exact ⟨rfl,hs _ b1⟩
theorem QF.dup2_no (h:QF w f D g n) (t:QTb w b g M N) (x y:Int) (hx:hasN N x=false):Calls Tryz.prog 208 #[wp f,wp b,.int .i64 x,.int .i64 y] w fun z w'=>z=.returned (uer 7)∧QGo w w' f D g b N:=by
 have hF:=h.find_no t x hx
 have hs:∀w',Below w.heap.size w w'→QGo w w' f D g b N:=fun w' hb=>h.same t hb
 clear h t hx
 go_enter Tryz.func208,Tryz.ntmps208
 go_wp2_with (go_at_call 141;refine hF.mono ?_;rintro y w1 ⟨rfl,b1⟩)
 go_ret
 exact ⟨rfl,hs _ b1⟩
theorem QF.dup2_range (h:QF w f D g n) (t:QTb w b g M N) (x y:Int) (hx:hasN N x=true) (hy:¬(0≤y∧y≤7)):Calls Tryz.prog 208 #[wp f,wp b,.int .i64 x,.int .i64 y] w fun z w'=>z=.returned (uer 2)∧QGo w w' f D g b N:=by
 obtain ⟨i,rfl,hi,hiL,h0⟩:=hasN_at hx t.len
 have hF:=h.find_yes t hi hiL h0
 have hs:∀w',Below w.heap.size w w'→QGo w w' f D g b N:=fun w' hb=>h.same t hb
 generalize g.B N[i].1=q at *
 clear h t hx h0
 by_cases hy0:y<0
 ·clear hy
  go_enter Tryz.func208,Tryz.ntmps208
  go_wp2_with (go_at_call 141;refine hF.mono ?_;rintro y w1 ⟨rfl,b1⟩)
  go_ret
  exact ⟨rfl,hs _ b1⟩
 ·have hy8:8≤y:=by omega
  clear hy
  go_enter Tryz.func208,Tryz.ntmps208
  go_wp2_with (go_at_call 141;refine hF.mono ?_;rintro y w1 ⟨rfl,b1⟩)
  go_ret
  exact ⟨rfl,hs _ b1⟩
theorem QF.dup2_same (h:QF w f D g n) (t:QTb w b g M N) (x:Int) (hx:hasN N x=true):Calls Tryz.prog 208 #[wp f,wp b,.int .i64 x,.int .i64 x] w fun z w'=>z=.returned .nilIface∧QGo w w' f D g b N:=by
 obtain ⟨i,rfl,hi,hiL,h0⟩:=hasN_at hx t.len
 have hF:=h.find_yes t hi hiL h0
 have hs:∀w',Below w.heap.size w w'→QGo w w' f D g b N:=fun w' hb=>h.same t hb
 generalize g.B N[i].1=q at *
 clear h t hx h0
 have hi8:(i:Int)<8:=by omega
 go_enter Tryz.func208,Tryz.ntmps208
 go_wp2_with (go_at_call 141;refine hF.mono ?_;rintro y w1 ⟨rfl,b1⟩)
 go_ret
 exact ⟨rfl,hs _ b1⟩
theorem QF.dup2_go (h:QF w f D g n) (t:QTb w b g M N) {i j:Nat}(hi:i<8) (hj:j<8) (hiL:i<N.length) (hjL:j<N.length) (hne:i≠j) (h0:0<N[i].1) (hC:Cnted D N) {D2:DS}
 (hD2:(N[j].1=0∧D2=incR D N[i].1)∨(0<N[j].1∧D2=closeK (incR D N[i].1) N[j].1∧(∃e c,Cl (incR D N[i].1) N[j].1 e c))) (hl:Live D2 (N.set j (N[i].1,false))) :
 Calls Tryz.prog 208 #[wp f,wp b,.int .i64 (i:Int),.int .i64 (j:Int)] w fun z w'=>z=.returned .nilIface∧QGo w w' f D2 g b (N.set j (N[i].1,false)):=by
 have hF:=h.find_yes t hi hiL h0
 obtain ⟨e,c,he,hc,hc0,hc1⟩:=hC i hiL h0
 have hM:i<M.length:=by have:=t.tab.len;omega
 have hMj:j<M.length:=by have:=t.tab.len;omega
 have hk:=t.keyOf hM hiL h0
 have hcell:∀V,Below w.heap.size w V→V.cell? ⟨b,i*2,none⟩=some (.int .i64 M[i].1)∧V.cell? ⟨b,j*2,none⟩=some (.int .i64 M[j].1)∧Calls Tryz.prog 239 #[wp f,wp b,.int .i64 (j:Int),.int .i64 M[i].1] V fun x w'=>x=.returned (.tuple #[])∧Calls Tryz.prog 240 #[wp f,.int .i64 M[j].1] w' fun y w2=>y=.returned (.tuple #[])∧QGo w w2 f D2 g b (N.set j (N[i].1,false)):=fun V hV=>by
  refine ⟨((t.below hV).tab.at hi).1,((t.below hV).tab.at hj).1,((h.below hV).give_go (t.below hV) hj hk h0 he hc hc0 hc1).mono ?_⟩
  rintro x w' ⟨rfl,a1,a2,hG⟩
  refine ⟨rfl,?_⟩
  rcases hD2 with ⟨z0,rfl⟩|⟨z0,rfl,e2,c2,hcl⟩
  ·have hz:=(t.pos h j hMj hjL).2.2 z0
   rw [hz]
   refine a1.leave_none.mono ?_
   rintro y w2 ⟨rfl,rfl⟩
   exact ⟨rfl,hG.upon hV⟩
  ·refine (a1.leave_ok (t.keyOf hMj hjL z0) hcl).mono ?_
   rintro y w2 ⟨rfl,⟨g',n',b1,b2⟩,wt2⟩
   have hsz:=hG.wt.size
   have hsV:=hV.size
   refine ⟨rfl,⟨⟨g',n',_,b1,a2.other b2 (wt2.block b a2.tab.lt (by rw [t.off];simp)) hl,⟨fun x hx=>b2.kap x (by omega),b2.key,b2.r⟩⟩,(Wt.below _ hV).trans (hG.wt.trans (wt2.mono (fun x hx=>.inl hx)))⟩⟩
 generalize N.set j (N[i].1,false)=N2 at *
 generalize g.B N[i].1=q at *
 generalize M[i].1=X at *
 generalize M[j].1=Y at *
 have hi8:(i:Int)<8:=by omega
 have hj8:(j:Int)<8:=by omega
 have hij:((i:Int) == (j:Int))=false:=by simp;omega
 clear h t hC hD2 hl he hc hc0 hc1 hk h0 hne
 go_enter Tryz.func208,Tryz.ntmps208
 go_upto_region 8 with (go_at_call 141;refine hF.mono ?_;rintro y w1 ⟨rfl,b1⟩)
 obtain ⟨c0,c1,hGv⟩:=hcell _ b1
 clear hcell hF
 go_wp2_with (first
  |(go_at_call 239;refine hGv.mono ?_;rintro y w3 ⟨rfl,hLv⟩)
  |(go_at_call 240;refine hLv.mono ?_;rintro y w4 ⟨rfl,hG⟩))
 go_ret
 exact ⟨rfl,hG⟩
end
section
variable {w w' w2 w0:World}{f b n q:Nat}{D D':DS}{g g':QG}{M N N':Ns}{d k:Int}{e:En}
theorem QF.kfew (h:QF w f D g n) {i:Nat}(hi:∀j:Nat,1≤j→j≤i→(g.K j).isSome=true):i≤n:=by
 obtain ⟨Dt,_,_,h1,h2,h3⟩:=h.map.data
 have h4:=int_sub (a:=(List.range i).map (fun j:Nat=>((j+1:Nat):Int))) (b:=Go.intKeys Dt) (List.pairwise_map.2 (List.nodup_range.imp (fun {a b} h e=>h (by omega)))) (fun x hx=>by
  obtain ⟨j,hj,rfl⟩:=List.mem_map.1 hx
  have:=List.mem_range.1 hj
  refine (h3 _).2 ?_
  rw [Option.isSome_map]
  exact hi (j+1) (by omega) (by omega))
 rw [h2] at h4
 simpa using h4
theorem newE_inc (D:DS) (e:En):incR (newE D e) (D.nx+1)=addD D e:=by
 unfold incR newE addD
 congr 1
 funext j
 by_cases ej:j=D.nx+1
 ·simp [ej]
 ·simp [ej]
def QGoQ (w w':World) (f:Nat) (D':DS) (g:QG) (b:Nat) (N':Ns) (n':Nat):Prop:=(∃g' M',QF w' f D' g' n'∧QTb w' b g' M' N'∧Ext w D' g g'∧g'.Q=g.Q)∧Wt (fun i=>(g.kap i).isSome=true∨i=b) w w'
theorem QGoQ.go {n':Nat}(h:QGoQ w w' f D' g b N' n'):QGo w w' f D' g b N':=by
 obtain ⟨⟨g',M',a,c,x,_⟩,wt⟩:=h
 exact ⟨⟨g',n',M',a,c,x⟩,wt⟩
structure AdS (w0 w w2:World) (f b q n:Nat) (g:QG) (D:DS) (N:Ns) (k:Int) (e:En):Prop where
 run:(Instr.mapUpdate 207 (.map (some g.gO)) (.int .i64 k) (wp q)).run Tryz.prog w=.ok () w2
 least:Calls Tryz.prog 278 #[wp b] w2 fun y w'=>y=.returned (.tuple #[.int .i64 (leastN N),.bool (decide (0≤leastN N))])∧Calls Tryz.prog 239 #[wp f,wp b,.int .i64 (leastN N),.int .i64 k] w' fun y w3=>y=.returned (.tuple #[])∧QGoQ w0 w3 f (addD D e) g b (addN D N) (n+1)
theorem QF.adding (h:QF w0 f D g n) (t:QTb w0 b g M N) (hb:Below w0.heap.size w0 w) (hq:w0.heap.size≤q) (hw:w.heap[q]? = some (.cells (ecells g e 0) 238)) (hE:D.E (D.nx+1)=none) (h0:0≤D.nx) (hl:¬leastN N<0) (hL:Live D N) (hn:n<1000) (hk:g.K k=none) (hk0:0<k) (hk1:k<100000):∃w2,AdS w0 w w2 f b q n g D N k e:=by
 have hB:=h.below hb
 obtain ⟨w2,hrun,pm,g2⟩:=hB.map.put Tryz.underlying207 (by unfold maxLen;omega) k (wf_few (by omega) (by omega)) (wp q)
 rw [hk] at pm
 obtain ⟨g',a1,a2,a3,a4,a5,a6,a7⟩:=h.newEnt hq hb hE hk hk0 hk1 hw pm g2
 have hx:Ext w0 (newE D e) g g':=⟨a2,fun i x hi _=>by
  rw [a3]
  show (if i=k then some (D.nx+1) else g.K i)=some x
  rw [if_neg (fun e9=>by rw [e9,hk] at hi;cases hi)]
  exact hi,a4⟩
 have hLn:Live (newE D e) N:=fun i hi hp=>by
  show (if N[i].1=D.nx+1 then some e else D.E N[i].1).isSome=true
  split
  ·rfl
  ·exact hL i hi hp
 have wt2:Wt (fun i=>(g.kap i).isSome=true∨i=b) w0 w2:=(Wt.below _ hb).trans (Wt.grown g2 (.inl (by rw [h.tm];rfl)))
 have hbk:w2.heap[b]? = w0.heap[b]? := by
  rw [g2.block b (t.below hb).tab.lt (fun x=>by have:=h.tm;rw [←Option.some.inj x,t.off] at this;cases this)]
  exact hb.block b t.tab.lt
 have t2:QTb w2 b g' M N:=t.other hx hbk hLn
 refine ⟨w2,hrun,((t2.least_ok a1).mono ?_)⟩
 rintro y w3 ⟨rfl,b3⟩
 refine ⟨rfl,?_⟩
 rcases least_lt (N:=N) with hx9|⟨j,hj,hjL,hj0⟩
 ·omega
 have hj8:j<8:=by have:=t.len;omega
 rw [hj]
 refine ((a1.below b3).give_go (t2.below b3) hj8 (k:=k) (d:=D.nx+1) (by rw [a3];exact if_pos rfl) (by omega) (show (newE D e).E (D.nx+1)=some e from if_pos rfl) (show (newE D e).R (D.nx+1)=some 0 from if_pos rfl) (by omega) (by omega)).mono ?_
 rintro y w4 ⟨rfl,c1,c2,hG⟩
 rw [newE_inc] at c1
 have hN:addN D N=N.set j (D.nx+1,false):=by unfold addN;rw [hj,show (j:Int).toNat=j by omega]
 rw [hN]
 refine ⟨rfl,⟨⟨g',_,c1,c2,⟨a2,fun i x hi _=>by
  rw [a3]
  show (if i=k then some (D.nx+1) else g.K i)=some x
  rw [if_neg (fun e9=>by rw [e9,hk] at hi;cases hi)]
  exact hi,a4⟩,a7⟩,?_⟩⟩
 have hw4:=hG.wt
 refine ⟨hw4.os.trans (b3.os.trans wt2.os),hw4.tape.trans (b3.tape.trans wt2.tape),hw4.output.trans (b3.output.trans wt2.output),Nat.le_trans wt2.size (Nat.le_trans b3.size hw4.size),fun i hi hA=>?_⟩
 have hsz:=wt2.size
 have hsz3:=b3.size
 rw [hw4.block i (by omega) (fun hx=>hA (by
  rcases hx with hx|hx
  ·rw [a2 i hi] at hx;exact .inl hx
  ·exact .inr hx)),b3.block i (by omega)]
 exact wt2.block i hi hA
theorem QF.add_ok (h:QF w0 f D g n) (t:QTb w0 b g M N) (hb:Below w0.heap.size w0 w) (hq:w0.heap.size≤q) (hw:w.heap[q]? = some (.cells (ecells g e 0) 238)) (hE:D.E (D.nx+1)=none) (h0:0≤D.nx) (hl:¬leastN N<0) (hL:Live D N) (hn:n<1000) :
 Calls Tryz.prog 236 #[wp f,wp b,wp q] w fun x w'=>x=.returned (.int .i64 (leastN N))∧QGoQ w0 w' f (addD D e) g b (addN D N) (n+1):=by
 have hB:=h.below hb
 have c1:=hB.cells.2
 have h8:=ent_ne
 have h7:=ent_nil
 have HA:Aside (∀k:Int,g.K k=none→0<k→k<100000→∃w2,AdS w0 w w2 f b q n g D N k e):=fun k hk hk0 hk1=>h.adding t hb hq hw hE h0 hl hL hn hk hk0 hk1
 have HK:Aside (∀i:Nat,(∀j:Nat,1≤j→j≤i→(g.K j).isSome=true)→i≤n):=fun i hi=>h.kfew hi
 have HL:Aside (∀k:Int,0≤k→k<100000→(Instr.lookup 207 (.map (some g.gO)) (.int .i64 k) false).run Tryz.prog w=.ok (gv g k) w):=fun k h0 h1=>hB.look h0 h1
 have h9:=fil_ne f
 have hen:∀q (W:World),(binOp BinOp.neq 232 (wp q) (.pointer none)).run Tryz.prog W=.ok (.bool true) W:=fun q W=>by kernel_rfl
 have hel:∀(W:World),(binOp BinOp.neq 232 (.pointer none) (.pointer none)).run Tryz.prog W=.ok (.bool false) W:=fun W=>by kernel_rfl
 have HN:Aside (n<1000):=hn
 clear h t hb hq hw hE h0 hl hL hn hB
 go_enter Tryz.func236,Tryz.ntmps236
 go_wp2_with fail
 go_loopg [7] n (fun mm s7 wr=>∃i:Nat,Aside (i+mm=n)∧s7=.int .i64 ((i:Int)+1)∧Aside (∀j:Nat,1≤j→j≤i→(g.K j).isSome=true)∧wr=w)
 case atStart=>exact ⟨0,(show 0+n=n by omega),rfl,fun j h1 h2=>by omega,rfl⟩
 case round=>
  obtain ⟨i,HI,rfl,hall,hwr⟩:=hrel
  subst hwr
  have hi9:(i:Int)<1000:=by have:=HI.out;have:=HN.out;omega
  have hlk:=HL.out ((i:Int)+1) (by omega) (by omega)
  cases hK:g.K ((i:Int)+1) with
  |some d=>
   rw [gv_some hK] at hlk
   have HX:Aside (∀j:Nat,1≤j→j≤i+1→(g.K j).isSome=true):=fun j h1 h2=>by
    by_cases e1:j=i+1
    ·subst e1;rw [show ((i+1:Nat):Int)=(i:Int)+1 by omega,hK];rfl
    ·exact hall.out j h1 (by omega)
   have HI2:Aside (i+1≤n):=HK.out (i+1) HX.out
   clear hK
   go_wp2_with fail
   go_roundg (n-(i+1))
   case measure=>have:=HI.out;have:=HI2.out;omega
   case rel=>exact ⟨i+1,(show i+1+(n-(i+1))=n by have:=HI2.out;omega),by rw [show ((i+1:Nat):Int)+1=(i:Int)+1+1 by omega],HX,rfl⟩
  |none=>
   rw [gv_none hK] at hlk
   obtain ⟨w2,A⟩:=HA.out ((i:Int)+1) hK (by omega) (by omega)
   have hrun:=A.run
   have hLs:=A.least
   clear A hK
   go_wp2_with (first
    |(go_at_call 278;refine hLs.mono ?_;rintro y w3 ⟨rfl,hGv⟩)
    |(go_at_call 239;refine hGv.mono ?_;rintro y w4 ⟨rfl,hG⟩))
   go_ret
   exact ⟨rfl,hG⟩
end
structure QSt (w w':World) (f:Nat) (D:DS) (T':Wd) (g:QG) (n b:Nat) (M N:Ns):Prop where
 ex:∃g',QF w' f { D with T:=T' } g' n∧QTb w' b g' M N∧(∀i,i<w.heap.size→g'.kap i=g.kap i)∧g'.K=g.K∧g'.r=g.r∧g'.B=g.B
 wt:Wt (fun i=>(g.kap i).isSome=true∨i=b) w w'
section
variable {w w' w2 w0 w1:World}{f b n q:Nat}{D D':DS}{g g' g1:QG}{M N N':Ns}{d k m:Int}{e:En}{T':Wd}
theorem QTb.sameK (t:QTb w b g M N) (hk:w'.heap[b]? = w.heap[b]?) (hx:∀i,i<w.heap.size→g'.kap i=g.kap i) (hK:g'.K=g.K):QTb w' b g' M N:=
 ⟨t.tab.keep hk,(hx b t.tab.lt).trans t.off,t.len,by rw [hK];exact t.rel⟩
theorem QF.treeGo (h:QF w f D g n) (t:QTb w b g M N) {O O':Nat→Prop}(hO:∀i,O i→g.kap i=some .tree) (p:PT w' g.r T' O') (st:Stp w w' O O'):QSt w w' f D T' g n b M N:=by
 obtain ⟨g',a1,a2,a3,a4,a5⟩:=h.turn hO p st
 have hb:w'.heap[b]? = w.heap[b]? := st.wt.block b t.tab.lt (fun o=>by have:=hO b o;rw [t.off] at this;cases this)
 exact ⟨⟨g',a1,t.sameK hb a2 a3,a2,a3,a4,a5⟩,st.wt.mono (fun i hi=>.inl (by rw [hO i hi];rfl))⟩
theorem QF.still (h:QF w f D g n) (t:QTb w b g M N) (hb:Below w.heap.size w w'):QSt w w' f D D.T g n b M N:=⟨⟨g,h.below hb,t.below hb,fun _ _=>rfl,rfl,rfl,rfl⟩,Wt.below _ hb⟩
theorem QSt.upon (hb:Below w.heap.size w w1) (h:QSt w1 w' f D T' g n b M N):QSt w w' f D T' g n b M N:=by
 obtain ⟨⟨g',a1,a2,a3,a4⟩,wt⟩:=h
 exact ⟨⟨g',a1,a2,fun i hi=>a3 i (Nat.lt_of_lt_of_le hi hb.size),a4⟩,(Wt.below _ hb).trans wt⟩
theorem QSt.go (h:QSt w w' f D T' g n b M N):QGo w w' f { D with T:=T' } g b N:=by
 obtain ⟨⟨g',a1,a2,a3,a4,a5,_⟩,wt⟩:=h
 exact ⟨⟨g',n,M,a1,a2,a3,fun k d hk _=>by rw [a4];exact hk,a5⟩,wt⟩
theorem Wt.weaken {A A':Nat→Prop}(h:Wt A w w') (k:Wt A' w' w2) (hA:∀i,i<w.heap.size→A' i→A i):Wt A w w2:=
 ⟨k.os.trans h.os,k.tape.trans h.tape,k.output.trans h.output,Nat.le_trans h.size k.size,fun i hi hn=>(k.block i (Nat.lt_of_lt_of_le hi h.size) (fun z=>hn (hA i hi z))).trans (h.block i hi hn)⟩
theorem QGo.after (hx:∀i,i<w.heap.size→g1.kap i=g.kap i) (hK:g1.K=g.K) (hr:g1.r=g.r) (wt:Wt (fun i=>(g.kap i).isSome=true∨i=b) w w1) (h:QGo w1 w2 f D' g1 b N'):QGo w w2 f D' g b N':=by
 obtain ⟨⟨g',n',M',a1,a2,a3⟩,wt2⟩:=h
 refine ⟨⟨g',n',M',a1,a2,⟨fun i hi=>(a3.kap i (Nat.lt_of_lt_of_le hi wt.size)).trans (hx i hi),fun k d hk hd=>a3.key k d (by rw [hK];exact hk) hd,a3.r.trans hr⟩⟩,wt.weaken wt2 (fun i hi z=>by
  rcases z with z|z
  ·exact .inl (by rw [←hx i hi];exact z)
  ·exact .inr z)⟩
theorem QF.find1 (h:QF w f D g n) (hT:TrLv D.T) (p:List UInt8) (hp:p.length<100000) (hm:w.cell? ⟨4,0,none⟩=some (.int .i64 m)):Calls Tryz.prog 307 #[wp g.r,tx p] w fun e w'=>e=.returned (.tuple #[.int .i64 (findT D.T p).1,uev (findT D.T p).2])∧Below w.heap.size w w':=by
 obtain ⟨O,pt,hO⟩:=h.tree
 obtain ⟨gN,s,B,G,V,pt⟩:=pt
 exact pt.find_ok hT.toTrOk (pt.num.pos hT.toTrOk) p hp m hm
theorem QF.hold1 (h:QF w f D g n) (t:QTb w b g M N) (hT:TrLv D.T) (x:Int) (hx0:0≤x) (hx1:x<100000) (hx:∀b y,D.T x=some (.file b y)→y+1≤1000):Calls Tryz.prog 277 #[wp g.r,.int .i64 x] w fun e w'=>e=.returned (uev (holdE D.T x 1))∧QSt w w' f D (holdN D.T x 1) g n b M N:=by
 obtain ⟨O,pt,hO⟩:=h.tree
 refine (pt.hold_ok hT x (wf_few hx0 (by omega)) hx).mono ?_
 rintro e w' ⟨rfl,p',st⟩
 exact ⟨rfl,h.treeGo t hO p' st⟩
theorem QF.make1 (h:QF w f D g n) (t:QTb w b g M N) (hT:TrLv D.T) {s:Nat}(hs:IsNum D.T s) (p:List UInt8) (hp:p.length<100000) (hm:w.cell? ⟨4,0,none⟩=some (.int .i64 m)) (hC:∀k C,D.T k=some (.dir C)→C.length≤1000) :
 Calls Tryz.prog 322 #[wp g.r,tx p] w fun e w'=>(makeE D.T s p≠0∧e=.returned (.tuple #[.int .i64 0,uer (makeE D.T s p)])∧QSt w w' f D D.T g n b M N)∨(makeE D.T s p=0∧∃k,IsFree D.T k∧k<64∧e=.returned (.tuple #[.int .i64 k,.nilIface])∧QSt w w' f D (makeN D.T p false k) g n b M N):=by
 obtain ⟨O,pt,hO⟩:=h.tree
 refine (pt.create_ok hT hs p hp m hm hC).mono ?_
 rintro e w' (⟨a,rfl,p',st⟩|⟨a,k,O',b1,c,rfl,p',st⟩)
 ·exact .inl ⟨a,rfl,h.treeGo t hO p' st⟩
 ·exact .inr ⟨a,k,b1,c,rfl,h.treeGo t hO p' st⟩
theorem tellU (c:Int) (w:World) (hg:w.cell? ⟨0,0,none⟩=some errT):Calls Tryz.prog 17 #[uev c] w fun e w'=>e=.returned (.int .i64 c)∧Below w.heap.size w w':=by
 by_cases h:c=0
 ·subst h
  refine (tell_nil w).mono ?_
  rintro e w' ⟨rfl,rfl⟩
  exact ⟨rfl,Below.refl _ _⟩
 ·rw [uev_ne h];exact tell_eno c w hg
theorem cell_below {v:Value}{q:Nat}(hg:w.cell? ⟨q,0,none⟩=some v) (hb:Below w.heap.size w w'):w'.cell? ⟨q,0,none⟩=some v:=by
 rw [hb.cell (p:=⟨q,0,none⟩) (World.block_lt_of_cell? w _ hg)];exact hg
theorem QF.node_find (h:QF w f D g n) (hT:TrLv D.T) (p:List UInt8) (hp:p.length<100000) (hm:w.cell? ⟨4,0,none⟩=some (.int .i64 m)) (hg:w.cell? ⟨0,0,none⟩=some errT) (mk:Bool) (hmk:¬((findT D.T p).2=7∧mk=true)) :
 Calls Tryz.prog 276 #[wp f,tx p,.bool mk] w fun e w'=>e=.returned (.tuple #[.int .i64 (findT D.T p).1,uev (findT D.T p).2])∧Below w.heap.size w w':=by
 have hF:=h.find1 hT p hp hm
 have c0:=h.cells.1
 have hTl:∀V,Below w.heap.size w V→Calls Tryz.prog 17 #[uev (findT D.T p).2] V fun e w'=>e=.returned (.int .i64 (findT D.T p).2)∧Below w.heap.size w w':=fun V hV=>by
  refine (tellU _ V (cell_below hg hV)).mono ?_
  rintro e w' ⟨rfl,b1⟩
  exact ⟨rfl,hV.trans (b1.mono hV.size)⟩
 generalize (findT D.T p).1=k at *
 generalize (findT D.T p).2=c at *
 clear h hT hp hm hg
 cases mk with
 |false=>
  clear hmk hTl
  generalize uev c=U at *
  go_enter Tryz.func276,Tryz.ntmps276
  go_wp2_with (go_at_call 307;refine hF.mono ?_;rintro y w1 ⟨rfl,b1⟩)
  go_ret2
  exact ⟨rfl,b1⟩
 |true=>
  have hc7:(c == 7)=false:=by simpa using hmk
  clear hmk
  generalize uev c=U at *
  go_enter Tryz.func276,Tryz.ntmps276
  go_wp2_with (first
   |(go_at_call 307;refine hF.mono ?_;rintro y w1 ⟨rfl,b1⟩)
   |(go_at_call 17;refine (hTl _ b1).mono ?_;rintro y w2 ⟨rfl,b2⟩))
  go_ret2
  exact ⟨rfl,b2⟩
theorem QF.node_make (h:QF w f D g n) (t:QTb w b g M N) (hT:TrLv D.T) {s:Nat}(hs:IsNum D.T s) (p:List UInt8) (hp:p.length<100000) (hm:w.cell? ⟨4,0,none⟩=some (.int .i64 m)) (hg:w.cell? ⟨0,0,none⟩=some errT) (hC:∀k C,D.T k=some (.dir C)→C.length≤1000) (hE:(findT D.T p).2=7) :
 Calls Tryz.prog 276 #[wp f,tx p,.bool true] w fun e w'=>(makeE D.T s p≠0∧e=.returned (.tuple #[.int .i64 0,uer (makeE D.T s p)])∧QSt w w' f D D.T g n b M N)∨(makeE D.T s p=0∧∃k,IsFree D.T k∧k<64∧e=.returned (.tuple #[.int .i64 k,.nilIface])∧QSt w w' f D (makeN D.T p false k) g n b M N):=by
 have hF:=h.find1 hT p hp hm
 rw [hE] at hF
 have c0:=h.cells.1
 have hTl:∀V,Below w.heap.size w V→Calls Tryz.prog 17 #[uev 7] V fun e w'=>e=.returned (.int .i64 7)∧Below w.heap.size w w':=fun V hV=>by
  refine (tellU _ V (cell_below hg hV)).mono ?_
  rintro e w' ⟨rfl,b1⟩
  exact ⟨rfl,hV.trans (b1.mono hV.size)⟩
 have hMk:∀V,Below w.heap.size w V→V.cell? ⟨f,0,none⟩=some (wp g.r)∧Calls Tryz.prog 322 #[wp g.r,tx p] V fun e w'=>∃k c,e=.returned (.tuple #[.int .i64 k,uev c])∧((makeE D.T s p≠0∧k=0∧c=makeE D.T s p∧QSt w w' f D D.T g n b M N)∨(makeE D.T s p=0∧IsFree D.T k∧k<64∧c=0∧QSt w w' f D (makeN D.T p false k) g n b M N)):=fun V hV=>by
  refine ⟨(h.below hV).cells.1,((h.below hV).make1 (t.below hV) hT hs p hp (cell_below hm hV) hC).mono ?_⟩
  rintro e w' (⟨a,rfl,st⟩|⟨a,k,b1,c,rfl,st⟩)
  ·exact ⟨0,makeE D.T s p,by rw [uev_ne a],.inl ⟨a,rfl,rfl,st.upon hV⟩⟩
  ·exact ⟨k,0,rfl,.inr ⟨a,b1,c,rfl,st.upon hV⟩⟩
 have HQ:Aside (∀(w':World) (k c:Int),((makeE D.T s p≠0∧k=0∧c=makeE D.T s p∧QSt w w' f D D.T g n b M N)∨(makeE D.T s p=0∧IsFree D.T k∧k<64∧c=0∧QSt w w' f D (makeN D.T p false k) g n b M N))→((makeE D.T s p≠0∧Ending.returned (.tuple #[.int .i64 k,uev c])=.returned (.tuple #[.int .i64 0,uer (makeE D.T s p)])∧QSt w w' f D D.T g n b M N)∨(makeE D.T s p=0∧∃j,IsFree D.T j∧j<64∧Ending.returned (.tuple #[.int .i64 k,uev c])=.returned (.tuple #[.int .i64 j,.nilIface])∧QSt w w' f D (makeN D.T p false j) g n b M N))):=fun w' k c hx=>by
  rcases hx with ⟨a,rfl,rfl,st⟩|⟨a,b1,b2,rfl,st⟩
  ·exact .inl ⟨a,by rw [uev_ne a],st⟩
  ·exact .inr ⟨a,k,b1,b2,rfl,st⟩
 have HM:Aside (∀V,Below w.heap.size w V→V.cell? ⟨f,0,none⟩=some (wp g.r)∧Calls Tryz.prog 322 #[wp g.r,tx p] V fun e w'=>∃k c,e=.returned (.tuple #[.int .i64 k,uev c])∧((makeE D.T s p≠0∧k=0∧c=makeE D.T s p∧QSt w w' f D D.T g n b M N)∨(makeE D.T s p=0∧IsFree D.T k∧k<64∧c=0∧QSt w w' f D (makeN D.T p false k) g n b M N))):=hMk
 generalize (findT D.T p).1=k0 at *
 clear h t hT hp hm hg hE hC hs hMk
 go_enter Tryz.func276,Tryz.ntmps276
 go_upto_region 3 with (first
  |(go_at_call 307;refine hF.mono ?_;rintro y w1 ⟨rfl,b1⟩)
  |(go_at_call 17;refine (hTl _ b1).mono ?_;rintro y w2 ⟨rfl,b2⟩))
 obtain ⟨c2,hMk⟩:=HM.out _ b2
 clear hF hTl c0
 go_wp2_with (go_at_call 322;refine hMk.mono ?_;rintro y w3 ⟨k,c,rfl,hR⟩;have HR:Aside _:=hR;clear hR)
 go_ret2
 exact HQ.out _ _ _ HR.out
end
section
variable {w w' w2 w0 w1:World}{f b n q k j:Nat}{D D' D1 D2:DS}{g g' g1:QG}{M M1 N N' N1 N2:Ns}{d m:Int}{e:En}{T':Wd}{Ts:List Ns}
theorem QGo.comp (h:QF w f D g n) (wt:Wt (fun i=>(g.kap i).isSome=true∨i=b) w w1) (hx:Ext w D1 g g1) (h2:QGo w1 w2 f D2 g1 b N2) (hs:∀d,(D.E d).isSome=true→(D2.E d).isSome=true→(D1.E d).isSome=true):QGo w w2 f D2 g b N2:=by
 obtain ⟨⟨g2,n2,M2,a1,a2,a3⟩,wt2⟩:=h2
 refine ⟨⟨g2,n2,M2,a1,a2,⟨fun i hi=>(a3.kap i (Nat.lt_of_lt_of_le hi wt.size)).trans (hx.kap i hi),fun k d hk hd=>a3.key k d (hx.key k d hk (hs d (h.key k d hk).1 hd)) hd,a3.r.trans hx.r⟩⟩,wt.weaken wt2 (fun i hi z=>?_)⟩
 rcases z with z|z
 ·exact .inl (by rw [←hx.kap i hi];exact z)
 ·exact .inr z
theorem QGo.freed (h:QF w f D g n) (I:Inv D Ts k) (hk:k≤900) (hj:j<Ts.length) (hN:Ts[j]=N) {all:Bool}{i:Nat}(hi:i<8) (hiL:i<N.length) (h0:0<N[i].1) (ha:all=true∨N[i].2=true) (hG:QGo w w1 f (freeS all D N i).1 g b (freeS all D N i).2) :
 Calls Tryz.prog 142 #[wp f,wp b,.int .i64 (i:Int)] w1 fun x w'=>x=.returned (.tuple #[])∧QGo w w' f (freeS all D N (i+1)).1 g b (freeS all D N (i+1)).2:=by
 have hiF:i<(freeS all D N i).2.length:=by rw [(freeS_tab all D N i).1];exact hiL
 have hat:=freeS_at (D:=D) (all:=all) hiL hiF
 have hD:N.getD i (0,false)=N[i]:=by rw [List.getD_eq_getElem?_getD,List.getElem?_eq_getElem hiL];rfl
 have e1:freeS all D N (i+1)=(closeK (freeS all D N i).1 N[i].1,(freeS all D N i).2.set i (0,false)):=by
  rw [freeS,hD,if_pos ⟨h0,ha⟩]
 have I1:=I.free hk hj all i (by omega)
 have I2:=I.free hk hj all (i+1) (by omega)
 rw [hN] at I1 I2
 rw [e1] at I2 ⊢
 have hj1:j<(Ts.set j (freeS all D N i).2).length:=by rw [List.length_set];exact hj
 have hj2:j<(Ts.set j ((freeS all D N i).2.set i (0,false))).length:=by rw [List.length_set];exact hj
 have hg1:=getT_set hj (freeS all D N i).2 hj1
 have hg2:=getT_set hj ((freeS all D N i).2.set i (0,false)) hj2
 have hl:=I2.live hj2
 rw [hg2] at hl
 have hcn:=I1.cl hj1 (i:=i) (by rw [hg1];exact hiF)
 simp only [hg1] at hcn
 rw [hat] at hcn
 obtain ⟨e,cl⟩:=hcn h0
 obtain ⟨⟨g1,n1,M1,a1,a2,a3⟩,wt⟩:=hG
 have hf:=a1.free_ok a2 hi hiF (by rw [hat];exact h0) (e:=e) (c:=cntS N[i].1 (Ts.set j (freeS all D N i).2)) (by rw [hat];exact cl) (by rw [hat];exact hl)
 rw [hat] at hf
 refine hf.mono ?_
 rintro x w' ⟨rfl,hG2⟩
 exact ⟨rfl,QGo.comp h wt a3 hG2 (fun d _ hd=>closeK_sub hd)⟩
theorem freeS_skip {all:Bool}{i:Nat}(hiL:i<N.length) (hc:¬(0<N[i].1∧(all=true∨N[i].2=true))):freeS all D N (i+1)=freeS all D N i:=by
 have hD:N.getD i (0,false)=N[i]:=by rw [List.getD_eq_getElem?_getD,List.getElem?_eq_getElem hiL];rfl
 rw [freeS,hD,if_neg hc]
theorem QGo.atIs {all:Bool}{i:Nat}(hi:i<8) (hiL:i<N.length) (hG:QGo w w1 f (freeS all D N i).1 g b (freeS all D N i).2):∃x:Int×Bool,Calls Tryz.prog 217 #[wp b,.int .i64 (i:Int)] w1 (fun e w'=>e=.returned (.agg #[.int .i64 x.1,.bool x.2])∧QGo w w' f (freeS all D N i).1 g b (freeS all D N i).2)∧(x.1=0↔N[i].1=0)∧0≤N[i].1∧x.2=N[i].2∧(x.1=0→x.2=false):=by
 have hiF:i<(freeS all D N i).2.length:=by rw [(freeS_tab all D N i).1];exact hiL
 have hat:=freeS_at (D:=D) (all:=all) hiL hiF
 have hG':=hG
 obtain ⟨⟨g1,n1,M1,a1,a2,a3⟩,wt⟩:=hG
 have hM:i<M1.length:=by rw [a2.tab.len];exact hi
 have h1:=a2.tab.at_ok i
 rw [atM_in a2.tab.len hi] at h1
 have hp:=(a2.pos a1 i hM hiF).2
 have hr:=(a2.rel i hM hiF).1
 rw [hat] at hp hr
 have hnn:=a2.nnAt i hiF
 rw [hat] at hnn
 refine ⟨M1[i],h1.mono ?_,hp,hnn,hr.symm,(a2.tab.nn hM).2.2⟩
 rintro e w' ⟨rfl,b1⟩
 exact ⟨rfl,⟨⟨g1,n1,M1,a1.below b1,a2.below b1,a3⟩,wt.trans (Wt.below _ b1)⟩⟩
theorem QGo.behind (h:QGo w w1 f D' g b N') (hb:Below w1.heap.size w1 w2):QGo w w2 f D' g b N':=by
 obtain ⟨⟨g1,n1,M1,a1,a2,a3⟩,wt⟩:=h
 exact ⟨⟨g1,n1,M1,a1.below hb,a2.below hb,a3⟩,wt.trans (Wt.below _ hb)⟩
theorem QF.clear_ok (h:QF w f D g n) (t:QTb w b g M N) (I:Inv D Ts k) (hk:k≤900) (hj:j<Ts.length) (hN:Ts[j]=N) :
 Calls Tryz.prog 250 #[wp f,wp b] w fun y w'=>y=.returned (.tuple #[])∧QGo w w' f (freeS true D N 8).1 g b (freeS true D N 8).2:=by
 have hL:N.length=8:=t.len
 have hG0:QGo w w f (freeS true D N 0).1 g b (freeS true D N 0).2:=h.same t (Below.refl _ _)
 have HA:Aside (∀i (hi:i<8) (hiL:i<N.length) W,QGo w W f (freeS true D N i).1 g b (freeS true D N i).2→∃x:Int×Bool,Calls Tryz.prog 217 #[wp b,.int .i64 (i:Int)] W (fun e w'=>e=.returned (.agg #[.int .i64 x.1,.bool x.2])∧QGo w w' f (freeS true D N i).1 g b (freeS true D N i).2)∧(x.1=0↔N[i].1=0)∧0≤N[i].1∧x.2=N[i].2∧(x.1=0→x.2=false)):=fun i hi hiL W hG=>QGo.atIs hi hiL hG
 have HF:Aside (∀i (hi:i<8) (hiL:i<N.length) W,0<N[i].1→(true=true∨N[i].2=true)→QGo w W f (freeS true D N i).1 g b (freeS true D N i).2→Calls Tryz.prog 142 #[wp f,wp b,.int .i64 (i:Int)] W fun x w'=>x=.returned (.tuple #[])∧QGo w w' f (freeS true D N (i+1)).1 g b (freeS true D N (i+1)).2):=fun i hi hiL W h0 ha hG=>QGo.freed h I hk hj hN hi hiL h0 ha hG
 have HS:Aside (∀i (hiL:i<N.length) W,¬(0<N[i].1∧(true=true∨N[i].2=true))→QGo w W f (freeS true D N i).1 g b (freeS true D N i).2→QGo w W f (freeS true D N (i+1)).1 g b (freeS true D N (i+1)).2):=fun i hiL W h0 hG=>by
  rw [freeS_skip hiL h0];exact hG
 have HL:Aside (N.length=8):=hL
 have hfm:=num_mark
 clear h t I hk hN hj hL
 go_enter Tryz.func250,Tryz.ntmps250
 go_wp2_with fail
 go_loopg [4,5] 8 (fun mm _ s5 wx=>∃i:Nat,Aside (i+mm=8)∧s5=.int .i64 (i:Int)∧QGo w wx f (freeS true D N i).1 g b (freeS true D N i).2)
 case atStart=>exact ⟨0,rfl,rfl,hG0⟩
 case round=>
  obtain ⟨i,HI,rfl,hG⟩:=hrel
  have hi9':(i:Int)≤8:=by have:=HI.out;omega
  by_cases hlt:(i:Int)<8
  ·have HiL:Aside (i<N.length):=by show i<N.length;have:=HL.out;omega
   have Hi8:Aside (i<8):=by show i<8;omega
   obtain ⟨⟨X,Y⟩,hAt,hx0,hnn,hy,hfr⟩:=HA.out i Hi8.out HiL.out _ hG
   simp only at hAt hx0 hy hfr
   by_cases hX:X=0
   ·have HN0:Aside (¬(0<(N[i]'HiL.out).1∧(true=true∨(N[i]'HiL.out).2=true))):=fun z=>by have:=hx0.1 hX;omega
    subst hX
    clear hG hx0 hnn hy hfr
    go_wp2_with (first
     |(go_at_call 217;refine hAt.mono ?_;rintro e w1 ⟨rfl,hG1⟩)
     |(go_at_call 218;refine (isFree_ok _ 0 _).mono ?_;rintro e w2 ⟨rfl,b2⟩))
    go_roundg (7-i)
    case measure=>have:=HI.out;omega
    case rel=>exact ⟨i+1,(show i+1+(7-i)=8 by omega),by rfl,HS.out i HiL.out _ HN0.out (hG1.behind b2)⟩
   ·have HN0:Aside (0<(N[i]'HiL.out).1∧(true=true∨(N[i]'HiL.out).2=true)):=⟨by have:(N[i]'HiL.out).1≠0:=fun z=>hX (hx0.2 z);omega,.inl rfl⟩
    have hX':(X == 0)=false:=by simpa using hX
    clear hG hx0 hnn hy hfr hX
    go_wp2_with (first
     |(go_at_call 217;refine hAt.mono ?_;rintro e w1 ⟨rfl,hG1⟩)
     |(go_at_call 218;refine (isFree_ok _ X _).mono ?_;rintro e w2 ⟨rfl,b2⟩;have hFr:=HF.out i Hi8.out HiL.out _ HN0.out.1 HN0.out.2 (hG1.behind b2))
     |(go_at_call 142;refine hFr.mono ?_;rintro e w3 ⟨rfl,hG3⟩))
    go_roundg (7-i)
    case measure=>have:=HI.out;omega
    case rel=>exact ⟨i+1,(show i+1+(7-i)=8 by omega),by rfl,hG3⟩
  ·have H8:Aside (i=8):=by show i=8;omega
   have hG8:QGo w wr f (freeS true D N 8).1 g b (freeS true D N 8).2:=by rw [←H8.out];exact hG
   clear hG
   go_wp2_with fail
   go_end0
   exact ⟨rfl,hG8⟩
theorem QF.exec_ok (h:QF w f D g n) (t:QTb w b g M N) (I:Inv D Ts k) (hk:k≤900) (hj:j<Ts.length) (hN:Ts[j]=N) :
 Calls Tryz.prog 115 #[wp f,wp b] w fun y w'=>y=.returned (.tuple #[])∧QGo w w' f (freeS false D N 8).1 g b (freeS false D N 8).2:=by
 have hL:N.length=8:=t.len
 have hG0:QGo w w f (freeS false D N 0).1 g b (freeS false D N 0).2:=h.same t (Below.refl _ _)
 have HA:Aside (∀i (hi:i<8) (hiL:i<N.length) W,QGo w W f (freeS false D N i).1 g b (freeS false D N i).2→∃x:Int×Bool,Calls Tryz.prog 217 #[wp b,.int .i64 (i:Int)] W (fun e w'=>e=.returned (.agg #[.int .i64 x.1,.bool x.2])∧QGo w w' f (freeS false D N i).1 g b (freeS false D N i).2)∧(x.1=0↔N[i].1=0)∧0≤N[i].1∧x.2=N[i].2∧(x.1=0→x.2=false)):=fun i hi hiL W hG=>QGo.atIs hi hiL hG
 have HF:Aside (∀i (hi:i<8) (hiL:i<N.length) W,0<N[i].1→(false=true∨N[i].2=true)→QGo w W f (freeS false D N i).1 g b (freeS false D N i).2→Calls Tryz.prog 142 #[wp f,wp b,.int .i64 (i:Int)] W fun x w'=>x=.returned (.tuple #[])∧QGo w w' f (freeS false D N (i+1)).1 g b (freeS false D N (i+1)).2):=fun i hi hiL W h0 ha hG=>QGo.freed h I hk hj hN hi hiL h0 ha hG
 have HS:Aside (∀i (hiL:i<N.length) W,¬(0<N[i].1∧(false=true∨N[i].2=true))→QGo w W f (freeS false D N i).1 g b (freeS false D N i).2→QGo w W f (freeS false D N (i+1)).1 g b (freeS false D N (i+1)).2):=fun i hiL W h0 hG=>by
  rw [freeS_skip hiL h0];exact hG
 have HL:Aside (N.length=8):=hL
 have hfm:=num_mark
 clear h t I hk hN hj hL
 go_enter Tryz.func115,Tryz.ntmps115
 go_wp2_with fail
 go_loopg [4,5] 8 (fun mm _ s5 wx=>∃i:Nat,Aside (i+mm=8)∧s5=.int .i64 (i:Int)∧QGo w wx f (freeS false D N i).1 g b (freeS false D N i).2)
 case atStart=>exact ⟨0,rfl,rfl,hG0⟩
 case round=>
  obtain ⟨i,HI,rfl,hG⟩:=hrel
  have hi9':(i:Int)≤8:=by have:=HI.out;omega
  by_cases hlt:(i:Int)<8
  ·have HiL:Aside (i<N.length):=by show i<N.length;have:=HL.out;omega
   have Hi8:Aside (i<8):=by show i<8;omega
   obtain ⟨⟨X,Y⟩,hAt,hx0,hnn,hy,hfr⟩:=HA.out i Hi8.out HiL.out _ hG
   simp only at hAt hx0 hy hfr
   by_cases hX:Y=false
   ·have HN0:Aside (¬(0<(N[i]'HiL.out).1∧(false=true∨(N[i]'HiL.out).2=true))):=fun z=>by rcases z.2 with z2|z2;exact absurd z2 (by simp);rw [←hy,hX] at z2;cases z2
    subst hX
    clear hG hx0 hnn hy hfr
    go_wp2_with (go_at_call 217;refine hAt.mono ?_;rintro e w1 ⟨rfl,hG1⟩)
    go_roundg (7-i)
    case measure=>have:=HI.out;omega
    case rel=>exact ⟨i+1,(show i+1+(7-i)=8 by omega),by rfl,HS.out i HiL.out _ HN0.out hG1⟩
   ·have HN0:Aside (0<(N[i]'HiL.out).1∧(false=true∨(N[i]'HiL.out).2=true)):=⟨by have:X≠0:=fun z=>hX (hfr z);have:(N[i]'HiL.out).1≠0:=fun z=>this (hx0.2 z);omega,.inr (by rw [←hy];simpa using hX)⟩
    have hX2:Y=true:=by simpa using hX
    have hfl:=num_mark X Y
    rw [hX2] at hAt
    clear hG hx0 hnn hy hfr hX
    clear hX2 hfl
    go_wp2_with (first
     |(go_at_call 217;refine hAt.mono ?_;rintro e w1 ⟨rfl,hG1⟩;have hFr:=HF.out i Hi8.out HiL.out _ HN0.out.1 HN0.out.2 hG1)
     |(go_at_call 142;refine hFr.mono ?_;rintro e w3 ⟨rfl,hG3⟩))
    go_roundg (7-i)
    case measure=>have:=HI.out;omega
    case rel=>exact ⟨i+1,(show i+1+(7-i)=8 by omega),by rfl,hG3⟩
  ·have H8:Aside (i=8):=by show i=8;omega
   have hG8:QGo w wr f (freeS false D N 8).1 g b (freeS false D N 8).2:=by rw [←H8.out];exact hG
   clear hG
   go_wp2_with fail
   go_end0
   exact ⟨rfl,hG8⟩
end
theorem fork_take {D:DS}{N:Ns}{i:Nat}(hi:i<N.length):forkD D (N.take (i+1))=if 0<N[i].1 then incR (forkD D (N.take i)) N[i].1 else forkD D (N.take i):=by
 unfold forkD
 rw [List.take_succ_eq_append_getElem hi,List.foldl_append]
 rfl
def upTo (N:Ns) (i:Nat):Ns:=N.take i ++ List.replicate (8-i) (0,false)
theorem upTo_len {N:Ns}(h:N.length=8) {i:Nat}(hi:i≤8):(upTo N i).length=8:=by
 unfold upTo;rw [List.length_append,List.length_take,List.length_replicate];omega
theorem upTo_all {N:Ns}(h:N.length=8):upTo N 8=N:=by
 unfold upTo;rw [List.take_of_length_le (by omega)];simp
theorem upTo_set {N:Ns}(h:N.length=8) {i:Nat}(hi:i<8):(upTo N i).set i (N[i]'(by omega))=upTo N (i+1):=by
 unfold upTo
 rw [List.set_append,List.length_take,if_neg (by omega),show 8-i=(8-(i+1))+1 by omega,List.replicate_succ,List.take_succ_eq_append_getElem (by omega),show i-min i N.length=0 by omega,List.append_assoc]
 rfl
theorem upTo_free {N:Ns}(h:N.length=8) {i:Nat}(hi:i<8) (h0:N[i]'(by omega)=(0,false)):upTo N (i+1)=upTo N i:=by
 rw [←upTo_set h hi,h0]
 unfold upTo
 rw [List.set_append,List.length_take,if_neg (by omega),show 8-i=(8-(i+1))+1 by omega,List.replicate_succ,show i-min i N.length=0 by omega]
 rfl
section
variable {w w' w2 w0 w1:World}{f b n q k j:Nat}{D D' D1 D2:DS}{g g' g1:QG}{M M1 N N' N1 N2:Ns}{d m:Int}{e:En}{T':Wd}{Ts:List Ns}
structure FkS (w W:World) (f b n:Nat) (D:DS) (g:QG) (M N:Ns) (i:Nat):Prop where
 q:QF W f (forkD D (N.take i)) g n
 t:QTb W b g M N
 u:QTb W w.heap.size g (upTo M i) (upTo N i)
 wt:Wt (fun i=>(g.kap i).isSome=true) w W
 lt:b<w.heap.size
theorem FkS.below {W:World}{i:Nat}(h:FkS w W f b n D g M N i) (hb:Below W.heap.size W w'):FkS w w' f b n D g M N i:=⟨h.q.below hb,h.t.below hb,h.u.below hb,h.wt.trans (Wt.below _ hb),h.lt⟩
theorem kap_new (h:QF w f D g n):g.kap w.heap.size=none:=by
 cases e:g.kap w.heap.size with
 |none=>rfl
 |some t=>have:=h.lt _ (by rw [e];rfl);omega
theorem FkS.give {W:World}{i:Nat}(h:FkS w W f b n D g M N i) (I:Inv D Ts k) (hj:j<Ts.length) (hN:Ts[j]=N) (hi:i<8) (hiM:i<M.length) (hiL:i<N.length) (h0:0<N[i].1) :
 Calls Tryz.prog 239 #[wp f,wp w.heap.size,.int .i64 (i:Int),.int .i64 M[i].1] W fun x w'=>x=.returned (.tuple #[])∧w'.cell? ⟨b,i*2+1,none⟩=some (.bool M[i].2)∧(∃v,w'.cell? ⟨w.heap.size,i*2+1,none⟩=some v)∧w'.frozen? ⟨w.heap.size,i*2+1,none⟩=false∧∀V,V.heap=(w'.setCell ⟨w.heap.size,i*2+1,none⟩ (.bool M[i].2)).heap→V.os=w'.os→V.tape=w'.tape→V.output=w'.output→FkS w V f b n D g M N (i+1):=by
 have hk:=h.t.keyOf hiM hiL h0
 have hMl:=h.t.tab.len
 have hNl:=h.t.len
 have hIc:=InvC.fork (N.take i) I.core (fun x hx hx0=>by
  rw [←hN] at hx
  obtain ⟨y,hy,rfl⟩:=List.getElem_of_mem (List.mem_of_mem_take hx)
  exact cntS_pos hj hy)
 have hcp:0<cntS N[i].1 Ts:=by
  have:=cntS_pos (Ts:=Ts) (j:=j) (i:=i) hj (by rw [hN];exact hiL)
  simp only [hN] at this
  exact this
 have h64:=I.few64 N[i].1
 have hcl:=cntN_le N[i].1 (N.take i)
 rw [List.length_take] at hcl
 obtain ⟨e,cl⟩:=hIc.cl h0 (by omega) (by omega)
 have hR:=cl.cnt
 refine (h.q.give_go h.u hi hk h0 cl.ent hR (by omega) cl.c1).mono ?_
 rintro x w' ⟨rfl,a1,a2,hG⟩
 have hk0:=(h.q.key _ _ hk).2.1
 have hub:(upTo M i).length=8:=upTo_len hMl (by omega)
 have hwt:=hG.wt
 have hbw:b≠w.heap.size:=fun e9=>by have:=h.lt;omega
 have hbk:w'.heap[b]? = W.heap[b]? := hwt.block b h.t.tab.lt (by
  rintro (z|z)
  ·rw [h.t.off] at z;cases z
  ·exact hbw z)
 have t1:QTb w' b g M N:=h.t.keep hbk
 refine ⟨rfl,(t1.tab.at hi).2,⟨_,(a2.tab.at hi).2⟩,a2.tab.free _,fun V hV ho ht hou=>?_⟩
 have hm0:((upTo M i).set i (M[i].1,false))[i]'(by rw [List.length_set,hub];exact hi)=(M[i].1,false):=List.getElem_set_self _
 have tm:=a2.tab.mark hi M[i].2 (by rw [hm0];simp only;omega)
 rw [hm0] at tm
 simp only [List.set_set] at tm
 have hMi:(upTo M i).set i (M[i].1,M[i].2)=upTo M (i+1):=upTo_set hMl hi
 have hNi:(upTo N i).set i (N[i].1,N[i].2)=upTo N (i+1):=upTo_set hNl hi
 have tu:=a2.set (i:=i) (M[i].1,M[i].2) (N[i].1,N[i].2) (by rw [List.set_set];exact tm) ⟨(h.t.rel i hiM hiL).1,.inr ⟨h0,hk⟩⟩
 rw [List.set_set,List.set_set,hMi,hNi] at tu
 have gg:=tgrown_set w' w.heap.size (i*2+1) (.bool M[i].2)
 have q1:=a1.offTab h.u.off gg
 have hsz:V.heap.size=(w'.setCell ⟨w.heap.size,i*2+1,none⟩ (.bool M[i].2)).heap.size:=by rw [hV]
 have hD:forkD D (N.take (i+1))=incR (forkD D (N.take i)) N[i].1:=by rw [fork_take hiL,if_pos h0]
 refine ⟨by rw [hD];exact q1.keep (fun x _=>by rw [hV]) (by omega),t1.keep (by rw [hV];exact gg.block b (t1.tab.lt) (fun z=>hbw (Option.some.inj z))),tu.keep (by rw [hV]),?_,h.lt⟩
 refine ⟨ho.trans (hwt.os.trans h.wt.os),ht.trans (hwt.tape.trans h.wt.tape),hou.trans (hwt.output.trans h.wt.output),?_,fun x hx hA=>?_⟩
 ·have:=gg.size;have:=hwt.size;have:=h.wt.size;omega
 ·have:=h.wt.size
  have:=hwt.size
  rw [hV,gg.block x (by omega) (fun z=>by have:=Option.some.inj z;omega),hwt.block x (by omega) (by
   rintro (z|z)
   ·exact hA z
   ·omega)]
  exact h.wt.block x hx hA
theorem FkS.skip {W:World}{i:Nat}(h:FkS w W f b n D g M N i) (hi:i<8) (hiM:i<M.length) (hiL:i<N.length) (h0:¬0<N[i].1):FkS w W f b n D g M N (i+1):=by
 have hr:=h.t.rel i hiM hiL
 have hM0:M[i].1=0∧N[i].1=0:=by
  rcases hr.2 with z|z
  ·exact z
  ·exact absurd z.1 h0
 have hm:=(h.t.tab.nn hiM).2.2 hM0.1
 have hMi:M[i]=(0,false):=Prod.ext hM0.1 hm
 have hNi:N[i]=(0,false):=Prod.ext hM0.2 (hr.1.trans hm)
 refine ⟨by rw [fork_take hiL,if_neg h0];exact h.q,h.t,?_,h.wt,h.lt⟩
 rw [upTo_free h.t.tab.len hi hMi,upTo_free h.t.len hi hNi]
 exact h.u
theorem FkS.first (h:QF w f D g n) (t:QTb w b g M N):FkS w (w.alloc (.cells (nv (List.replicate 8 (0,false))).toArray 216)) f b n D g M N 0:=by
 have bA:Below w.heap.size w (w.alloc (.cells (nv (List.replicate 8 (0,false))).toArray 216)):=(Below.refl _ w).alloc (Nat.le_refl _) _
 have hn:(w.alloc (.cells (nv (List.replicate 8 (0,false))).toArray 216)).heap[w.heap.size]? = some (.cells (nv (List.replicate 8 (0,false))).toArray 216):=by
  show (w.heap.push _)[w.heap.size]? = _
  rw [Array.getElem?_push,if_pos rfl]
 refine ⟨h.below bA,t.below bA,⟨⟨hn,rfl,fun x hx=>?_⟩,kap_new h,rfl,fun i h1 h2=>?_⟩,Wt.below _ bA,t.tab.lt⟩
 ·have:=List.eq_of_mem_replicate (show x∈List.replicate 8 ((0:Int),false) from hx)
  rw [this];simp
 ·have e1:(upTo M 0)[i]=(0,false):=List.eq_of_mem_replicate (show (upTo M 0)[i]∈List.replicate 8 ((0:Int),false) from List.getElem_mem h1)
  have e2:(upTo N 0)[i]=(0,false):=List.eq_of_mem_replicate (show (upTo N 0)[i]∈List.replicate 8 ((0:Int),false) from List.getElem_mem h2)
  exact ⟨(congrArg Prod.snd e2).trans (congrArg Prod.snd e1).symm,.inl ⟨congrArg Prod.fst e1,congrArg Prod.fst e2⟩⟩
theorem QF.fork_ok (h:QF w f D g n) (t:QTb w b g M N) (I:Inv D Ts k) (hj:j<Ts.length) (hN:Ts[j]=N) :
 Calls Tryz.prog 140 #[wp f,wp b] w fun y w'=>y=.returned (wp w.heap.size)∧QF w' f (forkD D N) g n∧QTb w' b g M N∧QTb w' w.heap.size g M N∧Wt (fun i=>(g.kap i).isSome=true) w w':=by
 have hF0:=FkS.first h t
 have HL:Aside (N.length=8∧M.length=8):=⟨t.len,t.tab.len⟩
 have HG:Aside (∀(W:World) (i:Nat),FkS w W f b n D g M N i→i<8→∀(hiM:i<M.length) (hiL:i<N.length),0<N[i].1→Calls Tryz.prog 239 #[wp f,wp w.heap.size,.int .i64 (i:Int),.int .i64 M[i].1] W fun x w'=>x=.returned (.tuple #[])∧w'.cell? ⟨b,i*2+1,none⟩=some (.bool M[i].2)∧(∃v,w'.cell? ⟨w.heap.size,i*2+1,none⟩=some v)∧w'.frozen? ⟨w.heap.size,i*2+1,none⟩=false∧∀V,V.heap=(w'.setCell ⟨w.heap.size,i*2+1,none⟩ (.bool M[i].2)).heap→V.os=w'.os→V.tape=w'.tape→V.output=w'.output→FkS w V f b n D g M N (i+1)):=fun W i hF hi hiM hiL h0=>hF.give I hj hN hi hiM hiL h0
 have HFd:Aside (∀(W:World) (i:Nat),FkS w W f b n D g M N i→i<8→∀(hiM:i<M.length) (hiL:i<N.length),0<N[i].1→Calls Tryz.prog 141 #[wp f,wp b,.int .i64 (i:Int)] W fun x w'=>∃q,x=.returned (.tuple #[wp q,.nilIface])∧FkS w w' f b n D g M N i∧w'.cell? ⟨b,i*2,none⟩=some (.int .i64 M[i].1)):=fun W i hF hi hiM hiL h0=>by
  refine (hF.q.find_yes hF.t hi hiL h0).mono ?_
  rintro x w' ⟨rfl,b1⟩
  have hF1:=hF.below b1
  exact ⟨_,rfl,hF1,(hF1.t.tab.at hi).1⟩
 have HFn:Aside (∀(W:World) (i:Nat),FkS w W f b n D g M N i→i<8→∀(hiL:i<N.length),N[i].1≤0→Calls Tryz.prog 141 #[wp f,wp b,.int .i64 (i:Int)] W fun x w'=>x=.returned (.tuple #[.pointer none,uer 7])∧FkS w w' f b n D g M N (i+1)):=fun W i hF hi hiL h0=>by
  refine (hF.q.find_no hF.t i (by unfold hasN;rw [getD_in hiL];simp;omega)).mono ?_
  rintro x w' ⟨rfl,b1⟩
  exact ⟨rfl,(hF.below b1).skip hi (by have:=hF.t.tab.len;omega) hiL (by omega)⟩
 clear h t I hj hN
 go_enter Tryz.func140,Tryz.ntmps140
 go_wp2_with fail
 go_loopg [6,7,8,11] 8 (fun mm _ _ _ s11 wx=>∃i:Nat,Aside (i+mm=8)∧s11=.int .i64 (i:Int)∧FkS w wx f b n D g M N i)
 case atStart=>exact ⟨0,rfl,rfl,hF0⟩
 case round=>
  obtain ⟨i,HI,rfl,hF⟩:=hrel
  have hi9':(i:Int)≤8:=by have:=HI.out;omega
  by_cases hlt:(i:Int)<8
  ·have HiL:Aside (i<N.length):=by show i<N.length;have:=HL.out;omega
   have HiM:Aside (i<M.length):=by show i<M.length;have:=HL.out;omega
   have Hi8:Aside (i<8):=by show i<8;omega
   by_cases h0:0<(N[i]'HiL.out).1
   ·have hFi:=HFd.out _ i hF Hi8.out HiM.out HiL.out h0
    have H0:Aside (0<(N[i]'HiL.out).1):=h0
    have HGv:Aside (∀W,FkS w W f b n D g M N i→_):=fun W hW=>HG.out W i hW Hi8.out HiM.out HiL.out H0.out
    generalize (M[i]'HiM.out).1=X at *
    generalize (M[i]'HiM.out).2=Y at *
    clear h0 hF H0
    go_upto_region 7 with (go_at_call 141;refine hFi.mono ?_;rintro x w2 ⟨q,rfl,hF2,c2⟩)
    have hGv:=HGv.out _ hF2
    clear hFi hF2
    go_upto_region 8 with (go_at_call 239;refine hGv.mono ?_;rintro x w3 ⟨rfl,c3,⟨v,c4⟩,z4,hN⟩)
    have HN:Aside _:=hN
    clear hN hGv c2
    go_region
    all_goals
     go_wp2_with fail
     go_roundg (7-i)
     case measure=>have:=HI.out;omega
     case rel=>exact ⟨i+1,(show i+1+(7-i)=8 by omega),by rfl,HN.out _ rfl rfl rfl rfl⟩
   ·have hFi:=HFn.out _ i hF Hi8.out HiL.out (by omega)
    clear h0 hF
    go_wp2_with (go_at_call 141;refine hFi.mono ?_;rintro x w2 ⟨rfl,hF2⟩)
    go_roundg (7-i)
    case measure=>have:=HI.out;omega
    case rel=>exact ⟨i+1,(show i+1+(7-i)=8 by omega),by rfl,hF2⟩
  ·have h8:i=8:=by omega
   subst h8
   have hq:=hF.q
   have hu:=hF.u
   have ht:=hF.t
   have hw:=hF.wt
   rw [List.take_of_length_le (by have:=HL.out;omega)] at hq
   rw [upTo_all HL.out.1,upTo_all HL.out.2] at hu
   clear hF
   go_wp2_with fail
   go_ret
   exact ⟨rfl,hq,ht,hu,hw⟩
end
section
variable {w w' w2 w0 w1:World}{r:Nat}{T:Wd}{O:Nat→Prop}
theorem tre_ne (b:Nat) (w:World):(binOp BinOp.eql 94 (wp b) (.pointer none)).run Tryz.prog w=.ok (.bool false) w:=by kernel_rfl
theorem QF.made (h:PT w r T O):∃g,QF ((w.alloc (.map #[] 0)).alloc (.cells #[wp r,.map (some w.heap.size)] 209)) (w.heap.size+1) (noneD T) g 0∧(∀i,i<w.heap.size→((g.kap i).isSome=true↔O i))∧g.r=r:=by
 classical
 have b1:Below w.heap.size w (w.alloc (.map #[] 0)):=(Below.refl _ w).alloc (Nat.le_refl _) _
 have hs1:(w.alloc (.map #[] 0)).heap.size=w.heap.size+1:=by simp
 have b2:Below w.heap.size w ((w.alloc (.map #[] 0)).alloc (.cells #[wp r,.map (some w.heap.size)] 209)):=b1.alloc (by omega) _
 have hs2:((w.alloc (.map #[] 0)).alloc (.cells #[wp r,.map (some w.heap.size)] 209)).heap.size=w.heap.size+1+1:=by
  show ((w.alloc (.map #[] 0)).heap.push _).size=_
  rw [Array.size_push,hs1]
 have hO:∀i,O i→i<w.heap.size:=fun i hi=>h.lt i hi
 have hk:∀i,O i→(if i=w.heap.size+1 then some Tag.head else if i=w.heap.size then some Tag.mp else if O i then some Tag.tree else none)=some Tag.tree:=fun i hi=>by
  have:=hO i hi
  rw [if_neg (by omega),if_neg (by omega),if_pos hi]
 refine ⟨⟨r,w.heap.size,fun _=>none,fun _=>0,fun _=>0,fun i=>if i=w.heap.size+1 then some .head else if i=w.heap.size then some .mp else if O i then some .tree else none⟩,⟨?_,⟨O,h.below b2,hk⟩,?_,fun d e he=>(by cases he),fun k d he=>(by cases he),fun d he=>(by cases he),fun k k' d he=>(by cases he),fun p x he=>(by cases he),if_pos rfl,?_,fun i hi=>?_⟩,fun i hi=>?_,rfl⟩
 ·show ((w.alloc (.map #[] 0)).heap.push _)[w.heap.size+1]? = _
  rw [Array.getElem?_push,if_pos hs1.symm]
 ·exact (PMap.made w).keep (Below.heap_alloc _ _ _ (by rw [hs1];omega))
 ·show (if w.heap.size=w.heap.size+1 then some Tag.head else if w.heap.size=w.heap.size then some Tag.mp else _)=some Tag.mp
  rw [if_neg (by omega),if_pos rfl]
 ·have hi':(if i=w.heap.size+1 then some Tag.head else if i=w.heap.size then some Tag.mp else if O i then some Tag.tree else none).isSome=true:=hi
  rw [hs2]
  by_cases e1:i=w.heap.size+1
  ·omega
  ·by_cases e2:i=w.heap.size
   ·omega
   ·rw [if_neg e1,if_neg e2] at hi'
    by_cases e3:O i
    ·have:=hO i e3;omega
    ·rw [if_neg e3] at hi';cases hi'
 ·show ((if i=w.heap.size+1 then some Tag.head else if i=w.heap.size then some Tag.mp else if O i then some Tag.tree else none).isSome=true↔O i)
  rw [if_neg (by omega),if_neg (by omega)]
  by_cases e3:O i
  ·simp [e3]
  ·simp [e3]
theorem QNew.ok (h:PT w r T O):Calls Tryz.prog 48 #[wp r] w fun y w'=>∃f g,y=.returned (.tuple #[wp f,.nilIface])∧QF w' f (noneD T) g 0∧(∀i,i<w.heap.size→((g.kap i).isSome=true↔O i))∧g.r=r∧Below w.heap.size w w':=by
 have h9:=tre_ne r
 have hmm:=@run_makeMap Tryz.prog
 have hM:=QF.made h
 have b1:Below w.heap.size w (w.alloc (.map #[] 0)):=(Below.refl _ w).alloc (Nat.le_refl _) _
 have hs1:(w.alloc (.map #[] 0)).heap.size=w.heap.size+1:=by simp
 have b2:Below w.heap.size w ((w.alloc (.map #[] 0)).alloc (.cells #[wp r,.map (some w.heap.size)] 209)):=b1.alloc (by omega) _
 have HM:Aside (∃g,QF ((w.alloc (.map #[] 0)).alloc (.cells #[wp r,.map (some w.heap.size)] 209)) (w.heap.size+1) (noneD T) g 0∧(∀i,i<w.heap.size→((g.kap i).isSome=true↔O i))∧g.r=r):=hM
 clear hM hs1 b1 h
 go_enter Tryz.func48,Tryz.ntmps48
 go_wp2_with fail
 go_ret2
 obtain ⟨g,a1,a2,a3⟩:=HM.out
 exact ⟨w.heap.size+1,g,rfl,a1,a2,a3,b2⟩
end
section
variable {w w' w2 w0 w1:World}{f b n q:Nat}{D D':DS}{g g' g1:QG}{M N N':Ns}{d k m:Int}{e:En}{T':Wd}
theorem new_six (w:World) (a b c d e x:Value) (t:TypeId):(w.alloc (.cells #[a,b,c,d,e,x] t)).heap[w.heap.size]? = some (.cells #[a,b,c,d,e,x] t):=by
 show (w.heap.push _)[w.heap.size]? = _
 rw [Array.getElem?_push,if_pos rfl]
theorem QTb.nn (t:QTb w b g M N):∀x∈N,0≤x.1:=fun x hx=>by
 obtain ⟨i,hi,rfl⟩:=List.getElem_of_mem hx
 rcases (t.rel i (by rw [t.tab.len];have:=t.len;omega) hi).2 with ⟨_,c⟩|⟨c,_⟩
 ·omega
 ·omega
theorem QTb.least_used (t:QTb w b g M N):leastN N<0↔8≤usedN N:=by
 have hu:=used_least t.nn
 rw [t.len] at hu
 exact hu
theorem QF.room1 (h:QF w f D g n) (t:QTb w b g M N) (hn:n<1000) {z:Bool}(hz:(z=true∧roomy N n)∨(z=false∧¬roomy N n)):Calls Tryz.prog 135 #[wp f,wp b,.int .i64 1] w fun e w'=>e=.returned (.bool z)∧Below w.heap.size w w':=by
 have hR:=h.room_ok t 1 (by omega) hn
 have hu:=t.least_used
 have e1:(decide (usedN N+1≤8) && decide (n+1≤40))=z:=by
  rcases hz with ⟨rfl,hr⟩|⟨rfl,hr⟩
  ·obtain ⟨r1,r2⟩:=hr
   have:¬8≤usedN N:=fun x=>r1 (hu.2 x)
   rw [decide_eq_true (by omega),decide_eq_true (by omega)];rfl
  ·by_cases h1:leastN N<0
   ·have:=hu.1 h1
    rw [decide_eq_false (by omega)];rfl
   ·have:¬n<40:=fun x=>hr ⟨h1,x⟩
    rw [decide_eq_false (p:=n+1≤40) (by omega),Bool.and_false]
 rw [e1] at hR
 exact hR
structure FOk (D:DS) (N:Ns) (n s:Nat):Prop where
 lv:TrLv D.T
 num:IsNum D.T s
 sm:Sm 900 D.T
 giv:Given D
 live:Live D N
 few:n<1000
theorem QF.file_arg (h:QF w f D g n) (t:QTb w b g M N) (p:List UInt8) (pr:Int) (mk:Bool) (hp:¬(1≤pr∧pr≤3)) :
 Calls Tryz.prog 203 #[wp f,wp b,tx p,.int .i64 pr,.bool mk] w fun y w'=>y=.returned (.tuple #[.int .i64 0,uer 1])∧QGo w w' f D g b N:=by
 have hU:=isUse_ok w pr
 have e1:(decide (1≤pr) && decide (pr≤3))=false:=by
  simp only [Bool.and_eq_false_iff,decide_eq_false_iff_not];omega
 rw [e1] at hU
 have hs:=h.same t (Below.refl _ w)
 clear h t hp e1
 go_enter Tryz.func203,Tryz.ntmps203
 go_wp2_with (go_at_call 275;refine hU.mono ?_;rintro y w1 ⟨rfl,hw1⟩;subst w1)
 go_ret2
 exact ⟨rfl,hs⟩
theorem use_yes (w:World) {pr:Int}(hp:1≤pr∧pr≤3):Calls Tryz.prog 275 #[.int .i64 pr] w fun e w'=>e=.returned (.bool true)∧w'=w:=by
 have hU:=isUse_ok w pr
 have e1:(decide (1≤pr) && decide (pr≤3))=true:=by simp;omega
 rw [e1] at hU
 exact hU
theorem QF.file_full (h:QF w f D g n) (t:QTb w b g M N) (p:List UInt8) (pr:Int) (mk:Bool) (hp:1≤pr∧pr≤3) (hr:¬roomy N n) (hn:n<1000) :
 Calls Tryz.prog 203 #[wp f,wp b,tx p,.int .i64 pr,.bool mk] w fun y w'=>y=.returned (.tuple #[.int .i64 0,uer 12])∧QGo w w' f D g b N:=by
 have hU:=use_yes w hp
 have hR:=h.room1 t hn (z:=false) (.inr ⟨rfl,hr⟩)
 have hs:∀w',Below w.heap.size w w'→QGo w w' f D g b N:=fun w' hb=>h.same t hb
 clear h t hp hr
 go_enter Tryz.func203,Tryz.ntmps203
 go_wp2_with (first
  |(go_at_call 275;refine hU.mono ?_;rintro y w1 ⟨rfl,hw1⟩;subst w1)
  |(go_at_call 135;refine hR.mono ?_;rintro y w2 ⟨rfl,b2⟩))
 go_ret2
 exact ⟨rfl,hs _ b2⟩
theorem QF.file_bad (h:QF w f D g n) (t:QTb w b g M N) (p:List UInt8) (pr:Int) (mk:Bool) (hp:1≤pr∧pr≤3) (hr:roomy N n) (hn:n<1000) {c:Int}
 (hN:∀V,Below w.heap.size w V→Calls Tryz.prog 276 #[wp f,tx p,.bool mk] V fun e w'=>(∃k,e=.returned (.tuple #[.int .i64 k,uer c]))∧QGo w w' f D g b N) :
 Calls Tryz.prog 203 #[wp f,wp b,tx p,.int .i64 pr,.bool mk] w fun y w'=>y=.returned (.tuple #[.int .i64 0,uer c])∧QGo w w' f D g b N:=by
 have hU:=use_yes w hp
 have hR:=h.room1 t hn (z:=true) (.inl ⟨rfl,hr⟩)
 clear h t hp hr
 go_enter Tryz.func203,Tryz.ntmps203
 go_wp2_with (first
  |(go_at_call 275;refine hU.mono ?_;rintro y w1 ⟨rfl,hw1⟩;subst w1)
  |(go_at_call 135;refine hR.mono ?_;rintro y w2 ⟨rfl,b2⟩)
  |(go_at_call 276;refine (hN _ b2).mono ?_;rintro y w3 ⟨⟨k,rfl⟩,hG⟩))
 go_ret2
 exact ⟨rfl,hG⟩
theorem QSt.hold (hq:QSt w w1 f D T' g n b M N) (hT:TrLv T') (x:Int) (hx0:0≤x) (hx1:x<100000) (hx:∀b y,T' x=some (.file b y)→y+1≤1000):Calls Tryz.prog 277 #[wp g.r,.int .i64 x] w1 fun e w'=>e=.returned (uev (holdE T' x 1))∧QSt w w' f D (holdN T' x 1) g n b M N:=by
 obtain ⟨⟨g1,a1,a2,a3,a4,a5,a6⟩,wt⟩:=hq
 rw [←a5]
 refine (a1.hold1 a2 hT x hx0 hx1 hx).mono ?_
 rintro e w' ⟨rfl,⟨⟨g2,c1,c2,c3,c4,c5,c6⟩,wt2⟩⟩
 refine ⟨rfl,⟨⟨g2,c1,c2,fun i hi=>(c3 i (Nat.lt_of_lt_of_le hi wt.size)).trans (a3 i hi),c4.trans a4,c5.trans a5,c6.trans a6⟩,wt.weaken wt2 (fun i hi z=>?_)⟩⟩
 rcases z with z|z
 ·exact .inl (by rw [←a3 i hi];exact z)
 ·exact .inr z
theorem QSt.cell0 (hq:QSt w w1 f D T' g n b M N):w1.cell? ⟨f,0,none⟩=some (wp g.r):=by
 obtain ⟨⟨g1,a1,a2,a3,a4,a5,_⟩,wt⟩:=hq
 rw [←a5];exact a1.cells.1
theorem QSt.add (hq:QSt w w1 f D T' g n b M N) (hg:Given D) (hl:¬leastN N<0) (hL:Live D N) (hn:n<1000) (pr nd:Int) :
 Calls Tryz.prog 236 #[wp f,wp b,wp w1.heap.size] (w1.alloc (.cells #[.int .i64 1,.int .i64 pr,.int .i64 0,.int .i64 nd,.int .i64 0,.pointer none] 238)) fun x w'=>x=.returned (.int .i64 (leastN N))∧QGo w w' f (addD { D with T:=T' } ⟨1,pr,nd,0,0⟩) g b (addN D N):=by
 obtain ⟨⟨g1,a1,a2,a3,a4,a5,_⟩,wt⟩:=hq
 obtain ⟨n1,n2,n3⟩:=hg.new
 refine (a1.add_ok (e:=⟨1,pr,nd,0,0⟩) (q:=w1.heap.size) a2 ((Below.refl _ w1).alloc (Nat.le_refl _) _) (Nat.le_refl _) (new_six _ _ _ _ _ _ _ _) n1 hg.n0 hl hL hn).mono ?_
 rintro x w' ⟨rfl,hG⟩
 exact ⟨rfl,QGo.after a3 a4 a5 wt hG.go⟩
theorem QF.file_go {s:Nat}{Q:Int→Wd→Prop}(h:QF w f D g n) (t:QTb w b g M N) (p:List UInt8) (pr:Int) (mk:Bool) (hp:1≤pr∧pr≤3) (hr:roomy N n) (ok:FOk D N n s)
 (hN:∀V,Below w.heap.size w V→Calls Tryz.prog 276 #[wp f,tx p,.bool mk] V fun e w'=>∃k T1,e=.returned (.tuple #[.int .i64 k,.nilIface])∧Q k T1∧QSt w w' f D T1 g n b M N)
 (hQ:∀k T1,Q k T1→TrLv T1∧0≤k∧k<100000∧∀b y,T1 k=some (.file b y)→y+1≤1000) :
 Calls Tryz.prog 203 #[wp f,wp b,tx p,.int .i64 pr,.bool mk] w fun y w'=>∃k T1,Q k T1∧((holdE T1 k 1≠0∧y=.returned (.tuple #[.int .i64 0,uer (holdE T1 k 1)])∧QGo w w' f { D with T:=holdN T1 k 1 } g b N)∨(holdE T1 k 1=0∧y=.returned (.tuple #[.int .i64 (leastN N),.nilIface])∧QGo w w' f (addD { D with T:=holdN T1 k 1 } ⟨1,pr,k,0,0⟩) g b (addN D N))):=by
 have hU:=use_yes w hp
 have hR:=h.room1 t ok.few (z:=true) (.inl ⟨rfl,hr⟩)
 have HH:Aside (∀k T1 V,Q k T1→QSt w V f D T1 g n b M N→V.cell? ⟨f,0,none⟩=some (wp g.r)∧Calls Tryz.prog 277 #[wp g.r,.int .i64 k] V fun e w'=>∃c,e=.returned (uev c)∧c=holdE T1 k 1∧QSt w w' f D (holdN T1 k 1) g n b M N):=fun k T1 V hq hV=>by
  obtain ⟨l1,l2,l3,l4⟩:=hQ k T1 hq
  refine ⟨hV.cell0,(hV.hold l1 k l2 l3 l4).mono ?_⟩
  rintro e w' ⟨rfl,st⟩
  exact ⟨_,rfl,rfl,st⟩
 have HA:Aside (∀k T2 V,QSt w V f D T2 g n b M N→Calls Tryz.prog 236 #[wp f,wp b,wp V.heap.size] (V.alloc (.cells #[.int .i64 1,.int .i64 pr,.int .i64 0,.int .i64 k,.int .i64 0,.pointer none] 238)) fun x w'=>x=.returned (.int .i64 (leastN N))∧QGo w w' f (addD { D with T:=T2 } ⟨1,pr,k,0,0⟩) g b (addN D N)):=fun k T2 V hV=>hV.add ok.giv hr.1 ok.live ok.few pr k
 generalize leastN N=L at *
 clear h t hp hr ok hQ
 go_enter Tryz.func203,Tryz.ntmps203
 go_upto_region 6 with (first
  |(go_at_call 275;refine hU.mono ?_;rintro y w1 ⟨rfl,hw1⟩;subst w1)
  |(go_at_call 135;refine hR.mono ?_;rintro y w2 ⟨rfl,b2⟩)
  |(go_at_call 276;refine (hN _ b2).mono ?_;rintro y w3 ⟨k,T1,rfl,hq,hst⟩))
 obtain ⟨c0,hHd⟩:=HH.out k T1 _ hq hst
 have HQ1:Aside (Q k T1):=hq
 clear hq hst HH hU hR hN
 go_upto_region 9 with (go_at_call 277;refine hHd.mono ?_;rintro y w4 ⟨c,rfl,hc,hst2⟩;have HC:Aside _:=hc;have HS:Aside _:=hst2;clear hc hst2)
 clear hHd c0
 by_cases hz:c=0
 ·subst hz
  have hA:=HA.out k _ _ HS.out
  have HE:Aside (holdE T1 k 1=0):=HC.out.symm
  clear HA HS HC
  have hu0:uev 0=.nilIface:=rfl
  rw [hu0]
  clear hu0
  go_wp2_with (go_at_call 236;refine hA.mono ?_;rintro y w5 ⟨rfl,hG⟩)
  go_ret2
  exact ⟨k,T1,HQ1.out,.inr ⟨HE.out,rfl,hG⟩⟩
 ·rw [uev_ne hz]
  have HE:Aside (holdE T1 k 1≠0∧c=holdE T1 k 1):=⟨fun e=>hz (HC.out.trans e),HC.out⟩
  have HG:=HS.out.go
  clear HA HS HC hz
  go_wp2_with fail
  go_ret2
  exact ⟨k,T1,HQ1.out,.inl ⟨HE.out.1,by rw [←HE.out.2];rfl,HG⟩⟩
theorem QF.file_ok (h:QF w f D g n) (t:QTb w b g M N) {s:Nat}(ok:FOk D N n s) (p:List UInt8) (hpl:p.length<100000) (pr:Int) (mk:Bool) (hm:w.cell? ⟨4,0,none⟩=some (.int .i64 m)) (hg:w.cell? ⟨0,0,none⟩=some errT) :
 Calls Tryz.prog 203 #[wp f,wp b,tx p,.int .i64 pr,.bool mk] w fun y w'=>∃k c D' N',y=.returned (.tuple #[.int .i64 k,uev c])∧FileO D N n s p pr mk k c D' N'∧QGo w w' f D' g b N':=by
 by_cases hp:1≤pr∧pr≤3
 ·by_cases hr:roomy N n
  ·by_cases h7:(findT D.T p).2=7∧mk=true
   ·obtain ⟨hE,rfl⟩:=h7
    have hNd:∀V,Below w.heap.size w V→_:=fun V hV=>(h.below hV).node_make (t.below hV) ok.lv ok.num p hpl (cell_below hm hV) (cell_below hg hV) (fun k C e=>by have:=ok.sm.1 k C e;omega) hE
    by_cases hM:makeE D.T s p=0
    ·refine (h.file_go t p pr true hp hr ok (Q:=fun k T1=>IsFree D.T k∧k<64∧T1=makeN D.T p false k) (fun V hV=>(hNd V hV).mono ?_) ?_).mono ?_
     ·rintro e w' (⟨a,_⟩|⟨a,k,c1,c2,rfl,st⟩)
      ·exact absurd hM a
      ·exact ⟨k,_,rfl,⟨c1,c2,rfl⟩,st.upon hV⟩
     ·rintro k T1 ⟨c1,c2,rfl⟩
      have hmh:=made_hold ok.lv.toTrOk hM c1
      exact ⟨ok.lv.make hM c1 c2 false,c1.pos,by omega,fun b y e=>by have:=hmh.2 b y e;omega⟩
     ·rintro y w' ⟨k,T1,⟨c1,c2,rfl⟩,hx⟩
      have hmh:=made_hold ok.lv.toTrOk hM c1
      rcases hx with ⟨hx,_⟩|⟨_,rfl,hG⟩
      ·exact absurd hmh.1 hx
      ·exact ⟨_,0,_,_,rfl,.made hp hr hE rfl hM k c1,hG⟩
    ·refine (h.file_bad t p pr true hp hr ok.few (c:=makeE D.T s p) (fun V hV=>(hNd V hV).mono ?_)).mono ?_
     ·rintro e w' (⟨a,rfl,st⟩|⟨a,_⟩)
      ·exact ⟨⟨_,rfl⟩,(st.upon hV).go⟩
      ·exact absurd a hM
     ·rintro y w' ⟨rfl,hG⟩
      exact ⟨0,_,D,N,by rw [uev_ne hM],.unmade hp hr hE rfl hM,hG⟩
   ·have hNd:∀V,Below w.heap.size w V→_:=fun V hV=>(h.below hV).node_find ok.lv p hpl (cell_below hm hV) (cell_below hg hV) mk h7
    by_cases hE:(findT D.T p).2=0
    ·have hsome:=findT_some ok.lv.toTrOk hE
     have hkey:=ok.lv.key _ hsome
     refine (h.file_go t p pr mk hp hr ok (Q:=fun k T1=>k=(findT D.T p).1∧T1=D.T) (fun V hV=>(hNd V hV).mono ?_) ?_).mono ?_
     ·rintro e w' ⟨rfl,b1⟩
      exact ⟨_,D.T,by rw [hE];rfl,⟨rfl,rfl⟩,(h.below hV |>.still (t.below hV) b1).upon hV⟩
     ·rintro k T1 ⟨rfl,rfl⟩
      exact ⟨ok.lv,hkey.1,by omega,fun b y e=>by have:=(ok.sm.2 _ b y e).1;omega⟩
     ·rintro y w' ⟨k,T1,⟨rfl,rfl⟩,hx⟩
      rcases hx with ⟨hx,rfl,hG⟩|⟨hx,rfl,hG⟩
      ·rw [holdN_no hx] at hG
       exact ⟨0,_,D,N,by rw [uev_ne hx],.dir hp hr hE hx,hG⟩
      ·exact ⟨_,0,_,_,rfl,.opened hp hr hE hx,hG⟩
    ·refine (h.file_bad t p pr mk hp hr ok.few (c:=(findT D.T p).2) (fun V hV=>(hNd V hV).mono ?_)).mono ?_
     ·rintro e w' ⟨rfl,b1⟩
      exact ⟨⟨_,by rw [uev_ne hE]⟩,h.same t (hV.trans (b1.mono hV.size))⟩
     ·rintro y w' ⟨rfl,hG⟩
      exact ⟨0,_,D,N,by rw [uev_ne hE],.no hp hr hE h7,hG⟩
  ·refine (h.file_full t p pr mk hp hr ok.few).mono ?_
   rintro y w' ⟨rfl,hG⟩
   exact ⟨0,12,D,N,rfl,.full hp hr,hG⟩
 ·refine (h.file_arg t p pr mk hp).mono ?_
  rintro y w' ⟨rfl,hG⟩
  exact ⟨0,1,D,N,rfl,.arg hp,hG⟩
end
abbrev pcells:Array Value:=#[.int .i64 0,.int .i64 0,.int .i64 0,.int .i64 0,.int .u8 0,.int .u8 0,.int .u8 0,.int .u8 0,.int .u8 0,.int .u8 0,.int .u8 0,.int .u8 0,.int .u8 0,.int .u8 0,.int .u8 0,.int .u8 0,.int .u8 0,.int .u8 0,.int .u8 0,.int .u8 0,.int .i64 0]
theorem new_tb (w:World) (t:TypeId):Tb (w.alloc (.cells pcells t)) w.heap.size 0 0 []:=by
 have hn:(w.alloc (.cells pcells t)).heap[w.heap.size]? = some (.cells pcells t):=by
  show (w.heap.push _)[w.heap.size]? = _
  rw [Array.getElem?_push,if_pos rfl]
 refine ⟨by simp,?_,?_,fun k hk=>?_,?_,fun k _=>?_⟩
 ·rw [cell_of_row _ _ _ _ _ _ hn];rfl
 ·rw [cell_of_row _ _ _ _ _ _ hn];rfl
 ·rw [cell_of_row _ _ _ _ _ _ hn,bt_out _ _ (Nat.zero_le _)]
  have:k=0∨k=1∨k=2∨k=3∨k=4∨k=5∨k=6∨k=7∨k=8∨k=9∨k=10∨k=11∨k=12∨k=13∨k=14∨k=15:=by omega
  rcases this with rfl|rfl|rfl|rfl|rfl|rfl|rfl|rfl|rfl|rfl|rfl|rfl|rfl|rfl|rfl|rfl<;>rfl
 ·rw [cell_of_row _ _ _ _ _ _ hn];rfl
 ·unfold World.frozen?
  simp only
  rw [hn]
  simp
section
variable {w w' w2 w0 w1:World}{f b n q:Nat}{D D':DS}{g g' g1:QG}{M N N':Ns}{d k m:Int}{e:En}{T':Wd}
def opP (D:DS) (p:Int) (x:Pi) (kd:Int):DS:={ D with P:=fun i=>if i=p then some (x.1,opF x.2.1 kd,opI x.2.2 kd) else D.P i }
theorem QF.openEnd (h:QF w f D g n) (t:QTb w b g M N) {p:Int}{x:Pi}(hp:D.P p=some x) (hF:0≤x.2.1∧x.2.1<1000) (hI:0≤x.2.2∧x.2.2<1000) (kd pr:Int) (hkd:kd≠1) (hE:D.E (D.nx+1)=none) (h0:0≤D.nx) (hl:¬leastN N<0) (hL:Live D N) (hn:n<1000) :
 Calls Tryz.prog 235 #[wp (g.Q p),.int .i64 kd] w fun y w'=>(∃v,y=.returned v)∧Calls Tryz.prog 236 #[wp f,wp b,wp w'.heap.size] (w'.alloc (.cells #[.int .i64 kd,.int .i64 pr,.int .i64 0,.int .i64 0,.int .i64 0,wp (g.Q p)] 238)) fun x9 w2=>x9=.returned (.int .i64 (leastN N))∧QGoQ w w2 f (addD (opP D p x kd) ⟨kd,pr,0,p,0⟩) g b (addN D N) (n+1):=by
 obtain ⟨tb,tk⟩:=h.pipe p x hp
 refine (tb.open_ok kd hF.1 hF.2 hI.1 hI.2).mono ?_
 rintro y w' ⟨rfl,tb',hg⟩
 refine ⟨⟨_,rfl⟩,?_⟩
 have h1:QF w' f (opP D p x kd) g n:=h.piped hp (x':=(x.1,opF x.2.1 kd,opI x.2.2 kd)) tb' hg
 have t1:=t.offOwn (by rw [tk];rfl) hg
 have hpv:pv g ⟨kd,pr,0,p,0⟩=wp (g.Q p):=if_neg hkd
 refine (h1.add_ok (e:=⟨kd,pr,0,p,0⟩) (q:=w'.heap.size) t1 ((Below.refl _ w').alloc (Nat.le_refl _) _) (Nat.le_refl _) (by rw [ecells,hpv];exact new_six _ _ _ _ _ _ _ _) hE h0 hl hL hn).mono ?_
 rintro z w2 ⟨rfl,⟨⟨g',M',a,c,x9,y9⟩,wt⟩⟩
 exact ⟨rfl,⟨g',M',a,c,⟨fun i hi=>x9.kap i (Nat.lt_of_lt_of_le hi hg.size),x9.key,x9.r⟩,y9⟩,(Wt.grown hg (.inl (by rw [tk];rfl))).trans wt⟩
theorem QF.addEnd_ok (h:QF w f D g n) (t:QTb w b g M N) {p:Int}{x:Pi}(hp:D.P p=some x) (hF:0≤x.2.1∧x.2.1<1000) (hI:0≤x.2.2∧x.2.2<1000) (kd pr:Int) (hkd:kd≠1) (hE:D.E (D.nx+1)=none) (h0:0≤D.nx) (hl:¬leastN N<0) (hL:Live D N) (hn:n<1000) :
 Calls Tryz.prog 136 #[wp f,wp b,wp (g.Q p),.int .i64 kd,.int .i64 pr] w fun x9 w2=>x9=.returned (.int .i64 (leastN N))∧QGoQ w w2 f (addD (opP D p x kd) ⟨kd,pr,0,p,0⟩) g b (addN D N) (n+1):=by
 have hO:=h.openEnd t hp hF hI kd pr hkd hE h0 hl hL hn
 generalize addD (opP D p x kd) ⟨kd,pr,0,p,0⟩=D2 at *
 generalize addN D N=N2 at *
 generalize leastN N=L at *
 clear h t hp hF hI hE h0 hl hL hn
 generalize hQ:g.Q p=q at *
 clear hQ
 go_enter Tryz.func136,Tryz.ntmps136
 go_wp2_with (first
  |(go_at_call 235;refine hO.mono ?_;rintro y w1 ⟨⟨v,rfl⟩,hA⟩)
  |(go_at_call 236;refine hA.mono ?_;rintro y w2 ⟨rfl,hG⟩))
 go_ret
 exact ⟨rfl,hG⟩
theorem QF.room2 (h:QF w f D g n) (t:QTb w b g M N) (hn:n<1000) {z:Bool}(hz:(z=true∧¬(usedN N+2 > 8∨n+2 > 40))∨(z=false∧(usedN N+2 > 8∨n+2 > 40))):Calls Tryz.prog 135 #[wp f,wp b,.int .i64 2] w fun e w'=>e=.returned (.bool z)∧Below w.heap.size w w':=by
 have hR:=h.room_ok t 2 (by omega) hn
 have e1:(decide (usedN N+2≤8) && decide (n+2≤40))=z:=by
  rcases hz with ⟨rfl,hr⟩|⟨rfl,hr⟩
  ·rw [decide_eq_true (by omega),decide_eq_true (by omega)];rfl
  ·by_cases h1:usedN N+2≤8
   ·rw [decide_eq_false (p:=n+2≤40) (by omega),Bool.and_false]
   ·rw [decide_eq_false h1];rfl
 rw [e1] at hR
 exact hR
theorem QF.pipe_no (h:QF w f D g n) (t:QTb w b g M N) (hf:usedN N+2 > 8∨n+2 > 40) (hn:n<1000) :
 Calls Tryz.prog 54 #[wp f,wp b] w fun x w'=>x=.returned (.tuple #[.int .i64 0,.int .i64 0,uer 12])∧QGo w w' f D g b N:=by
 have hR:=h.room2 t hn (.inr ⟨rfl,hf⟩)
 have hs:∀w',Below w.heap.size w w'→QGo w w' f D g b N:=fun w' hb=>h.same t hb
 clear h t hf
 go_enter Tryz.func54,Tryz.ntmps54
 go_wp2_with (go_at_call 135;refine hR.mono ?_;rintro y w1 ⟨rfl,b1⟩)
 go_ret3
 exact ⟨rfl,hs _ b1⟩
theorem pipe_same (D:DS):addD (opP (addD (opP { D with P:=fun i=>if i=D.nx+1 then some ([],0,0) else D.P i,nx:=D.nx+1 } (D.nx+1) ([],0,0) 2) ⟨2,1,0,D.nx+1,0⟩) (D.nx+1) ([],1,0) 3) ⟨3,2,0,D.nx+1,0⟩=pipeD D:=by
 unfold pipeD pipeD1 pipeD0 opP addD
 simp only [DS.mk.injEq,true_and,and_true]
 funext i
 by_cases e:i=D.nx+1
 ·simp [e,opF,opI]
 ·simp [e]
theorem Live.add {D:DS}{N:Ns}(h:Live D N) (e:En):Live (addD D e) (addN D N):=fun i hi h0=>by
 show (if (addN D N)[i].1=D.nx+1 then some e else D.E (addN D N)[i].1).isSome=true
 by_cases e1:(addN D N)[i].1=D.nx+1
 ·rw [if_pos e1];rfl
 ·rw [if_neg e1]
  unfold addN at e1 h0 hi ⊢
  rw [List.length_set] at hi
  by_cases e2:(leastN N).toNat=i
  ·rw [List.getElem_set] at e1
   rw [if_pos e2] at e1
   exact absurd rfl e1
  ·rw [List.getElem_set_ne e2] at h0 ⊢
   exact h i hi h0
theorem QF.pipe_yes (h:QF w f D g n) (t:QTb w b g M N) (hG:Given D) (hg:D.nx<890) (hE:∀d e,D.E d=some e→e.pipe≠D.nx+1∨e.kind=1) (hf:¬(usedN N+2 > 8∨n+2 > 40)) (hl1:¬leastN N<0) (hl2:¬leastN (pipeN1 D N)<0) (hL:Live D N) :
 Calls Tryz.prog 54 #[wp f,wp b] w fun x w'=>x=.returned (.tuple #[.int .i64 (leastN N),.int .i64 (leastN (pipeN1 D N)),.nilIface])∧QGo w w' f (pipeD D) g b (pipeN D N):=by
 have hn:n<1000:=by omega
 have hR:=h.room2 t hn (.inl ⟨rfl,hf⟩)
 have hnew:=hG.new
 have H1:∀V,Below w.heap.size w V→Calls Tryz.prog 136 #[wp f,wp b,wp V.heap.size,.int .i64 2,.int .i64 1] (V.alloc (.cells pcells 228)) fun x9 w2=>x9=.returned (.int .i64 (leastN N))∧Calls Tryz.prog 136 #[wp f,wp b,wp V.heap.size,.int .i64 3,.int .i64 2] w2 fun x8 w3=>x8=.returned (.int .i64 (leastN (pipeN1 D N)))∧QGo w w3 f (pipeD D) g b (pipeN D N):=fun V hV=>by
  have hV':=h.below hV
  have bA:Below V.heap.size V (V.alloc (.cells pcells 228)):=(Below.refl _ V).alloc (Nat.le_refl _) _
  obtain ⟨g1,a1,a2,a3,a4,a5⟩:=hV'.newPipe (q:=V.heap.size) (p:=D.nx+1) (Nat.le_refl _) (by show V.heap.size<(V.heap.push _).size;rw [Array.size_push];omega) bA hnew.2.2 hE (x:=([],0,0)) (new_tb V _) (D.nx+1)
  have hbl:b<V.heap.size:=(t.below hV).tab.lt
  have t1:QTb (V.alloc (.cells pcells 228)) b g1 M N:=(t.below hV).sameK (bA.block b hbl) a2 a3
  have hg0:=hG.n0
  have hE1:D.E (D.nx+1+1)=none:=by
   cases hx:D.E (D.nx+1+1) with
   |none=>rfl
   |some e=>have:=hG.e _ (by rw [hx];rfl);omega
  rw [←a5]
  refine (a1.addEnd_ok t1 (p:=D.nx+1) (x:=([],0,0)) (if_pos rfl) ⟨by simp,by simp⟩ ⟨by simp,by simp⟩ 2 1 (by omega) hE1 (show 0≤D.nx+1 by omega) hl1 hL hn).mono ?_
  rintro y w2 ⟨rfl,⟨⟨g2,M2,c1,c2,c3,c4⟩,wt2⟩⟩
  refine ⟨rfl,?_⟩
  rw [←c4]
  have hN1:addN { D with P:=fun i=>if i=D.nx+1 then some ([],0,0) else D.P i,nx:=D.nx+1 } N=pipeN1 D N:=rfl
  rw [hN1] at c2
  have hL1:Live (addD (opP { D with P:=fun i=>if i=D.nx+1 then some ([],0,0) else D.P i,nx:=D.nx+1 } (D.nx+1) ([],0,0) 2) ⟨2,1,0,D.nx+1,0⟩) (pipeN1 D N):=Live.add (D:=opP { D with P:=fun i=>if i=D.nx+1 then some ([],0,0) else D.P i,nx:=D.nx+1 } (D.nx+1) ([],0,0) 2) (N:=N) hL _
  have hE2:(addD (opP { D with P:=fun i=>if i=D.nx+1 then some ([],0,0) else D.P i,nx:=D.nx+1 } (D.nx+1) ([],0,0) 2) ⟨2,1,0,D.nx+1,0⟩).E (D.nx+1+1+1)=none:=by
   show (if D.nx+1+1+1=D.nx+1+1 then _ else D.E (D.nx+1+1+1))=none
   rw [if_neg (by omega)]
   cases hx:D.E (D.nx+1+1+1) with
   |none=>rfl
   |some e=>have:=hG.e _ (by rw [hx];rfl);omega
  refine (c1.addEnd_ok c2 (p:=D.nx+1) (x:=([],1,0)) (show (if D.nx+1=D.nx+1 then _ else _)=_ from if_pos rfl) ⟨by simp,by simp⟩ ⟨by simp,by simp⟩ 3 2 (by omega) hE2 (show 0≤D.nx+1+1 by omega) hl2 hL1 (by omega)).mono ?_
  rintro y w3 ⟨rfl,hQ⟩
  rw [pipe_same] at hQ
  refine ⟨rfl,?_⟩
  obtain ⟨⟨g3,M3,d1,d2,d3,d4⟩,wt3⟩:=hQ
  have hs1:=hV.size
  have hs2:=bA.size
  have hs3:=wt2.size
  have hkp:∀i,i<w.heap.size→g1.kap i=g.kap i:=fun i hi=>a2 i (by omega)
  have hkp2:∀i,i<w.heap.size→g2.kap i=g.kap i:=fun i hi=>(c3.kap i (by omega)).trans (hkp i hi)
  have wt1:Wt (fun i=>(g.kap i).isSome=true∨i=b) w (V.alloc (.cells pcells 228)):=Wt.below _ (hV.trans (bA.mono hV.size))
  refine ⟨⟨g3,_,M3,d1,d2,⟨fun i hi=>(d3.kap i (by omega)).trans (hkp2 i hi),fun k d hk hd=>?_,d3.r.trans (c3.r.trans a4)⟩⟩,(wt1.weaken wt2 (fun i hi z=>?_)).weaken wt3 (fun i hi z=>?_)⟩
  ·refine d3.key k d (c3.key k d (by rw [a3];exact hk) ?_) hd
   show (if d=D.nx+1+1 then some _ else D.E d).isSome=true
   split
   ·rfl
   ·exact (h.key k d hk).1
  ·rcases z with z|z
   ·exact .inl (by rw [←hkp i hi];exact z)
   ·exact .inr z
  ·rcases z with z|z
   ·exact .inl (by rw [←hkp2 i hi];exact z)
   ·exact .inr z
 generalize leastN (pipeN1 D N)=L2 at *
 generalize leastN N=L1 at *
 generalize pipeD D=D2 at *
 generalize pipeN D N=N2 at *
 clear h t hG hg hE hf hl1 hl2 hL hnew
 go_enter Tryz.func54,Tryz.ntmps54
 go_upto_region 4 with (go_at_call 135;refine hR.mono ?_;rintro y w1 ⟨rfl,b1⟩)
 have hA:=H1 _ b1
 clear H1 hR
 go_wp2_with (first
  |(go_at_call 136;refine hA2.mono ?_;rintro y w3 ⟨rfl,hG⟩)
  |(go_at_call 136;refine hA.mono ?_;rintro y w2 ⟨rfl,hA2⟩))
 go_ret3
 exact ⟨rfl,hG⟩
end
section
variable {w w' w2 w0 w1:World}{f b n q:Nat}{D D':DS}{g g' g1:QG}{M N N':Ns}{d k m:Int}{e:En}{T':Wd}
theorem QF.usable_no (h:QF w f D g n) (t:QTb w b g M N) (x u:Int) (hx:hasN N x=false):Calls Tryz.prog 144 #[wp f,wp b,.int .i64 x,.int .i64 u] w fun y w'=>y=.returned (.tuple #[.pointer none,uer 7])∧Below w.heap.size w w':=by
 have hF:=h.find_no t x hx
 clear h t hx
 go_enter Tryz.func144,Tryz.ntmps144
 go_wp2_with (go_at_call 141;refine hF.mono ?_;rintro y w1 ⟨rfl,b1⟩)
 go_ret2
 exact ⟨rfl,b1⟩
theorem QF.usable_false (h:QF w f D g n) (t:QTb w b g M N) {i:Nat}(hi:i<8) (hiL:i<N.length) (h0:0<N[i].1) (he:D.E N[i].1=some e) (u:Int) (hu:(u=1∧e.prot=2)∨(u=2∧e.prot=1)):Calls Tryz.prog 144 #[wp f,wp b,.int .i64 (i:Int),.int .i64 u] w fun y w'=>y=.returned (.tuple #[.pointer none,uer 13])∧Below w.heap.size w w':=by
 have hF:=h.find_yes t hi hiL h0
 have hc:∀V,Below w.heap.size w V→V.cell? ⟨g.B N[i].1,1,none⟩=some (.int .i64 e.prot):=fun V hV=>by
  obtain ⟨c,h1,_⟩:=(h.below hV).ent _ e he
  exact ((h.below hV).ecell he h1).2.1
 generalize g.B N[i].1=q at *
 generalize e.prot=pr at *
 clear h t he h0
 rcases hu with ⟨rfl,rfl⟩|⟨rfl,rfl⟩
 ·go_enter Tryz.func144,Tryz.ntmps144
  go_wp2_with (go_at_call 141;refine hF.mono ?_;rintro y w1 ⟨rfl,b1⟩;have c1:=hc _ b1)
  go_ret2
  exact ⟨rfl,b1⟩
 ·go_enter Tryz.func144,Tryz.ntmps144
  go_wp2_with (go_at_call 141;refine hF.mono ?_;rintro y w1 ⟨rfl,b1⟩;have c1:=hc _ b1)
  go_ret2
  exact ⟨rfl,b1⟩
theorem QF.usable_yes (h:QF w f D g n) (t:QTb w b g M N) {i:Nat}(hi:i<8) (hiL:i<N.length) (h0:0<N[i].1) (he:D.E N[i].1=some e) (u:Int) (hu:(u=1∧(e.prot=1∨e.prot=3))∨(u=2∧(e.prot=2∨e.prot=3))):Calls Tryz.prog 144 #[wp f,wp b,.int .i64 (i:Int),.int .i64 u] w fun y w'=>y=.returned (.tuple #[wp (g.B N[i].1),.nilIface])∧Below w.heap.size w w':=by
 have hF:=h.find_yes t hi hiL h0
 have hc:∀V,Below w.heap.size w V→V.cell? ⟨g.B N[i].1,1,none⟩=some (.int .i64 e.prot):=fun V hV=>by
  obtain ⟨c,h1,_⟩:=(h.below hV).ent _ e he
  exact ((h.below hV).ecell he h1).2.1
 generalize g.B N[i].1=q at *
 generalize e.prot=pr at *
 clear h t he h0
 rcases hu with ⟨rfl,rfl|rfl⟩|⟨rfl,rfl|rfl⟩
 all_goals
  go_enter Tryz.func144,Tryz.ntmps144
  go_wp2_with (go_at_call 141;refine hF.mono ?_;rintro y w1 ⟨rfl,b1⟩;have c1:=hc _ b1)
  go_ret2
  exact ⟨rfl,b1⟩
theorem QF.read_no (h:QF w f D g n) (t:QTb w b g M N) (x a c:Int) (hc:c≠0) (hU:Calls Tryz.prog 144 #[wp f,wp b,.int .i64 x,.int .i64 1] w fun y w'=>y=.returned (.tuple #[.pointer none,uer c])∧Below w.heap.size w w') :
 Calls Tryz.prog 63 #[wp f,wp b,.int .i64 x,.int .i64 a] w fun y w'=>y=.returned (.tuple #[tx [],uev c])∧QGo w w' f D g b N:=by
 have hs:∀w',Below w.heap.size w w'→QGo w w' f D g b N:=fun w' hb=>h.same t hb
 rw [uev_ne hc]
 clear h t hc
 go_enter Tryz.func63,Tryz.ntmps63
 go_wp2_with (go_at_call 144;refine hU.mono ?_;rintro y w1 ⟨rfl,b1⟩)
 go_ret2
 exact ⟨rfl,hs _ b1⟩
theorem QF.read_end (h:QF w f D g n) (t:QTb w b g M N) {i:Nat}(hi:i<8) (hiL:i<N.length) (h0:0<N[i].1) (he:D.E N[i].1=some e) (a:Int) (hk:e.kind≠1) (hpr:e.prot=1∨e.prot=3) {p:Pi}(hp:D.P e.pipe=some p) (hI:0≤p.2.2) :
 Calls Tryz.prog 63 #[wp f,wp b,.int .i64 (i:Int),.int .i64 a] w fun y w'=>y=.returned (.tuple #[tx (p.1.take a.toNat),uev (rdE p.2.2 p.1 a)])∧QGo w w' f { D with P:=fun j=>if j=e.pipe then some (p.1.drop a.toNat,p.2.1,p.2.2) else D.P j } g b N:=by
 have hU:=h.usable_yes t hi hiL h0 he 1 (.inl ⟨rfl,hpr⟩)
 have hk':(e.kind == 1)=false:=by simpa using hk
 have hpv:pv g e=wp (g.Q e.pipe):=if_neg hk
 have hat:∀V,Below w.heap.size w V→V.cell? ⟨g.B N[i].1,5,none⟩=some (wp (g.Q e.pipe))∧Calls Tryz.prog 145 #[wp (g.B N[i].1)] V (fun x w'=>x=.returned (.bool false)∧w'=V)∧Calls Tryz.prog 156 #[wp (g.Q e.pipe),.int .i64 a] V fun y w'=>y=.returned (.tuple #[tx (p.1.take a.toNat),uev (rdE p.2.2 p.1 a)])∧QGo w w' f { D with P:=fun j=>if j=e.pipe then some (p.1.drop a.toNat,p.2.1,p.2.2) else D.P j } g b N:=fun V hV=>by
  have hV':=h.below hV
  obtain ⟨c,h1,_⟩:=hV'.ent _ e he
  have e5:=(hV'.ecell he h1).2.2.2.2.2.1
  rw [hpv] at e5
  have hIs:=hV'.isFile_ok he
  rw [hk'] at hIs
  obtain ⟨tb,tk⟩:=hV'.pipe _ p hp
  refine ⟨e5,hIs,(tb.read_ok a hI).mono ?_⟩
  rintro y w' ⟨rfl,tb',hg⟩
  exact ⟨rfl,⟨⟨g,n,M,hV'.piped hp (x':=(p.1.drop a.toNat,p.2.1,p.2.2)) tb' hg,(t.below hV).offOwn (by rw [tk];rfl) hg,Ext.refl _ _ _⟩,(Wt.below _ hV).trans (Wt.grown hg (.inl (by rw [tk];rfl)))⟩⟩
 generalize ({ D with P:=fun j=>if j=e.pipe then some (p.1.drop a.toNat,p.2.1,p.2.2) else D.P j }:DS)=D2 at *
 generalize g.B N[i].1=q at *
 generalize g.Q e.pipe=Q at *
 generalize uev (rdE p.2.2 p.1 a)=U at *
 generalize List.take a.toNat p.1=S at *
 clear h t hk hpr hp hI he h0 hk' hpv
 go_enter Tryz.func63,Tryz.ntmps63
 go_wp2_with (first
  |(go_at_call 144;refine hU.mono ?_;rintro y w1 ⟨rfl,b1⟩;obtain ⟨c5,hIs,hRd⟩:=hat _ b1)
  |(go_at_call 145;refine hIs.mono ?_;rintro y w2 ⟨rfl,hw2⟩;subst w2)
  |(go_at_call 156;refine hRd.mono ?_;rintro y w3 ⟨rfl,hG⟩))
 go_ret2
 exact ⟨rfl,hG⟩
theorem readS_err {T:Wd}{x a c:Int}(h:readE T x a c≠0):readS T x a c=[]:=by
 unfold readE at h;unfold readS
 cases hn:T x with
 |none=>rfl
 |some nd=>cases nd with
  |dir C=>rfl
  |file b y=>
   have hf:fileT T x=0:=by unfold fileT;rw [hn]
   rw [if_neg (fun e=>e hf)] at h
   simp only
   by_cases h9:a<0∨c<0
   ·rw [if_pos h9]
   ·rw [if_neg h9] at h;exact absurd rfl h
theorem QF.read_file (h:QF w f D g n) (t:QTb w b g M N) {i:Nat}(hi:i<8) (hiL:i<N.length) (h0:0<N[i].1) (he:D.E N[i].1=some e) (a:Int) (hk:e.kind=1) (hpr:e.prot=1∨e.prot=3) (hnd:0≤e.node∧e.node<1000) (hps:0≤e.pos∧e.pos≤200) (hl:(readS D.T e.node e.pos a).length≤100000) :
 Calls Tryz.prog 63 #[wp f,wp b,.int .i64 (i:Int),.int .i64 a] w fun y w'=>y=.returned (.tuple #[tx (readS D.T e.node e.pos a),uev (readE D.T e.node e.pos a)])∧QGo w w' f { D with E:=fun j=>if j=N[i].1 then some { e with pos:=e.pos+(readS D.T e.node e.pos a).length } else D.E j } g b N:=by
 have hU:=h.usable_yes t hi hiL h0 he 1 (.inl ⟨rfl,hpr⟩)
 have hat:∀V,Below w.heap.size w V→(V.cell? ⟨f,0,none⟩=some (wp g.r)∧V.cell? ⟨g.B N[i].1,3,none⟩=some (.int .i64 e.node)∧V.cell? ⟨g.B N[i].1,4,none⟩=some (.int .i64 e.pos))∧V.frozen? ⟨g.B N[i].1,4,none⟩=false:=fun V hV=>by
  have hV':=h.below hV
  obtain ⟨c,h1,_⟩:=hV'.ent _ e he
  obtain ⟨_,_,_,e3,e4,_,ez⟩:=hV'.ecell he h1
  exact ⟨⟨hV'.cells.1,e3,e4⟩,ez 4⟩
 have hIs:∀V,Below w.heap.size w V→Calls Tryz.prog 145 #[wp (g.B N[i].1)] V fun x w'=>x=.returned (.bool true)∧w'=V:=fun V hV=>by
  have:=(h.below hV).isFile_ok he
  rw [hk] at this
  exact this
 have hRd:∀V,Below w.heap.size w V→Calls Tryz.prog 157 #[wp g.r,.int .i64 e.node,.int .i64 e.pos,.int .i64 a] V fun y w'=>y=.returned (.tuple #[tx (readS D.T e.node e.pos a),uev (readE D.T e.node e.pos a)])∧Below w.heap.size w w':=fun V hV=>by
  obtain ⟨O,p,_⟩:=(h.below hV).tree
  refine (p.read_ok e.node e.pos a (wf_few hnd.1 (by omega))).mono ?_
  rintro y w' ⟨rfl,z,rfl⟩
  exact ⟨rfl,⟨hV.os,hV.tape,hV.output,hV.size,hV.block⟩⟩
 obtain ⟨c9,hc9,_,hkb⟩:=h.ent _ e he
 have HF:Aside (∀V,Below w.heap.size w V→QGo w (V.setCell ⟨g.B N[i].1,4,none⟩ (.int .i64 (e.pos+(readS D.T e.node e.pos a).length))) f { D with E:=fun j=>if j=N[i].1 then some { e with pos:=e.pos+(readS D.T e.node e.pos a).length } else D.E j } g b N):=fun V hV=>by
  have gg:=tgrown_set V (g.B N[i].1) 4 (.int .i64 (e.pos+(readS D.T e.node e.pos a).length))
  exact ⟨⟨g,n,M,(h.below hV).place he _,(t.below hV).offOwn (by rw [hkb];rfl) gg,Ext.refl _ _ _⟩,(Wt.below _ hV).trans (Wt.grown gg (.inl (by rw [hkb];rfl)))⟩
 have HE:Aside (readE D.T e.node e.pos a≠0→tx (readS D.T e.node e.pos a)=tx []∧∀V,Below w.heap.size w V→QGo w V f { D with E:=fun j=>if j=N[i].1 then some { e with pos:=e.pos+(readS D.T e.node e.pos a).length } else D.E j } g b N):=fun hz=>by
  rw [readS_err hz]
  refine ⟨rfl,fun V hV=>?_⟩
  have hD:({ D with E:=fun j=>if j=N[i].1 then some { e with pos:=e.pos+(([]:List UInt8).length:Int) } else D.E j }:DS)=D:=by
   have hE:(fun j=>if j=N[i].1 then some { e with pos:=e.pos+(([]:List UInt8).length:Int) } else D.E j)=D.E:=by
    funext j
    by_cases ej:j=N[i].1
    ·rw [if_pos ej,ej,he];simp
    ·rw [if_neg ej]
   rw [hE]
  rw [hD]
  exact h.same t hV
 generalize hD2:({ D with E:=fun j=>if j=N[i].1 then some { e with pos:=e.pos+(readS D.T e.node e.pos a).length } else D.E j }:DS)=D2 at *
 generalize hS9:readS D.T e.node e.pos a=S9 at *
 generalize hC9:readE D.T e.node e.pos a=C9 at *
 generalize g.B N[i].1=q at *
 generalize e.node=nd at *
 generalize e.pos=ps at *
 obtain ⟨hps0,hps1⟩:=hps
 have HW:Aside (wrap64 (ps+(S9.length:Int))=ps+(S9.length:Int)):=by show wrap64 _=_;unfold wrap64;omega
 clear h t hk hpr he h0 hnd hl hkb hc9 hD2 hS9 hC9 hps0 hps1
 go_enter Tryz.func63,Tryz.ntmps63
 go_upto_region 6 with (first
  |(go_at_call 144;refine hU.mono ?_;rintro y w1 ⟨rfl,b1⟩)
  |(go_at_call 145;refine (hIs _ b1).mono ?_;rintro y w2 ⟨rfl,hw2⟩;subst w2))
 obtain ⟨hc1,hz1⟩:=hat _ b1
 go_region_held3 (fun w'=>w'.cell? ⟨f,0,none⟩=some (wp g.r)∧w'.cell? ⟨q,3,none⟩=some (.int .i64 nd)∧w'.cell? ⟨q,4,none⟩=some (.int .i64 ps)) (first|exact hc1|exact (hat _ b3).1) (first
  |(go_at_call 157;refine (hRd _ (below_dr b1)).mono ?_;rintro y w3 ⟨rfl,b3⟩))
 all_goals
  obtain ⟨⟨_,_,k4⟩,kz⟩:=hat _ b3
  clear hat hRd hIs hU hc1 hz1
  by_cases hz:C9=0
  ·have HG:=HF.out _ b3
   have HW9:=HW.out
   subst hz
   clear HE HF HW
   rw [show uev 0=.nilIface from rfl]
   go_wp2_with fail
   go_ret2
   exact ⟨rfl,HG⟩
  ·have HX:=HE.out hz
   have HC:Aside (tx S9=tx []∧C9≠0):=⟨HX.1,hz⟩
   rw [uev_ne hz]
   have HG:=HX.2 _ b3
   clear HE HF HW HX hz
   go_wp2_with fail
   go_ret2
   exact ⟨by rw [HC.out.1,uev_ne HC.out.2];rfl,HG⟩
end
section
variable {w w' w2 w0 w1:World}{f b n q:Nat}{D D':DS}{g g' g1:QG}{M N N':Ns}{d k m:Int}{e:En}{T':Wd}
theorem QF.write_no (h:QF w f D g n) (t:QTb w b g M N) (x:Int) (s:List UInt8) (a c:Int) (hc:c≠0) (hU:Calls Tryz.prog 144 #[wp f,wp b,.int .i64 x,.int .i64 2] w fun y w'=>y=.returned (.tuple #[.pointer none,uer c])∧Below w.heap.size w w') :
 Calls Tryz.prog 59 #[wp f,wp b,.int .i64 x,tx s,.int .i64 a] w fun y w'=>y=.returned (.tuple #[.int .i64 0,uev c])∧QGo w w' f D g b N:=by
 have hs:∀w',Below w.heap.size w w'→QGo w w' f D g b N:=fun w' hb=>h.same t hb
 rw [uev_ne hc]
 clear h t hc
 go_enter Tryz.func59,Tryz.ntmps59
 go_wp2_with (go_at_call 144;refine hU.mono ?_;rintro y w1 ⟨rfl,b1⟩)
 go_ret2
 exact ⟨rfl,hs _ b1⟩
theorem QF.write_end (h:QF w f D g n) (t:QTb w b g M N) {i:Nat}(hi:i<8) (hiL:i<N.length) (h0:0<N[i].1) (he:D.E N[i].1=some e) (s:List UInt8) (a:Int) (hk:e.kind≠1) (hpr:e.prot=2∨e.prot=3) {p:Pi}(hp:D.P e.pipe=some p) :
 Calls Tryz.prog 59 #[wp f,wp b,.int .i64 (i:Int),tx s,.int .i64 a] w fun y w'=>y=.returned (.tuple #[.int .i64 (wrN p.2.1 p.1 s:Int),uev (wrE p.2.1 p.1 s)])∧QGo w w' f { D with P:=fun j=>if j=e.pipe then some (wrB p.2.1 p.1 s,p.2.1,p.2.2) else D.P j } g b N:=by
 have hU:=h.usable_yes t hi hiL h0 he 2 (.inr ⟨rfl,hpr⟩)
 have hk':(e.kind == 1)=false:=by simpa using hk
 have hpv:pv g e=wp (g.Q e.pipe):=if_neg hk
 have hat:∀V,Below w.heap.size w V→V.cell? ⟨g.B N[i].1,5,none⟩=some (wp (g.Q e.pipe))∧Calls Tryz.prog 145 #[wp (g.B N[i].1)] V (fun x w'=>x=.returned (.bool false)∧w'=V)∧Calls Tryz.prog 146 #[wp (g.Q e.pipe),tx s] V fun y w'=>y=.returned (.tuple #[.int .i64 (wrN p.2.1 p.1 s:Int),uev (wrE p.2.1 p.1 s)])∧QGo w w' f { D with P:=fun j=>if j=e.pipe then some (wrB p.2.1 p.1 s,p.2.1,p.2.2) else D.P j } g b N:=fun V hV=>by
  have hV':=h.below hV
  obtain ⟨c,h1,_⟩:=hV'.ent _ e he
  have e5:=(hV'.ecell he h1).2.2.2.2.2.1
  rw [hpv] at e5
  have hIs:=hV'.isFile_ok he
  rw [hk'] at hIs
  obtain ⟨tb,tk⟩:=hV'.pipe _ p hp
  refine ⟨e5,hIs,(tb.write_ok s).mono ?_⟩
  rintro y w' ⟨rfl,tb',hg⟩
  exact ⟨rfl,⟨⟨g,n,M,hV'.piped hp (x':=(wrB p.2.1 p.1 s,p.2.1,p.2.2)) tb' hg,(t.below hV).offOwn (by rw [tk];rfl) hg,Ext.refl _ _ _⟩,(Wt.below _ hV).trans (Wt.grown hg (.inl (by rw [tk];rfl)))⟩⟩
 generalize ({ D with P:=fun j=>if j=e.pipe then some (wrB p.2.1 p.1 s,p.2.1,p.2.2) else D.P j }:DS)=D2 at *
 generalize g.B N[i].1=q at *
 generalize g.Q e.pipe=Q at *
 generalize uev (wrE p.2.1 p.1 s)=U at *
 generalize wrN p.2.1 p.1 s=S at *
 clear h t hk hpr hp he h0 hk' hpv
 go_enter Tryz.func59,Tryz.ntmps59
 go_wp2_with (first
  |(go_at_call 144;refine hU.mono ?_;rintro y w1 ⟨rfl,b1⟩;obtain ⟨c5,hIs,hRd⟩:=hat _ b1)
  |(go_at_call 145;refine hIs.mono ?_;rintro y w2 ⟨rfl,hw2⟩;subst w2)
  |(go_at_call 146;refine hRd.mono ?_;rintro y w3 ⟨rfl,hG⟩))
 go_ret2
 exact ⟨rfl,hG⟩
theorem QF.filed (h:QF w f D g n) (he:D.E d=some e) (hk:e.kind=1) (V:World) (hV:Below w.heap.size w V):Calls Tryz.prog 145 #[wp (g.B d)] V fun x w'=>x=.returned (.bool true)∧w'=V:=by
 have:=(h.below hV).isFile_ok he
 rw [hk] at this
 exact this
theorem QF.write_limit (h:QF w f D g n) (t:QTb w b g M N) {i:Nat}(hi:i<8) (hiL:i<N.length) (h0:0<N[i].1) (he:D.E N[i].1=some e) (s:List UInt8) (a:Int) (hk:e.kind=1) (hpr:e.prot=2∨e.prot=3) (hps:0≤e.pos∧e.pos≤200) (hl:s.length<100000) (hlim:tooMuch s a e.pos) :
 Calls Tryz.prog 59 #[wp f,wp b,.int .i64 (i:Int),tx s,.int .i64 a] w fun y w'=>y=.returned (.tuple #[.int .i64 0,uer 4])∧QGo w w' f D g b N:=by
 have hU:=h.usable_yes t hi hiL h0 he 2 (.inr ⟨rfl,hpr⟩)
 have hIs:=fun V hV=>h.filed he hk V hV
 have hat:∀V,Below w.heap.size w V→V.cell? ⟨g.B N[i].1,4,none⟩=some (.int .i64 e.pos):=fun V hV=>by
  have hV':=h.below hV
  obtain ⟨c,h1,_⟩:=hV'.ent _ e he
  exact (hV'.ecell he h1).2.2.2.2.1
 have hs:∀w',Below w.heap.size w w'→QGo w w' f D g b N:=fun w' hb=>h.same t hb
 obtain ⟨hs0,hs1⟩:=hlim
 have hlt:a<e.pos+(s.length:Int):=by omega
 have hw1:wrap64 (e.pos+(s.length:Int))=e.pos+(s.length:Int):=by unfold wrap64;omega
 have hne:(s == [])=false:=by simpa using hs0
 generalize g.B N[i].1=q at *
 generalize e.pos=ps at *
 clear h t hk hpr he h0 hl hps hs0 hs1
 go_enter Tryz.func59,Tryz.ntmps59
 go_wp2_with (first
  |(go_at_call 144;refine hU.mono ?_;rintro y w1 ⟨rfl,b1⟩;have c4:=hat _ b1)
  |(go_at_call 145;refine (hIs _ b1).mono ?_;rintro y w2 ⟨rfl,hw2⟩;subst w2))
 go_ret2
 exact ⟨rfl,hs _ b1⟩
theorem QF.write_file (h:QF w f D g n) (t:QTb w b g M N) {i:Nat}(hi:i<8) (hiL:i<N.length) (h0:0<N[i].1) (he:D.E N[i].1=some e) (s:List UInt8) (a:Int) (hk:e.kind=1) (hpr:e.prot=2∨e.prot=3) (hnd:0≤e.node∧e.node<1000) (hps:0≤e.pos∧e.pos≤200) (hl:s.length<100000) (hT:TrLv D.T) (hlim:¬tooMuch s a e.pos) :
 Calls Tryz.prog 59 #[wp f,wp b,.int .i64 (i:Int),tx s,.int .i64 a] w fun y w'=>(writeE D.T e.node e.pos s≠0∧y=.returned (.tuple #[.int .i64 0,uer (writeE D.T e.node e.pos s)])∧QGo w w' f D g b N)∨(writeE D.T e.node e.pos s=0∧y=.returned (.tuple #[.int .i64 (s.length:Int),.nilIface])∧QGo w w' f { D with T:=writeN D.T e.node e.pos s,E:=fun j=>if j=N[i].1 then some { e with pos:=e.pos+s.length } else D.E j } g b N):=by
 have hU:=h.usable_yes t hi hiL h0 he 2 (.inr ⟨rfl,hpr⟩)
 have hIs:=fun V hV=>h.filed he hk V hV
 have hat:∀V,Below w.heap.size w V→(V.cell? ⟨f,0,none⟩=some (wp g.r)∧V.cell? ⟨g.B N[i].1,3,none⟩=some (.int .i64 e.node)∧V.cell? ⟨g.B N[i].1,4,none⟩=some (.int .i64 e.pos)):=fun V hV=>by
  have hV':=h.below hV
  obtain ⟨c,h1,_⟩:=hV'.ent _ e he
  obtain ⟨_,_,_,e3,e4,_,ez⟩:=hV'.ecell he h1
  exact ⟨hV'.cells.1,e3,e4⟩
 have hWr:∀V,Below w.heap.size w V→Calls Tryz.prog 147 #[wp g.r,.int .i64 e.node,.int .i64 e.pos,tx s] V fun y w'=>y=.returned (uev (writeE D.T e.node e.pos s))∧(w'.cell? ⟨f,0,none⟩=some (wp g.r)∧w'.cell? ⟨g.B N[i].1,3,none⟩=some (.int .i64 e.node)∧w'.cell? ⟨g.B N[i].1,4,none⟩=some (.int .i64 e.pos))∧w'.frozen? ⟨g.B N[i].1,4,none⟩=false∧(writeE D.T e.node e.pos s≠0→QGo w w' f D g b N)∧QGo w (w'.setCell ⟨g.B N[i].1,4,none⟩ (.int .i64 (e.pos+s.length))) f { D with T:=writeN D.T e.node e.pos s,E:=fun j=>if j=N[i].1 then some { e with pos:=e.pos+s.length } else D.E j } g b N:=fun V hV=>by
  have hV':=h.below hV
  obtain ⟨O,p,hO⟩:=hV'.tree
  refine (p.write_ok hT e.node e.pos s (wf_few hnd.1 (by omega)) hl).mono ?_
  rintro y w' ⟨rfl,O',p',st⟩
  have hq:=hV'.treeGo (t.below hV) hO p' st
  obtain ⟨c,h1,_,hkb⟩:=hV'.ent _ e he
  have hbk:w'.heap[g.B N[i].1]? = V.heap[g.B N[i].1]? := st.wt.block _ (hV'.lt _ (by rw [hkb];rfl)) (fun o=>tag_ne hkb (hO _ o) (by simp) rfl)
  have hcell:∀o,w'.cell? ⟨g.B N[i].1,o,none⟩=V.cell? ⟨g.B N[i].1,o,none⟩:=fun o=>World.cell?_of_block (w:=V) (a:=⟨g.B N[i].1,o,none⟩) hbk
  obtain ⟨_,_,_,e3,e4,_,ez⟩:=hV'.ecell he h1
  refine ⟨rfl,⟨hq.cell0,by rw [hcell];exact e3,by rw [hcell];exact e4⟩,by rw [World.frozen?_of_block (w:=V) (a:=⟨g.B N[i].1,4,none⟩) hbk];exact ez 4,fun hE=>?_,?_⟩
  ·have hN:writeN D.T e.node e.pos s=D.T:=by unfold writeN;rw [if_pos (.inl hE)]
   have:=(hq.upon hV).go
   rw [hN] at this
   exact this
  ·obtain ⟨⟨g1,a1,a2,a3,a4,a5,a6⟩,wt⟩:=hq.upon hV
   have he1:({ D with T:=writeN D.T e.node e.pos s }:DS).E N[i].1=some e:=he
   obtain ⟨c1,b1,b2,b3⟩:=a1.ent _ e he1
   have hB1:g1.B N[i].1=g.B N[i].1:=by rw [a6]
   have h2:=a1.place he1 (e.pos+s.length)
   rw [hB1] at h2 b3
   have gg:=tgrown_set w' (g.B N[i].1) 4 (.int .i64 (e.pos+s.length))
   refine QGo.after a3 a4 a5 wt ⟨⟨g1,n,M,h2,a2.offOwn (by rw [b3];rfl) gg,Ext.refl _ _ _⟩,Wt.grown gg (.inl (by rw [b3];rfl))⟩
 generalize ({ D with T:=writeN D.T e.node e.pos s,E:=fun j=>if j=N[i].1 then some { e with pos:=e.pos+s.length } else D.E j }:DS)=D2 at *
 generalize writeE D.T e.node e.pos s=C9 at *
 generalize g.B N[i].1=q at *
 generalize e.node=nd at *
 generalize hps9:e.pos=ps at *
 have HW:Aside (wrap64 (ps+(s.length:Int))=ps+(s.length:Int)):=by show wrap64 _=_;unfold wrap64;omega
 have hcond:s=[]∨(s≠[]∧¬a<ps+(s.length:Int)):=by
  by_cases e1:s=[]
  ·exact .inl e1
  ·refine .inr ⟨e1,fun h9=>hlim ⟨e1,by omega⟩⟩
 clear h t hk hpr he h0 hl hps hnd hT hlim hps9
 have HC:Aside (s=[]∨(s≠[]∧¬a<ps+(s.length:Int))):=hcond
 clear hcond
 go_enter Tryz.func59,Tryz.ntmps59
 go_upto_region 6 with (first
  |(go_at_call 144;refine hU.mono ?_;rintro y w1 ⟨rfl,b1⟩)
  |(go_at_call 145;refine (hIs _ b1).mono ?_;rintro y w2 ⟨rfl,hw2⟩;subst w2))
 have hc1:=hat _ b1
 obtain ⟨c0,c3,c4⟩:=hat _ b1
 clear hU hIs hat
 rcases HC.out with rfl|⟨hs0,hs1⟩
 ·clear HC
  go_upto_region 8 with fail
  go_region_held3 (fun w'=>w'.cell? ⟨f,0,none⟩=some (wp g.r)∧w'.cell? ⟨q,3,none⟩=some (.int .i64 nd)∧w'.cell? ⟨q,4,none⟩=some (.int .i64 ps)) (first|exact hc1|exact hc3) (first
   |(go_at_call 147;refine (hWr _ (below_dr b1)).mono ?_;rintro y w3 ⟨rfl,hc3,hz3,hB,hG⟩;have HB:Aside _:=hB;clear hB))
  all_goals
   obtain ⟨_,_,k4⟩:=hc3
   have HW9:wrap64 ps=ps:=by simpa using HW.out
   clear hc1 c0 c3 c4 hWr HW
   by_cases hz:C9=0
   ·subst hz
    clear HB
    rw [show uev 0=.nilIface from rfl]
    go_wp2_with fail
    go_ret2
    exact ⟨rfl,by simpa using hG⟩
   ·have hG2:=HB.out hz
    rw [uev_ne hz]
    have HN:Aside (C9≠0):=hz
    clear hz HB hG
    go_wp2_with fail
    go_ret2
    exact .inl ⟨HN.out,rfl,hG2⟩
 ·have hne:(s == [])=false:=by simpa using hs0
  have HW9:=HW.out
  clear HC hs0
  go_upto_region 8 with fail
  go_region_held3 (fun w'=>w'.cell? ⟨f,0,none⟩=some (wp g.r)∧w'.cell? ⟨q,3,none⟩=some (.int .i64 nd)∧w'.cell? ⟨q,4,none⟩=some (.int .i64 ps)) (first|exact hc1|exact hc3) (first
   |(go_at_call 147;refine (hWr _ (below_dr b1)).mono ?_;rintro y w3 ⟨rfl,hc3,hz3,hB,hG⟩;have HB:Aside _:=hB;clear hB))
  all_goals
   obtain ⟨_,_,k4⟩:=hc3
   clear hc1 c0 c3 c4 hWr HW
   by_cases hz:C9=0
   ·subst hz
    clear HB
    rw [show uev 0=.nilIface from rfl]
    go_wp2_with fail
    go_ret2
    exact ⟨rfl,hG⟩
   ·have hG2:=HB.out hz
    rw [uev_ne hz]
    have HN:Aside (C9≠0):=hz
    clear hz HB hG
    go_wp2_with fail
    go_ret2
    exact .inl ⟨HN.out,rfl,hG2⟩
end
theorem Stp.cellKept {w w':World}{A A':Nat→Prop}(st:Stp w w' A A') {b o:Nat}{v:Value}(h:w.cell? ⟨b,o,none⟩=some v) (hA:¬A b):w'.cell? ⟨b,o,none⟩=some v∧¬A' b:=by
 have hlt:b<w.heap.size:=World.block_lt_of_cell? w _ h
 obtain ⟨h1,h2⟩:=st.apart (P:=fun i=>i=b) (fun i e=>by subst e;exact ⟨hA,hlt⟩) b rfl
 exact ⟨by rw [World.cell?_of_block (w:=w) (a:=⟨b,o,none⟩) (st.keep (P:=fun i=>i=b) (fun i e=>by subst e;exact ⟨hA,hlt⟩) b rfl)];exact h,h1⟩
structure KD (w:World) (m:Int) (f r:Nat) (D:DS) (bs:List Nat) (Ts:List Ns) (k:Nat) (A:Nat→Prop):Prop where
 st:∃g n,QF w f D g n∧g.r=r∧(∀j (h:j<bs.length) (h':j<Ts.length),∃M,QTb w bs[j] g M Ts[j])∧∀i,(g.kap i).isSome=true→A i
 len:bs.length=Ts.length
 nd:bs.Nodup
 bsA:∀b∈bs,A b
 inv:Inv D Ts k
 lt:∀i,A i→i<w.heap.size
 ml:w.cell? ⟨4,0,none⟩=some (.int .i64 m)
 mn:¬A 4
 er:w.cell? ⟨0,0,none⟩=some errT
 en:¬A 0
section
variable {w w' w2 w0 w1:World}{f r b n k k' j:Nat}{D D':DS}{g g':QG}{bs:List Nat}{Ts:List Ns}{M N N':Ns}{d m:Int}{A:Nat→Prop}
theorem QF.numE (h:QF w f D g n):IsN D.E n:=by
 obtain ⟨Dt,_,_,h1,h2,h3⟩:=h.map.data
 have h3':∀x,x∈Go.intKeys Dt↔(g.K x).isSome=true:=fun x=>by rw [h3 x,Option.isSome_map]
 refine ⟨(Go.intKeys Dt).map (fun k=>(g.K k).getD 0),?_,by rw [List.length_map,h2],fun x=>?_⟩
 ·refine List.pairwise_map.2 (h1.imp_of_mem (fun {a b} ha hb hne e=>hne ?_))
  obtain ⟨x,hx⟩:=Option.isSome_iff_exists.1 ((h3' a).1 ha)
  obtain ⟨y,hy⟩:=Option.isSome_iff_exists.1 ((h3' b).1 hb)
  rw [hx,hy] at e
  have e':x=y:=e
  rw [←e'] at hy
  exact h.inj a b x hx hy
 ·constructor
  ·intro hx
   obtain ⟨a,ha,rfl⟩:=List.mem_map.1 hx
   obtain ⟨y,hy⟩:=Option.isSome_iff_exists.1 ((h3' a).1 ha)
   rw [hy]
   exact (h.key a y hy).1
  ·intro hx
   obtain ⟨a,ha⟩:=h.has x hx
   exact List.mem_map.2 ⟨a,(h3' a).2 (by rw [ha];rfl),by rw [ha];rfl⟩
theorem QF.few (h:QF w f D g n) (hg:Given D):n<1000:=by
 have:=h.numE.few hg.n0 hg.e
 have:=hg.n1
 omega
theorem KD.call (h:KD w m f r D bs Ts k A) (hj:j<bs.length) {fn:FuncId}{args:Array Value}{Q:Ending→DS→Ns→Prop}
 (hc:∀g n M (h':j<Ts.length),QF w f D g n→QTb w bs[j] g M Ts[j]→g.r=r→Calls Tryz.prog fn args w fun y w'=>∃D' N',Q y D' N'∧QGo w w' f D' g bs[j] N') (hI:∀y D' N',Q y D' N'→Inv D' (Ts.set j N') k') :
 Calls Tryz.prog fn args w fun y w'=>∃D' N' A',Q y D' N'∧KD w' m f r D' bs (Ts.set j N') k' A'∧Stp w w' A A':=by
 obtain ⟨g,n,h1,hr,ht,hA⟩:=h.st
 have hj':j<Ts.length:=by rw [←h.len];exact hj
 obtain ⟨M,tj⟩:=ht j hj hj'
 refine (hc g n M hj' h1 tj hr).mono ?_
 rintro y w' ⟨D',N',hQ,⟨⟨g',n',M',a1,a2,a3⟩,wt⟩⟩
 have I':=hI y D' N' hQ
 have hst:Stp w w' A (fun i=>A i∨(w.heap.size≤i∧i<w'.heap.size)):=⟨wt.mono (fun i hi=>by
  rcases hi with hi|rfl
  ·exact hA i hi
  ·exact h.bsA _ (List.getElem_mem hj)),fun i hi=>by
  rcases hi with hi|hi
  ·exact .inl hi
  ·exact .inr hi.1⟩
 refine ⟨D',N',_,hQ,⟨⟨g',n',a1,a3.r.trans hr,fun x hx hx'=>?_,fun i hi=>?_⟩,by rw [List.length_set];exact h.len,h.nd,fun b hb=>.inl (h.bsA b hb),I',fun i hi=>?_,(hst.cellKept h.ml h.mn).1,(hst.cellKept h.ml h.mn).2,(hst.cellKept h.er h.en).1,(hst.cellKept h.er h.en).2⟩,hst⟩
 ·by_cases e1:x=j
  ·subst e1
   rw [List.getElem_set_self]
   exact ⟨M',a2⟩
  ·rw [List.length_set] at hx'
   obtain ⟨Mx,tx⟩:=ht x hx hx'
   rw [List.getElem_set_ne (Ne.symm e1)]
   have hxs:x<(Ts.set j N').length:=by rw [List.length_set];exact hx'
   have hl:=I'.live hxs
   rw [List.getElem_set_ne (Ne.symm e1)] at hl
   refine ⟨Mx,tx.other a3 (wt.block _ tx.tab.lt ?_) hl⟩
   rintro (z|z)
   ·rw [tx.off] at z;cases z
   ·exact e1 ((List.getElem_inj h.nd).1 z)
 ·by_cases e1:i<w.heap.size
  ·rw [a3.kap i e1] at hi
   exact .inl (hA i hi)
  ·exact .inr ⟨by omega,a1.lt i hi⟩
 ·rcases hi with hi|hi
  ·exact Nat.lt_of_lt_of_le (h.lt i hi) wt.size
  ·exact hi.2
theorem KD.below (h:KD w m f r D bs Ts k A) (hb:Below w.heap.size w w'):KD w' m f r D bs Ts k A:=by
 obtain ⟨g,n,h1,hr,ht,hA⟩:=h.st
 have hst:Stp w w' A A:=.below hb
 exact ⟨⟨g,n,h1.below hb,hr,fun j hj hj'=>by
  obtain ⟨M,t⟩:=ht j hj hj'
  exact ⟨M,t.below hb⟩,hA⟩,h.len,h.nd,h.bsA,h.inv,fun i hi=>Nat.lt_of_lt_of_le (h.lt i hi) hb.size,(hst.cellKept h.ml h.mn).1,h.mn,(hst.cellKept h.er h.en).1,h.en⟩
theorem KD.keep (h:KD w m f r D bs Ts k A) (hk:∀i,A i→w'.heap[i]? = w.heap[i]?) (hs:w.heap.size≤w'.heap.size) (hm:w'.cell? ⟨4,0,none⟩=some (.int .i64 m)) (he:w'.cell? ⟨0,0,none⟩=some errT):KD w' m f r D bs Ts k A:=by
 obtain ⟨g,n,h1,hr,ht,hA⟩:=h.st
 exact ⟨⟨g,n,h1.keep (fun i hi=>hk i (hA i hi)) hs,hr,fun j hj hj'=>by
  obtain ⟨M,t⟩:=ht j hj hj'
  exact ⟨M,t.keep (hk _ (h.bsA _ (List.getElem_mem hj)))⟩,hA⟩,h.len,h.nd,h.bsA,h.inv,fun i hi=>Nat.lt_of_lt_of_le (h.lt i hi) hs,hm,h.mn,he,h.en⟩
theorem KD.jT (h:KD w m f r D bs Ts k A) (hj:j<bs.length):j<Ts.length:=by rw [←h.len];exact hj
theorem KD.numE (h:KD w m f r D bs Ts k A):∃n,IsN D.E n:=by
 obtain ⟨g,n,h1,_⟩:=h.st
 exact ⟨n,h1.numE⟩
theorem KD.numT (h:KD w m f r D bs Ts k A):∃s,IsNum D.T s:=by
 obtain ⟨g,n,h1,_⟩:=h.st
 obtain ⟨O,p,_⟩:=h1.tree
 exact p.num
theorem KD.openIs (h:KD w m f r D bs Ts k A) {n:Nat}(hn:IsN D.E n):Calls Tryz.prog 65 #[wp f] w fun y w'=>y=.returned (.int .i64 (n:Int))∧w'=w:=by
 obtain ⟨g,n',h1,_⟩:=h.st
 rw [hn.one h1.numE]
 exact h1.open_ok
theorem KD.used (h:KD w m f r D bs Ts k A) (hj:j<bs.length):Calls Tryz.prog 118 #[wp bs[j]] w fun y w'=>y=.returned (.int .i64 (usedN (Ts[j]'(h.jT hj)):Int))∧Below w.heap.size w w':=by
 obtain ⟨g,n',h1,_,ht,_⟩:=h.st
 obtain ⟨M,t⟩:=ht j hj (h.jT hj)
 exact t.used_ok h1
theorem KD.has (h:KD w m f r D bs Ts k A) (hj:j<bs.length) (x:Int):Calls Tryz.prog 206 #[wp f,wp bs[j],.int .i64 x] w fun y w'=>y=.returned (.bool (hasN (Ts[j]'(h.jT hj)) x))∧Below w.heap.size w w':=by
 obtain ⟨g,n',h1,_,ht,_⟩:=h.st
 obtain ⟨M,t⟩:=ht j hj (h.jT hj)
 exact t.has_ok h1 x
theorem KD.nodes (h:KD w m f r D bs Ts k A) {s:Nat}(hs:IsNum D.T s):Calls Tryz.prog 197 #[wp r] w fun y w'=>y=.returned (.int .i64 (s:Int))∧w'=w:=by
 obtain ⟨g,n',h1,hr,_⟩:=h.st
 obtain ⟨O,p,_⟩:=h1.tree
 rw [←hr]
 exact p.nodes_ok hs
theorem KD.file (h:KD w m f r D bs Ts k A) (hk:k≤890) (hn:D.nx<899) (hj:j<bs.length) {n s:Nat}(hN:IsN D.E n) (hs:IsNum D.T s) (p:List UInt8) (hp:p.length<100000) (pr:Int) (mk:Bool) :
 Calls Tryz.prog 203 #[wp f,wp bs[j],tx p,.int .i64 pr,.bool mk] w fun y w'=>∃D' N' A',(∃x c,y=.returned (.tuple #[.int .i64 x,uev c])∧FileO D (Ts[j]'(h.jT hj)) n s p pr mk x c D' N')∧KD w' m f r D' bs (Ts.set j N') (k+2) A'∧Stp w w' A A':=by
 refine h.call hj (Q:=fun y D' N'=>∃x c,y=.returned (.tuple #[.int .i64 x,uev c])∧FileO D (Ts[j]'(h.jT hj)) n s p pr mk x c D' N') (fun g n9 M hj' q t _=>?_) (fun y D' N' hq=>?_)
 ·obtain rfl:=hN.one q.numE
  refine (q.file_ok t ⟨h.inv.core.lv,hs,h.inv.core.sm.more (by omega),h.inv.core.giv,h.inv.live hj',q.few h.inv.core.giv⟩ p hp pr mk h.ml h.er).mono ?_
  rintro y w' ⟨x,c,D',N',rfl,hF,hG⟩
  exact ⟨D',N',⟨x,c,rfl,hF⟩,hG⟩
 ·obtain ⟨x,c,_,hF⟩:=hq
  exact h.inv.file hk hn (h.jT hj) hs hF
theorem KD.dup (h:KD w m f r D bs Ts k A) (hj:j<bs.length) (x:Int) :
 Calls Tryz.prog 205 #[wp f,wp bs[j],.int .i64 x] w fun y w'=>∃D' N' A',(y=.returned (.tuple #[.int .i64 (dupK (Ts[j]'(h.jT hj)) x),uev (dupE (Ts[j]'(h.jT hj)) x)])∧D'=dupD D (Ts[j]'(h.jT hj)) x∧N'=dupN (Ts[j]'(h.jT hj)) x)∧KD w' m f r D' bs (Ts.set j N') k A'∧Stp w w' A A':=by
 refine h.call hj (Q:=fun y D' N'=>y=.returned (.tuple #[.int .i64 (dupK (Ts[j]'(h.jT hj)) x),uev (dupE (Ts[j]'(h.jT hj)) x)])∧D'=dupD D (Ts[j]'(h.jT hj)) x∧N'=dupN (Ts[j]'(h.jT hj)) x) (fun g n9 M hj' q t _=>?_) (fun y D' N' hq=>?_)
 ·refine (q.dup_ok t x (h.inv.cnted hj')).mono ?_
  rintro y w' ⟨rfl,hG⟩
  exact ⟨_,_,⟨rfl,rfl,rfl⟩,hG⟩
 ·obtain ⟨_,rfl,rfl⟩:=hq
  exact h.inv.dupO (h.jT hj) x
theorem KD.mark (h:KD w m f r D bs Ts k A) (hj:j<bs.length) (x:Int) (c:Bool) :
 Calls Tryz.prog 265 #[wp f,wp bs[j],.int .i64 x,.bool c] w fun y w'=>∃D' N' A',(y=.returned (uev (if hasN (Ts[j]'(h.jT hj)) x=true then 0 else 7))∧D'=D∧N'=markN (Ts[j]'(h.jT hj)) x c)∧KD w' m f r D' bs (Ts.set j N') k A'∧Stp w w' A A':=by
 refine h.call hj (Q:=fun y D' N'=>y=.returned (uev (if hasN (Ts[j]'(h.jT hj)) x=true then 0 else 7))∧D'=D∧N'=markN (Ts[j]'(h.jT hj)) x c) (fun g n9 M hj' q t _=>?_) (fun y D' N' hq=>?_)
 ·refine (q.mark_ok t x c).mono ?_
  rintro y w' ⟨rfl,hG⟩
  exact ⟨_,_,⟨rfl,rfl,rfl⟩,hG⟩
 ·obtain ⟨_,rfl,rfl⟩:=hq
  exact h.inv.mark (h.jT hj) x c
end
end Go.Proofs.YtcfhanoekniaaaaGreatDoor

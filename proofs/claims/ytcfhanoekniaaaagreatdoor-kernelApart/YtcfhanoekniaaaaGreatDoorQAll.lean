/- Package desc: New, by its Go text. -/
import Derived.Test.YtcfhanoekniaaaaGreatDoorQFork
import Derived.Test.YtcfhanoekniaaaaGreatDoorDOps
import Derived.Test.YtcfhanoekniaaaaGreatDoorUMkdir
set_option maxHeartbeats 8000000
set_option maxRecDepth 100000
namespace Go.Proofs.YtcfhanoekniaaaaGreatDoor
open Go.RowKit Go.Maps
section
variable {w w' w2 w0 w1:World}{r:Nat}{T:Wd}{O:Nat→Prop}
theorem Uq (b:Nat) (w:World):(binOp BinOp.eql 94 (wp b) (.pointer none)).run Tryz.prog w=.ok (.bool false) w:=by kernel_rfl
theorem QF.made (h:PT w r T O):∃g,QF ((w.alloc (.map #[] 0)).alloc (.cells #[wp r,.map (some w.heap.size)] 209)) (w.heap.size+1) (nZ T) g 0∧(∀i,i<w.heap.size→((g.cZ i).isSome=true↔O i))∧g.r=r:=by
 classical
 have b1:Below w.heap.size w (w.alloc (.map #[] 0)):=(Below.refl _ w).alloc (Nat.le_refl _) _
 have hs1:(w.alloc (.map #[] 0)).heap.size=w.heap.size+1:=by simp
 have b2:Below w.heap.size w ((w.alloc (.map #[] 0)).alloc (.cells #[wp r,.map (some w.heap.size)] 209)):=b1.alloc (by omega) _
 have hs2:((w.alloc (.map #[] 0)).alloc (.cells #[wp r,.map (some w.heap.size)] 209)).heap.size=w.heap.size+1+1:=by
  show ((w.alloc (.map #[] 0)).heap.push _).size=_
  rw [Array.size_push,hs1]
 have hO:∀i,O i→i<w.heap.size:=fun i hi=>h.lt i hi
 have hk:∀i,O i→(if i=w.heap.size+1 then some Tag.head else if i=w.heap.size then some Tag.mp else if O i then some Tag.tree else none)=some Tag.tree:=fun i hi=>by
  have:=hO i hi
  rw [if_neg (by omega),if_neg (by omega),if_pos hi]
 refine ⟨⟨r,w.heap.size,fun _=>none,fun _=>0,fun _=>0,fun i=>if i=w.heap.size+1 then some .head else if i=w.heap.size then some .mp else if O i then some .tree else none⟩,⟨?_,⟨O,h.below b2,hk⟩,?_,fun d e he=>(by cases he),fun k d he=>(by cases he),fun d he=>(by cases he),fun k k' d he=>(by cases he),fun p x he=>(by cases he),if_pos rfl,?_,fun i hi=>?_⟩,fun i hi=>?_,rfl⟩
 ·show ((w.alloc (.map #[] 0)).heap.push _)[w.heap.size+1]? = _
  rw [Array.getElem?_push,if_pos hs1.symm]
 ·exact (aF.made w).keep (Below.heap_alloc _ _ _ (by rw [hs1];omega))
 ·show (if w.heap.size=w.heap.size+1 then some Tag.head else if w.heap.size=w.heap.size then some Tag.mp else _)=some Tag.mp
  rw [if_neg (by omega),if_pos rfl]
 ·have hi':(if i=w.heap.size+1 then some Tag.head else if i=w.heap.size then some Tag.mp else if O i then some Tag.tree else none).isSome=true:=hi
  rw [hs2]
  by_cases e1:i=w.heap.size+1
  ·omega
  ·by_cases e2:i=w.heap.size
   ·omega
   ·rw [if_neg e1,if_neg e2] at hi'
    by_cases e3:O i
    ·have:=hO i e3;omega
    ·rw [if_neg e3] at hi';cases hi'
 ·show ((if i=w.heap.size+1 then some Tag.head else if i=w.heap.size then some Tag.mp else if O i then some Tag.tree else none).isSome=true↔O i)
  rw [if_neg (by omega),if_neg (by omega)]
  by_cases e3:O i
  ·simp [e3]
  ·simp [e3]
theorem ZV.ok (h:PT w r T O):Calls Tryz.prog 48 #[wp r] w fun y w'=>∃f g,y=.returned (.tuple #[wp f,.nilIface])∧QF w' f (nZ T) g 0∧(∀i,i<w.heap.size→((g.cZ i).isSome=true↔O i))∧g.r=r∧Below w.heap.size w w':=by
 have h9:=Uq r
 have hmm:=@run_makeMap Tryz.prog
 have hM:=QF.made h
 have b1:Below w.heap.size w (w.alloc (.map #[] 0)):=(Below.refl _ w).alloc (Nat.le_refl _) _
 have hs1:(w.alloc (.map #[] 0)).heap.size=w.heap.size+1:=by simp
 have b2:Below w.heap.size w ((w.alloc (.map #[] 0)).alloc (.cells #[wp r,.map (some w.heap.size)] 209)):=b1.alloc (by omega) _
 have HM:Aside (∃g,QF ((w.alloc (.map #[] 0)).alloc (.cells #[wp r,.map (some w.heap.size)] 209)) (w.heap.size+1) (nZ T) g 0∧(∀i,i<w.heap.size→((g.cZ i).isSome=true↔O i))∧g.r=r):=hM
 clear hM hs1 b1 h
 go_enter Tryz.func48,Tryz.ntmps48
 go_wp2_with fail
 go_ret2
 obtain ⟨g,a1,a2,a3⟩:=HM.out
 exact ⟨w.heap.size+1,g,rfl,a1,a2,a3,b2⟩
end
section
variable {w w' w2 w0 w1:World}{f b n q:Nat}{D D':DS}{g g' g1:QG}{M N N':Ns}{d k m:Int}{e:En}{T':Wd}
theorem Ie (w:World) (a b c d e x:Value) (t:TypeId):(w.alloc (.cells #[a,b,c,d,e,x] t)).heap[w.heap.size]? = some (.cells #[a,b,c,d,e,x] t):=by
 show (w.heap.push _)[w.heap.size]? = _
 rw [Array.getElem?_push,if_pos rfl]
theorem dB.nn (t:dB w b g M N):∀x∈N,0≤x.1:=fun x hx=>by
 obtain ⟨i,hi,rfl⟩:=List.getElem_of_mem hx
 rcases (t.rel i (by rw [t.tab.len];have:=t.len;omega) hi).2 with ⟨_,c⟩|⟨c,_⟩
 ·omega
 ·omega
theorem dB.FY (t:dB w b g M N):au N<0↔8≤aj N:=by
 have hu:=iY t.nn
 rw [t.len] at hu
 exact hu
theorem QF.Ml (h:QF w f D g n) (t:dB w b g M N) (hn:n<1000) {z:Bool}(hz:(z=true∧roomy N n)∨(z=false∧¬roomy N n)):Calls Tryz.prog 135 #[wp f,wp b,.int .i64 1] w fun e w'=>e=.returned (.bool z)∧Below w.heap.size w w':=by
 have hR:=h.Hz t 1 (by omega) hn
 have hu:=t.FY
 have e1:(decide (aj N+1≤8) && decide (n+1≤40))=z:=by
  rcases hz with ⟨rfl,hr⟩|⟨rfl,hr⟩
  ·obtain ⟨r1,r2⟩:=hr
   have:¬8≤aj N:=fun x=>r1 (hu.2 x)
   rw [decide_eq_true (by omega),decide_eq_true (by omega)];rfl
  ·by_cases h1:au N<0
   ·have:=hu.1 h1
    rw [decide_eq_false (by omega)];rfl
   ·have:¬n<40:=fun x=>hr ⟨h1,x⟩
    rw [decide_eq_false (p:=n+1≤40) (by omega),Bool.and_false]
 rw [e1] at hR
 exact hR
structure FOk (D:DS) (N:Ns) (n s:Nat):Prop where
 lv:bq D.T
 num:di D.T s
 sm:Sm 900 D.T
 ja:Given D
 live:Live D N
 few:n<1000
theorem QF.OA (h:QF w f D g n) (t:dB w b g M N) (p:List UInt8) (pr:Int) (mk:Bool) (hp:¬(1≤pr∧pr≤3)) :
 Calls Tryz.prog 203 #[wp f,wp b,tx p,.int .i64 pr,.bool mk] w fun y w'=>y=.returned (.tuple #[.int .i64 0,eZ 1])∧dx w w' f D g b N:=by
 have hU:=Dw w pr
 have e1:(decide (1≤pr) && decide (pr≤3))=false:=by
  simp only [Bool.and_eq_false_iff,decide_eq_false_iff_not];omega
 rw [e1] at hU
 have hs:=h.same t (Below.refl _ w)
 clear h t hp e1
 go_enter Tryz.func203,Tryz.ntmps203
 go_wp2_with (go_at_call 275;refine hU.mono ?_;rintro y w1 ⟨rfl,hw1⟩;subst w1)
 go_ret2
 exact ⟨rfl,hs⟩
theorem AZ (w:World) {pr:Int}(hp:1≤pr∧pr≤3):Calls Tryz.prog 275 #[.int .i64 pr] w fun e w'=>e=.returned (.bool true)∧w'=w:=by
 have hU:=Dw w pr
 have e1:(decide (1≤pr) && decide (pr≤3))=true:=by simp;omega
 rw [e1] at hU
 exact hU
theorem QF.KJ (h:QF w f D g n) (t:dB w b g M N) (p:List UInt8) (pr:Int) (mk:Bool) (hp:1≤pr∧pr≤3) (hr:¬roomy N n) (hn:n<1000) :
 Calls Tryz.prog 203 #[wp f,wp b,tx p,.int .i64 pr,.bool mk] w fun y w'=>y=.returned (.tuple #[.int .i64 0,eZ 12])∧dx w w' f D g b N:=by
 have hU:=AZ w hp
 have hR:=h.Ml t hn (z:=false) (.inr ⟨rfl,hr⟩)
 have hs:∀w',Below w.heap.size w w'→dx w w' f D g b N:=fun w' hb=>h.same t hb
 clear h t hp hr
 go_enter Tryz.func203,Tryz.ntmps203
 go_wp2_with (first
  |(go_at_call 275;refine hU.mono ?_;rintro y w1 ⟨rfl,hw1⟩;subst w1)
  |(go_at_call 135;refine hR.mono ?_;rintro y w2 ⟨rfl,b2⟩))
 go_ret2
 exact ⟨rfl,hs _ b2⟩
theorem QF.jo (h:QF w f D g n) (t:dB w b g M N) (p:List UInt8) (pr:Int) (mk:Bool) (hp:1≤pr∧pr≤3) (hr:roomy N n) (hn:n<1000) {c:Int}
 (hN:∀V,Below w.heap.size w V→Calls Tryz.prog 276 #[wp f,tx p,.bool mk] V fun e w'=>(∃k,e=.returned (.tuple #[.int .i64 k,eZ c]))∧dx w w' f D g b N) :
 Calls Tryz.prog 203 #[wp f,wp b,tx p,.int .i64 pr,.bool mk] w fun y w'=>y=.returned (.tuple #[.int .i64 0,eZ c])∧dx w w' f D g b N:=by
 have hU:=AZ w hp
 have hR:=h.Ml t hn (z:=true) (.inl ⟨rfl,hr⟩)
 clear h t hp hr
 go_enter Tryz.func203,Tryz.ntmps203
 go_wp2_with (first
  |(go_at_call 275;refine hU.mono ?_;rintro y w1 ⟨rfl,hw1⟩;subst w1)
  |(go_at_call 135;refine hR.mono ?_;rintro y w2 ⟨rfl,b2⟩)
  |(go_at_call 276;refine (hN _ b2).mono ?_;rintro y w3 ⟨⟨k,rfl⟩,hG⟩))
 go_ret2
 exact ⟨rfl,hG⟩
theorem qi.hold (hq:qi w w1 f D T' g n b M N) (hT:bq T') (x:Int) (hx0:0≤x) (hx1:x<100000) (hx:∀b y,T' x=some (.file b y)→y+1≤1000):Calls Tryz.prog 277 #[wp g.r,.int .i64 x] w1 fun e w'=>e=.returned (aH (dU T' x 1))∧qi w w' f D (bP T' x 1) g n b M N:=by
 obtain ⟨⟨g1,a1,a2,a3,a4,a5,a6⟩,wt⟩:=hq
 rw [←a5]
 refine (a1.Xr a2 hT x hx0 hx1 hx).mono ?_
 rintro e w' ⟨rfl,⟨⟨g2,c1,c2,c3,c4,c5,c6⟩,Ci⟩⟩
 refine ⟨rfl,⟨⟨g2,c1,c2,fun i hi=>(c3 i (Nat.lt_of_lt_of_le hi wt.size)).trans (a3 i hi),c4.trans a4,c5.trans a5,c6.trans a6⟩,wt.weaken Ci (fun i hi z=>?_)⟩⟩
 rcases z with z|z
 ·exact .inl (by rw [←a3 i hi];exact z)
 ·exact .inr z
theorem qi.cell0 (hq:qi w w1 f D T' g n b M N):w1.cell? ⟨f,0,none⟩=some (wp g.r):=by
 obtain ⟨⟨g1,a1,a2,a3,a4,a5,_⟩,wt⟩:=hq
 rw [←a5];exact a1.cells.1
theorem qi.add (hq:qi w w1 f D T' g n b M N) (hg:Given D) (hl:¬au N<0) (hL:Live D N) (hn:n<1000) (pr nd:Int) :
 Calls Tryz.prog 236 #[wp f,wp b,wp w1.heap.size] (w1.alloc (.cells #[.int .i64 1,.int .i64 pr,.int .i64 0,.int .i64 nd,.int .i64 0,.pointer none] 238)) fun x w'=>x=.returned (.int .i64 (au N))∧dx w w' f (iR { D with T:=T' } ⟨1,pr,nd,0,0⟩) g b (addN D N):=by
 obtain ⟨⟨g1,a1,a2,a3,a4,a5,_⟩,wt⟩:=hq
 obtain ⟨n1,n2,n3⟩:=hg.new
 refine (a1.wC (e:=⟨1,pr,nd,0,0⟩) (q:=w1.heap.size) a2 ((Below.refl _ w1).alloc (Nat.le_refl _) _) (Nat.le_refl _) (Ie _ _ _ _ _ _ _ _) n1 hg.n0 hl hL hn).mono ?_
 rintro x w' ⟨rfl,hG⟩
 exact ⟨rfl,dx.after a3 a4 a5 wt hG.go⟩
theorem QF.IB {s:Nat}{Q:Int→Wd→Prop}(h:QF w f D g n) (t:dB w b g M N) (p:List UInt8) (pr:Int) (mk:Bool) (hp:1≤pr∧pr≤3) (hr:roomy N n) (ok:FOk D N n s)
 (hN:∀V,Below w.heap.size w V→Calls Tryz.prog 276 #[wp f,tx p,.bool mk] V fun e w'=>∃k T1,e=.returned (.tuple #[.int .i64 k,.nilIface])∧Q k T1∧qi w w' f D T1 g n b M N)
 (hQ:∀k T1,Q k T1→bq T1∧0≤k∧k<100000∧∀b y,T1 k=some (.file b y)→y+1≤1000) :
 Calls Tryz.prog 203 #[wp f,wp b,tx p,.int .i64 pr,.bool mk] w fun y w'=>∃k T1,Q k T1∧((dU T1 k 1≠0∧y=.returned (.tuple #[.int .i64 0,eZ (dU T1 k 1)])∧dx w w' f { D with T:=bP T1 k 1 } g b N)∨(dU T1 k 1=0∧y=.returned (.tuple #[.int .i64 (au N),.nilIface])∧dx w w' f (iR { D with T:=bP T1 k 1 } ⟨1,pr,k,0,0⟩) g b (addN D N))):=by
 have hU:=AZ w hp
 have hR:=h.Ml t ok.few (z:=true) (.inl ⟨rfl,hr⟩)
 have HH:Aside (∀k T1 V,Q k T1→qi w V f D T1 g n b M N→V.cell? ⟨f,0,none⟩=some (wp g.r)∧Calls Tryz.prog 277 #[wp g.r,.int .i64 k] V fun e w'=>∃c,e=.returned (aH c)∧c=dU T1 k 1∧qi w w' f D (bP T1 k 1) g n b M N):=fun k T1 V hq hV=>by
  obtain ⟨l1,l2,l3,l4⟩:=hQ k T1 hq
  refine ⟨hV.cell0,(hV.hold l1 k l2 l3 l4).mono ?_⟩
  rintro e w' ⟨rfl,st⟩
  exact ⟨_,rfl,rfl,st⟩
 have HA:Aside (∀k T2 V,qi w V f D T2 g n b M N→Calls Tryz.prog 236 #[wp f,wp b,wp V.heap.size] (V.alloc (.cells #[.int .i64 1,.int .i64 pr,.int .i64 0,.int .i64 k,.int .i64 0,.pointer none] 238)) fun x w'=>x=.returned (.int .i64 (au N))∧dx w w' f (iR { D with T:=T2 } ⟨1,pr,k,0,0⟩) g b (addN D N)):=fun k T2 V hV=>hV.add ok.ja hr.1 ok.live ok.few pr k
 generalize au N=L at *
 clear h t hp hr ok hQ
 go_enter Tryz.func203,Tryz.ntmps203
 go_upto_region 6 with (first
  |(go_at_call 275;refine hU.mono ?_;rintro y w1 ⟨rfl,hw1⟩;subst w1)
  |(go_at_call 135;refine hR.mono ?_;rintro y w2 ⟨rfl,b2⟩)
  |(go_at_call 276;refine (hN _ b2).mono ?_;rintro y w3 ⟨k,T1,rfl,hq,hst⟩))
 obtain ⟨c0,hHd⟩:=HH.out k T1 _ hq hst
 have HQ1:Aside (Q k T1):=hq
 clear hq hst HH hU hR hN
 go_upto_region 9 with (go_at_call 277;refine hHd.mono ?_;rintro y w4 ⟨c,rfl,hc,WE⟩;have HC:Aside _:=hc;have HS:Aside _:=WE;clear hc WE)
 clear hHd c0
 by_cases hz:c=0
 ·subst hz
  have hA:=HA.out k _ _ HS.out
  have HE:Aside (dU T1 k 1=0):=HC.out.symm
  clear HA HS HC
  have hu0:aH 0=.nilIface:=rfl
  rw [hu0]
  clear hu0
  go_wp2_with (go_at_call 236;refine hA.mono ?_;rintro y w5 ⟨rfl,hG⟩)
  go_ret2
  exact ⟨k,T1,HQ1.out,.inr ⟨HE.out,rfl,hG⟩⟩
 ·rw [az hz]
  have HE:Aside (dU T1 k 1≠0∧c=dU T1 k 1):=⟨fun e=>hz (HC.out.trans e),HC.out⟩
  have HG:=HS.out.go
  clear HA HS HC hz
  go_wp2_with fail
  go_ret2
  exact ⟨k,T1,HQ1.out,.inl ⟨HE.out.1,by rw [←HE.out.2];rfl,HG⟩⟩
theorem QF.kZ (h:QF w f D g n) (t:dB w b g M N) {s:Nat}(ok:FOk D N n s) (p:List UInt8) (hpl:p.length<100000) (pr:Int) (mk:Bool) (hm:w.cell? ⟨4,0,none⟩=some (.int .i64 m)) (hg:w.cell? ⟨0,0,none⟩=some fC) :
 Calls Tryz.prog 203 #[wp f,wp b,tx p,.int .i64 pr,.bool mk] w fun y w'=>∃k c D' N',y=.returned (.tuple #[.int .i64 k,aH c])∧iG D N n s p pr mk k c D' N'∧dx w w' f D' g b N':=by
 by_cases hp:1≤pr∧pr≤3
 ·by_cases hr:roomy N n
  ·by_cases h7:(aO D.T p).2=7∧mk=true
   ·obtain ⟨hE,rfl⟩:=h7
    have Wi:∀V,Below w.heap.size w V→_:=fun V hV=>(h.below hV).J6 (t.below hV) ok.lv ok.num p hpl (cell_below hm hV) (cell_below hg hV) (fun k C e=>by have:=ok.sm.1 k C e;omega) hE
    by_cases hM:aZ D.T s p=0
    ·refine (h.IB t p pr true hp hr ok (Q:=fun k T1=>gP D.T k∧k<64∧T1=gZ D.T p false k) (fun V hV=>(Wi V hV).mono ?_) ?_).mono ?_
     ·rintro e w' (⟨a,_⟩|⟨a,k,c1,c2,rfl,st⟩)
      ·exact absurd hM a
      ·exact ⟨k,_,rfl,⟨c1,c2,rfl⟩,st.upon hV⟩
     ·rintro k T1 ⟨c1,c2,rfl⟩
      have VK:=pG ok.lv.toTrOk hM c1
      exact ⟨ok.lv.make hM c1 c2 false,c1.pos,by omega,fun b y e=>by have:=VK.2 b y e;omega⟩
     ·rintro y w' ⟨k,T1,⟨c1,c2,rfl⟩,hx⟩
      have VK:=pG ok.lv.toTrOk hM c1
      rcases hx with ⟨hx,_⟩|⟨_,rfl,hG⟩
      ·exact absurd VK.1 hx
      ·exact ⟨_,0,_,_,rfl,.made hp hr hE rfl hM k c1,hG⟩
    ·refine (h.jo t p pr true hp hr ok.few (c:=aZ D.T s p) (fun V hV=>(Wi V hV).mono ?_)).mono ?_
     ·rintro e w' (⟨a,rfl,st⟩|⟨a,_⟩)
      ·exact ⟨⟨_,rfl⟩,(st.upon hV).go⟩
      ·exact absurd a hM
     ·rintro y w' ⟨rfl,hG⟩
      exact ⟨0,_,D,N,by rw [az hM],.MK hp hr hE rfl hM,hG⟩
   ·have Wi:∀V,Below w.heap.size w V→_:=fun V hV=>(h.below hV).J7 ok.lv p hpl (cell_below hm hV) (cell_below hg hV) mk h7
    by_cases hE:(aO D.T p).2=0
    ·have hsome:=nH ok.lv.toTrOk hE
     have hkey:=ok.lv.key _ hsome
     refine (h.IB t p pr mk hp hr ok (Q:=fun k T1=>k=(aO D.T p).1∧T1=D.T) (fun V hV=>(Wi V hV).mono ?_) ?_).mono ?_
     ·rintro e w' ⟨rfl,b1⟩
      exact ⟨_,D.T,by rw [hE];rfl,⟨rfl,rfl⟩,(h.below hV |>.still (t.below hV) b1).upon hV⟩
     ·rintro k T1 ⟨rfl,rfl⟩
      exact ⟨ok.lv,hkey.1,by omega,fun b y e=>by have:=(ok.sm.2 _ b y e).1;omega⟩
     ·rintro y w' ⟨k,T1,⟨rfl,rfl⟩,hx⟩
      rcases hx with ⟨hx,rfl,hG⟩|⟨hx,rfl,hG⟩
      ·rw [Ov hx] at hG
       exact ⟨0,_,D,N,by rw [az hx],.dir hp hr hE hx,hG⟩
      ·exact ⟨_,0,_,_,rfl,.opened hp hr hE hx,hG⟩
    ·refine (h.jo t p pr mk hp hr ok.few (c:=(aO D.T p).2) (fun V hV=>(Wi V hV).mono ?_)).mono ?_
     ·rintro e w' ⟨rfl,b1⟩
      exact ⟨⟨_,by rw [az hE]⟩,h.same t (hV.trans (b1.mono hV.size))⟩
     ·rintro y w' ⟨rfl,hG⟩
      exact ⟨0,_,D,N,by rw [az hE],.no hp hr hE h7,hG⟩
  ·refine (h.KJ t p pr mk hp hr ok.few).mono ?_
   rintro y w' ⟨rfl,hG⟩
   exact ⟨0,12,D,N,rfl,.full hp hr,hG⟩
 ·refine (h.OA t p pr mk hp).mono ?_
  rintro y w' ⟨rfl,hG⟩
  exact ⟨0,1,D,N,rfl,.arg hp,hG⟩
end
abbrev qy:Array Value:=#[.int .i64 0,.int .i64 0,.int .i64 0,.int .i64 0,.int .u8 0,.int .u8 0,.int .u8 0,.int .u8 0,.int .u8 0,.int .u8 0,.int .u8 0,.int .u8 0,.int .u8 0,.int .u8 0,.int .u8 0,.int .u8 0,.int .u8 0,.int .u8 0,.int .u8 0,.int .u8 0,.int .i64 0]
theorem UH (w:World) (t:TypeId):Tb (w.alloc (.cells qy t)) w.heap.size 0 0 []:=by
 have hn:(w.alloc (.cells qy t)).heap[w.heap.size]? = some (.cells qy t):=by
  show (w.heap.push _)[w.heap.size]? = _
  rw [Array.getElem?_push,if_pos rfl]
 refine ⟨by simp,?_,?_,fun k hk=>?_,?_,fun k _=>?_⟩
 ·rw [cell_of_row _ _ _ _ _ _ hn];rfl
 ·rw [cell_of_row _ _ _ _ _ _ hn];rfl
 ·rw [cell_of_row _ _ _ _ _ _ hn,AV _ _ (Nat.zero_le _)]
  have:k=0∨k=1∨k=2∨k=3∨k=4∨k=5∨k=6∨k=7∨k=8∨k=9∨k=10∨k=11∨k=12∨k=13∨k=14∨k=15:=by omega
  rcases this with rfl|rfl|rfl|rfl|rfl|rfl|rfl|rfl|rfl|rfl|rfl|rfl|rfl|rfl|rfl|rfl<;>rfl
 ·rw [cell_of_row _ _ _ _ _ _ hn];rfl
 ·unfold World.frozen?
  simp only
  rw [hn]
  simp
section
variable {w w' w2 w0 w1:World}{f b n q:Nat}{D D':DS}{g g' g1:QG}{M N N':Ns}{d k m:Int}{e:En}{T':Wd}
def Pf (D:DS) (p:Int) (x:Pi) (kd:Int):DS:={ D with P:=fun i=>if i=p then some (x.1,VG x.2.1 kd,VF x.2.2 kd) else D.P i }
theorem QF.Q0 (h:QF w f D g n) (t:dB w b g M N) {p:Int}{x:Pi}(hp:D.P p=some x) (hF:0≤x.2.1∧x.2.1<1000) (hI:0≤x.2.2∧x.2.2<1000) (kd pr:Int) (hkd:kd≠1) (hE:D.E (D.nx+1)=none) (h0:0≤D.nx) (hl:¬au N<0) (hL:Live D N) (hn:n<1000) :
 Calls Tryz.prog 235 #[wp (g.Q p),.int .i64 kd] w fun y w'=>(∃v,y=.returned v)∧Calls Tryz.prog 236 #[wp f,wp b,wp w'.heap.size] (w'.alloc (.cells #[.int .i64 kd,.int .i64 pr,.int .i64 0,.int .i64 0,.int .i64 0,wp (g.Q p)] 238)) fun x9 w2=>x9=.returned (.int .i64 (au N))∧I9 w w2 f (iR (Pf D p x kd) ⟨kd,pr,0,p,0⟩) g b (addN D N) (n+1):=by
 obtain ⟨tb,tk⟩:=h.pipe p x hp
 refine (tb.o8 kd hF.1 hF.2 hI.1 hI.2).mono ?_
 rintro y w' ⟨rfl,TF,hg⟩
 refine ⟨⟨_,rfl⟩,?_⟩
 have h1:QF w' f (Pf D p x kd) g n:=h.piped hp (x':=(x.1,VG x.2.1 kd,VF x.2.2 kd)) TF hg
 have t1:=t.sS (by rw [tk];rfl) hg
 have hpv:pv g ⟨kd,pr,0,p,0⟩=wp (g.Q p):=if_neg hkd
 refine (h1.wC (e:=⟨kd,pr,0,p,0⟩) (q:=w'.heap.size) t1 ((Below.refl _ w').alloc (Nat.le_refl _) _) (Nat.le_refl _) (by rw [jv,hpv];exact Ie _ _ _ _ _ _ _ _) hE h0 hl hL hn).mono ?_
 rintro z w2 ⟨rfl,⟨⟨g',M',a,c,x9,y9⟩,wt⟩⟩
 exact ⟨rfl,⟨g',M',a,c,⟨fun i hi=>x9.cZ i (Nat.lt_of_lt_of_le hi hg.size),x9.key,x9.r⟩,y9⟩,(Wt.grown hg (.inl (by rw [tk];rfl))).trans wt⟩
theorem QF.Ab (h:QF w f D g n) (t:dB w b g M N) {p:Int}{x:Pi}(hp:D.P p=some x) (hF:0≤x.2.1∧x.2.1<1000) (hI:0≤x.2.2∧x.2.2<1000) (kd pr:Int) (hkd:kd≠1) (hE:D.E (D.nx+1)=none) (h0:0≤D.nx) (hl:¬au N<0) (hL:Live D N) (hn:n<1000) :
 Calls Tryz.prog 136 #[wp f,wp b,wp (g.Q p),.int .i64 kd,.int .i64 pr] w fun x9 w2=>x9=.returned (.int .i64 (au N))∧I9 w w2 f (iR (Pf D p x kd) ⟨kd,pr,0,p,0⟩) g b (addN D N) (n+1):=by
 have hO:=h.Q0 t hp hF hI kd pr hkd hE h0 hl hL hn
 generalize iR (Pf D p x kd) ⟨kd,pr,0,p,0⟩=D2 at *
 generalize addN D N=N2 at *
 generalize au N=L at *
 clear h t hp hF hI hE h0 hl hL hn
 generalize hQ:g.Q p=q at *
 clear hQ
 go_enter Tryz.func136,Tryz.ntmps136
 go_wp2_with (first
  |(go_at_call 235;refine hO.mono ?_;rintro y w1 ⟨⟨v,rfl⟩,hA⟩)
  |(go_at_call 236;refine hA.mono ?_;rintro y w2 ⟨rfl,hG⟩))
 go_ret
 exact ⟨rfl,hG⟩
theorem QF.SX (h:QF w f D g n) (t:dB w b g M N) (hn:n<1000) {z:Bool}(hz:(z=true∧¬(aj N+2 > 8∨n+2 > 40))∨(z=false∧(aj N+2 > 8∨n+2 > 40))):Calls Tryz.prog 135 #[wp f,wp b,.int .i64 2] w fun e w'=>e=.returned (.bool z)∧Below w.heap.size w w':=by
 have hR:=h.Hz t 2 (by omega) hn
 have e1:(decide (aj N+2≤8) && decide (n+2≤40))=z:=by
  rcases hz with ⟨rfl,hr⟩|⟨rfl,hr⟩
  ·rw [decide_eq_true (by omega),decide_eq_true (by omega)];rfl
  ·by_cases h1:aj N+2≤8
   ·rw [decide_eq_false (p:=n+2≤40) (by omega),Bool.and_false]
   ·rw [decide_eq_false h1];rfl
 rw [e1] at hR
 exact hR
theorem QF.Bf (h:QF w f D g n) (t:dB w b g M N) (hf:aj N+2 > 8∨n+2 > 40) (hn:n<1000) :
 Calls Tryz.prog 54 #[wp f,wp b] w fun x w'=>x=.returned (.tuple #[.int .i64 0,.int .i64 0,eZ 12])∧dx w w' f D g b N:=by
 have hR:=h.SX t hn (.inr ⟨rfl,hf⟩)
 have hs:∀w',Below w.heap.size w w'→dx w w' f D g b N:=fun w' hb=>h.same t hb
 clear h t hf
 go_enter Tryz.func54,Tryz.ntmps54
 go_wp2_with (go_at_call 135;refine hR.mono ?_;rintro y w1 ⟨rfl,b1⟩)
 go_ret3
 exact ⟨rfl,hs _ b1⟩
theorem JW (D:DS):iR (Pf (iR (Pf { D with P:=fun i=>if i=D.nx+1 then some ([],0,0) else D.P i,nx:=D.nx+1 } (D.nx+1) ([],0,0) 2) ⟨2,1,0,D.nx+1,0⟩) (D.nx+1) ([],1,0) 3) ⟨3,2,0,D.nx+1,0⟩=uy D:=by
 unfold uy ou jY Pf iR
 simp only [DS.mk.injEq,true_and,and_true]
 funext i
 by_cases e:i=D.nx+1
 ·simp [e,VG,VF]
 ·simp [e]
theorem Live.add {D:DS}{N:Ns}(h:Live D N) (e:En):Live (iR D e) (addN D N):=fun i hi h0=>by
 show (if (addN D N)[i].1=D.nx+1 then some e else D.E (addN D N)[i].1).isSome=true
 by_cases e1:(addN D N)[i].1=D.nx+1
 ·rw [if_pos e1];rfl
 ·rw [if_neg e1]
  unfold addN at e1 h0 hi ⊢
  rw [List.length_set] at hi
  by_cases e2:(au N).toNat=i
  ·rw [List.getElem_set] at e1
   rw [if_pos e2] at e1
   exact absurd rfl e1
  ·rw [List.getElem_set_ne e2] at h0 ⊢
   exact h i hi h0
theorem QF.wJ (h:QF w f D g n) (t:dB w b g M N) (hG:Given D) (hg:D.nx<890) (hE:∀d e,D.E d=some e→e.pipe≠D.nx+1∨e.kind=1) (hf:¬(aj N+2 > 8∨n+2 > 40)) (hl1:¬au N<0) (hl2:¬au (dC D N)<0) (hL:Live D N) :
 Calls Tryz.prog 54 #[wp f,wp b] w fun x w'=>x=.returned (.tuple #[.int .i64 (au N),.int .i64 (au (dC D N)),.nilIface])∧dx w w' f (uy D) g b (yL D N):=by
 have hn:n<1000:=by omega
 have hR:=h.SX t hn (.inl ⟨rfl,hf⟩)
 have hnew:=hG.new
 have H1:∀V,Below w.heap.size w V→Calls Tryz.prog 136 #[wp f,wp b,wp V.heap.size,.int .i64 2,.int .i64 1] (V.alloc (.cells qy 228)) fun x9 w2=>x9=.returned (.int .i64 (au N))∧Calls Tryz.prog 136 #[wp f,wp b,wp V.heap.size,.int .i64 3,.int .i64 2] w2 fun x8 w3=>x8=.returned (.int .i64 (au (dC D N)))∧dx w w3 f (uy D) g b (yL D N):=fun V hV=>by
  have hV':=h.below hV
  have bA:Below V.heap.size V (V.alloc (.cells qy 228)):=(Below.refl _ V).alloc (Nat.le_refl _) _
  obtain ⟨g1,a1,a2,a3,a4,a5⟩:=hV'.Rc (q:=V.heap.size) (p:=D.nx+1) (Nat.le_refl _) (by show V.heap.size<(V.heap.push _).size;rw [Array.size_push];omega) bA hnew.2.2 hE (x:=([],0,0)) (UH V _) (D.nx+1)
  have hbl:b<V.heap.size:=(t.below hV).tab.lt
  have t1:dB (V.alloc (.cells qy 228)) b g1 M N:=(t.below hV).Mk (bA.block b hbl) a2 a3
  have hg0:=hG.n0
  have hE1:D.E (D.nx+1+1)=none:=by
   cases hx:D.E (D.nx+1+1) with
   |none=>rfl
   |some e=>have:=hG.e _ (by rw [hx];rfl);omega
  rw [←a5]
  refine (a1.Ab t1 (p:=D.nx+1) (x:=([],0,0)) (if_pos rfl) ⟨by simp,by simp⟩ ⟨by simp,by simp⟩ 2 1 (by omega) hE1 (show 0≤D.nx+1 by omega) hl1 hL hn).mono ?_
  rintro y w2 ⟨rfl,⟨⟨g2,M2,c1,c2,c3,c4⟩,Ci⟩⟩
  refine ⟨rfl,?_⟩
  rw [←c4]
  have hN1:addN { D with P:=fun i=>if i=D.nx+1 then some ([],0,0) else D.P i,nx:=D.nx+1 } N=dC D N:=rfl
  rw [hN1] at c2
  have hL1:Live (iR (Pf { D with P:=fun i=>if i=D.nx+1 then some ([],0,0) else D.P i,nx:=D.nx+1 } (D.nx+1) ([],0,0) 2) ⟨2,1,0,D.nx+1,0⟩) (dC D N):=Live.add (D:=Pf { D with P:=fun i=>if i=D.nx+1 then some ([],0,0) else D.P i,nx:=D.nx+1 } (D.nx+1) ([],0,0) 2) (N:=N) hL _
  have hE2:(iR (Pf { D with P:=fun i=>if i=D.nx+1 then some ([],0,0) else D.P i,nx:=D.nx+1 } (D.nx+1) ([],0,0) 2) ⟨2,1,0,D.nx+1,0⟩).E (D.nx+1+1+1)=none:=by
   show (if D.nx+1+1+1=D.nx+1+1 then _ else D.E (D.nx+1+1+1))=none
   rw [if_neg (by omega)]
   cases hx:D.E (D.nx+1+1+1) with
   |none=>rfl
   |some e=>have:=hG.e _ (by rw [hx];rfl);omega
  refine (c1.Ab c2 (p:=D.nx+1) (x:=([],1,0)) (show (if D.nx+1=D.nx+1 then _ else _)=_ from if_pos rfl) ⟨by simp,by simp⟩ ⟨by simp,by simp⟩ 3 2 (by omega) hE2 (show 0≤D.nx+1+1 by omega) hl2 hL1 (by omega)).mono ?_
  rintro y w3 ⟨rfl,hQ⟩
  rw [JW] at hQ
  refine ⟨rfl,?_⟩
  obtain ⟨⟨g3,M3,d1,d2,d3,d4⟩,Ye⟩:=hQ
  have hs1:=hV.size
  have hs2:=bA.size
  have hs3:=Ci.size
  have hkp:∀i,i<w.heap.size→g1.cZ i=g.cZ i:=fun i hi=>a2 i (by omega)
  have WN:∀i,i<w.heap.size→g2.cZ i=g.cZ i:=fun i hi=>(c3.cZ i (by omega)).trans (hkp i hi)
  have Ck:Wt (fun i=>(g.cZ i).isSome=true∨i=b) w (V.alloc (.cells qy 228)):=Wt.below _ (hV.trans (bA.mono hV.size))
  refine ⟨⟨g3,_,M3,d1,d2,⟨fun i hi=>(d3.cZ i (by omega)).trans (WN i hi),fun k d hk hd=>?_,d3.r.trans (c3.r.trans a4)⟩⟩,(Ck.weaken Ci (fun i hi z=>?_)).weaken Ye (fun i hi z=>?_)⟩
  ·refine d3.key k d (c3.key k d (by rw [a3];exact hk) ?_) hd
   show (if d=D.nx+1+1 then some _ else D.E d).isSome=true
   split
   ·rfl
   ·exact (h.key k d hk).1
  ·rcases z with z|z
   ·exact .inl (by rw [←hkp i hi];exact z)
   ·exact .inr z
  ·rcases z with z|z
   ·exact .inl (by rw [←WN i hi];exact z)
   ·exact .inr z
 generalize au (dC D N)=L2 at *
 generalize au N=L1 at *
 generalize uy D=D2 at *
 generalize yL D N=N2 at *
 clear h t hG hg hE hf hl1 hl2 hL hnew
 go_enter Tryz.func54,Tryz.ntmps54
 go_upto_region 4 with (go_at_call 135;refine hR.mono ?_;rintro y w1 ⟨rfl,b1⟩)
 have hA:=H1 _ b1
 clear H1 hR
 go_wp2_with (first
  |(go_at_call 136;refine hA2.mono ?_;rintro y w3 ⟨rfl,hG⟩)
  |(go_at_call 136;refine hA.mono ?_;rintro y w2 ⟨rfl,hA2⟩))
 go_ret3
 exact ⟨rfl,hG⟩
end
section
variable {w w' w2 w0 w1:World}{f b n q:Nat}{D D':DS}{g g' g1:QG}{M N N':Ns}{d k m:Int}{e:En}{T':Wd}
theorem QF.yS (h:QF w f D g n) (t:dB w b g M N) (x u:Int) (hx:aG N x=false):Calls Tryz.prog 144 #[wp f,wp b,.int .i64 x,.int .i64 u] w fun y w'=>y=.returned (.tuple #[.pointer none,eZ 7])∧Below w.heap.size w w':=by
 have hF:=h.aS t x hx
 clear h t hx
 go_enter Tryz.func144,Tryz.ntmps144
 go_wp2_with (go_at_call 141;refine hF.mono ?_;rintro y w1 ⟨rfl,b1⟩)
 go_ret2
 exact ⟨rfl,b1⟩
theorem QF.rT (h:QF w f D g n) (t:dB w b g M N) {i:Nat}(hi:i<8) (aD:i<N.length) (h0:0<N[i].1) (he:D.E N[i].1=some e) (u:Int) (hu:(u=1∧e.af=2)∨(u=2∧e.af=1)):Calls Tryz.prog 144 #[wp f,wp b,.int .i64 (i:Int),.int .i64 u] w fun y w'=>y=.returned (.tuple #[.pointer none,eZ 13])∧Below w.heap.size w w':=by
 have hF:=h.aB t hi aD h0
 have hc:∀V,Below w.heap.size w V→V.cell? ⟨g.B N[i].1,1,none⟩=some (.int .i64 e.af):=fun V hV=>by
  obtain ⟨c,h1,_⟩:=(h.below hV).dX _ e he
  exact ((h.below hV).kS he h1).2.1
 generalize g.B N[i].1=q at *
 generalize e.af=pr at *
 clear h t he h0
 rcases hu with ⟨rfl,rfl⟩|⟨rfl,rfl⟩
 ·go_enter Tryz.func144,Tryz.ntmps144
  go_wp2_with (go_at_call 141;refine hF.mono ?_;rintro y w1 ⟨rfl,b1⟩;have c1:=hc _ b1)
  go_ret2
  exact ⟨rfl,b1⟩
 ·go_enter Tryz.func144,Tryz.ntmps144
  go_wp2_with (go_at_call 141;refine hF.mono ?_;rintro y w1 ⟨rfl,b1⟩;have c1:=hc _ b1)
  go_ret2
  exact ⟨rfl,b1⟩
theorem QF.kv (h:QF w f D g n) (t:dB w b g M N) {i:Nat}(hi:i<8) (aD:i<N.length) (h0:0<N[i].1) (he:D.E N[i].1=some e) (u:Int) (hu:(u=1∧(e.af=1∨e.af=3))∨(u=2∧(e.af=2∨e.af=3))):Calls Tryz.prog 144 #[wp f,wp b,.int .i64 (i:Int),.int .i64 u] w fun y w'=>y=.returned (.tuple #[wp (g.B N[i].1),.nilIface])∧Below w.heap.size w w':=by
 have hF:=h.aB t hi aD h0
 have hc:∀V,Below w.heap.size w V→V.cell? ⟨g.B N[i].1,1,none⟩=some (.int .i64 e.af):=fun V hV=>by
  obtain ⟨c,h1,_⟩:=(h.below hV).dX _ e he
  exact ((h.below hV).kS he h1).2.1
 generalize g.B N[i].1=q at *
 generalize e.af=pr at *
 clear h t he h0
 rcases hu with ⟨rfl,rfl|rfl⟩|⟨rfl,rfl|rfl⟩
 all_goals
  go_enter Tryz.func144,Tryz.ntmps144
  go_wp2_with (go_at_call 141;refine hF.mono ?_;rintro y w1 ⟨rfl,b1⟩;have c1:=hc _ b1)
  go_ret2
  exact ⟨rfl,b1⟩
theorem QF.vv (h:QF w f D g n) (t:dB w b g M N) (x a c:Int) (hc:c≠0) (hU:Calls Tryz.prog 144 #[wp f,wp b,.int .i64 x,.int .i64 1] w fun y w'=>y=.returned (.tuple #[.pointer none,eZ c])∧Below w.heap.size w w') :
 Calls Tryz.prog 63 #[wp f,wp b,.int .i64 x,.int .i64 a] w fun y w'=>y=.returned (.tuple #[tx [],aH c])∧dx w w' f D g b N:=by
 have hs:∀w',Below w.heap.size w w'→dx w w' f D g b N:=fun w' hb=>h.same t hb
 rw [az hc]
 clear h t hc
 go_enter Tryz.func63,Tryz.ntmps63
 go_wp2_with (go_at_call 144;refine hU.mono ?_;rintro y w1 ⟨rfl,b1⟩)
 go_ret2
 exact ⟨rfl,hs _ b1⟩
theorem QF.NI (h:QF w f D g n) (t:dB w b g M N) {i:Nat}(hi:i<8) (aD:i<N.length) (h0:0<N[i].1) (he:D.E N[i].1=some e) (a:Int) (hk:e.kind≠1) (hpr:e.af=1∨e.af=3) {p:Pi}(hp:D.P e.pipe=some p) (hI:0≤p.2.2) :
 Calls Tryz.prog 63 #[wp f,wp b,.int .i64 (i:Int),.int .i64 a] w fun y w'=>y=.returned (.tuple #[tx (p.1.take a.toNat),aH (GD p.2.2 p.1 a)])∧dx w w' f { D with P:=fun j=>if j=e.pipe then some (p.1.drop a.toNat,p.2.1,p.2.2) else D.P j } g b N:=by
 have hU:=h.kv t hi aD h0 he 1 (.inl ⟨rfl,hpr⟩)
 have hk':(e.kind == 1)=false:=by simpa using hk
 have hpv:pv g e=wp (g.Q e.pipe):=if_neg hk
 have hat:∀V,Below w.heap.size w V→V.cell? ⟨g.B N[i].1,5,none⟩=some (wp (g.Q e.pipe))∧Calls Tryz.prog 145 #[wp (g.B N[i].1)] V (fun x w'=>x=.returned (.bool false)∧w'=V)∧Calls Tryz.prog 156 #[wp (g.Q e.pipe),.int .i64 a] V fun y w'=>y=.returned (.tuple #[tx (p.1.take a.toNat),aH (GD p.2.2 p.1 a)])∧dx w w' f { D with P:=fun j=>if j=e.pipe then some (p.1.drop a.toNat,p.2.1,p.2.2) else D.P j } g b N:=fun V hV=>by
  have hV':=h.below hV
  obtain ⟨c,h1,_⟩:=hV'.dX _ e he
  have e5:=(hV'.kS he h1).2.2.2.2.2.1
  rw [hpv] at e5
  have hIs:=hV'.pK he
  rw [hk'] at hIs
  obtain ⟨tb,tk⟩:=hV'.pipe _ p hp
  refine ⟨e5,hIs,(tb.Bd a hI).mono ?_⟩
  rintro y w' ⟨rfl,TF,hg⟩
  exact ⟨rfl,⟨⟨g,n,M,hV'.piped hp (x':=(p.1.drop a.toNat,p.2.1,p.2.2)) TF hg,(t.below hV).sS (by rw [tk];rfl) hg,Ext.refl _ _ _⟩,(Wt.below _ hV).trans (Wt.grown hg (.inl (by rw [tk];rfl)))⟩⟩
 generalize ({ D with P:=fun j=>if j=e.pipe then some (p.1.drop a.toNat,p.2.1,p.2.2) else D.P j }:DS)=D2 at *
 generalize g.B N[i].1=q at *
 generalize g.Q e.pipe=Q at *
 generalize aH (GD p.2.2 p.1 a)=U at *
 generalize List.take a.toNat p.1=S at *
 clear h t hk hpr hp hI he h0 hk' hpv
 go_enter Tryz.func63,Tryz.ntmps63
 go_wp2_with (first
  |(go_at_call 144;refine hU.mono ?_;rintro y w1 ⟨rfl,b1⟩;obtain ⟨c5,hIs,VN⟩:=hat _ b1)
  |(go_at_call 145;refine hIs.mono ?_;rintro y w2 ⟨rfl,hw2⟩;subst w2)
  |(go_at_call 156;refine VN.mono ?_;rintro y w3 ⟨rfl,hG⟩))
 go_ret2
 exact ⟨rfl,hG⟩
theorem JR {T:Wd}{x a c:Int}(h:ji T x a c≠0):dS T x a c=[]:=by
 unfold ji at h;unfold dS
 cases hn:T x with
 |none=>rfl
 |some nd=>cases nd with
  |dir C=>rfl
  |file b y=>
   have hf:bF T x=0:=by unfold bF;rw [hn]
   rw [if_neg (fun e=>e hf)] at h
   simp only
   by_cases h9:a<0∨c<0
   ·rw [if_pos h9]
   ·rw [if_neg h9] at h;exact absurd rfl h
theorem QF.JQ (h:QF w f D g n) (t:dB w b g M N) {i:Nat}(hi:i<8) (aD:i<N.length) (h0:0<N[i].1) (he:D.E N[i].1=some e) (a:Int) (hk:e.kind=1) (hpr:e.af=1∨e.af=3) (hnd:0≤e.node∧e.node<1000) (hps:0≤e.pos∧e.pos≤200) (hl:(dS D.T e.node e.pos a).length≤100000) :
 Calls Tryz.prog 63 #[wp f,wp b,.int .i64 (i:Int),.int .i64 a] w fun y w'=>y=.returned (.tuple #[tx (dS D.T e.node e.pos a),aH (ji D.T e.node e.pos a)])∧dx w w' f { D with E:=fun j=>if j=N[i].1 then some { e with pos:=e.pos+(dS D.T e.node e.pos a).length } else D.E j } g b N:=by
 have hU:=h.kv t hi aD h0 he 1 (.inl ⟨rfl,hpr⟩)
 have hat:∀V,Below w.heap.size w V→(V.cell? ⟨f,0,none⟩=some (wp g.r)∧V.cell? ⟨g.B N[i].1,3,none⟩=some (.int .i64 e.node)∧V.cell? ⟨g.B N[i].1,4,none⟩=some (.int .i64 e.pos))∧V.frozen? ⟨g.B N[i].1,4,none⟩=false:=fun V hV=>by
  have hV':=h.below hV
  obtain ⟨c,h1,_⟩:=hV'.dX _ e he
  obtain ⟨_,_,_,e3,e4,_,ez⟩:=hV'.kS he h1
  exact ⟨⟨hV'.cells.1,e3,e4⟩,ez 4⟩
 have hIs:∀V,Below w.heap.size w V→Calls Tryz.prog 145 #[wp (g.B N[i].1)] V fun x w'=>x=.returned (.bool true)∧w'=V:=fun V hV=>by
  have:=(h.below hV).pK he
  rw [hk] at this
  exact this
 have VN:∀V,Below w.heap.size w V→Calls Tryz.prog 157 #[wp g.r,.int .i64 e.node,.int .i64 e.pos,.int .i64 a] V fun y w'=>y=.returned (.tuple #[tx (dS D.T e.node e.pos a),aH (ji D.T e.node e.pos a)])∧Below w.heap.size w w':=fun V hV=>by
  obtain ⟨O,p,_⟩:=(h.below hV).tree
  refine (p.Bd e.node e.pos a (gW hnd.1 (by omega))).mono ?_
  rintro y w' ⟨rfl,z,rfl⟩
  exact ⟨rfl,⟨hV.os,hV.tape,hV.output,hV.size,hV.block⟩⟩
 obtain ⟨c9,V8,_,hkb⟩:=h.dX _ e he
 have HF:Aside (∀V,Below w.heap.size w V→dx w (V.setCell ⟨g.B N[i].1,4,none⟩ (.int .i64 (e.pos+(dS D.T e.node e.pos a).length))) f { D with E:=fun j=>if j=N[i].1 then some { e with pos:=e.pos+(dS D.T e.node e.pos a).length } else D.E j } g b N):=fun V hV=>by
  have gg:=aU V (g.B N[i].1) 4 (.int .i64 (e.pos+(dS D.T e.node e.pos a).length))
  exact ⟨⟨g,n,M,(h.below hV).place he _,(t.below hV).sS (by rw [hkb];rfl) gg,Ext.refl _ _ _⟩,(Wt.below _ hV).trans (Wt.grown gg (.inl (by rw [hkb];rfl)))⟩
 have HE:Aside (ji D.T e.node e.pos a≠0→tx (dS D.T e.node e.pos a)=tx []∧∀V,Below w.heap.size w V→dx w V f { D with E:=fun j=>if j=N[i].1 then some { e with pos:=e.pos+(dS D.T e.node e.pos a).length } else D.E j } g b N):=fun hz=>by
  rw [JR hz]
  refine ⟨rfl,fun V hV=>?_⟩
  have hD:({ D with E:=fun j=>if j=N[i].1 then some { e with pos:=e.pos+(([]:List UInt8).length:Int) } else D.E j }:DS)=D:=by
   have hE:(fun j=>if j=N[i].1 then some { e with pos:=e.pos+(([]:List UInt8).length:Int) } else D.E j)=D.E:=by
    funext j
    by_cases ej:j=N[i].1
    ·rw [if_pos ej,ej,he];simp
    ·rw [if_neg ej]
   rw [hE]
  rw [hD]
  exact h.same t hV
 generalize hD2:({ D with E:=fun j=>if j=N[i].1 then some { e with pos:=e.pos+(dS D.T e.node e.pos a).length } else D.E j }:DS)=D2 at *
 generalize hS9:dS D.T e.node e.pos a=S9 at *
 generalize TN:ji D.T e.node e.pos a=C9 at *
 generalize g.B N[i].1=q at *
 generalize e.node=nd at *
 generalize e.pos=ps at *
 obtain ⟨Zq,Zp⟩:=hps
 have HW:Aside (wrap64 (ps+(S9.length:Int))=ps+(S9.length:Int)):=by show wrap64 _=_;unfold wrap64;omega
 clear h t hk hpr he h0 hnd hl hkb V8 hD2 hS9 TN Zq Zp
 go_enter Tryz.func63,Tryz.ntmps63
 go_upto_region 6 with (first
  |(go_at_call 144;refine hU.mono ?_;rintro y w1 ⟨rfl,b1⟩)
  |(go_at_call 145;refine (hIs _ b1).mono ?_;rintro y w2 ⟨rfl,hw2⟩;subst w2))
 obtain ⟨hc1,hz1⟩:=hat _ b1
 go_region_held3 (fun w'=>w'.cell? ⟨f,0,none⟩=some (wp g.r)∧w'.cell? ⟨q,3,none⟩=some (.int .i64 nd)∧w'.cell? ⟨q,4,none⟩=some (.int .i64 ps)) (first|exact hc1|exact (hat _ b3).1) (first
  |(go_at_call 157;refine (VN _ (wZ b1)).mono ?_;rintro y w3 ⟨rfl,b3⟩))
 all_goals
  obtain ⟨⟨_,_,k4⟩,kz⟩:=hat _ b3
  clear hat VN hIs hU hc1 hz1
  by_cases hz:C9=0
  ·have HG:=HF.out _ b3
   have HW9:=HW.out
   subst hz
   clear HE HF HW
   rw [show aH 0=.nilIface from rfl]
   go_wp2_with fail
   go_ret2
   exact ⟨rfl,HG⟩
  ·have HX:=HE.out hz
   have HC:Aside (tx S9=tx []∧C9≠0):=⟨HX.1,hz⟩
   rw [az hz]
   have HG:=HX.2 _ b3
   clear HE HF HW HX hz
   go_wp2_with fail
   go_ret2
   exact ⟨by rw [HC.out.1,az HC.out.2];rfl,HG⟩
end
section
variable {w w' w2 w0 w1:World}{f b n q:Nat}{D D':DS}{g g' g1:QG}{M N N':Ns}{d k m:Int}{e:En}{T':Wd}
theorem QF.rM (h:QF w f D g n) (t:dB w b g M N) (x:Int) (s:List UInt8) (a c:Int) (hc:c≠0) (hU:Calls Tryz.prog 144 #[wp f,wp b,.int .i64 x,.int .i64 2] w fun y w'=>y=.returned (.tuple #[.pointer none,eZ c])∧Below w.heap.size w w') :
 Calls Tryz.prog 59 #[wp f,wp b,.int .i64 x,tx s,.int .i64 a] w fun y w'=>y=.returned (.tuple #[.int .i64 0,aH c])∧dx w w' f D g b N:=by
 have hs:∀w',Below w.heap.size w w'→dx w w' f D g b N:=fun w' hb=>h.same t hb
 rw [az hc]
 clear h t hc
 go_enter Tryz.func59,Tryz.ntmps59
 go_wp2_with (go_at_call 144;refine hU.mono ?_;rintro y w1 ⟨rfl,b1⟩)
 go_ret2
 exact ⟨rfl,hs _ b1⟩
theorem QF.Je (h:QF w f D g n) (t:dB w b g M N) {i:Nat}(hi:i<8) (aD:i<N.length) (h0:0<N[i].1) (he:D.E N[i].1=some e) (s:List UInt8) (a:Int) (hk:e.kind≠1) (hpr:e.af=2∨e.af=3) {p:Pi}(hp:D.P e.pipe=some p) :
 Calls Tryz.prog 59 #[wp f,wp b,.int .i64 (i:Int),tx s,.int .i64 a] w fun y w'=>y=.returned (.tuple #[.int .i64 (LF p.2.1 p.1 s:Int),aH (LG p.2.1 p.1 s)])∧dx w w' f { D with P:=fun j=>if j=e.pipe then some (EG p.2.1 p.1 s,p.2.1,p.2.2) else D.P j } g b N:=by
 have hU:=h.kv t hi aD h0 he 2 (.inr ⟨rfl,hpr⟩)
 have hk':(e.kind == 1)=false:=by simpa using hk
 have hpv:pv g e=wp (g.Q e.pipe):=if_neg hk
 have hat:∀V,Below w.heap.size w V→V.cell? ⟨g.B N[i].1,5,none⟩=some (wp (g.Q e.pipe))∧Calls Tryz.prog 145 #[wp (g.B N[i].1)] V (fun x w'=>x=.returned (.bool false)∧w'=V)∧Calls Tryz.prog 146 #[wp (g.Q e.pipe),tx s] V fun y w'=>y=.returned (.tuple #[.int .i64 (LF p.2.1 p.1 s:Int),aH (LG p.2.1 p.1 s)])∧dx w w' f { D with P:=fun j=>if j=e.pipe then some (EG p.2.1 p.1 s,p.2.1,p.2.2) else D.P j } g b N:=fun V hV=>by
  have hV':=h.below hV
  obtain ⟨c,h1,_⟩:=hV'.dX _ e he
  have e5:=(hV'.kS he h1).2.2.2.2.2.1
  rw [hpv] at e5
  have hIs:=hV'.pK he
  rw [hk'] at hIs
  obtain ⟨tb,tk⟩:=hV'.pipe _ p hp
  refine ⟨e5,hIs,(tb.wE s).mono ?_⟩
  rintro y w' ⟨rfl,TF,hg⟩
  exact ⟨rfl,⟨⟨g,n,M,hV'.piped hp (x':=(EG p.2.1 p.1 s,p.2.1,p.2.2)) TF hg,(t.below hV).sS (by rw [tk];rfl) hg,Ext.refl _ _ _⟩,(Wt.below _ hV).trans (Wt.grown hg (.inl (by rw [tk];rfl)))⟩⟩
 generalize ({ D with P:=fun j=>if j=e.pipe then some (EG p.2.1 p.1 s,p.2.1,p.2.2) else D.P j }:DS)=D2 at *
 generalize g.B N[i].1=q at *
 generalize g.Q e.pipe=Q at *
 generalize aH (LG p.2.1 p.1 s)=U at *
 generalize LF p.2.1 p.1 s=S at *
 clear h t hk hpr hp he h0 hk' hpv
 go_enter Tryz.func59,Tryz.ntmps59
 go_wp2_with (first
  |(go_at_call 144;refine hU.mono ?_;rintro y w1 ⟨rfl,b1⟩;obtain ⟨c5,hIs,VN⟩:=hat _ b1)
  |(go_at_call 145;refine hIs.mono ?_;rintro y w2 ⟨rfl,hw2⟩;subst w2)
  |(go_at_call 146;refine VN.mono ?_;rintro y w3 ⟨rfl,hG⟩))
 go_ret2
 exact ⟨rfl,hG⟩
theorem QF.filed (h:QF w f D g n) (he:D.E d=some e) (hk:e.kind=1) (V:World) (hV:Below w.heap.size w V):Calls Tryz.prog 145 #[wp (g.B d)] V fun x w'=>x=.returned (.bool true)∧w'=V:=by
 have:=(h.below hV).pK he
 rw [hk] at this
 exact this
theorem QF.D6 (h:QF w f D g n) (t:dB w b g M N) {i:Nat}(hi:i<8) (aD:i<N.length) (h0:0<N[i].1) (he:D.E N[i].1=some e) (s:List UInt8) (a:Int) (hk:e.kind=1) (hpr:e.af=2∨e.af=3) (hps:0≤e.pos∧e.pos≤200) (hl:s.length<100000) (hlim:ng s a e.pos) :
 Calls Tryz.prog 59 #[wp f,wp b,.int .i64 (i:Int),tx s,.int .i64 a] w fun y w'=>y=.returned (.tuple #[.int .i64 0,eZ 4])∧dx w w' f D g b N:=by
 have hU:=h.kv t hi aD h0 he 2 (.inr ⟨rfl,hpr⟩)
 have hIs:=fun V hV=>h.filed he hk V hV
 have hat:∀V,Below w.heap.size w V→V.cell? ⟨g.B N[i].1,4,none⟩=some (.int .i64 e.pos):=fun V hV=>by
  have hV':=h.below hV
  obtain ⟨c,h1,_⟩:=hV'.dX _ e he
  exact (hV'.kS he h1).2.2.2.2.1
 have hs:∀w',Below w.heap.size w w'→dx w w' f D g b N:=fun w' hb=>h.same t hb
 obtain ⟨hs0,hs1⟩:=hlim
 have hlt:a<e.pos+(s.length:Int):=by omega
 have hw1:wrap64 (e.pos+(s.length:Int))=e.pos+(s.length:Int):=by unfold wrap64;omega
 have hne:(s == [])=false:=by simpa using hs0
 generalize g.B N[i].1=q at *
 generalize e.pos=ps at *
 clear h t hk hpr he h0 hl hps hs0 hs1
 go_enter Tryz.func59,Tryz.ntmps59
 go_wp2_with (first
  |(go_at_call 144;refine hU.mono ?_;rintro y w1 ⟨rfl,b1⟩;have c4:=hat _ b1)
  |(go_at_call 145;refine (hIs _ b1).mono ?_;rintro y w2 ⟨rfl,hw2⟩;subst w2))
 go_ret2
 exact ⟨rfl,hs _ b1⟩
theorem QF.Fu (h:QF w f D g n) (t:dB w b g M N) {i:Nat}(hi:i<8) (aD:i<N.length) (h0:0<N[i].1) (he:D.E N[i].1=some e) (s:List UInt8) (a:Int) (hk:e.kind=1) (hpr:e.af=2∨e.af=3) (hnd:0≤e.node∧e.node<1000) (hps:0≤e.pos∧e.pos≤200) (hl:s.length<100000) (hT:bq D.T) (hlim:¬ng s a e.pos) :
 Calls Tryz.prog 59 #[wp f,wp b,.int .i64 (i:Int),tx s,.int .i64 a] w fun y w'=>(cB D.T e.node e.pos s≠0∧y=.returned (.tuple #[.int .i64 0,eZ (cB D.T e.node e.pos s)])∧dx w w' f D g b N)∨(cB D.T e.node e.pos s=0∧y=.returned (.tuple #[.int .i64 (s.length:Int),.nilIface])∧dx w w' f { D with T:=eP D.T e.node e.pos s,E:=fun j=>if j=N[i].1 then some { e with pos:=e.pos+s.length } else D.E j } g b N):=by
 have hU:=h.kv t hi aD h0 he 2 (.inr ⟨rfl,hpr⟩)
 have hIs:=fun V hV=>h.filed he hk V hV
 have hat:∀V,Below w.heap.size w V→(V.cell? ⟨f,0,none⟩=some (wp g.r)∧V.cell? ⟨g.B N[i].1,3,none⟩=some (.int .i64 e.node)∧V.cell? ⟨g.B N[i].1,4,none⟩=some (.int .i64 e.pos)):=fun V hV=>by
  have hV':=h.below hV
  obtain ⟨c,h1,_⟩:=hV'.dX _ e he
  obtain ⟨_,_,_,e3,e4,_,ez⟩:=hV'.kS he h1
  exact ⟨hV'.cells.1,e3,e4⟩
 have XP:∀V,Below w.heap.size w V→Calls Tryz.prog 147 #[wp g.r,.int .i64 e.node,.int .i64 e.pos,tx s] V fun y w'=>y=.returned (aH (cB D.T e.node e.pos s))∧(w'.cell? ⟨f,0,none⟩=some (wp g.r)∧w'.cell? ⟨g.B N[i].1,3,none⟩=some (.int .i64 e.node)∧w'.cell? ⟨g.B N[i].1,4,none⟩=some (.int .i64 e.pos))∧w'.frozen? ⟨g.B N[i].1,4,none⟩=false∧(cB D.T e.node e.pos s≠0→dx w w' f D g b N)∧dx w (w'.setCell ⟨g.B N[i].1,4,none⟩ (.int .i64 (e.pos+s.length))) f { D with T:=eP D.T e.node e.pos s,E:=fun j=>if j=N[i].1 then some { e with pos:=e.pos+s.length } else D.E j } g b N:=fun V hV=>by
  have hV':=h.below hV
  obtain ⟨O,p,hO⟩:=hV'.tree
  refine (p.wE hT e.node e.pos s (gW hnd.1 (by omega)) hl).mono ?_
  rintro y w' ⟨rfl,O',p',st⟩
  have hq:=hV'.Ay (t.below hV) hO p' st
  obtain ⟨c,h1,_,hkb⟩:=hV'.dX _ e he
  have hbk:w'.heap[g.B N[i].1]? = V.heap[g.B N[i].1]? := st.wt.block _ (hV'.lt _ (by rw [hkb];rfl)) (fun o=>mZ hkb (hO _ o) (by simp) rfl)
  have hcell:∀o,w'.cell? ⟨g.B N[i].1,o,none⟩=V.cell? ⟨g.B N[i].1,o,none⟩:=fun o=>World.cell?_of_block (w:=V) (a:=⟨g.B N[i].1,o,none⟩) hbk
  obtain ⟨_,_,_,e3,e4,_,ez⟩:=hV'.kS he h1
  refine ⟨rfl,⟨hq.cell0,by rw [hcell];exact e3,by rw [hcell];exact e4⟩,by rw [World.frozen?_of_block (w:=V) (a:=⟨g.B N[i].1,4,none⟩) hbk];exact ez 4,fun hE=>?_,?_⟩
  ·have hN:eP D.T e.node e.pos s=D.T:=by unfold eP;rw [if_pos (.inl hE)]
   have:=(hq.upon hV).go
   rw [hN] at this
   exact this
  ·obtain ⟨⟨g1,a1,a2,a3,a4,a5,a6⟩,wt⟩:=hq.upon hV
   have he1:({ D with T:=eP D.T e.node e.pos s }:DS).E N[i].1=some e:=he
   obtain ⟨c1,b1,b2,b3⟩:=a1.dX _ e he1
   have hB1:g1.B N[i].1=g.B N[i].1:=by rw [a6]
   have h2:=a1.place he1 (e.pos+s.length)
   rw [hB1] at h2 b3
   have gg:=aU w' (g.B N[i].1) 4 (.int .i64 (e.pos+s.length))
   refine dx.after a3 a4 a5 wt ⟨⟨g1,n,M,h2,a2.sS (by rw [b3];rfl) gg,Ext.refl _ _ _⟩,Wt.grown gg (.inl (by rw [b3];rfl))⟩
 generalize ({ D with T:=eP D.T e.node e.pos s,E:=fun j=>if j=N[i].1 then some { e with pos:=e.pos+s.length } else D.E j }:DS)=D2 at *
 generalize cB D.T e.node e.pos s=C9 at *
 generalize g.B N[i].1=q at *
 generalize e.node=nd at *
 generalize Zo:e.pos=ps at *
 have HW:Aside (wrap64 (ps+(s.length:Int))=ps+(s.length:Int)):=by show wrap64 _=_;unfold wrap64;omega
 have hcond:s=[]∨(s≠[]∧¬a<ps+(s.length:Int)):=by
  by_cases e1:s=[]
  ·exact .inl e1
  ·refine .inr ⟨e1,fun h9=>hlim ⟨e1,by omega⟩⟩
 clear h t hk hpr he h0 hl hps hnd hT hlim Zo
 have HC:Aside (s=[]∨(s≠[]∧¬a<ps+(s.length:Int))):=hcond
 clear hcond
 go_enter Tryz.func59,Tryz.ntmps59
 go_upto_region 6 with (first
  |(go_at_call 144;refine hU.mono ?_;rintro y w1 ⟨rfl,b1⟩)
  |(go_at_call 145;refine (hIs _ b1).mono ?_;rintro y w2 ⟨rfl,hw2⟩;subst w2))
 have hc1:=hat _ b1
 obtain ⟨c0,c3,c4⟩:=hat _ b1
 clear hU hIs hat
 rcases HC.out with rfl|⟨hs0,hs1⟩
 ·clear HC
  go_upto_region 8 with fail
  go_region_held3 (fun w'=>w'.cell? ⟨f,0,none⟩=some (wp g.r)∧w'.cell? ⟨q,3,none⟩=some (.int .i64 nd)∧w'.cell? ⟨q,4,none⟩=some (.int .i64 ps)) (first|exact hc1|exact hc3) (first
   |(go_at_call 147;refine (XP _ (wZ b1)).mono ?_;rintro y w3 ⟨rfl,hc3,hz3,hB,hG⟩;have HB:Aside _:=hB;clear hB))
  all_goals
   obtain ⟨_,_,k4⟩:=hc3
   have HW9:wrap64 ps=ps:=by simpa using HW.out
   clear hc1 c0 c3 c4 XP HW
   by_cases hz:C9=0
   ·subst hz
    clear HB
    rw [show aH 0=.nilIface from rfl]
    go_wp2_with fail
    go_ret2
    exact ⟨rfl,by simpa using hG⟩
   ·have hG2:=HB.out hz
    rw [az hz]
    have HN:Aside (C9≠0):=hz
    clear hz HB hG
    go_wp2_with fail
    go_ret2
    exact .inl ⟨HN.out,rfl,hG2⟩
 ·have hne:(s == [])=false:=by simpa using hs0
  have HW9:=HW.out
  clear HC hs0
  go_upto_region 8 with fail
  go_region_held3 (fun w'=>w'.cell? ⟨f,0,none⟩=some (wp g.r)∧w'.cell? ⟨q,3,none⟩=some (.int .i64 nd)∧w'.cell? ⟨q,4,none⟩=some (.int .i64 ps)) (first|exact hc1|exact hc3) (first
   |(go_at_call 147;refine (XP _ (wZ b1)).mono ?_;rintro y w3 ⟨rfl,hc3,hz3,hB,hG⟩;have HB:Aside _:=hB;clear hB))
  all_goals
   obtain ⟨_,_,k4⟩:=hc3
   clear hc1 c0 c3 c4 XP HW
   by_cases hz:C9=0
   ·subst hz
    clear HB
    rw [show aH 0=.nilIface from rfl]
    go_wp2_with fail
    go_ret2
    exact ⟨rfl,hG⟩
   ·have hG2:=HB.out hz
    rw [az hz]
    have HN:Aside (C9≠0):=hz
    clear hz HB hG
    go_wp2_with fail
    go_ret2
    exact .inl ⟨HN.out,rfl,hG2⟩
end
theorem Stp.bg {w w':World}{A A':Nat→Prop}(st:Stp w w' A A') {b o:Nat}{v:Value}(h:w.cell? ⟨b,o,none⟩=some v) (hA:¬A b):w'.cell? ⟨b,o,none⟩=some v∧¬A' b:=by
 have hlt:b<w.heap.size:=World.block_lt_of_cell? w _ h
 obtain ⟨h1,h2⟩:=st.apart (P:=fun i=>i=b) (fun i e=>by subst e;exact ⟨hA,hlt⟩) b rfl
 exact ⟨by rw [World.cell?_of_block (w:=w) (a:=⟨b,o,none⟩) (st.keep (P:=fun i=>i=b) (fun i e=>by subst e;exact ⟨hA,hlt⟩) b rfl)];exact h,h1⟩
structure KD (w:World) (m:Int) (f r:Nat) (D:DS) (bs:List Nat) (Ts:List Ns) (k:Nat) (A:Nat→Prop):Prop where
 st:∃g n,QF w f D g n∧g.r=r∧(∀j (h:j<bs.length) (h':j<Ts.length),∃M,dB w bs[j] g M Ts[j])∧∀i,(g.cZ i).isSome=true→A i
 len:bs.length=Ts.length
 nd:bs.Nodup
 Po:∀b∈bs,A b
 inv:Inv D Ts k
 lt:∀i,A i→i<w.heap.size
 ml:w.cell? ⟨4,0,none⟩=some (.int .i64 m)
 mn:¬A 4
 er:w.cell? ⟨0,0,none⟩=some fC
 en:¬A 0
section
variable {w w' w2 w0 w1:World}{f r b n k k' j:Nat}{D D':DS}{g g':QG}{bs:List Nat}{Ts:List Ns}{M N N':Ns}{d m:Int}{A:Nat→Prop}
theorem QF.vN (h:QF w f D g n):qR D.E n:=by
 obtain ⟨Dt,_,_,h1,h2,h3⟩:=h.map.data
 have h3':∀x,x∈Go.intKeys Dt↔(g.K x).isSome=true:=fun x=>by rw [h3 x,Option.isSome_map]
 refine ⟨(Go.intKeys Dt).map (fun k=>(g.K k).getD 0),?_,by rw [List.length_map,h2],fun x=>?_⟩
 ·refine List.pairwise_map.2 (h1.imp_of_mem (fun {a b} ha hb hne e=>hne ?_))
  obtain ⟨x,hx⟩:=Option.isSome_iff_exists.1 ((h3' a).1 ha)
  obtain ⟨y,hy⟩:=Option.isSome_iff_exists.1 ((h3' b).1 hb)
  rw [hx,hy] at e
  have e':x=y:=e
  rw [←e'] at hy
  exact h.inj a b x hx hy
 ·constructor
  ·intro hx
   obtain ⟨a,ha,rfl⟩:=List.mem_map.1 hx
   obtain ⟨y,hy⟩:=Option.isSome_iff_exists.1 ((h3' a).1 ha)
   rw [hy]
   exact (h.key a y hy).1
  ·intro hx
   obtain ⟨a,ha⟩:=h.has x hx
   exact List.mem_map.2 ⟨a,(h3' a).2 (by rw [ha];rfl),by rw [ha];rfl⟩
theorem QF.few (h:QF w f D g n) (hg:Given D):n<1000:=by
 have:=h.vN.few hg.n0 hg.e
 have:=hg.n1
 omega
theorem KD.call (h:KD w m f r D bs Ts k A) (hj:j<bs.length) {fn:FuncId}{args:Array Value}{Q:Ending→DS→Ns→Prop}
 (hc:∀g n M (h':j<Ts.length),QF w f D g n→dB w bs[j] g M Ts[j]→g.r=r→Calls Tryz.prog fn args w fun y w'=>∃D' N',Q y D' N'∧dx w w' f D' g bs[j] N') (hI:∀y D' N',Q y D' N'→Inv D' (Ts.set j N') k') :
 Calls Tryz.prog fn args w fun y w'=>∃D' N' A',Q y D' N'∧KD w' m f r D' bs (Ts.set j N') k' A'∧Stp w w' A A':=by
 obtain ⟨g,n,h1,hr,ht,hA⟩:=h.st
 have hj':j<Ts.length:=by rw [←h.len];exact hj
 obtain ⟨M,tj⟩:=ht j hj hj'
 refine (hc g n M hj' h1 tj hr).mono ?_
 rintro y w' ⟨D',N',hQ,⟨⟨g',n',M',a1,a2,a3⟩,wt⟩⟩
 have I':=hI y D' N' hQ
 have hst:Stp w w' A (fun i=>A i∨(w.heap.size≤i∧i<w'.heap.size)):=⟨wt.mono (fun i hi=>by
  rcases hi with hi|rfl
  ·exact hA i hi
  ·exact h.Po _ (List.getElem_mem hj)),fun i hi=>by
  rcases hi with hi|hi
  ·exact .inl hi
  ·exact .inr hi.1⟩
 refine ⟨D',N',_,hQ,⟨⟨g',n',a1,a3.r.trans hr,fun x hx hx'=>?_,fun i hi=>?_⟩,by rw [List.length_set];exact h.len,h.nd,fun b hb=>.inl (h.Po b hb),I',fun i hi=>?_,(hst.bg h.ml h.mn).1,(hst.bg h.ml h.mn).2,(hst.bg h.er h.en).1,(hst.bg h.er h.en).2⟩,hst⟩
 ·by_cases e1:x=j
  ·subst e1
   rw [List.getElem_set_self]
   exact ⟨M',a2⟩
  ·rw [List.length_set] at hx'
   obtain ⟨Mx,tx⟩:=ht x hx hx'
   rw [List.getElem_set_ne (Ne.symm e1)]
   have hxs:x<(Ts.set j N').length:=by rw [List.length_set];exact hx'
   have hl:=I'.live hxs
   rw [List.getElem_set_ne (Ne.symm e1)] at hl
   refine ⟨Mx,tx.other a3 (wt.block _ tx.tab.lt ?_) hl⟩
   rintro (z|z)
   ·rw [tx.off] at z;cases z
   ·exact e1 ((List.getElem_inj h.nd).1 z)
 ·by_cases e1:i<w.heap.size
  ·rw [a3.cZ i e1] at hi
   exact .inl (hA i hi)
  ·exact .inr ⟨by omega,a1.lt i hi⟩
 ·rcases hi with hi|hi
  ·exact Nat.lt_of_lt_of_le (h.lt i hi) wt.size
  ·exact hi.2
theorem KD.below (h:KD w m f r D bs Ts k A) (hb:Below w.heap.size w w'):KD w' m f r D bs Ts k A:=by
 obtain ⟨g,n,h1,hr,ht,hA⟩:=h.st
 have hst:Stp w w' A A:=.below hb
 exact ⟨⟨g,n,h1.below hb,hr,fun j hj hj'=>by
  obtain ⟨M,t⟩:=ht j hj hj'
  exact ⟨M,t.below hb⟩,hA⟩,h.len,h.nd,h.Po,h.inv,fun i hi=>Nat.lt_of_lt_of_le (h.lt i hi) hb.size,(hst.bg h.ml h.mn).1,h.mn,(hst.bg h.er h.en).1,h.en⟩
theorem KD.keep (h:KD w m f r D bs Ts k A) (hk:∀i,A i→w'.heap[i]? = w.heap[i]?) (hs:w.heap.size≤w'.heap.size) (hm:w'.cell? ⟨4,0,none⟩=some (.int .i64 m)) (he:w'.cell? ⟨0,0,none⟩=some fC):KD w' m f r D bs Ts k A:=by
 obtain ⟨g,n,h1,hr,ht,hA⟩:=h.st
 exact ⟨⟨g,n,h1.keep (fun i hi=>hk i (hA i hi)) hs,hr,fun j hj hj'=>by
  obtain ⟨M,t⟩:=ht j hj hj'
  exact ⟨M,t.keep (hk _ (h.Po _ (List.getElem_mem hj)))⟩,hA⟩,h.len,h.nd,h.Po,h.inv,fun i hi=>Nat.lt_of_lt_of_le (h.lt i hi) hs,hm,h.mn,he,h.en⟩
theorem KD.jT (h:KD w m f r D bs Ts k A) (hj:j<bs.length):j<Ts.length:=by rw [←h.len];exact hj
theorem KD.vN (h:KD w m f r D bs Ts k A):∃n,qR D.E n:=by
 obtain ⟨g,n,h1,_⟩:=h.st
 exact ⟨n,h1.vN⟩
theorem KD.Mf (h:KD w m f r D bs Ts k A):∃s,di D.T s:=by
 obtain ⟨g,n,h1,_⟩:=h.st
 obtain ⟨O,p,_⟩:=h1.tree
 exact p.num
theorem KD.UB (h:KD w m f r D bs Ts k A) {n:Nat}(hn:qR D.E n):Calls Tryz.prog 65 #[wp f] w fun y w'=>y=.returned (.int .i64 (n:Int))∧w'=w:=by
 obtain ⟨g,n',h1,_⟩:=h.st
 rw [hn.one h1.vN]
 exact h1.o8
theorem KD.used (h:KD w m f r D bs Ts k A) (hj:j<bs.length):Calls Tryz.prog 118 #[wp bs[j]] w fun y w'=>y=.returned (.int .i64 (aj (Ts[j]'(h.jT hj)):Int))∧Below w.heap.size w w':=by
 obtain ⟨g,n',h1,_,ht,_⟩:=h.st
 obtain ⟨M,t⟩:=ht j hj (h.jT hj)
 exact t.vk h1
theorem KD.has (h:KD w m f r D bs Ts k A) (hj:j<bs.length) (x:Int):Calls Tryz.prog 206 #[wp f,wp bs[j],.int .i64 x] w fun y w'=>y=.returned (.bool (aG (Ts[j]'(h.jT hj)) x))∧Below w.heap.size w w':=by
 obtain ⟨g,n',h1,_,ht,_⟩:=h.st
 obtain ⟨M,t⟩:=ht j hj (h.jT hj)
 exact t.Fe h1 x
theorem KD.nodes (h:KD w m f r D bs Ts k A) {s:Nat}(hs:di D.T s):Calls Tryz.prog 197 #[wp r] w fun y w'=>y=.returned (.int .i64 (s:Int))∧w'=w:=by
 obtain ⟨g,n',h1,hr,_⟩:=h.st
 obtain ⟨O,p,_⟩:=h1.tree
 rw [←hr]
 exact p.mg hs
theorem KD.file (h:KD w m f r D bs Ts k A) (hk:k≤890) (hn:D.nx<899) (hj:j<bs.length) {n s:Nat}(hN:qR D.E n) (hs:di D.T s) (p:List UInt8) (hp:p.length<100000) (pr:Int) (mk:Bool) :
 Calls Tryz.prog 203 #[wp f,wp bs[j],tx p,.int .i64 pr,.bool mk] w fun y w'=>∃D' N' A',(∃x c,y=.returned (.tuple #[.int .i64 x,aH c])∧iG D (Ts[j]'(h.jT hj)) n s p pr mk x c D' N')∧KD w' m f r D' bs (Ts.set j N') (k+2) A'∧Stp w w' A A':=by
 refine h.call hj (Q:=fun y D' N'=>∃x c,y=.returned (.tuple #[.int .i64 x,aH c])∧iG D (Ts[j]'(h.jT hj)) n s p pr mk x c D' N') (fun g n9 M hj' q t _=>?_) (fun y D' N' hq=>?_)
 ·obtain rfl:=hN.one q.vN
  refine (q.kZ t ⟨h.inv.core.lv,hs,h.inv.core.sm.more (by omega),h.inv.core.ja,h.inv.live hj',q.few h.inv.core.ja⟩ p hp pr mk h.ml h.er).mono ?_
  rintro y w' ⟨x,c,D',N',rfl,hF,hG⟩
  exact ⟨D',N',⟨x,c,rfl,hF⟩,hG⟩
 ·obtain ⟨x,c,_,hF⟩:=hq
  exact h.inv.file hk hn (h.jT hj) hs hF
theorem KD.dup (h:KD w m f r D bs Ts k A) (hj:j<bs.length) (x:Int) :
 Calls Tryz.prog 205 #[wp f,wp bs[j],.int .i64 x] w fun y w'=>∃D' N' A',(y=.returned (.tuple #[.int .i64 (iC (Ts[j]'(h.jT hj)) x),aH (iQ (Ts[j]'(h.jT hj)) x)])∧D'=jR D (Ts[j]'(h.jT hj)) x∧N'=jQ (Ts[j]'(h.jT hj)) x)∧KD w' m f r D' bs (Ts.set j N') k A'∧Stp w w' A A':=by
 refine h.call hj (Q:=fun y D' N'=>y=.returned (.tuple #[.int .i64 (iC (Ts[j]'(h.jT hj)) x),aH (iQ (Ts[j]'(h.jT hj)) x)])∧D'=jR D (Ts[j]'(h.jT hj)) x∧N'=jQ (Ts[j]'(h.jT hj)) x) (fun g n9 M hj' q t _=>?_) (fun y D' N' hq=>?_)
 ·refine (q.Va t x (h.inv.GZ hj')).mono ?_
  rintro y w' ⟨rfl,hG⟩
  exact ⟨_,_,⟨rfl,rfl,rfl⟩,hG⟩
 ·obtain ⟨_,rfl,rfl⟩:=hq
  exact h.inv.ZP (h.jT hj) x
theorem KD.mark (h:KD w m f r D bs Ts k A) (hj:j<bs.length) (x:Int) (c:Bool) :
 Calls Tryz.prog 265 #[wp f,wp bs[j],.int .i64 x,.bool c] w fun y w'=>∃D' N' A',(y=.returned (aH (if aG (Ts[j]'(h.jT hj)) x=true then 0 else 7))∧D'=D∧N'=jy (Ts[j]'(h.jT hj)) x c)∧KD w' m f r D' bs (Ts.set j N') k A'∧Stp w w' A A':=by
 refine h.call hj (Q:=fun y D' N'=>y=.returned (aH (if aG (Ts[j]'(h.jT hj)) x=true then 0 else 7))∧D'=D∧N'=jy (Ts[j]'(h.jT hj)) x c) (fun g n9 M hj' q t _=>?_) (fun y D' N' hq=>?_)
 ·refine (q.Rk t x c).mono ?_
  rintro y w' ⟨rfl,hG⟩
  exact ⟨_,_,⟨rfl,rfl,rfl⟩,hG⟩
 ·obtain ⟨_,rfl,rfl⟩:=hq
  exact h.inv.mark (h.jT hj) x c
end
end Go.Proofs.YtcfhanoekniaaaaGreatDoor

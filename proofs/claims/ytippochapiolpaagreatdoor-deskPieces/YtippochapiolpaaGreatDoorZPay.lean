/- Charge of package acct at a holding's ledger; holding.charge, by their Go text. -/
import Derived.Test.YtippochapiolpaaGreatDoorZLed
import Derived.Test.YtippochapiolpaaGreatDoorTell
import Derived.Test.YtippochapiolpaaGreatDoorDRw
import Derived.Test.YtippochapiolpaaGreatDoorPool
import Derived.Deep.QuietTactic
import Derived.Deep.RegionWith
set_option maxHeartbeats 4000000
set_option maxRecDepth 100000
namespace Go.Proofs.YtippochapiolpaaGreatDoor
open Go.RowKit
section
variable {w w':World}{b s t:Nat}{U M:Nat→Int}{a:Int}
theorem Hd.Df (h:Hd w b s t U M a) (hU:Fit U) (hM:Fit M) (ad:Option Addr) (len cap:Nat) (q:Nat→Want) (hq:acY w ad len q) (hpos:0<len) (hl:len≤1000) :
 Calls Tryz.prog 291 #[lq b,.slice ad len cap] w fun e w'=>
  (uw U M q len∧e=.returned .nilIface∧Hd w' b s t (upon U q len) M a∧w.grownBy w' (some b))∨
  ∃p,p<len∧uw U M q p∧fault U M q p≠0∧∃x,e=.returned (atv x)∧w.heap.size≤x∧AtB w' x (fault U M q p) p∧Below w.heap.size w w':=by
 have hne:((len:Int) == 0)=false:=by simp;omega
 have hl':(len:Int)≤1000:=by omega
 have u0:w.cell? ⟨b,2,none⟩=some (.int .i64 (U 0)):=h.has 0 (by omega)
 have u1:w.cell? ⟨b,3,none⟩=some (.int .i64 (U 1)):=h.has 1 (by omega)
 have u2:w.cell? ⟨b,4,none⟩=some (.int .i64 (U 2)):=h.has 2 (by omega)
 have m0:w.cell? ⟨b,5,none⟩=some (.int .i64 (M 0)):=h.may 0 (by omega)
 have m1:w.cell? ⟨b,6,none⟩=some (.int .i64 (M 1)):=h.may 1 (by omega)
 have m2:w.cell? ⟨b,7,none⟩=some (.int .i64 (M 2)):=h.may 2 (by omega)
 go_enter Tryz.func291,Tryz.ntmps291
 go_wp2_with fail
 have L0:oV (w.alloc (.cells #[.int .i64 (U 0),.int .i64 (U 1),.int .i64 (U 2),.int .i64 (M 0),.int .i64 (M 1),.int .i64 (M 2)] 119)) w.heap.size U M:=MH w U M 119
 have B0:Below w.heap.size w (w.alloc (.cells #[.int .i64 (U 0),.int .i64 (U 1),.int .i64 (U 2),.int .i64 (M 0),.int .i64 (M 1),.int .i64 (M 2)] 119)):=(Below.refl _ _).alloc (Nat.le_refl _) _
 go_loopg [22] len (fun k s22 wr=>∃j:Nat,j+k=len∧s22=.int .i64 j∧uw U M q j∧oV wr w.heap.size (upon U q j) M∧Below w.heap.size w wr)
 case atStart=>exact ⟨0,by omega,rfl,fun _ h=>absurd h (Nat.not_lt_zero _),L0,B0⟩
 case round=>
  obtain ⟨j,hj,rfl,hF,L,B⟩:=hrel
  by_cases hlt:(j:Int)<(len:Int)
  ·rcases hq with h0|⟨blk,off,rfl,hbl,hqq⟩
   ·exfalso;omega
   obtain ⟨c0,c1⟩:=hqq j (by omega)
   have d0:wr.cell? ⟨blk,off+j*2,none⟩=some (.int .i64 (q j).kind):=by rw [B.cell (p:=⟨blk,off+j*2,none⟩) hbl];exact c0
   have d1:wr.cell? ⟨blk,off+j*2+1,none⟩=some (.int .i64 (q j).n):=by rw [B.cell (p:=⟨blk,off+j*2+1,none⟩) hbl];exact c1
   have hfit:=uw.fit hU hM hF
   have L1:=L.more (.cells #[.int .i64 (q j).kind,.int .i64 (q j).n] 328)
   have B1:Below w.heap.size w (wr.alloc (.cells #[.int .i64 (q j).kind,.int .i64 (q j).n] 328)):=B.alloc (by have:=B.size;omega) _
   have FI:=kU hF
   by_cases hf:fault U M q j=0
   ·have hA:=zh L1 hfit hM _ _ hf
    go_wp2_with fail
    refine hA.mono ?_
    rintro e w2 ⟨rfl,L2,g2⟩
    go_wp2_with fail
    go_roundg (gk-1)
    case measure=>omega
    case rel=>exact ⟨j+1,by omega,by go_num,FI.out.next hf,L2,jG B1 g2 (Nat.le_refl _)⟩
   ·have hA:=zi L1 hfit hM _ _ hf
    go_wp2_with fail
    refine hA.mono ?_
    rintro e w2 ⟨rfl,b2⟩
    have B2:Below w.heap.size w w2:=B1.trans (b2.mono B1.size)
    have hc:(why (upon U q j) M (q j).kind (q j).n != 0)=true:=by simpa [fault] using hf
    have HF:=kU hf
    go_wp2_with fail
    go_ret
    refine .inr ⟨j,by omega,FI.out,HF.out,w2.heap.size,rfl,B2.size,?_,B2.alloc B2.size _⟩
    show (w2.heap.push _)[w2.heap.size]? = _
    rw [Array.getElem?_push,if_pos rfl]
    rfl
  ·obtain rfl:j=len:=by omega
   have t0:=L.has 0 (by omega)
   have t1:=L.has 1 (by omega)
   have t2:=L.has 2 (by omega)
   have t3:wr.cell? ⟨w.heap.size,3,none⟩=some (.int .i64 (M 0)):=L.may 0 (by omega)
   have t4:wr.cell? ⟨w.heap.size,4,none⟩=some (.int .i64 (M 1)):=L.may 1 (by omega)
   have t5:wr.cell? ⟨w.heap.size,5,none⟩=some (.int .i64 (M 2)):=L.may 2 (by omega)
   have lb:Hd wr b s t U M a:=h.below B
   have s0:wr.cell? ⟨b,2,none⟩=some (.int .i64 (U 0)):=lb.has 0 (by omega)
   have s1:wr.cell? ⟨b,3,none⟩=some (.int .i64 (U 1)):=lb.has 1 (by omega)
   have s2:wr.cell? ⟨b,4,none⟩=some (.int .i64 (U 2)):=lb.has 2 (by omega)
   have s3:wr.cell? ⟨b,5,none⟩=some (.int .i64 (M 0)):=lb.may 0 (by omega)
   have s4:wr.cell? ⟨b,6,none⟩=some (.int .i64 (M 1)):=lb.may 1 (by omega)
   have s5:wr.cell? ⟨b,7,none⟩=some (.int .i64 (M 2)):=lb.may 2 (by omega)
   have f0:=lb.free 2
   have f1:=lb.free 3
   have f2:=lb.free 4
   have f3:=lb.free 5
   have f4:=lb.free 6
   have f5:=lb.free 7
   have fin:=kU (lb.Na (upon U q j) M)
   have gr:=kU (aP (show w.grownBy wr (some b) from ⟨B.os,B.tape,B.output,B.size,fun i hi _=>B.block i hi⟩) (CU wr b (.int .i64 (upon U q j 0)) (.int .i64 (upon U q j 1)) (.int .i64 (upon U q j 2)) (.int .i64 (M 0)) (.int .i64 (M 1)) (.int .i64 (M 2))))
   have FI:=kU hF
   clear lb L B h hF
   go_wp2_with fail
   go_ret
   exact .inl ⟨FI.out,rfl,fin.out,gr.out⟩
def QC (U M:Nat→Int) (k n:Int):Nat→Int:=if why U M k n=0 then after U k n else U
theorem iA {x:Option Nat}(h:Below w.heap.size w w'):w.grownBy w' x:=⟨h.os,h.tape,h.output,h.size,fun i hi _=>h.block i hi⟩
theorem Hd.DV (h:Hd w b s t U M a) (hU:Fit U) (hM:Fit M) (k n:Int) (hg:w.cell? ⟨0,0,none⟩=some iB) (_hgb:0≠b) :
 Calls Tryz.prog 221 #[wp b,.int .i64 k,.int .i64 n] w fun e w'=>e=.returned (aI (why U M k n))∧Hd w' b s t (QC U M k n) M a∧w.grownBy w' (some b):=by
 have hch:∀V cap,Below w.heap.size w V→V.cell? ⟨w.heap.size,0,none⟩=some (.int .i64 k)→V.cell? ⟨w.heap.size,1,none⟩=some (.int .i64 n)→Calls Tryz.prog 291 #[lq b,.slice (some ⟨w.heap.size,0,none⟩) 1 cap] V fun e w'=>
  (why U M k n=0∧e=.returned .nilIface∧Hd w' b s t (QC U M k n) M a∧w.grownBy w' (some b))∨
  (why U M k n≠0∧∃x,e=.returned (atv x)∧Calls Tryz.prog 14 #[atv x] w' fun e w2=>e=.returned (.int .i64 (why U M k n))∧Hd w2 b s t (QC U M k n) M a∧w.grownBy w2 (some b)):=fun V cap hV c0 c1=>by
  refine ((h.below hV).Df hU hM _ 1 cap (fun _=>⟨k,n⟩) (.inr ⟨w.heap.size,0,rfl,World.block_lt_of_cell? V _ c0,fun i hi=>?_⟩) (by omega) (by omega)).mono ?_
  ·have:i=0:=by omega
   subst this
   exact ⟨c0,c1⟩
  ·rintro e w' (⟨hF,rfl,h',g⟩|⟨p,hp,hF,hf,x,rfl,hx,hA,hb⟩)
   ·have e0:why U M k n=0:=hF 0 (by omega)
    refine .inl ⟨e0,rfl,?_,aP (iA hV) g⟩
    unfold QC;rw [if_pos e0];exact h'
   ·have:p=0:=by omega
    subst this
    have hf':why U M k n≠0:=hf
    have hbb:Below w.heap.size w w':=hV.trans (hb.mono hV.size)
    refine .inr ⟨hf',x,rfl,(Wi x _ _ w' hA.is ?_).mono ?_⟩
    ·rw [hbb.cell (p:=⟨0,0,none⟩) (World.block_lt_of_cell? w _ hg)];exact hg
    ·rintro e w2 ⟨rfl,b2⟩
     have b3:=hbb.trans (b2.mono hbb.size)
     refine ⟨rfl,?_,iA b3⟩
     unfold QC;rw [if_neg hf'];exact h.below b3
 have HC:Aside _:=hch
 go_enter Tryz.func221,Tryz.ntmps221
 go_wp2_with fail
 have hA:Below w.heap.size w (w.alloc (.cells #[.int .i64 k,.int .i64 n] 328)):=(Below.refl _ w).alloc (Nat.le_refl _) _
 obtain ⟨c0,c1⟩:=zD w (.int .i64 k) (.int .i64 n) 328
 have hC:=HC.out _ 1 hA c0 c1
 refine hC.mono ?_
 rintro e w1 (⟨e0,rfl,h1,g1⟩|⟨e0,x,rfl,hT⟩)
 ·have E0:Aside (why U M k n=0):=e0
  go_wp2_with fail
  go_ret
  exact ⟨by rw [E0.out];rfl,h1,g1⟩
 ·have E0:Aside (why U M k n≠0):=e0
  go_wp2_with (go_at_call 14;refine hT.mono ?_;rintro e w2 ⟨rfl,h2,g2⟩)
  go_ret
  exact ⟨by rw [ax E0.out];rfl,h2,g2⟩
end
section
variable {w w':World}{b s t:Nat}{U M:Nat→Int}{a:Int}
theorem Hd.qG (h:Hd w b s t U M a) (hU:Fit U) (hM:Fit M) (hg:w.cell? ⟨0,0,none⟩=some iB) (hgb:0≠b) (k n:Int) {fn:Nat}{lb:Array Value}(ef:∀args w,(callFunc fn args).run Tryz.prog w=.ok (.enter fn args) w) {R:Int→World→Prop}
 (hno:why U M k n≠0→∀V,Hd V b s t U M a→w.grownBy V (some b)→R (why U M k n) V)
 (hdo:why U M k n=0→∀V,Hd V b s t (after U k n) M a→w.grownBy V (some b)→Calls Tryz.prog fn lb V fun y w2=>∃c,y=.returned (aI c)∧(c=0→R 0 w2)∧(c≠0→Hd w2 b s t (after U k n) M a∧(∀i,w.heap.size≤i→i<V.heap.size→w2.heap[i]? = V.heap[i]?)∧∀w3,Hd w3 b s t U M a→w2.grownBy w3 (some b)→R c w3)) :
 Calls Tryz.prog 150 #[wp b,.int .i64 k,.int .i64 n,.func (.func fn) #[] lb] w fun y w'=>∃c,y=.returned (aI c)∧R c w':=by
 have hbl:=h.lt
 have u0:w.cell? ⟨b,2,none⟩=some (.int .i64 (U 0)):=h.has 0 (by omega)
 have u1:w.cell? ⟨b,3,none⟩=some (.int .i64 (U 1)):=h.has 1 (by omega)
 have u2:w.cell? ⟨b,4,none⟩=some (.int .i64 (U 2)):=h.has 2 (by omega)
 have m0:w.cell? ⟨b,5,none⟩=some (.int .i64 (M 0)):=h.may 0 (by omega)
 have m1:w.cell? ⟨b,6,none⟩=some (.int .i64 (M 1)):=h.may 1 (by omega)
 have m2:w.cell? ⟨b,7,none⟩=some (.int .i64 (M 2)):=h.may 2 (by omega)
 have HN:Aside _:=hno
 have HD:Aside _:=hdo
 clear hno hdo
 go_enter Tryz.func150,Tryz.ntmps150
 go_upto_region 2 with fail
 have bA:Below w.heap.size w (w.alloc (.cells (six U M) 119)):=(Below.refl _ w).alloc (Nat.le_refl _) _
 have hx:(w.alloc (.cells (six U M) 119)).heap[w.heap.size]? = some (.cells (six U M) 119):=by
  show (w.heap.push _)[w.heap.size]? = _
  rw [Array.getElem?_push,if_pos rfl]
 have hAt:∀V,w.grownBy V (some b)→w.heap.size≤V.heap.size:=fun V g=>g.size
 have hg1:(w.alloc (.cells (six U M) 119)).cell? ⟨0,0,none⟩=some iB:=by rw [bA.cell (p:=⟨0,0,none⟩) (World.block_lt_of_cell? w _ hg)];exact hg
 have hC:=(h.below bA).DV hU hM k n hg1 hgb
 have hxl:=lt_of_heap hx
 obtain ⟨W,hW⟩:∃W,w.alloc (.cells (six U M) 119)=W:=⟨_,rfl⟩
 obtain ⟨z,hz⟩:∃z,w.heap.size=z:=⟨_,rfl⟩
 have hzb:b≠z:=by omega
 rw [hW] at bA hx hC hxl
 rw [hz] at hx hxl
 have BA:Aside _:=bA
 have HX:Aside _:=hx
 have HZ:Aside _:=hz
 clear bA hx hg1 hg h hU u0 u1 u2 m0 m1 m2 hM hAt
 show Code.wp _ _ _ _ (w.alloc (.cells (six U M) 119))
 rw [hW]
 clear hW
 by_cases hw:why U M k n=0
 ·have hC':Calls Tryz.prog 221 #[wp b,.int .i64 k,.int .i64 n] W fun e w'=>e=.returned .nilIface∧Aside (Hd w' b s t (after U k n) M a∧W.grownBy w' (some b)):=by
   refine hC.mono ?_
   rintro e w' ⟨rfl,h1,g1⟩
   unfold QC at h1
   rw [if_pos hw] at h1
   exact ⟨by rw [hw];rfl,h1,g1⟩
  have hD:=HD.out hw
  have HD2:Aside _:=hD
  clear hC HD HN hw hD
  go_upto_region 5 with (go_at_call 221;refine hC'.mono ?_;rintro e w1 ⟨rfl,hh⟩)
  obtain ⟨h1,g1⟩:=hh.out
  have gg:w.grownBy w1 (some b):=aP (iA BA.out) g1
  have hx1:w1.heap[z]? = some (.cells (six U M) 119):=(g1.block z hxl (fun e=>hzb (Option.some.inj e).symm)).trans HX.out
  have hcall:=HD2.out w1 h1 gg
  have HX1:Aside _:=hx1
  have afw:z<w1.heap.size:=lt_of_heap hx1
  clear hC' HD2 hx1 h1 g1 gg BA HX
  go_upto_region 6 with (go_at_fn fn;refine hcall.mono ?_;rintro y w2 ⟨c,rfl,hc0,hc1⟩)
  have ZI:Aside _:=hc0
  have QP:Aside _:=hc1
  clear hc0 hc1 hcall
  by_cases hc:c=0
  ·have hR0:=ZI.out hc
   have HR0:Aside _:=hR0
   clear ZI QP hR0
   subst hc
   rw [aB]
   go_wp2_with fail
   go_ret
   exact ⟨0,rfl,HR0.out⟩
  ·obtain ⟨h2,hk2,hR⟩:=QP.out hc
   have hx2:w2.heap[z]? = some (.cells (six U M) 119):=(hk2 z (by rw [←HZ.out];exact Nat.le_refl _) afw).trans HX1.out
   have t0:w2.cell? ⟨z,0,none⟩=some (.int .i64 (U 0)):=by rw [cell_of_row w2 z 0 _ _ _ hx2];rfl
   have t1:w2.cell? ⟨z,1,none⟩=some (.int .i64 (U 1)):=by rw [cell_of_row w2 z 1 _ _ _ hx2];rfl
   have t2:w2.cell? ⟨z,2,none⟩=some (.int .i64 (U 2)):=by rw [cell_of_row w2 z 2 _ _ _ hx2];rfl
   have t3:w2.cell? ⟨z,3,none⟩=some (.int .i64 (M 0)):=by rw [cell_of_row w2 z 3 _ _ _ hx2];rfl
   have t4:w2.cell? ⟨z,4,none⟩=some (.int .i64 (M 1)):=by rw [cell_of_row w2 z 4 _ _ _ hx2];rfl
   have t5:w2.cell? ⟨z,5,none⟩=some (.int .i64 (M 2)):=by rw [cell_of_row w2 z 5 _ _ _ hx2];rfl
   have s0:w2.cell? ⟨b,2,none⟩=some (.int .i64 (after U k n 0)):=h2.has 0 (by omega)
   have s1:w2.cell? ⟨b,3,none⟩=some (.int .i64 (after U k n 1)):=h2.has 1 (by omega)
   have s2:w2.cell? ⟨b,4,none⟩=some (.int .i64 (after U k n 2)):=h2.has 2 (by omega)
   have s3:w2.cell? ⟨b,5,none⟩=some (.int .i64 (M 0)):=h2.may 0 (by omega)
   have s4:w2.cell? ⟨b,6,none⟩=some (.int .i64 (M 1)):=h2.may 1 (by omega)
   have s5:w2.cell? ⟨b,7,none⟩=some (.int .i64 (M 2)):=h2.may 2 (by omega)
   have f0:=h2.free 2
   have f1:=h2.free 3
   have f2:=h2.free 4
   have f3:=h2.free 5
   have f4:=h2.free 6
   have f5:=h2.free 7
   have fin:=kU (hR _ (h2.Na U M) (CU w2 b (.int .i64 (U 0)) (.int .i64 (U 1)) (.int .i64 (U 2)) (.int .i64 (M 0)) (.int .i64 (M 1)) (.int .i64 (M 2))))
   have HCN:Aside (c≠0):=hc
   rw [ax hc]
   clear hx2 h2 hk2 hR ZI QP hc HX1
   go_wp2_with fail
   go_ret
   exact ⟨c,by rw [ax HCN.out];rfl,fin.out⟩
 ·have hC':Calls Tryz.prog 221 #[wp b,.int .i64 k,.int .i64 n] W fun e w'=>e=.returned (eQ (why U M k n))∧Aside (Hd w' b s t U M a∧W.grownBy w' (some b)):=by
   refine hC.mono ?_
   rintro e w' ⟨rfl,h1,g1⟩
   unfold QC at h1
   rw [if_neg hw] at h1
   exact ⟨by rw [ax hw],h1,g1⟩
  have hN:=HN.out hw
  have ZG:Aside _:=hN
  have HW:Aside _:=hw
  clear hC HD HN hw hN
  go_wp2_with (go_at_call 221;refine hC'.mono ?_;rintro e w1 ⟨rfl,hh⟩)
  go_ret
  obtain ⟨h1,g1⟩:=hh.out
  exact ⟨_,by rw [ax HW.out];rfl,ZG.out _ h1 (aP (iA BA.out) g1)⟩
theorem Aj (b:Nat) (k n:Int) {f1 f2:Nat}{l1 l2:Array Value}(e1:∀args w,(callFunc f1 args).run Tryz.prog w=.ok (.enter f1 args) w) (e2:∀args w,(callFunc f2 args).run Tryz.prog w=.ok (.enter f2 args) w) {R:Int→World→Prop}
 (hdo:Calls Tryz.prog f1 l1 w fun y w1=>∃c,y=.returned (aI c)∧(c≠0→R c w1)∧(c=0→∃d,Calls Tryz.prog 221 #[wp b,.int .i64 k,.int .i64 n] w1 fun y w2=>y=.returned (aI d)∧(d=0→R 0 w2)∧(d≠0→Calls Tryz.prog f2 l2 w2 fun y w3=>∃v,y=.returned v∧R d w3))) :
 Calls Tryz.prog 154 #[wp b,.int .i64 k,.int .i64 n,.func (.func f1) #[] l1,.func (.func f2) #[] l2] w fun y w'=>∃c,y=.returned (aI c)∧R c w':=by
 go_enter Tryz.func154,Tryz.ntmps154
 go_upto_region 2 with (go_at_fn f1;refine hdo.mono ?_;rintro y w1 ⟨c,rfl,hc1,hc0⟩)
 have QP:Aside _:=hc1
 have ZI:Aside _:=hc0
 clear hdo hc1 hc0
 by_cases hc:c=0
 ·obtain ⟨d,hch⟩:=ZI.out hc
  clear QP ZI
  subst hc
  rw [aB]
  go_upto_region 5 with (go_at_call 221;refine hch.mono ?_;rintro y w2 ⟨rfl,hd0,hd1⟩)
  have HD1:Aside _:=hd1
  have HD0:Aside _:=hd0
  clear hch hd1 hd0
  by_cases hd:d=0
  ·have hR0:=HD0.out hd
   have HR0:Aside _:=hR0
   clear HD0 HD1 hR0
   subst hd
   rw [aB]
   go_wp2_with fail
   go_ret
   exact ⟨0,rfl,HR0.out⟩
  ·have hcl:=HD1.out hd
   have HDN:Aside (d≠0):=hd
   rw [ax hd]
   clear HD0 HD1 hd
   go_wp2_with (go_at_fn f2;refine hcl.mono ?_;rintro y w3 ⟨v,rfl,hR⟩)
   go_ret
   exact ⟨d,by rw [ax HDN.out];rfl,hR⟩
 ·have hR:=QP.out hc
  have HR:Aside _:=hR
  have HCN:Aside (c≠0):=hc
  rw [ax hc]
  clear QP ZI hc hR
  go_wp2_with fail
  go_ret
  exact ⟨c,by rw [ax HCN.out];rfl,HR.out⟩
def QS (U:Nat→Int) (x y:Int):Nat→Int:=fun k=>if k=0 then x else if k=1 then y else U k
theorem nL {V:World}{b:Nat}(h1:V.heap=w.heap) (h2:V.os=w.os) (h3:V.tape=w.tape) (h4:V.output=w.output):w.grownBy V (some b):=⟨h2,h3,h4,by rw [h1];exact Nat.le_refl _,fun i _ _=>by rw [h1]⟩
theorem Hd.xM (_h:Hd w b s t U M a) (hU:Fit U) (hM:Fit M) (hg:w.cell? ⟨0,0,none⟩=some iB) (hgb:0≠b) (k:Nat) (hk:k<3) {x:Int}(hx:0≤x∧x≤U k) (V:World) (hV:w.grownBy V (some b)) (hH:Hd V b s t U M a) :
 Calls Tryz.prog 221 #[wp b,.int .i64 (k:Int),.int .i64 (x-U k)] V fun y w'=>y=.returned .nilIface∧Hd w' b s t (put U k x) M a∧w.grownBy w' (some b):=by
 have hfit:=hU k
 have hw:why U M (k:Int) (x-U k)=0:=by
  unfold why
  simp only [Int.toNat_natCast]
  rw [if_neg (by omega),if_neg (by omega),if_neg (by omega),if_neg (by omega)]
 have hg1:V.cell? ⟨0,0,none⟩=some iB:=by
  rw [World.cell?_of_block (w:=w) (a:=⟨0,0,none⟩) (hV.block _ (World.block_lt_of_cell? w _ hg) (fun e=>hgb (Option.some.inj e)))];exact hg
 refine (hH.DV hU hM k (x-U k) hg1 hgb).mono ?_
 rintro y w' ⟨rfl,h1,g1⟩
 unfold QC at h1
 rw [if_pos hw] at h1
 refine ⟨by rw [hw];rfl,?_,aP hV g1⟩
 unfold after at h1
 rw [Int.toNat_natCast,show U k+(x-U k)=x by omega] at h1
 exact h1
theorem Hd.settle (h:Hd w b s t U M a) (hU:Fit U) (hM:Fit M) (hg:w.cell? ⟨0,0,none⟩=some iB) (hgb:0≠b) {x y:Int}(hx:0≤x∧x≤U 0) (hy:0≤y∧y≤U 1)
 (hL:∀V,w.grownBy V (some b)→Calls Tryz.prog 143 #[wp s] V fun e w'=>e=.returned (.int .i64 x)∧w'=V)
 (hT:∀V,w.grownBy V (some b)→Calls Tryz.prog 145 #[wp t] V fun e w'=>e=.returned (.int .i64 y)∧Below V.heap.size V w') :
 Calls Tryz.prog 149 #[wp b] w fun e w'=>e=.returned (.tuple #[])∧Hd w' b s t (QS U x y) M a∧w.grownBy w' (some b):=by
 have u0:=hU 0
 have u1:=hU 1
 have hw0:IntKind.i64.wrap (x-U 0)=x-U 0:=by rw [IntKind.wrap_i64];omega
 have hw1:IntKind.i64.wrap (y-U 1)=y-U 1:=by rw [IntKind.wrap_i64];omega
 have hUs:=fun V (hV:w.grownBy V (some b)) (hH:Hd V b s t U M a)=>hH.used 0 (by omega) (by omega)
 have hc0:∀V,w.grownBy V (some b)→Hd V b s t U M a→Calls Tryz.prog 221 #[wp b,.int .i64 (0:Int),.int .i64 (x-U 0)] V fun y w'=>y=.returned .nilIface∧Hd w' b s t (put U 0 x) M a∧w.grownBy w' (some b):=fun V hV hH=>h.xM hU hM hg hgb 0 (by omega) hx V hV hH
 have hU':Fit (put U 0 x):=hU.put 0 x hx.1 (by omega)
 have hfin:put (put U 0 x) 1 y=QS U x y:=by
  funext k
  unfold put QS
  by_cases e1:k=1
  ·subst e1;simp
  ·rw [if_neg e1,if_neg e1]
 have c0:w.cell? ⟨b,0,none⟩=some (wp s):=h.at 0
 have h0:Aside (Hd w b s t U M a):=h
 have af5:Aside _:=hfin
 have hc1:∀V,w.grownBy V (some b)→Hd V b s t (put U 0 x) M a→Calls Tryz.prog 221 #[wp b,.int .i64 (1:Int),.int .i64 (y-U 1)] V fun y9 w'=>y9=.returned .nilIface∧Hd w' b s t (QS U x y) M a∧w.grownBy w' (some b):=fun V hV hH=>by
  have hg1:V.cell? ⟨0,0,none⟩=some iB:=by
   rw [World.cell?_of_block (w:=w) (a:=⟨0,0,none⟩) (hV.block _ (World.block_lt_of_cell? w _ hg) (fun e=>hgb (Option.some.inj e)))];exact hg
  have:=hH.xM hU' hM hg1 hgb 1 (by omega) (x:=y) (by rw [oO _ _ _ _ (by omega)];exact hy) V (nL rfl rfl rfl rfl) hH
  rw [oO _ _ _ _ (by omega)] at this
  refine this.mono ?_
  rintro y9 w' ⟨rfl,a1,a2⟩
  rw [hfin] at a1
  exact ⟨rfl,a1,aP hV a2⟩
 have ZW:=fun V (hV:w.grownBy V (some b)) (hH:Hd V b s t (put U 0 x) M a)=>hH.used 1 (by omega) (by omega)
 have e1:put U 0 x (1:Int).toNat=U 1:=oO _ _ _ _ (by decide)
 rw [e1] at ZW
 have e0:U (0:Int).toNat=U 0:=rfl
 rw [e0] at hUs
 generalize put U 0 x=U2 at *
 generalize U 0=q0 at *
 generalize U 1=q1 at *
 have QP:Aside _:=hc1
 have HU1:Aside _:=ZW
 have HT:Aside _:=hT
 clear hc1 ZW hfin af5 u0 u1 hU hM hg hgb hx hy hU' e1 e0 hT
 go_enter Tryz.func149,Tryz.ntmps149
 go_upto_region 0 with fail
 go_region_held3 (fun w'=>w'.cell? ⟨b,0,none⟩=some (wp s)) (first|exact c0|exact d0) (first
  |(go_at_call 143;refine (hL _ (nL (by rfl) (by rfl) (by rfl) (by rfl))).mono ?_;rintro e w1 ⟨rfl,hww⟩;subst w1)
  |(go_at_call 222;refine (hUs _ (nL (by rfl) (by rfl) (by rfl) (by rfl)) (h0.out.keep (by rfl))).mono ?_;rintro e w1 ⟨rfl,hww⟩;subst w1)
  |(go_at_call 221;refine (hc0 _ (nL (by rfl) (by rfl) (by rfl) (by rfl)) (h0.out.keep (by rfl))).mono ?_;rintro e w2 ⟨rfl,h2,g2⟩;have d0:w2.cell? ⟨b,0,none⟩=some (wp s):=h2.at 0))
 all_goals
  clear c0 hL hUs hc0 h0
  have H2:Aside (Hd w2 b s t U2 M a):=h2
  have G2:Aside (w.grownBy w2 (some b)):=g2
  have d1:w2.cell? ⟨b,1,none⟩=some (wp t):=h2.at 1
  clear h2 g2
  go_upto_region 1 with fail
  have hT2:∀V:World,V.heap=w2.heap→V.os=w2.os→V.tape=w2.tape→V.output=w2.output→Calls Tryz.prog 145 #[wp t] V fun e w'=>e=.returned (.int .i64 y)∧Hd w' b s t U2 M a∧w.grownBy w' (some b):=fun V v1 v2 v3 v4=>by
   have gV:w.grownBy V (some b):=nK G2.out v1 v2 v3 v4
   refine (HT.out V gV).mono ?_
   rintro e w3 ⟨rfl,b3⟩
   have hV:Hd V b s t U2 M a:=H2.out.keep (by rw [v1])
   exact ⟨rfl,hV.below b3,aP gV (iA b3)⟩
  have HT2:Aside _:=hT2
  have g2d:w.grownBy w2.drew (some b):=nK G2.out rfl rfl rfl rfl
  have h2d:Hd w2.drew b s t U2 M a:=H2.out.keep rfl
  have HG2:Aside (w.grownBy w2.drew (some b)):=g2d
  have HH2:Aside (Hd w2.drew b s t U2 M a):=h2d
  clear hT2 HT g2d h2d
  go_region_held3 (fun w'=>w'.cell? ⟨b,1,none⟩=some (wp t)) (first|exact d1|exact d3) (first
   |(go_at_call 145;refine (HT2.out _ (by rfl) (by rfl) (by rfl) (by rfl)).mono ?_;rintro e w3 ⟨rfl,h3,g3⟩;have d3:w3.cell? ⟨b,1,none⟩=some (wp t):=h3.at 1)
   |(go_at_call 222;refine (HU1.out _ ?_ ?_).mono ?_;(first|exact g3|exact HG2.out);(first|exact h3|exact HH2.out);rintro e w4 ⟨rfl,hw4⟩;subst w4)
   |(go_at_call 221;refine (QP.out _ ?_ ?_).mono ?_;(first|exact g3|exact HG2.out);(first|exact h3|exact HH2.out);rintro e w5 ⟨rfl,h5,g5⟩;have d3:w5.cell? ⟨b,1,none⟩=some (wp t):=h5.at 1))
  all_goals
   go_wp2_with fail
   go_end0
   exact ⟨rfl,h5,g5⟩
end
end Go.Proofs.YtippochapiolpaaGreatDoor

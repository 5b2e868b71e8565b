/- Package desc, with several tables: Close, Dup2, Pipe, Read, Write, Exec, Clear, Fork; the tree's Unlink. -/
import Derived.Test.YtcfhanoekniaaaaGreatDoorQAll
import Derived.Test.YtcfhanoekniaaaaGreatDoorDOps
import Derived.Test.YtcfhanoekniaaaaGreatDoorVNew
import Derived.Test.YtcfhanoekniaaaaGreatDoorVFork
import Derived.Test.YtcfhanoekniaaaaGreatDoorJProg4
import Derived.Test.YtcfhanoekniaaaaGreatDoorOVic
import Derived.Test.YtcfhanoekniaaaaGreatDoorAdd
import Derived.Test.YtcfhanoekniaaaaGreatDoorZPay
import Derived.Test.YtcfhanoekniaaaaGreatDoorJProg8
import Derived.Deep.QuietTactic
import Derived.Deep.RegionHeld3
set_option maxHeartbeats 4000000
set_option maxRecDepth 100000
namespace Go.Proofs.YtcfhanoekniaaaaGreatDoor
open Go.RowKit Go.Maps
section
variable {w w' w2 w0 w1:World}{f r b n k k' j:Nat}{D D':DS}{g g':QG}{bs:List Nat}{Ts:List Ns}{M N N':Ns}{d m:Int}{A:Nat→Prop}
theorem KD.close (h:KD w m f r D bs Ts k A) (hk:k≤900) (hj:j<bs.length) (x:Int) :
 Calls Tryz.prog 57 #[wp f,wp bs[j],.int .i64 x] w fun y w'=>∃D' N' A',(y=.returned (aJ (if aH (Ts[j]'(h.jT hj)) x=true then 0 else 7))∧D'=fK D (Ts[j]'(h.jT hj)) x∧N'=gp (Ts[j]'(h.jT hj)) x)∧KD w' m f r D' bs (Ts.set j N') k A'∧Stp w w' A A':=by
 have hI:=h.inv.VM hk (h.jT hj) x
 refine h.call hj (Q:=fun y D' N'=>y=.returned (aJ (if aH (Ts[j]'(h.jT hj)) x=true then 0 else 7))∧D'=fK D (Ts[j]'(h.jT hj)) x∧N'=gp (Ts[j]'(h.jT hj)) x) (fun g n9 M hj' q t _=>?_) (fun y D' N' hq=>?_)
 ·by_cases hx:aH (Ts[j]'hj') x=true
  ·obtain ⟨i,rfl,hi,aF,h0⟩:=dK hx t.len
   obtain ⟨e,cl⟩:=h.inv.cl hj' aF h0
   have e1:fK D (Ts[j]'hj') i=aQ D (Ts[j]'hj')[i].1:=by unfold fK;rw [if_pos hx,getD_in aF]
   have e2:gp (Ts[j]'hj') i=(Ts[j]'hj').set i (0,false):=by unfold gp;rw [if_pos hx,show (i:Int).toNat=i by omega]
   have hjs:j<(Ts.set j (gp (Ts[j]'hj') i)).length:=by rw [List.length_set];exact hj'
   have hl:=hI.live hjs
   rw [mM hj' _ hjs,e1,e2] at hl
   refine (q.xg t hi aF h0 cl hl).mono ?_
   rintro y w' ⟨rfl,hG⟩
   exact ⟨_,_,⟨by rw [if_pos hx];rfl,rfl,rfl⟩,by rw [e1,e2];exact hG⟩
  ·have hx':aH (Ts[j]'hj') x=false:=by simpa using hx
   refine (q.xq t x hx').mono ?_
   rintro y w' ⟨rfl,hG⟩
   exact ⟨_,_,⟨by rw [if_neg hx];rfl,(if_neg hx).symm,(if_neg hx).symm⟩,hG⟩
 ·obtain ⟨_,rfl,rfl⟩:=hq
  exact hI
theorem KD.dup2 (h:KD w m f r D bs Ts k A) (hk:k≤900) (hj:j<bs.length) (x y9:Int) :
 Calls Tryz.prog 208 #[wp f,wp bs[j],.int .i64 x,.int .i64 y9] w fun y w'=>∃D' N' A',(y=.returned (aJ (eu (Ts[j]'(h.jT hj)) x y9))∧D'=eB D (Ts[j]'(h.jT hj)) x y9∧N'=ek (Ts[j]'(h.jT hj)) x y9)∧KD w' m f r D' bs (Ts.set j N') k A'∧Stp w w' A A':=by
 have hI:=h.inv.X8 hk (h.jT hj) x y9
 refine h.call hj (Q:=fun y D' N'=>y=.returned (aJ (eu (Ts[j]'(h.jT hj)) x y9))∧D'=eB D (Ts[j]'(h.jT hj)) x y9∧N'=ek (Ts[j]'(h.jT hj)) x y9) (fun g n9 M hj' q t _=>?_) (fun y D' N' hq=>?_)
 ·by_cases hx:aH (Ts[j]'hj') x=true
  ·by_cases hy:0≤y9∧y9≤7
   ·have e0:eu (Ts[j]'hj') x y9=0:=by unfold eu;rw [if_pos hx,if_pos hy]
    by_cases hne:x=y9
    ·subst hne
     have e1:eB D (Ts[j]'hj') x x=D:=if_neg (fun z=>z.2 rfl)
     have e2:ek (Ts[j]'hj') x x=Ts[j]'hj':=if_neg (fun z=>z.2 rfl)
     refine (q.Lx t x hx).mono ?_
     rintro y w' ⟨rfl,hG⟩
     exact ⟨_,_,⟨by rw [e0];rfl,rfl,rfl⟩,by rw [e1,e2];exact hG⟩
    ·obtain ⟨i,rfl,hi,aF,h0⟩:=dK hx t.len
     obtain ⟨i2,rfl⟩:∃i2:Nat,y9=i2:=⟨y9.toNat,by omega⟩
     have AP:i2<(Ts[j]'hj').length:=by rw [t.len];omega
     have e1:eB D (Ts[j]'hj') i i2=if (Ts[j]'hj')[i2].1=0 then ib D (Ts[j]'hj')[i].1 else aQ (ib D (Ts[j]'hj')[i].1) (Ts[j]'hj')[i2].1:=by
      unfold eB;rw [if_pos ⟨e0,hne⟩,getD_in aF,getD_in AP]
     have e2:ek (Ts[j]'hj') i i2=(Ts[j]'hj').set i2 ((Ts[j]'hj')[i].1,false):=by
      unfold ek;rw [if_pos ⟨e0,hne⟩,getD_in aF,show (i2:Int).toNat=i2 by omega]
     have hjs:j<(Ts.set j (ek (Ts[j]'hj') i i2)).length:=by rw [List.length_set];exact hj'
     have hl:=hI.live hjs
     rw [mM hj' _ hjs,e2] at hl
     have hnn:=h.inv.nn hj' _ (List.getElem_mem AP)
     refine (q.SA t hi (j:=i2) (by omega) aF AP (fun z=>hne (by rw [z])) h0 (h.inv.H6 hj') (D2:=eB D (Ts[j]'hj') i i2) ?_ hl).mono ?_
     ·by_cases z0:(Ts[j]'hj')[i2].1=0
      ·exact .inl ⟨z0,by rw [e1,if_pos z0]⟩
      ·refine .inr ⟨by omega,by rw [e1,if_neg z0],?_⟩
       exact (h.inv.dup2 hk hj' AP (by omega) h0 (eU hj' aF)).2
     ·rintro y w' ⟨rfl,hG⟩
      exact ⟨_,_,⟨by rw [e0];rfl,rfl,rfl⟩,by rw [e2];exact hG⟩
   ·have e0:eu (Ts[j]'hj') x y9=2:=by unfold eu;rw [if_pos hx,if_neg hy]
    refine (q.GJ t x y9 hx hy).mono ?_
    rintro y w' ⟨rfl,hG⟩
    exact ⟨_,_,⟨by rw [e0];rfl,(if_neg (fun z=>by rw [e0] at z;omega)).symm,(if_neg (fun z=>by rw [e0] at z;omega)).symm⟩,hG⟩
  ·have hx':aH (Ts[j]'hj') x=false:=by simpa using hx
   have e0:eu (Ts[j]'hj') x y9=7:=if_neg hx
   refine (q.rT t x y9 hx').mono ?_
   rintro y w' ⟨rfl,hG⟩
   exact ⟨_,_,⟨by rw [e0];rfl,(if_neg (fun z=>by rw [e0] at z;omega)).symm,(if_neg (fun z=>by rw [e0] at z;omega)).symm⟩,hG⟩
 ·obtain ⟨_,rfl,rfl⟩:=hq
  exact hI
theorem KD.pipe (h:KD w m f r D bs Ts k A) (hn:D.nx<890) (hj:j<bs.length) {n:Nat}(hN:qa D.E n) :
 Calls Tryz.prog 54 #[wp f,wp bs[j]] w fun z w'=>∃D' N' A',(∃x y c,z=.returned (.tuple #[.int .i64 x,.int .i64 y,aJ c])∧qm D (Ts[j]'(h.jT hj)) n x y c D' N')∧KD w' m f r D' bs (Ts.set j N') k A'∧Stp w w' A A':=by
 refine h.call hj (Q:=fun z D' N'=>∃x y c,z=.returned (.tuple #[.int .i64 x,.int .i64 y,aJ c])∧qm D (Ts[j]'(h.jT hj)) n x y c D' N') (fun g n9 M hj' q t _=>?_) (fun y D' N' hq=>?_)
 ·obtain rfl:=hN.one q.vY
  by_cases hf:tL (Ts[j]'hj') n
  ·refine (q.Bz t hf (q.few h.inv.core.iV)).mono ?_
   rintro y w' ⟨rfl,hG⟩
   exact ⟨_,_,⟨0,0,12,rfl,.inl ⟨hf,rfl,rfl,rfl,rfl,rfl⟩⟩,hG⟩
  ·obtain ⟨l1,l2⟩:=h.inv.zJ hj' hf
   have g:=h.inv.core.iV
   refine (q.wS t g hn (fun d e he=>?_) hf l1 l2 (h.inv.live hj')).mono ?_
   ·by_cases hk:e.kind=1
    ·exact .inr hk
    ·have:=((h.inv.core.eF d e he).pipe hk).2.1
     exact .inl (by omega)
   ·rintro y w' ⟨rfl,hG⟩
    exact ⟨_,_,⟨_,_,0,rfl,.inr ⟨hf,rfl,rfl,rfl,rfl,rfl⟩⟩,hG⟩
 ·obtain ⟨x,y,c,_,hP⟩:=hq
  rcases hP with ⟨_,_,_,_,rfl,rfl⟩|⟨hf,_,_,_,rfl,rfl⟩
  ·exact h.inv.lu (h.jT hj)
  ·obtain ⟨l1,l2⟩:=h.inv.zJ (h.jT hj) hf
   exact h.inv.pipe hn (h.jT hj) l1 l2
theorem KD.read (h:KD w m f r D bs Ts k A) (hj:j<bs.length) (x a:Int) :
 Calls Tryz.prog 63 #[wp f,wp bs[j],.int .i64 x,.int .i64 a] w fun y w'=>∃D' N' A',(y=.returned (.tuple #[tx (dz D (Ts[j]'(h.jT hj)) x a).1,aJ (dz D (Ts[j]'(h.jT hj)) x a).2.1])∧D'=(dz D (Ts[j]'(h.jT hj)) x a).2.2∧N'=Ts[j]'(h.jT hj))∧KD w' m f r D' bs (Ts.set j N') k A'∧Stp w w' A A':=by
 refine h.call hj (Q:=fun y D' N'=>y=.returned (.tuple #[tx (dz D (Ts[j]'(h.jT hj)) x a).1,aJ (dz D (Ts[j]'(h.jT hj)) x a).2.1])∧D'=(dz D (Ts[j]'(h.jT hj)) x a).2.2∧N'=Ts[j]'(h.jT hj)) (fun g n9 M hj' q t _=>?_) (fun y D' N' hq=>?_)
 ·by_cases hx:aH (Ts[j]'hj') x=true
  ·obtain ⟨i,rfl,hi,aF,h0⟩:=dK hx t.len
   obtain ⟨e,he⟩:=Option.isSome_iff_exists.1 (h.inv.live hj' i aF h0)
   have ok:=h.inv.core.eF _ e he
   by_cases hp2:e.ag=2
   ·rw [EF hi aF h0 he hp2]
    refine (q.vK t i a 13 (by omega) (q.sj t hi aF h0 he 1 (.inl ⟨rfl,hp2⟩))).mono ?_
    rintro y w' ⟨rfl,hG⟩
    exact ⟨_,_,⟨rfl,rfl,rfl⟩,hG⟩
   ·by_cases hk:e.kind=1
    ·obtain ⟨a1,a2,a3,a4,a5,a6⟩:=ok.file hk
     rw [F9 hi aF h0 he hk hp2]
     have hl:=zC (x:=e.node) (c:=a) h.inv.core.sm a5 a6
     refine (q.Ki t hi aF h0 he a hk (by omega) ⟨a3,a4⟩ ⟨a5,a6⟩ (by omega)).mono ?_
     rintro y w' ⟨rfl,hG⟩
     exact ⟨_,_,⟨rfl,rfl,rfl⟩,hG⟩
    ·obtain ⟨a1,a2,p,a3,a4,a5,a6,a7,a8⟩:=ok.pipe hk
     have hpr:e.ag=1:=by
      rcases ok.kind with z|z|z
      ·exact absurd z hk
      ·exact ok.cB z
      ·exact absurd (ok.into z) hp2
     rw [Kk hi aF h0 he hk hp2 a3]
     refine (q.Od t hi aF h0 he a hk (.inl hpr) a3 a7).mono ?_
     rintro y w' ⟨rfl,hG⟩
     exact ⟨_,_,⟨rfl,rfl,rfl⟩,hG⟩
  ·have hx':aH (Ts[j]'hj') x=false:=by simpa using hx
   rw [Oe hx']
   refine (q.vK t x a 7 (by omega) (q.zl t x 1 hx')).mono ?_
   rintro y w' ⟨rfl,hG⟩
   exact ⟨_,_,⟨rfl,rfl,rfl⟩,hG⟩
 ·obtain ⟨_,rfl,rfl⟩:=hq
  exact (h.inv.read (h.jT hj) x a).lu (h.jT hj)
theorem KD.write (h:KD w m f r D bs Ts k A) (hj:j<bs.length) (x:Int) (s:List UInt8) (hs:s.length<100000) (a:Int) :
 Calls Tryz.prog 59 #[wp f,wp bs[j],.int .i64 x,tx s,.int .i64 a] w fun y w'=>∃D' N' A',(y=.returned (.tuple #[.int .i64 (cO D (Ts[j]'(h.jT hj)) x s a).1,aJ (cO D (Ts[j]'(h.jT hj)) x s a).2.1])∧D'=(cO D (Ts[j]'(h.jT hj)) x s a).2.2∧N'=Ts[j]'(h.jT hj))∧KD w' m f r D' bs (Ts.set j N') (k+1) A'∧Stp w w' A A':=by
 refine h.call hj (Q:=fun y D' N'=>y=.returned (.tuple #[.int .i64 (cO D (Ts[j]'(h.jT hj)) x s a).1,aJ (cO D (Ts[j]'(h.jT hj)) x s a).2.1])∧D'=(cO D (Ts[j]'(h.jT hj)) x s a).2.2∧N'=Ts[j]'(h.jT hj)) (fun g n9 M hj' q t _=>?_) (fun y D' N' hq=>?_)
 ·by_cases hx:aH (Ts[j]'hj') x=true
  ·obtain ⟨i,rfl,hi,aF,h0⟩:=dK hx t.len
   obtain ⟨e,he⟩:=Option.isSome_iff_exists.1 (h.inv.live hj' i aF h0)
   have ok:=h.inv.core.eF _ e he
   by_cases hp1:e.ag=1
   ·rw [Cg hi aF h0 he hp1]
    refine (q.rV t i s a 13 (by omega) (q.sj t hi aF h0 he 2 (.inr ⟨rfl,hp1⟩))).mono ?_
    rintro y w' ⟨rfl,hG⟩
    exact ⟨_,_,⟨rfl,rfl,rfl⟩,hG⟩
   ·by_cases hk:e.kind=1
    ·obtain ⟨a1,a2,a3,a4,a5,a6⟩:=ok.file hk
     by_cases hl:nD s a e.pos
     ·rw [Cf hi aF h0 he hk hp1 hl]
      refine (q.Ep t hi aF h0 he s a hk (by omega) ⟨a5,a6⟩ hs hl).mono ?_
      rintro y w' ⟨rfl,hG⟩
      exact ⟨_,_,⟨rfl,rfl,rfl⟩,hG⟩
     ·refine (q.FQ t hi aF h0 he s a hk (by omega) ⟨a3,a4⟩ ⟨a5,a6⟩ hs h.inv.core.lv hl).mono ?_
      rintro y w' (⟨hE,rfl,hG⟩|⟨hE,rfl,hG⟩)
      ·rw [FT hi aF h0 he hk hp1 hl hE]
       exact ⟨_,_,⟨by rw [aB hE],rfl,rfl⟩,hG⟩
      ·rw [Es hi aF h0 he hk hp1 hl hE]
       exact ⟨_,_,⟨rfl,rfl,rfl⟩,hG⟩
    ·obtain ⟨a1,a2,p,a3,a4,a5,a6,a7,a8⟩:=ok.pipe hk
     have hpr:e.ag=2:=by
      rcases ok.kind with z|z|z
      ·exact absurd z hk
      ·exact absurd (ok.cB z) hp1
      ·exact ok.into z
     rw [FR hi aF h0 he hk hp1 a3]
     refine (q.JB t hi aF h0 he s a hk (.inl hpr) a3).mono ?_
     rintro y w' ⟨rfl,hG⟩
     exact ⟨_,_,⟨rfl,rfl,rfl⟩,hG⟩
  ·have hx':aH (Ts[j]'hj') x=false:=by simpa using hx
   rw [JE hx']
   refine (q.rV t x s a 7 (by omega) (q.zl t x 2 hx')).mono ?_
   rintro y w' ⟨rfl,hG⟩
   exact ⟨_,_,⟨rfl,rfl,rfl⟩,hG⟩
 ·obtain ⟨_,rfl,rfl⟩:=hq
  exact (h.inv.write (h.jT hj) x s a).lu (h.jT hj)
theorem KD.clear (h:KD w m f r D bs Ts k A) (hk:k≤900) (hj:j<bs.length) :
 Calls Tryz.prog 250 #[wp f,wp bs[j]] w fun y w'=>∃D' N' A',(y=.returned (.tuple #[])∧D'=(ai true D (Ts[j]'(h.jT hj)) 8).1∧N'=(ai true D (Ts[j]'(h.jT hj)) 8).2)∧KD w' m f r D' bs (Ts.set j N') k A'∧Stp w w' A A':=by
 refine h.call hj (Q:=fun y D' N'=>y=.returned (.tuple #[])∧D'=(ai true D (Ts[j]'(h.jT hj)) 8).1∧N'=(ai true D (Ts[j]'(h.jT hj)) 8).2) (fun g n9 M hj' q t _=>?_) (fun y D' N' hq=>?_)
 ·refine (q.xu t h.inv hk hj' rfl).mono ?_
  rintro y w' ⟨rfl,hG⟩
  exact ⟨_,_,⟨rfl,rfl,rfl⟩,hG⟩
 ·obtain ⟨_,rfl,rfl⟩:=hq
  exact h.inv.free hk (h.jT hj) true 8 (by omega)
theorem KD.exec (h:KD w m f r D bs Ts k A) (hk:k≤900) (hj:j<bs.length) :
 Calls Tryz.prog 115 #[wp f,wp bs[j]] w fun y w'=>∃D' N' A',(y=.returned (.tuple #[])∧D'=(ai false D (Ts[j]'(h.jT hj)) 8).1∧N'=(ai false D (Ts[j]'(h.jT hj)) 8).2)∧KD w' m f r D' bs (Ts.set j N') k A'∧Stp w w' A A':=by
 refine h.call hj (Q:=fun y D' N'=>y=.returned (.tuple #[])∧D'=(ai false D (Ts[j]'(h.jT hj)) 8).1∧N'=(ai false D (Ts[j]'(h.jT hj)) 8).2) (fun g n9 M hj' q t _=>?_) (fun y D' N' hq=>?_)
 ·refine (q.Sr t h.inv hk hj' rfl).mono ?_
  rintro y w' ⟨rfl,hG⟩
  exact ⟨_,_,⟨rfl,rfl,rfl⟩,hG⟩
 ·obtain ⟨_,rfl,rfl⟩:=hq
  exact h.inv.free hk (h.jT hj) false 8 (by omega)
theorem KD.fork (h:KD w m f r D bs Ts k A) (hf:Ts.length<500) (hj:j<bs.length) :
 Calls Tryz.prog 140 #[wp f,wp bs[j]] w fun y w'=>∃A',y=.returned (wp w.heap.size)∧KD w' m f r (gW D (Ts[j]'(h.jT hj))) (bs ++ [w.heap.size]) (Ts ++ [Ts[j]'(h.jT hj)]) k A'∧Stp w w' A A':=by
 obtain ⟨g,n,h1,hr,ht,hA⟩:=h.st
 have hj':=h.jT hj
 obtain ⟨M,tj⟩:=ht j hj hj'
 refine (h1.rR tj h.inv hj' rfl).mono ?_
 rintro y w' ⟨rfl,a1,a2,a3,wt⟩
 have hst:Stp w w' A (fun i=>A i∨(w.heap.size≤i∧i<w'.heap.size)):=⟨wt.mono hA,fun i hi=>by
  rcases hi with hi|hi
  ·exact .inl hi
  ·exact .inr hi.1⟩
 have hbl:∀x∈bs,x<w.heap.size:=fun x hx=>h.lt x (h.PW x hx)
 refine ⟨_,rfl,⟨⟨g,n,a1,hr,fun x hx hx'=>?_,fun i hi=>.inl (hA i hi)⟩,by rw [List.length_append,List.length_append,h.len];rfl,?_,fun b hb=>?_,h.inv.fork hf hj',fun i hi=>?_,(hst.aW h.ml h.mn).1,(hst.aW h.ml h.mn).2,(hst.aW h.er h.en).1,(hst.aW h.er h.en).2⟩,hst⟩
 ·by_cases e1:x<bs.length
  ·have e2:x<Ts.length:=by rw [←h.len];exact e1
   rw [List.getElem_append_left e1,List.getElem_append_left e2]
   obtain ⟨Mx,tx⟩:=ht x e1 e2
   exact ⟨Mx,tx.keep (wt.block _ tx.tab.lt (by rw [tx.off];simp))⟩
  ·have e3:x=bs.length:=by rw [List.length_append] at hx;simp at hx;omega
   have e4:x=Ts.length:=by rw [←h.len];exact e3
   subst e3
   rw [List.getElem_concat_length rfl]
   have:(Ts ++ [Ts[j]])[bs.length]'hx'=Ts[j]:=by
    rw [List.getElem_append_right (by omega)]
    simp
   rw [this]
   exact ⟨M,a3⟩
 ·rw [List.nodup_append]
  exact ⟨h.nd,by simp,fun a ha b hb e=>by rw [List.mem_singleton.1 hb] at e;have:=hbl a ha;omega⟩
 ·rcases List.mem_append.1 hb with z|z
  ·exact .inl (h.PW b z)
  ·rw [List.mem_singleton.1 z]
   exact .inr ⟨Nat.le_refl _,a3.tab.lt⟩
 ·rcases hi with hi|hi
  ·exact Nat.lt_of_lt_of_le (h.lt i hi) wt.size
  ·exact hi.2
end
abbrev bn:Ns:=List.replicate 8 (0,false)
def KW (w0 w:World) (m:Int) (f r:Nat) (D:DS) (bs:List Nat) (Ts:List Ns) (k:Nat):Prop:=∃A,KD w m f r D bs Ts k A∧(∀i,A i→w0.heap.size≤i)∧Below w0.heap.size w0 w
section
variable {w w' w2 w0 w1:World}{f r b n k k' j:Nat}{D D':DS}{g g':QG}{bs:List Nat}{Ts Ts':List Ns}{M N N':Ns}{d m:Int}{A A':Nat→Prop}
theorem Inv.none {T:Wd}{k:Nat}(hT:bE T) (hs:Sm k T):Inv (oz T) [] k:=
 ⟨⟨EI T,hT,hs,fun d e h=>(by cases h),fun d _=>by simp [oz,fB],fun d _=>by simp [oz,fB]⟩,fun N hN=>(by cases hN),by simp⟩
theorem Q3:Sm 0 iN:=⟨fun i C e=>by
 obtain ⟨_,e9⟩:=bD e;cases e9;simp,fun i b x e=>by
 obtain ⟨_,e9⟩:=bD e;cases e9⟩
theorem KW.first (w:World) (hm:w.cell? ⟨4,0,none⟩=some (.int .i64 m)) (he:w.cell? ⟨0,0,none⟩=some fJ) :
 Calls Tryz.prog 47 #[] w fun y w'=>∃r,y=.returned (wp r)∧Below w.heap.size w w'∧Calls Tryz.prog 48 #[wp r] w' fun y w2=>∃f,y=.returned (.tuple #[wp f,.nilIface])∧KW w w2 m f r (oz iN) [] [] 0:=by
 refine (Vq w).mono ?_
 rintro y w1 ⟨r,O,rfl,p1,b1,hO⟩
 refine ⟨r,rfl,b1,(aaz.ok p1).mono ?_⟩
 rintro y w2 ⟨f,g,rfl,q,hk,hr,b2⟩
 have bb:=b1.trans (b2.mono b1.size)
 have hA:∀i,(g.di i).isSome=true→w.heap.size≤i:=fun i hi=>by
  by_cases e1:i<w1.heap.size
  ·exact hO i ((hk i e1).1 hi)
  ·have:=b1.size;omega
 have sN:=World.block_lt_of_cell? w _ hm
 have hel:=World.block_lt_of_cell? w _ he
 refine ⟨f,rfl,fun i=>(g.di i).isSome=true,⟨⟨g,0,q,hr,fun j h=>(by simp at h),fun i hi=>hi⟩,rfl,List.nodup_nil,fun b hb=>(by cases hb),Inv.none Oz Q3,fun i hi=>q.lt i hi,cell_below hm bb,fun z=>?_,cell_below he bb,fun z=>?_⟩,hA,bb⟩
 ·have:=hA _ z
  simp only at sN
  omega
 ·have:=hA _ z
  simp only at hel
  omega
theorem LK {d:Int}(hd:0<d):om d bn=0:=by
 unfold om
 rw [List.length_eq_zero_iff,List.filter_eq_nil_iff]
 intro x hx
 rw [List.eq_of_mem_replicate hx]
 simp;omega
theorem KD.table (h1:KD w m f r D bs Ts k A) (hf:Ts.length<8):KD (w.alloc (.cells (nv bn).toArray 216)) m f r D (bs ++ [w.heap.size]) (Ts ++ [bn]) k (fun i=>A i∨i=w.heap.size):=by
 have bA:Below w.heap.size w (w.alloc (.cells (nv bn).toArray 216)):=(Below.refl _ w).alloc (Nat.le_refl _) _
 have hsz:(w.alloc (.cells (nv bn).toArray 216)).heap.size=w.heap.size+1:=by show (w.heap.push _).size=_;rw [Array.size_push]
 have hn:(w.alloc (.cells (nv bn).toArray 216)).heap[w.heap.size]? = some (.cells (nv bn).toArray 216):=by
  show (w.heap.push _)[w.heap.size]? = _
  rw [Array.getElem?_push,if_pos rfl]
 obtain ⟨g,n,q,hr,ht,hk⟩:=h1.st
 have h2:=h1.below bA
 have sN:=World.block_lt_of_cell? _ _ h1.ml
 have hel:=World.block_lt_of_cell? _ _ h1.er
 simp only at sN hel
 have hz:dE (w.alloc (.cells (nv bn).toArray 216)) w.heap.size g bn bn:=by
  refine ⟨⟨hn,rfl,fun x hx=>?_⟩,IQ q,rfl,fun i h1 h2=>?_⟩
  ·rw [List.eq_of_mem_replicate hx];simp
  ·have e1:(bn)[i]=(0,false):=List.eq_of_mem_replicate (List.getElem_mem h1)
   exact ⟨rfl,.inl ⟨congrArg Prod.fst e1,congrArg Prod.fst e1⟩⟩
 refine ⟨⟨g,n,q.below bA,hr,fun x hx hx'=>?_,fun i hi=>.inl (hk i hi)⟩,by rw [List.length_append,List.length_append,h1.len];rfl,?_,fun b hb=>?_,⟨h1.inv.core.congr (fun d hd=>?_),fun N hN=>?_,by rw [List.length_append];simp;omega⟩,fun i hi=>?_,h2.ml,fun z=>?_,h2.er,fun z=>?_⟩
 ·by_cases e1:x<bs.length
  ·have e2:x<Ts.length:=by rw [←h1.len];exact e1
   rw [List.getElem_append_left e1,List.getElem_append_left e2]
   obtain ⟨Mx,tx⟩:=ht x e1 e2
   exact ⟨Mx,tx.below bA⟩
  ·have e3:x=bs.length:=by rw [List.length_append] at hx;simp at hx;omega
   have e4:=h1.len
   subst e3
   rw [List.getElem_concat_length rfl]
   have:(Ts ++ [bn])[bs.length]'hx'=bn:=by
    rw [List.getElem_append_right (by omega)]
    simp
   rw [this]
   exact ⟨bn,hz⟩
 ·rw [List.nodup_append]
  exact ⟨h1.nd,by simp,fun a ha b hb e=>by rw [List.mem_singleton.1 hb] at e;have:=h1.lt a (h1.PW a ha);omega⟩
 ·rcases List.mem_append.1 hb with z|z
  ·exact .inl (h1.PW b z)
  ·exact .inr (List.mem_singleton.1 z)
 ·have:=LK hd
  simp only [fB,List.map_append,List.sum_append,List.map_cons,List.map_nil,List.sum_cons,List.sum_nil]
  omega
 ·rcases List.mem_append.1 hN with z|z
  ·exact h1.inv.tab N z
  ·rw [List.mem_singleton.1 z]
   exact ⟨rfl,fun x hx=>by rw [List.eq_of_mem_replicate hx];simp⟩
 ·rw [hsz]
  rcases hi with z|z
  ·have:=h1.lt i z;omega
  ·omega
 ·rcases z with z|z
  ·exact h1.mn z
  ·omega
 ·rcases z with z|z
  ·exact h1.en z
  ·omega
end
end Go.Proofs.YtcfhanoekniaaaaGreatDoor
namespace Go.Proofs.YtcfhanoekniaaaaGreatDoor
open Go.RowKit Go.Shelf Go.Lib Go.Sort Go.Maps
abbrev Sq:=Nat×Nat×PM
def jQ (L:List Sq) (f:Int):Nat:=(L.map fun x=>sh x.2.2 f).sum
theorem Di {L:List Sq}{i:Nat}(hi:i<L.length) (x:Sq) (f:Int):jQ (L.set i x) f+sh L[i].2.2 f=jQ L f+sh x.2.2 f:=by
 unfold jQ
 induction L generalizing i with
 |nil=>cases hi
 |cons y r ih=>
  cases i with
  |zero=>simp;omega
  |succ i=>
   have:=ih (i:=i) (by simpa using hi)
   simp at this ⊢;omega
theorem Bn {L:List Sq}{i:Nat}(hi:i<L.length) (f:Int):sh L[i].2.2 f≤jQ L f:=by
 unfold jQ
 induction L generalizing i with
 |nil=>cases hi
 |cons y r ih=>
  cases i with
  |zero=>simp
  |succ i=>
   have:=ih (i:=i) (by simpa using hi)
   simp at this ⊢;omega
theorem NR (L:List Sq) (x:Sq) (f:Int):jQ (L ++ [x]) f=jQ L f+sh x.2.2 f:=by unfold jQ;simp
theorem QX {L:List Sq}{f:Int}(h:∀x∈L,sh x.2.2 f≤1):jQ L f≤L.length:=by
 unfold jQ
 induction L with
 |nil=>simp
 |cons y r ih=>
  have h1:=h y (by simp)
  have h2:=ih (fun x hx=>h x (by simp [hx]))
  simp at h2 ⊢;omega
def vU (L:List Sq) (i:Nat) (hi:i<L.length) (f:Int):Nat:=jQ L f-sh L[i].2.2 f
theorem vL {L:List Sq}{i:Nat}(hi:i<L.length) (f:Int):sh L[i].2.2 f+vU L i hi f=jQ L f:=by
 have:=Bn hi f;unfold vU;omega
structure Al (E:St) (w:World) (D:Nat→Nat→Int) (A:Nat→Prop) (L:List Sq):Prop where
 sp:∀i (hi:i<L.length),VS E w L[i].1 L[i].2.1 D A L[i].2.2 (vU L i hi)
 apart:∀i j (hi:i<L.length) (hj:j<L.length),L[i].2.1=L[j].2.1→i=j
 pos:0<L.length
def Ju (E:St) (A:Nat→Prop) (L:List Sq) (i:Nat):Prop:=bH E A i∨∃x∈L,i=x.2.1
def C8 (E:St) (w:World) (A:Nat→Prop) (L:List Sq) (w':World) (D:Nat→Nat→Int) (L':List Sq):Prop:=
 ∃A',Al E w' D A' L'∧Fr (Ju E A L) w w'∧∀i,i<w.heap.size→Ju E A' L' i→Ju E A L i
section
variable {E:St}{w w':World}{D D':Nat→Nat→Int}{A:Nat→Prop}{L:List Sq}
theorem Iu {i:Nat}(hi:i<L.length):gU (fun f=>sh L[i].2.2 f+vU L i hi f)=gU (jQ L):=fI (fun x _=>vL hi x)
theorem Al.st (h:Al E w D A L):Vs E w D (gU (jQ L)) A:=by
 have:=(h.sp 0 h.pos).st
 rwa [Iu] at this
theorem Al.below (h:Al E w D A L) (hb:Below w.heap.size w w'):Al E w' D A L:=⟨fun i hi=>(h.sp i hi).below hb,h.apart,h.pos⟩
theorem Al.Au (h:Al E w D A L) {i:Nat}(ho:Ju E A L i):i<w.heap.size:=by
 rcases ho with ho|⟨x,hx,rfl⟩
 ·exact h.st.Au ho
 ·obtain ⟨j,hj,rfl⟩:=List.mem_iff_getElem.1 hx
  exact (h.sp j hj).sp.rf
theorem Cn {i:Nat}(hi:i<L.length) (x:Sq) (f:Int):vU (L.set i x) i (by simpa using hi) f=vU L i hi f:=by
 have:=Di hi x f
 have:=Bn hi f
 unfold vU;simp;omega
theorem Al.turn (h:Al E w D A L) {i:Nat}(hi:i<L.length) {P':PM}(t:aV E w L[i].1 L[i].2.1 A w' D' P' (vU L i hi)):C8 E w A L w' D' (L.set i (L[i].1,L[i].2.1,P')):=by
 obtain ⟨A',v,f,s⟩:=t
 have hl:(L.set i (L[i].1,L[i].2.1,P')).length=L.length:=by simp
 have vi:=h.sp i hi
 have hown:∀j,j<w.heap.size→bH E A' j→bH E A j:=fun j hj ho=>by
  rcases ho with ho|ho
  ·exact .inl (s j hj ho)
  ·exact .inr ho
 have Y0:gU (fun f=>sh P' f+vU L i hi f)=gU (jQ (L.set i (L[i].1,L[i].2.1,P'))):=fI (fun x _=>by
  have h1:=Di hi (L[i].1,L[i].2.1,P') x
  have h2:=Bn hi x
  unfold vU;simp only at h1;omega)
 refine ⟨A',⟨fun j hj=>?_,fun j k hj hk e=>?_,by rw [hl];exact h.pos⟩,f.mono (fun j _ ho=>?_),fun j hj ho=>?_⟩
 ·by_cases e:j=i
  ·subst e
   have e1:(L.set j (L[j].1,L[j].2.1,P'))[j]=(L[j].1,L[j].2.1,P'):=by simp
   rw [e1]
   have:(vU (L.set j (L[j].1,L[j].2.1,P')) j hj)=vU L j hi:=by funext z;exact Cn hi _ z
   rw [this];exact v
  ·have hj':j<L.length:=by simpa using hj
   have e1:(L.set i (L[i].1,L[i].2.1,P'))[j]=L[j]:=by simp [Ne.symm e]
   have vj:=h.sp j hj'
   rw [e1]
   have hgj:L[j].2.1≠L[i].2.1:=fun he=>e (h.apart j i hj' hi he)
   have hcj:L[j].1≠L[i].2.1:=fun he=>by
    obtain ⟨es,cl,hm⟩:=vi.sp.map.isMap
    rw [←he,vj.sp.head] at hm;cases hm
   refine ⟨?_,vj.sp.keep (f.block _ vj.sp.lt (fun ho=>?_)) (f.block _ vj.sp.rf (fun ho=>?_)),vj.ok,vj.Ay,fun ho=>vj.kX (hown _ vj.sp.lt ho),fun ho=>vj.gX (hown _ vj.sp.rf ho),vj.gb,vj.gm⟩
   ·have hR:gU (fun f=>sh L[j].2.2 f+vU (L.set i (L[i].1,L[i].2.1,P')) j hj f)=gU (jQ (L.set i (L[i].1,L[i].2.1,P'))):=fI (fun x _=>by
     have:=vL hj x;rw [e1] at this;exact this)
    rw [hR,←Y0];exact v.st
   ·rcases ho with ho|ho
    ·exact vj.kX ho
    ·exact hcj ho
   ·rcases ho with ho|ho
    ·exact vj.gX ho
    ·exact hgj ho
 ·have hj':j<L.length:=by simpa using hj
  have hk':k<L.length:=by simpa using hk
  refine h.apart j k hj' hk' ?_
  have g:∀m (hm:m<L.length),(L.set i (L[i].1,L[i].2.1,P'))[m]'(by simpa using hm)=if i=m then (L[i].1,L[i].2.1,P') else L[m]:=fun m hm=>by rw [List.getElem_set]
  rw [g j hj',g k hk'] at e
  by_cases e1:i=j<;>by_cases e2:i=k
  ·subst e1;subst e2;rfl
  ·subst e1;simpa [e2] using e
  ·subst e2;simpa [e1] using e
  ·simpa [e1,e2] using e
 ·rcases ho with ho|ho
  ·exact .inl ho
  ·exact .inr ⟨L[i],List.getElem_mem hi,ho⟩
 ·rcases ho with ho|⟨x,hx,rfl⟩
  ·exact .inl (hown j hj ho)
  ·rcases List.mem_or_eq_of_mem_set hx with hx|rfl
   ·exact .inr ⟨x,hx,rfl⟩
   ·exact .inr ⟨L[i],List.getElem_mem hi,rfl⟩
theorem Al.wI (h:Al E w D A L) {i:Nat}(hi:i<L.length) {c':Nat}(t:M8 E w L[i].1 L[i].2.1 c' A w' D L[i].2.2 (vU L i hi)):∃gc',C8 E w A L w' D (L ++ [(c',gc',L[i].2.2)])∧w.heap.size≤c':=by
 obtain ⟨gc',A',v,v',f,s,lc,lg⟩:=t
 have hown:∀j,j<w.heap.size→bH E A' j→bH E A j:=fun j hj ho=>by
  rcases ho with ho|ho
  ·exact .inl (s j hj ho)
  ·exact .inr ho
 have Y0:gU (fun f=>sh L[i].2.2 f+(vU L i hi f+sh L[i].2.2 f))=gU (jQ (L ++ [(c',gc',L[i].2.2)])):=fI (fun x _=>by
  have h1:=NR L (c',gc',L[i].2.2) x
  have h2:=vL hi x
  simp only at h1;omega)
 have hst:Vs E w' D (gU (jQ (L ++ [(c',gc',L[i].2.2)]))) A':=by rw [←Y0];exact v.st
 refine ⟨gc',⟨A',⟨fun j hj=>?_,fun j k hj hk e=>?_,by simp⟩,f.mono (fun j _ ho=>.inl ho),fun j hj ho=>?_⟩,lc⟩
 ·have hR:gU (fun f=>sh (L ++ [(c',gc',L[i].2.2)])[j].2.2 f+vU (L ++ [(c',gc',L[i].2.2)]) j hj f)=gU (jQ (L ++ [(c',gc',L[i].2.2)])):=Iu hj
  by_cases e:j<L.length
  ·have e1:(L ++ [(c',gc',L[i].2.2)])[j]=L[j]:=by rw [List.getElem_append_left e]
   have vj:=h.sp j e
   rw [e1] at hR ⊢
   exact ⟨by rw [hR];exact hst,vj.sp.keep (f.block _ vj.sp.lt vj.kX) (f.block _ vj.sp.rf vj.gX),vj.ok,vj.Ay,fun ho=>vj.kX (hown _ vj.sp.lt ho),fun ho=>vj.gX (hown _ vj.sp.rf ho),vj.gb,vj.gm⟩
  ·have ej:j=L.length:=by simp at hj;omega
   subst ej
   have e1:(L ++ [(c',gc',L[i].2.2)])[L.length]=(c',gc',L[i].2.2):=by simp
   rw [e1] at hR ⊢
   exact ⟨by rw [hR];exact hst,v'.sp,v'.ok,v'.Ay,v'.kX,v'.gX,v'.gb,v'.gm⟩
 ·have g:∀m (hm:m<L.length),(L ++ [(c',gc',L[i].2.2)])[m]'(by simp;omega)=L[m]:=fun m hm=>by rw [List.getElem_append_left hm]
  have lt:∀m (hm:m<L.length),L[m].2.1<w.heap.size:=fun m hm=>(h.sp m hm).sp.rf
  have g':∀m (hm:m<(L ++ [(c',gc',L[i].2.2)]).length),¬m<L.length→(L ++ [(c',gc',L[i].2.2)])[m]=(c',gc',L[i].2.2):=fun m hm hn=>by
   have:m=L.length:=by simp at hm;omega
   subst this;simp
  by_cases e1:j<L.length<;>by_cases e2:k<L.length
  ·rw [g j e1,g k e2] at e;exact h.apart j k e1 e2 e
  ·rw [g j e1,g' k hk e2] at e;have:=lt j e1;simp only at e;omega
  ·rw [g' j hj e1,g k e2] at e;have:=lt k e2;simp only at e;omega
  ·simp at hj hk;omega
 ·rcases ho with ho|⟨x,hx,rfl⟩
  ·exact .inl (hown j hj ho)
  ·rcases List.mem_append.1 hx with hx|hx
   ·exact .inr ⟨x,hx,rfl⟩
   ·simp at hx;subst hx;simp only at hj;omega
theorem Al.left (h:Al E w D A L):Calls Tryz.prog 119 #[vp E.b] w fun e w'=>e=.returned (.int .i64 ((E.n-used (jQ L) E.n:Nat):Int))∧w'=w:=h.st.left
theorem Al.Vf (h:Al E w D A L) (hl:L.length≤100) {i:Nat}(hi:i<L.length):∀f,0≤f→vU L i hi f≤100:=fun f hf=>by
 have h1:=vL hi f
 have h2:=QX (L:=L) (f:=f) (fun x hx=>by
  obtain ⟨j,hj,rfl⟩:=List.mem_iff_getElem.1 hx
  exact (h.sp j hj).Ay f hf)
 omega
theorem Al.rR (h:Al E w D A L) (hl:L.length≤100) {i:Nat}(hi:i<L.length):Calls Tryz.prog 139 #[vp L[i].1] w fun e w'=>∃c',e=.returned (vp c')∧∃gc',C8 E w A L w' D (L ++ [(c',gc',L[i].2.2)])∧w.heap.size≤c':=by
 refine ((h.sp i hi).rR (h.Vf hl hi)).mono ?_
 rintro e w' ⟨c',he,t⟩
 exact ⟨c',he,h.wI hi t⟩
theorem Al.keep (h:Al E w D A L) (hk:∀i,Ju E A L i→w'.heap[i]? = w.heap[i]?) (hb:w'.heap[E.b]? = w.heap[E.b]?) (hm:w'.heap[E.bm]? = w.heap[E.bm]?) (hc:∀i (hi:i<L.length),w'.heap[L[i].1]? = w.heap[L[i].1]?):Al E w' D A L:=
 ⟨fun i hi=>(h.sp i hi).keep (fun j hj=>hk j (.inl hj)) hb hm (hc i hi) (hk _ (.inr ⟨L[i],List.getElem_mem hi,rfl⟩)),h.apart,h.pos⟩
theorem Al.first {c gc:Nat}(h:VS E w c gc D A (fun _=>none) (fun _=>0)):Al E w D A [(c,gc,fun _=>none)]:=by
 refine ⟨fun i hi=>?_,fun i j hi hj _=>by simp at hi hj;omega,by simp⟩
 have:i=0:=by simp at hi;omega
 subst this
 have e:vU [(c,gc,fun _=>none)] 0 hi=fun _=>0:=by funext f;simp [vU,jQ]
 rw [e];exact h
theorem qI {t t':Int→Nat}{n:Nat}(h:∀x,0≤x→t x=t' x):used t n=used t' n:=by unfold used;rw [fI h]
theorem tY (n:Nat):used (fun _=>0) n=0:=IC n
theorem Ie (t:Int→Nat) (n:Nat):used t n=sumTo (fun f=>if t f=0 then 0 else 1) 0 n:=by
 unfold used num;refine sumTo_congr _ _ (fun i _ _=>?_)
 by_cases e:t (i:Int)=0<;>simp [gU,e]
end
section
variable {D:Nat→Nat→Int}{P:PM}{o:Int→Nat}
theorem yF.refused {n:Nat}{a k v er:Int}{P':PM}{D':Nat→Nat→Int}(h:yF n P o D a k v er P' D') (he:er≠0):P'=P∧D'=D:=by
 rcases h with ⟨_,_,h1,h2⟩|⟨_,_,_,h0,_⟩|⟨_,_,_,_,h1,h2⟩|⟨_,_,f,_,_,h0,_⟩
 ·exact ⟨h1,h2⟩
 ·exact absurd h0 he
 ·exact ⟨h1,h2⟩
 ·exact absurd h0 he
end
end Go.Proofs.YtcfhanoekniaaaaGreatDoor
namespace Go.Proofs.YtcfhanoekniaaaaGreatDoor
structure Ow where
 j:Nat
 m:Nat→Int
 dF:Int
structure KS where
 n:Nat
 P:Ps
 D:DS
 Ts:List Ns
 Ms:List PM
 W:Nat→Nat→Int
 O:Int→Option Ow
def jW:PM:=fun _=>none
def aK (S:KS) (j:Nat):PM:=S.Ms.getD j jW
def ax (S:KS) (j:Nat):Ns:=S.Ts.getD j bn
def jX (S:KS) (j:Nat):Nat→Int:=fun k=>if k=0 then ((bN (aK S j):Nat):Int) else if k=1 then ((aj (ax S j):Nat):Int) else 0
theorem wy {S:KS}{j:Nat}(h:j<S.Ms.length):aK S j=S.Ms[j]:=by unfold aK;rw [List.getD_eq_getElem?_getD,List.getElem?_eq_getElem h];rfl
theorem iM {S:KS}{j:Nat}(h:j<S.Ts.length):ax S j=S.Ts[j]:=by unfold ax;rw [List.getD_eq_getElem?_getD,List.getElem?_eq_getElem h];rfl
structure pq (S:KS):Prop where
 run:∀p,(S.O p).isSome=az S.P p
 gone:∀j,j<S.Ts.length→(∀p o,S.O p=some o→o.j≠j)→ax S j=bn∧aK S j=jW
 fit:∀p o,S.O p=some o→Fit o.m∧-100≤o.dF∧o.dF≤100
theorem tZ {N:Ns}(h:N.length=8):aj N≤8:=by have:=vJ N;omega
def iX (O:Int→Option Ow) (p:Int) (o:Ow):Int→Option Ow:=fun x=>if x=p then some o else O x
def iL (O:Int→Option Ow) (p:Int):Int→Option Ow:=fun x=>if x=p then none else O x
theorem df (O:Int→Option Ow) (p:Int) (o:Ow):iX O p o p=some o:=if_pos rfl
theorem dQ {O:Int→Option Ow}{p x:Int}{o:Ow}(h:x≠p):iX O p o x=O x:=if_neg h
end Go.Proofs.YtcfhanoekniaaaaGreatDoor
namespace Go.Proofs.YtcfhanoekniaaaaGreatDoor
open Go.RowKit Go.Maps
structure KH where
 kb:Nat
 eb:Nat
 f:Nat
 r:Nat
 t:Nat
 g:Nat
 gm:Nat
 hs:Nat→Nat
 sp:Nat→Nat
 tb:Nat→Nat
 ok:Bool
def vB (ok:Bool) (w:World):Prop:=2<w.heap.size∧(ok=true→mi w)
theorem vB.lt {ok:Bool}{w:World}(h:vB ok w):2<w.heap.size:=h.1
theorem vB.keep {ok:Bool}{w w':World}(h:vB ok w) (hb:w'.heap[2]? = w.heap[2]?):vB ok w':=
 ⟨by
  have h1:=h.1
  rw [Array.getElem?_eq_getElem h1] at hb
  exact (Array.getElem?_eq_some_iff.1 hb).1,fun e=>(h.2 e).keep hb⟩
structure KG where
 E:St
 Av:Nat→Prop
 L:List Sq
 bs:List Nat
 Ad:Nat→Prop
 κ:Nat→Nat
abbrev YZ (H:KH):Array Value:=#[wp H.eb,wp H.r,wp H.f,wp H.t,.map (some H.gm)]
structure KM (w:World) (m:Int) (H:KH) (S:KS) (U:Nat→Nat→Int) (q:Nat) (G:KG):Prop where
 head:w.heap[H.kb]? = some (.cells (YZ H) 106)
 eb:G.E.b=H.eb
 en:G.E.n=S.n
 al:Al G.E w S.W G.Av G.L
 ms:G.L.map (fun x=>x.2.2)=S.Ms
 sp:∀j (h:j<G.L.length),G.L[j].1=H.sp j
 kd:KD w m H.f H.r S.D G.bs S.Ts (2*q) G.Ad
 tb:∀j (h:j<G.bs.length),G.bs[j]=H.tb j
 qj:∃c,QJ w H.t H.g S.P c
 map:∃z,aG w H.gm z (fun p=>(S.O p).map (fun o=>wp (H.hs o.j)))
 hold:∀p o,S.O p=some o→Hd w (H.hs o.j) (H.sp o.j) (H.tb o.j) (U o.j) o.m o.dF
 hinj:∀p o p' o',S.O p=some o→S.O p'=some o'→H.hs o.j=H.hs o'.j→p=p'
 len:S.Ms.length=S.Ts.length
 lt:∀p o,S.O p=some o→o.j<S.Ts.length
 key:∀p o,S.O p=some o→1≤p∧p≤24
 tab:vB H.ok w
 nx:S.D.nx≤3*(q:Int)
 few:S.Ts.length≤q+1
 k1:∀i,Ju G.E G.Av G.L i→G.κ i=1
 k2:∀i,G.Ad i→G.κ i=2
 k3:G.κ H.g=3
 k4:G.κ H.gm=4
 k5:∀p o,S.O p=some o→G.κ (H.hs o.j)=5
 kk:G.κ H.kb=6
 kE:G.κ G.E.b=6
 kB:G.κ G.E.bm=6
 kt:G.κ H.t=6
 ks:∀j,j<S.Ts.length→G.κ (H.sp j)=6
 km:G.κ 4=0
 ke:G.κ 0=0
 Mi:G.κ 2=0
 yU:∀i,G.κ i≠0→i<w.heap.size
def tg (κ:Nat→Nat) (X:Nat) (w w':World):Nat→Nat:=fun i=>if i<w.heap.size then κ i else if i<w'.heap.size then X else 0
section
variable {w w':World}{m:Int}{H:KH}{S:KS}{U:Nat→Nat→Int}{q X:Nat}{G:KG}{κ:Nat→Nat}
theorem wF {i:Nat}(hi:i<w.heap.size):tg κ X w w' i=κ i:=if_pos hi
theorem Nh {i:Nat}(h1:w.heap.size≤i) (h2:i<w'.heap.size):tg κ X w w' i=X:=by unfold tg;rw [if_neg (by omega),if_pos h2]
theorem rF {i c:Nat}(hk:∀i,κ i≠0→i<w.heap.size) (hc:c≠0) (h:κ i=c):tg κ X w w' i=c:=by
 rw [wF (hk i (by omega))];exact h
theorem fu {i:Nat}(hi:i<w.heap.size) (h:κ i=0):tg κ X w w' i=0:=by rw [wF hi];exact h
theorem CS (_hk:∀i,κ i≠0→i<w.heap.size) (hs:w.heap.size≤w'.heap.size):∀i,tg κ X w w' i≠0→i<w'.heap.size:=fun i hi=>by
 unfold tg at hi
 split at hi
 ·omega
 ·split at hi
  ·assumption
  ·exact absurd rfl hi
theorem wE (wt:Wt (fun i=>κ i=X) w w') (hX:X≠0):Stp w w' (fun i=>κ i≠0) (fun i=>tg κ X w w' i≠0):=
 ⟨⟨wt.os,wt.tape,wt.output,wt.size,fun i hi hn=>wt.block i hi (fun e=>by rw [e] at hn;exact hn hX)⟩,fun i hi=>by
  by_cases e:i<w.heap.size
  ·rw [wF e] at hi;exact .inl hi
  ·exact .inr (by omega)⟩
theorem KM.qd (h:KM w m H S U q G):4<w.heap.size:=World.block_lt_of_cell? w _ h.kd.ml
theorem KM.qh (h:KM w m H S U q G):0<w.heap.size:=World.block_lt_of_cell? w _ h.kd.er
theorem KM.Ll (h:KM w m H S U q G):G.L.length=S.Ts.length:=by rw [←h.len,←h.ms,List.length_map]
theorem KM.Lb (h:KM w m H S U q G):G.bs.length=S.Ts.length:=h.kd.len
structure Kept (w w':World) (m:Int) (H:KH) (S:KS) (U:Nat→Nat→Int) (q X:Nat) (G:KG):Prop where
 head:w'.heap[H.kb]? = some (.cells (YZ H) 106)
 al:X≠1→Al G.E w' S.W G.Av G.L
 kd:X≠2→KD w' m H.f H.r S.D G.bs S.Ts (2*q) G.Ad
 qj:X≠3→∃c,QJ w' H.t H.g S.P c
 map:X≠4→∃z,aG w' H.gm z (fun p=>(S.O p).map (fun o=>wp (H.hs o.j)))
 hold:X≠5→∀p o,S.O p=some o→Hd w' (H.hs o.j) (H.sp o.j) (H.tb o.j) (U o.j) o.m o.dF
 tab:vB H.ok w'
 ml:w'.cell? ⟨4,0,none⟩=some (.int .i64 m)
 er:w'.cell? ⟨0,0,none⟩=some fJ
theorem KM.kept (h:KM w m H S U q G) (hX:1≤X∧X≤5) (wt:Wt (fun i=>G.κ i=X) w w'):Kept w w' m H S U q X G:=by
 have hb:∀i c,G.κ i=c→c≠0→c≠X→w'.heap[i]? = w.heap[i]? := fun i c e h0 hc=>wt.block i (h.yU i (by omega)) (fun z=>hc (by omega))
 have hz:∀i,G.κ i=0→i<w.heap.size→w'.heap[i]? = w.heap[i]? := fun i e hi=>wt.block i hi (fun z=>by omega)
 have m1:w'.cell? ⟨4,0,none⟩=some (.int .i64 m):=by
  rw [World.cell?_of_block (w:=w) (a:=⟨4,0,none⟩) (hz _ h.km h.qd)];exact h.kd.ml
 have m2:w'.cell? ⟨0,0,none⟩=some fJ:=by
  rw [World.cell?_of_block (w:=w) (a:=⟨0,0,none⟩) (hz _ h.ke h.qh)];exact h.kd.er
 refine ⟨(hb _ 6 h.kk (by omega) (by omega)).trans h.head,fun hx=>?_,fun hx=>?_,fun hx=>?_,fun hx=>?_,fun hx p o ho=>?_,h.tab.keep (hz _ h.Mi h.tab.lt),m1,m2⟩
 ·refine h.al.keep (fun i hi=>hb i 1 (h.k1 i hi) (by omega) (by omega)) (hb _ 6 h.kE (by omega) (by omega)) (hb _ 6 h.kB (by omega) (by omega)) (fun i hi=>?_)
  rw [h.sp i hi]
  exact hb _ 6 (h.ks i (by rw [←h.Ll];exact hi)) (by omega) (by omega)
 ·exact h.kd.keep (fun i hi=>hb i 2 (h.k2 i hi) (by omega) (by omega)) wt.size m1 m2
 ·obtain ⟨c,hc⟩:=h.qj
  exact ⟨c,⟨hc.toQM.keep (hb _ 6 h.kt (by omega) (by omega)) (hb _ 3 h.k3 (by omega) (by omega)),hc.ok,hc.dj⟩⟩
 ·obtain ⟨z,hm⟩:=h.map
  exact ⟨z,hm.keep (hb _ 4 h.k4 (by omega) (by omega))⟩
 ·exact (h.hold p o ho).keep (hb _ 5 (h.k5 p o ho) (by omega) (by omega))
theorem KM.jS (h:KM w m H S U q G):2<w.heap.size:=h.tab.lt
theorem KM.below (h:KM w m H S U q G) (hb:Below w.heap.size w w'):KM w' m H S U q G:=by
 have wt:Wt (fun i=>G.κ i=1) w w':=.below _ hb
 have k:=h.kept (X:=1) ⟨by omega,by omega⟩ wt
 exact { h with head:=k.head,al:=h.al.below hb,kd:=k.kd (by omega),qj:=k.qj (by omega),map:=k.map (by omega),hold:=k.hold (by omega),tab:=k.tab,yU:=fun i hi=>Nat.lt_of_lt_of_le (h.yU i hi) hb.size }
theorem KM.vm (h:KM w m H S U q G) {j:Nat}(hj:j<G.L.length) {D':Nat→Nat→Int}{P':PM}(t:C8 G.E w G.Av G.L w' D' (G.L.set j (G.L[j].1,G.L[j].2.1,P'))) :
 ∃G',KM w' m H { S with W:=D',Ms:=S.Ms.set j P' } U q G'∧Stp w w' (fun i=>G.κ i≠0) (fun i=>G'.κ i≠0):=by
 obtain ⟨A',a',f,sub⟩:=t
 have wt:Wt (fun i=>G.κ i=1) w w':=⟨f.os,f.tape,f.output,f.size,fun i hi hn=>f.block i hi (fun ho=>hn (h.k1 i ho))⟩
 have k:=h.kept (X:=1) ⟨by omega,by omega⟩ wt
 have hk:=h.yU
 have keep:∀ {i c},c≠0→G.κ i=c→tg G.κ 1 w w' i=c:=fun hc e=>rF hk hc e
 refine ⟨⟨G.E,A',G.L.set j (G.L[j].1,G.L[j].2.1,P'),G.bs,G.Ad,tg G.κ 1 w w'⟩,⟨k.head,h.eb,h.en,a',?_,?_,k.kd (by omega),h.tb,k.qj (by omega),k.map (by omega),k.hold (by omega),h.hinj,?_,h.lt,h.key,k.tab,h.nx,h.few,?_,fun i hi=>keep (by omega) (h.k2 i hi),keep (by omega) h.k3,keep (by omega) h.k4,fun p o ho=>keep (by omega) (h.k5 p o ho),keep (by omega) h.kk,keep (by omega) h.kE,keep (by omega) h.kB,keep (by omega) h.kt,fun x hx=>keep (by omega) (h.ks x hx),fu h.qd h.km,fu h.qh h.ke,fu h.jS h.Mi,CS hk wt.size⟩,wE wt (by omega)⟩
 ·rw [List.map_set,h.ms]
 ·intro x hx
  by_cases e:x=j
  ·subst e;simp only [List.getElem_set_self];exact h.sp x hj
  ·simp only [List.getElem_set_ne (Ne.symm e)];exact h.sp x (by simpa using hx)
 ·show (S.Ms.set j P').length=_;rw [List.length_set];exact h.len
 ·intro i hi
  by_cases e:i<w.heap.size
  ·show tg G.κ 1 w w' i=1
   rw [wF e];exact h.k1 i (sub i e hi)
  ·exact Nh (by omega) (a'.Au hi)
theorem KM.desc (h:KM w m H S U q G) {q':Nat}{D':DS}{Ts':List Ns}{A':Nat→Prop}(hd:KD w' m H.f H.r D' G.bs Ts' (2*q') A') (st:Stp w w' G.Ad A') (hl:Ts'.length=S.Ts.length) (hx:D'.nx≤3*(q':Int)) (hq:q≤q') :
 ∃G',KM w' m H { S with D:=D',Ts:=Ts' } U q' G'∧Stp w w' (fun i=>G.κ i≠0) (fun i=>G'.κ i≠0):=by
 have wt:Wt (fun i=>G.κ i=2) w w':=⟨st.wt.os,st.wt.tape,st.wt.output,st.wt.size,fun i hi hn=>st.wt.block i hi (fun ho=>hn (h.k2 i ho))⟩
 have k:=h.kept (X:=2) ⟨by omega,by omega⟩ wt
 have hk:=h.yU
 have keep:∀ {i c},c≠0→G.κ i=c→tg G.κ 2 w w' i=c:=fun hc e=>rF hk hc e
 refine ⟨⟨G.E,G.Av,G.L,G.bs,A',tg G.κ 2 w w'⟩,⟨k.head,h.eb,h.en,k.al (by omega),h.ms,h.sp,hd,h.tb,k.qj (by omega),k.map (by omega),k.hold (by omega),h.hinj,h.len.trans hl.symm,fun p o ho=>by show o.j<Ts'.length;rw [hl];exact h.lt p o ho,h.key,k.tab,hx,?_,fun i hi=>keep (by omega) (h.k1 i hi),?_,keep (by omega) h.k3,keep (by omega) h.k4,fun p o ho=>keep (by omega) (h.k5 p o ho),keep (by omega) h.kk,keep (by omega) h.kE,keep (by omega) h.kB,keep (by omega) h.kt,fun x hx=>keep (by omega) (h.ks x (by rw [←hl];exact hx)),fu h.qd h.km,fu h.qh h.ke,fu h.jS h.Mi,CS hk wt.size⟩,wE wt (by omega)⟩
 ·show Ts'.length≤_;have:=h.few;omega
 ·intro i hi
  by_cases e:i<w.heap.size
  ·show tg G.κ 2 w w' i=2
   rw [wF e]
   rcases st.own i hi with z|z
   ·exact h.k2 i z
   ·omega
  ·exact Nh (by omega) (hd.lt i hi)
theorem KM.proc (h:KM w m H S U q G) {P':Ps}(t:Hf w H.t H.g P' w') :
 ∃G',KM w' m H { S with P:=P' } U q G'∧Stp w w' (fun i=>G.κ i≠0) (fun i=>G'.κ i≠0):=by
 obtain ⟨c',qj,wg⟩:=t
 have wt:Wt (fun i=>G.κ i=3) w w':=⟨wg.os,wg.tape,wg.output,wg.size,fun i hi hn=>wg.block i hi (fun e=>hn (by rw [e];exact h.k3))⟩
 have k:=h.kept (X:=3) ⟨by omega,by omega⟩ wt
 have hk:=h.yU
 have keep:∀ {i c},c≠0→G.κ i=c→tg G.κ 3 w w' i=c:=fun hc e=>rF hk hc e
 exact ⟨⟨G.E,G.Av,G.L,G.bs,G.Ad,tg G.κ 3 w w'⟩,⟨k.head,h.eb,h.en,k.al (by omega),h.ms,h.sp,k.kd (by omega),h.tb,⟨c',qj⟩,k.map (by omega),k.hold (by omega),h.hinj,h.len,h.lt,h.key,k.tab,h.nx,h.few,fun i hi=>keep (by omega) (h.k1 i hi),fun i hi=>keep (by omega) (h.k2 i hi),keep (by omega) h.k3,keep (by omega) h.k4,fun p o ho=>keep (by omega) (h.k5 p o ho),keep (by omega) h.kk,keep (by omega) h.kE,keep (by omega) h.kB,keep (by omega) h.kt,fun x hx=>keep (by omega) (h.ks x hx),fu h.qd h.km,fu h.qh h.ke,fu h.jS h.Mi,CS hk wt.size⟩,wE wt (by omega)⟩
theorem KM.hd (h:KM w m H S U q G) {p:Int}{o:Ow}(ho:S.O p=some o) {U':Nat→Int}{M':Nat→Int}{a':Int}(hd:Hd w' (H.hs o.j) (H.sp o.j) (H.tb o.j) U' M' a') (g:w.grownBy w' (some (H.hs o.j))) :
 KM w' m H { S with O:=iX S.O p ⟨o.j,M',a'⟩ } (fun i=>if i=o.j then U' else U i) q G∧Stp w w' (fun i=>G.κ i≠0) (fun i=>G.κ i≠0):=by
 have wt:Wt (fun i=>G.κ i=5) w w':=⟨g.os,g.tape,g.output,g.size,fun i hi hn=>g.block i hi (fun e=>hn (by cases e;exact h.k5 p o ho))⟩
 have k:=h.kept (X:=5) ⟨by omega,by omega⟩ wt
 have hk:=h.yU
 have hO:∀x o',iX S.O p ⟨o.j,M',a'⟩ x=some o'→(x=p∧o'=⟨o.j,M',a'⟩)∨(x≠p∧S.O x=some o'):=fun x o' e=>by
  by_cases ex:x=p
  ·rw [ex,df] at e;exact .inl ⟨ex,(Option.some.inj e).symm⟩
  ·rw [dQ ex] at e;exact .inr ⟨ex,e⟩
 have hJ:∀x o',iX S.O p ⟨o.j,M',a'⟩ x=some o'→∃o2,S.O x=some o2∧o2.j=o'.j:=fun x o' e=>by
  rcases hO x o' e with ⟨rfl,rfl⟩|⟨_,z⟩
  ·exact ⟨o,ho,rfl⟩
  ·exact ⟨o',z,rfl⟩
 refine ⟨⟨k.head,h.eb,h.en,k.al (by omega),h.ms,h.sp,k.kd (by omega),h.tb,k.qj (by omega),?_,?_,?_,h.len,?_,?_,k.tab,h.nx,h.few,h.k1,h.k2,h.k3,h.k4,?_,h.kk,h.kE,h.kB,h.kt,h.ks,h.km,h.ke,h.Mi,fun i hi=>Nat.lt_of_lt_of_le (hk i hi) wt.size⟩,⟨⟨wt.os,wt.tape,wt.output,wt.size,fun i hi hn=>wt.block i hi (fun e=>hn (by rw [e];omega))⟩,fun i hi=>.inl hi⟩⟩
 ·obtain ⟨z,hm⟩:=k.map (by omega)
  refine ⟨z,?_⟩
  have e:(fun x=>(iX S.O p ⟨o.j,M',a'⟩ x).map (fun o=>wp (H.hs o.j)))=fun x=>(S.O x).map (fun o=>wp (H.hs o.j)):=by
   funext x
   by_cases ex:x=p
   ·rw [ex,df,ho];rfl
   ·rw [dQ ex]
  show aG w' H.gm z (fun x=>(iX S.O p ⟨o.j,M',a'⟩ x).map (fun o=>wp (H.hs o.j)))
  rw [e];exact hm
 ·intro x o' e
  rcases hO x o' e with ⟨rfl,rfl⟩|⟨hne,z⟩
  ·simp only [if_true];exact hd
  ·have hj:o'.j≠o.j:=fun ej=>hne (h.hinj x o' p o z ho (by rw [ej]))
   simp only [if_neg hj]
   refine (h.hold x o' z).keep (g.block _ (h.yU _ (by rw [h.k5 x o' z];omega)) (fun e=>hne (h.hinj x o' p o z ho (Option.some.inj e))))
 ·intro x o1 y o2 e1 e2 e3
  obtain ⟨a1,z1,j1⟩:=hJ x o1 e1
  obtain ⟨a2,z2,j2⟩:=hJ y o2 e2
  exact h.hinj x a1 y a2 z1 z2 (by rw [j1,j2];exact e3)
 ·intro x o' e
  obtain ⟨a1,z1,j1⟩:=hJ x o' e
  rw [←j1];exact h.lt x a1 z1
 ·intro x o' e
  obtain ⟨a1,z1,j1⟩:=hJ x o' e
  exact h.key x a1 z1
 ·intro x o' e
  obtain ⟨a1,z1,j1⟩:=hJ x o' e
  rw [←j1];exact h.k5 x a1 z1
theorem KM.del (h:KM w m H S U q G) {p:Int}{z:Nat}(hm:aG w' H.gm z (fun x=>if x=p then none else (S.O x).map (fun o=>wp (H.hs o.j)))) (g:w.grownBy w' (some H.gm)) :
 ∃G',KM w' m H { S with O:=iL S.O p } U q G'∧Stp w w' (fun i=>G.κ i≠0) (fun i=>G'.κ i≠0):=by
 have wt:Wt (fun i=>G.κ i=4) w w':=⟨g.os,g.tape,g.output,g.size,fun i hi hn=>g.block i hi (fun e=>hn (by cases e;exact h.k4))⟩
 have k:=h.kept (X:=4) ⟨by omega,by omega⟩ wt
 have hk:=h.yU
 have keep:∀ {i c},c≠0→G.κ i=c→tg G.κ 4 w w' i=c:=fun hc e=>rF hk hc e
 have hO:∀x o',iL S.O p x=some o'→S.O x=some o':=fun x o' e=>by
  unfold iL at e
  split at e
  ·cases e
  ·exact e
 refine ⟨⟨G.E,G.Av,G.L,G.bs,G.Ad,tg G.κ 4 w w'⟩,⟨k.head,h.eb,h.en,k.al (by omega),h.ms,h.sp,k.kd (by omega),h.tb,k.qj (by omega),?_,fun x o e=>k.hold (by omega) x o (hO x o e),fun x o1 y o2 e1 e2 e3=>h.hinj x o1 y o2 (hO _ _ e1) (hO _ _ e2) e3,h.len,fun x o e=>h.lt x o (hO x o e),fun x o e=>h.key x o (hO x o e),k.tab,h.nx,h.few,fun i hi=>keep (by omega) (h.k1 i hi),fun i hi=>keep (by omega) (h.k2 i hi),keep (by omega) h.k3,keep (by omega) h.k4,fun x o e=>keep (by omega) (h.k5 x o (hO x o e)),keep (by omega) h.kk,keep (by omega) h.kE,keep (by omega) h.kB,keep (by omega) h.kt,fun x hx=>keep (by omega) (h.ks x hx),fu h.qd h.km,fu h.qh h.ke,fu h.jS h.Mi,CS hk wt.size⟩,wE wt (by omega)⟩
 refine ⟨z,?_⟩
 have e:(fun x=>(iL S.O p x).map (fun o=>wp (H.hs o.j)))=fun x=>if x=p then none else (S.O x).map (fun o=>wp (H.hs o.j)):=by
  funext x
  unfold iL
  by_cases ex:x=p
  ·rw [if_pos ex,if_pos ex];rfl
  ·rw [if_neg ex,if_neg ex]
 show aG w' H.gm z (fun x=>(iL S.O p x).map (fun o=>wp (H.hs o.j)))
 rw [e];exact hm
end
def KX (w:World) (m:Int) (H:KH) (S:KS) (U:Nat→Nat→Int) (q:Nat) (A:Nat→Prop):Prop:=∃G,KM w m H S U q G∧∀i,A i↔G.κ i≠0
def KS.space (S:KS) (j:Nat) (P':PM) (D':Nat→Nat→Int):KS:={ S with W:=D',Ms:=S.Ms.set j P' }
def KS.files (S:KS) (D':DS) (j:Nat) (N':Ns):KS:={ S with D:=D',Ts:=S.Ts.set j N' }
def KS.tree (S:KS) (T':Wd):KS:={ S with D:={ S.D with T:=T' } }
def KS.procs (S:KS) (P':Ps):KS:={ S with P:=P' }
def KS.own (S:KS) (p:Int) (o:Ow):KS:={ S with O:=iX S.O p o }
def KS.drop (S:KS) (p:Int):KS:={ S with O:=iL S.O p }
def jq (Ms:List PM) (f:Int):Nat:=(Ms.map fun P=>sh P f).sum
def nk (S:KS) (j:Nat) (f:Int):Nat:=jq S.Ms f-sh (aK S j) f
section
variable {w w':World}{m:Int}{H:KH}{S:KS}{U:Nat→Nat→Int}{q:Nat}{A:Nat→Prop}{p:Int}{o:Ow}
theorem KX.below (h:KX w m H S U q A) (hb:Below w.heap.size w w'):KX w' m H S U q A:=by
 obtain ⟨G,k,e⟩:=h
 exact ⟨G,k.below hb,e⟩
theorem KX.lt (h:KX w m H S U q A):∀i,A i→i<w.heap.size:=fun i hi=>by
 obtain ⟨G,k,e⟩:=h
 exact k.yU i ((e i).1 hi)
theorem KX.of {G:KG}(k:KM w m H S U q G):KX w m H S U q (fun i=>G.κ i≠0):=⟨G,k,fun _=>Iff.rfl⟩
theorem pz {A B A':Nat→Prop}(e:∀i,A i↔B i) (st:Stp w w' B A'):Stp w w' A A':=by
 have:A=B:=funext fun i=>propext (e i)
 rw [this];exact st
theorem KX.head (h:KX w m H S U q A):w.heap[H.kb]? = some (.cells (YZ H) 106):=by
 obtain ⟨G,k,e⟩:=h;exact k.head
theorem KX.c0 (h:KX w m H S U q A):w.cell? ⟨H.kb,0,none⟩=some (wp H.eb):=by rw [cell_of_row w H.kb 0 _ _ _ h.head];rfl
theorem KX.c1 (h:KX w m H S U q A):w.cell? ⟨H.kb,1,none⟩=some (wp H.r):=by rw [cell_of_row w H.kb 1 _ _ _ h.head];rfl
theorem KX.c2 (h:KX w m H S U q A):w.cell? ⟨H.kb,2,none⟩=some (wp H.f):=by rw [cell_of_row w H.kb 2 _ _ _ h.head];rfl
theorem KX.c3 (h:KX w m H S U q A):w.cell? ⟨H.kb,3,none⟩=some (wp H.t):=by rw [cell_of_row w H.kb 3 _ _ _ h.head];rfl
theorem KX.c4 (h:KX w m H S U q A):w.cell? ⟨H.kb,4,none⟩=some (.map (some H.gm)):=by rw [cell_of_row w H.kb 4 _ _ _ h.head];rfl
theorem KX.hd (h:KX w m H S U q A) (ho:S.O p=some o):Hd w (H.hs o.j) (H.sp o.j) (H.tb o.j) (U o.j) o.m o.dF:=by
 obtain ⟨G,k,e⟩:=h;exact k.hold p o ho
theorem KX.er (h:KX w m H S U q A):w.cell? ⟨0,0,none⟩=some fJ:=by
 obtain ⟨G,k,e⟩:=h;exact k.kd.er
theorem KX.tab (h:KX w m H S U q A):vB H.ok w:=by
 obtain ⟨G,k,e⟩:=h;exact k.tab
theorem KX.hne (h:KX w m H S U q A) (ho:S.O p=some o):0≠H.hs o.j:=by
 obtain ⟨G,k,e⟩:=h
 intro z
 have:=k.k5 p o ho
 rw [←z,k.ke] at this;omega
theorem KX.inv (h:KX w m H S U q A):Inv S.D S.Ts (2*q):=by
 obtain ⟨G,k,e⟩:=h;exact k.kd.inv
theorem KX.Mj (h:KX w m H S U q A):lV S.P:=by
 obtain ⟨G,k,e⟩:=h
 obtain ⟨c,qj⟩:=k.qj
 exact qj.ok
theorem KX.qx (h:KX w m H S U q A) (ho:S.O p=some o):o.j<S.Ts.length:=by
 obtain ⟨G,k,e⟩:=h;exact k.lt p o ho
theorem KX.mlt (h:KX w m H S U q A) (ho:S.O p=some o):o.j<S.Ms.length:=by
 obtain ⟨G,k,e⟩:=h;rw [k.len];exact k.lt p o ho
theorem KX.len (h:KX w m H S U q A):S.Ms.length=S.Ts.length:=by
 obtain ⟨G,k,e⟩:=h;exact k.len
theorem KX.nx (h:KX w m H S U q A):S.D.nx≤3*(q:Int):=by
 obtain ⟨G,k,e⟩:=h;exact k.nx
theorem KX.key (h:KX w m H S U q A) (ho:S.O p=some o):1≤p∧p≤24:=by
 obtain ⟨G,k,e⟩:=h;exact k.key p o ho
theorem KX.inj (h:KX w m H S U q A) {p':Int}{o':Ow}(ho:S.O p=some o) (ho':S.O p'=some o') (e:o.j=o'.j):p=p':=by
 obtain ⟨G,k,_⟩:=h;exact k.hinj p o p' o' ho ho' (by rw [e])
theorem KX.more (h:KX w m H S U q A) {q':Nat}(hq:q≤q'):KX w m H S U q' A:=by
 obtain ⟨G,k,e⟩:=h
 refine ⟨G,{ k with kd:=?_,nx:=?_,few:=?_ },e⟩
 ·exact { k.kd with inv:=k.kd.inv.more (by omega) }
 ·have:=k.nx;omega
 ·have:=k.few;omega
theorem wQ (L:List Sq) (f:Int):jq (L.map (fun x=>x.2.2)) f=jQ L f:=by unfold jq jQ;rw [List.map_map];rfl
theorem KX.vm (h:KX w m H S U q A) (hj:o.j<S.Ts.length) {fn:FuncId}{args:Array Value}{Q:Ending→PM→(Nat→Nat→Int)→Prop}
 (hc:∀E Av gc,E.n=S.n→VS E w (H.sp o.j) gc S.W Av (aK S o.j) (nk S o.j)→Calls Tryz.prog fn args w fun y w'=>∃P' D',Q y P' D'∧aV E w (H.sp o.j) gc Av w' D' P' (nk S o.j)) :
 Calls Tryz.prog fn args w fun y w'=>∃P' D',Q y P' D'∧∃A',KX w' m H (S.space o.j P' D') U q A'∧Stp w w' A A':=by
 obtain ⟨G,k,e⟩:=h
 have hl:o.j<G.L.length:=by rw [k.Ll];exact hj
 have hP:G.L[o.j].2.2=aK S o.j:=by
  rw [wy (by rw [k.len];exact hj)]
  have:S.Ms=G.L.map (fun x=>x.2.2):=k.ms.symm
  simp only [this,List.getElem_map]
 have hO:vU G.L o.j hl=nk S o.j:=by
  funext f;unfold vU nk;rw [←k.ms,wQ,hP]
 have hv:=k.al.sp o.j hl
 rw [k.sp o.j hl,hP,hO] at hv
 refine (hc G.E G.Av G.L[o.j].2.1 k.en hv).mono ?_
 rintro y w' ⟨P',D',hQ,t⟩
 rw [←k.sp o.j hl,←hO] at t
 obtain ⟨G',k',st⟩:=k.vm hl (k.al.turn hl t)
 exact ⟨P',D',hQ,_,.of k',pz e st⟩
theorem KX.Yg (h:KX w m H S U q A) (hj:o.j<S.Ts.length) {C:Prop}(hc:∀E Av gc,E.n=S.n→VS E w (H.sp o.j) gc S.W Av (aK S o.j) (nk S o.j)→C):C:=by
 obtain ⟨G,k,e⟩:=h
 have hl:o.j<G.L.length:=by rw [k.Ll];exact hj
 have hP:G.L[o.j].2.2=aK S o.j:=by
  rw [wy (by rw [k.len];exact hj)]
  have:S.Ms=G.L.map (fun x=>x.2.2):=k.ms.symm
  simp only [this,List.getElem_map]
 have hO:vU G.L o.j hl=nk S o.j:=by
  funext f;unfold vU nk;rw [←k.ms,wQ,hP]
 have hv:=k.al.sp o.j hl
 rw [k.sp o.j hl,hP,hO] at hv
 exact hc G.E G.Av G.L[o.j].2.1 k.en hv
theorem KX.map (h:KX w m H S U q A) (hj:o.j<S.Ts.length) (a n ag:Int) (hn:n≤9223372036854775807) :
 Calls Tryz.prog 127 #[wp (H.sp o.j),.int .i64 a,.int .i64 n,.int .i64 ag] w fun y w'=>y=.returned (aJ (iY (aK S o.j) a n ag))∧∃A',KX w' m H (S.space o.j (kY (aK S o.j) a n ag) S.W) U q A'∧Stp w w' A A':=by
 refine (h.vm hj (Q:=fun y P' D'=>y=.returned (aJ (iY (aK S o.j) a n ag))∧P'=kY (aK S o.j) a n ag∧D'=S.W) (fun E Av gc _ v=>?_)).mono ?_
 ·refine (v.map_ok a n ag hn).mono ?_
  rintro y w' ⟨rfl,t⟩
  exact ⟨_,_,⟨rfl,rfl,rfl⟩,t⟩
 ·rintro y w' ⟨P',D',⟨rfl,rfl,rfl⟩,r⟩
  exact ⟨rfl,r⟩
theorem KX.uI (h:KX w m H S U q A) (hj:o.j<S.Ts.length) (a n:Int) (hn:n≤9223372036854775807) :
 Calls Tryz.prog 129 #[wp (H.sp o.j),.int .i64 a,.int .i64 n] w fun y w'=>y=.returned (aJ (vD (aK S o.j) a n))∧∃A',KX w' m H (S.space o.j (EX (aK S o.j) a n) S.W) U q A'∧Stp w w' A A':=by
 refine (h.vm hj (Q:=fun y P' D'=>y=.returned (aJ (vD (aK S o.j) a n))∧P'=EX (aK S o.j) a n∧D'=S.W) (fun E Av gc _ v=>?_)).mono ?_
 ·refine (v.NL a n hn).mono ?_
  rintro y w' ⟨rfl,t⟩
  exact ⟨_,_,⟨rfl,rfl,rfl⟩,t⟩
 ·rintro y w' ⟨P',D',⟨rfl,rfl,rfl⟩,r⟩
  exact ⟨rfl,r⟩
theorem KX.nE (h:KX w m H S U q A) (hj:o.j<S.Ts.length) (a n ag:Int) (hn:n≤9223372036854775807) :
 Calls Tryz.prog 188 #[wp (H.sp o.j),.int .i64 a,.int .i64 n,.int .i64 ag] w fun y w'=>y=.returned (aJ (oq (aK S o.j) a n ag))∧∃A',KX w' m H (S.space o.j (ru (aK S o.j) a n ag) S.W) U q A'∧Stp w w' A A':=by
 refine (h.vm hj (Q:=fun y P' D'=>y=.returned (aJ (oq (aK S o.j) a n ag))∧P'=ru (aK S o.j) a n ag∧D'=S.W) (fun E Av gc _ v=>?_)).mono ?_
 ·refine (v.Gb a n ag hn).mono ?_
  rintro y w' ⟨rfl,t⟩
  exact ⟨_,_,⟨rfl,rfl,rfl⟩,t⟩
 ·rintro y w' ⟨P',D',⟨rfl,rfl,rfl⟩,r⟩
  exact ⟨rfl,r⟩
theorem KX.NC (h:KX w m H S U q A) (hj:o.j<S.Ts.length) :
 Calls Tryz.prog 114 #[wp (H.sp o.j)] w fun y w'=>y=.returned (.tuple #[])∧∃A',KX w' m H (S.space o.j jW S.W) U q A'∧Stp w w' A A':=by
 refine (h.vm hj (Q:=fun y P' D'=>y=.returned (.tuple #[])∧P'=jW∧D'=S.W) (fun E Av gc _ v=>?_)).mono ?_
 ·refine v.xu.mono ?_
  rintro y w' ⟨rfl,t⟩
  exact ⟨_,_,⟨rfl,rfl,rfl⟩,t⟩
 ·rintro y w' ⟨P',D',⟨rfl,rfl,rfl⟩,r⟩
  exact ⟨rfl,r⟩
theorem KX.UY (h:KX w m H S U q A) (hj:o.j<S.Ts.length) (a k v:Int) (ha:(Lit.int .i64 a).wf=true) :
 Calls Tryz.prog 121 #[wp (H.sp o.j),.int .i64 a,.int .i64 k,.int .i64 v] w fun y w'=>∃P' D' er,yF S.n (aK S o.j) (nk S o.j) S.W a k v er P' D'∧y=.returned (aJ er)∧∃A',KX w' m H (S.space o.j P' D') U q A'∧Stp w w' A A':=by
 refine (h.vm hj (Q:=fun y P' D'=>∃er,yF S.n (aK S o.j) (nk S o.j) S.W a k v er P' D'∧y=.returned (aJ er)) (fun E Av gc en v9=>?_)).mono ?_
 ·refine (v9.NW a k v ha).mono ?_
  rintro y w' ⟨er,P',D',hS,rfl,t⟩
  rw [en] at hS
  exact ⟨_,_,⟨er,hS,rfl⟩,t⟩
 ·rintro y w' ⟨P',D',⟨er,hS,rfl⟩,r⟩
  exact ⟨P',D',er,hS,rfl,r⟩
theorem KX.XU (h:KX w m H S U q A) (hj:o.j<S.Ts.length) (a k:Int) (ha:(Lit.int .i64 a).wf=true) :
 Calls Tryz.prog 124 #[wp (H.sp o.j),.int .i64 a,.int .i64 k] w fun y w'=>y=.returned (.tuple #[.int .i64 (fV (aK S o.j) S.W a k),aJ (eP (aK S o.j) a k 1)])∧Below w.heap.size w w':=
 h.Yg hj (fun _ _ _ _ v=>v.load a k ha)
theorem KX.ZT (h:KX w m H S U q A) (hj:o.j<S.Ts.length) :
 Calls Tryz.prog 116 #[wp (H.sp o.j)] w fun y w'=>y=.returned (.int .i64 (bN (aK S o.j):Nat))∧w'=w:=
 h.Yg hj (fun _ _ _ _ v=>v.sp.len)
theorem KX.Xf (h:KX w m H S U q A) (hj:o.j<S.Ts.length) :
 Calls Tryz.prog 117 #[wp (H.sp o.j)] w fun y w'=>y=.returned (.int .i64 (iq (aK S o.j):Nat))∧Below w.heap.size w w':=
 h.Yg hj (fun _ _ _ _ v=>v.sp.resident)
theorem KX.XV (h:KX w m H S U q A):Calls Tryz.prog 119 #[wp H.eb] w fun y w'=>y=.returned (.int .i64 ((S.n-used (jq S.Ms) S.n:Nat):Int))∧w'=w:=by
 obtain ⟨G,k,e⟩:=h
 have:=k.al.left
 rw [k.eb,k.en,show jQ G.L=jq S.Ms by funext f;rw [←k.ms,wQ]] at this
 exact this
end
end Go.Proofs.YtcfhanoekniaaaaGreatDoor
namespace Go.Proofs.YtcfhanoekniaaaaGreatDoor
open Go.RowKit Go.Maps Go.Sort
theorem su {fn:Func}{t u v x:Tmp}(h:fn.results=#[.tmp t,.tmp u,.tmp v,.tmp x]) (tmps:Array Value) (P:Program) (w:World) :
 (results fn tmps).run P w=.ok (.tuple #[tmps.getD t undef,tmps.getD u undef,tmps.getD v undef,tmps.getD x undef]) w:=by
 simp [results,h]
section
variable {w w':World}{m:Int}{H:KH}{S:KS}{U:Nat→Nat→Int}{q:Nat}{A:Nat→Prop}{p:Int}{o:Ow}
theorem Jy (w:World):(zeroValue 99).run Tryz.prog w=.ok (.pointer none) w:=by kernel_rfl
theorem KX.look (h:KX w m H S U q A) (p:Int) (hp:(Lit.int .i64 p).wf=true):(Instr.lookup 104 (.map (some H.gm)) (.int .i64 p) false).run Tryz.prog w=.ok (match S.O p with|some o=>wp (H.hs o.j) | none=>.pointer none) w:=by
 obtain ⟨G,k,e⟩:=h
 obtain ⟨z,hm⟩:=k.map
 rw [hm.look Tryz.underlying104 (Jy w) p hp]
 cases S.O p<;>rfl
theorem CK {p:Int}(h:1≤p∧p≤24):(Lit.int .i64 p).wf=true:=yH (by omega)
theorem KX.wz (h:KX w m H S U q A) (ho:S.O p=some o):(Instr.lookup 104 (.map (some H.gm)) (.int .i64 p) false).run Tryz.prog w=.ok (wp (H.hs o.j)) w:=by
 rw [h.look p (CK (h.key ho)),ho]
theorem KX.XR (h:KX w m H S U q A) (ho:S.O p=none) (hp:(Lit.int .i64 p).wf=true):(Instr.lookup 104 (.map (some H.gm)) (.int .i64 p) false).run Tryz.prog w=.ok (.pointer none) w:=by
 rw [h.look p hp,ho]
theorem KX.aC (h:KX w m H S U q A) (ho:S.O p=some o):Calls Tryz.prog 51 #[wp H.kb,.int .i64 p] w fun e w'=>e=.returned (.tuple #[wp (H.hs o.j),.nilIface])∧w'=w:=by
 have c4:=h.c4
 have l1:=h.wz ho
 clear h ho
 go_enter Tryz.func51,Tryz.ntmps51
 go_wp2_with fail
 go_ret2
 exact ⟨rfl,rfl⟩
theorem KX.aU (h:KX w m H S U q A) (ho:S.O p=none) (hp:(Lit.int .i64 p).wf=true):Calls Tryz.prog 51 #[wp H.kb,.int .i64 p] w fun e w'=>e=.returned (.tuple #[.pointer none,eX 7])∧w'=w:=by
 have c4:=h.c4
 have l1:=h.XR ho hp
 clear h ho
 go_enter Tryz.func51,Tryz.ntmps51
 go_wp2_with fail
 go_ret2
 exact ⟨rfl,rfl⟩
theorem KX.left (h:KX w m H S U q A):Calls Tryz.prog 39 #[wp H.kb] w fun e w'=>e=.returned (.int .i64 ((S.n-used (jq S.Ms) S.n:Nat):Int))∧w'=w:=by
 have c0:=h.c0
 have hL:=h.XV
 generalize S.n-used (jq S.Ms) S.n=x at *
 clear h
 go_enter Tryz.func39,Tryz.ntmps39
 go_wp2_with (go_at_call 119;refine hL.mono ?_;rintro e w1 ⟨rfl,hw⟩;subst w1)
 go_ret
 exact ⟨rfl,rfl⟩
theorem KX.pF (h:KX w m H S U q A) {n:Nat}(hn:qa S.D.E n):Calls Tryz.prog 21 #[wp H.kb] w fun e w'=>e=.returned (.int .i64 (n:Int))∧w'=w:=by
 have c2:=h.c2
 obtain ⟨G,k,e⟩:=h
 have hL:=k.kd.Vi hn
 clear k hn
 go_enter Tryz.func21,Tryz.ntmps21
 go_wp2_with (go_at_call 65;refine hL.mono ?_;rintro e w1 ⟨rfl,hw⟩;subst w1)
 go_ret
 exact ⟨rfl,rfl⟩
theorem KX.mF (h:KX w m H S U q A) {s:Nat}(hs:dm S.D.T s):Calls Tryz.prog 102 #[wp H.kb] w fun e w'=>e=.returned (.int .i64 (s:Int))∧w'=w:=by
 have c1:=h.c1
 obtain ⟨G,k,e⟩:=h
 have hL:=k.kd.nodes hs
 clear k hs
 go_enter Tryz.func102,Tryz.ntmps102
 go_wp2_with (go_at_call 197;refine hL.mono ?_;rintro e w1 ⟨rfl,hw⟩;subst w1)
 go_ret
 exact ⟨rfl,rfl⟩
theorem KX.vY (h:KX w m H S U q A):∃n,qa S.D.E n:=by
 obtain ⟨G,k,e⟩:=h;exact k.kd.vY
theorem KX.MI (h:KX w m H S U q A):∃n,dm S.D.T n:=by
 obtain ⟨G,k,e⟩:=h;exact k.kd.MI
theorem KX.one (h:KX w m H S U q A):(S.P 1).isSome=true:=by
 obtain ⟨p,hp,_⟩:=h.Mj.one
 rw [hp];rfl
theorem KX.jr (h:KX w m H S U q A):Calls Tryz.prog 34 #[wp H.kb] w fun e w'=>∃b cap,e=.returned (.slice (some ⟨b,0,none⟩) (af S.P).length cap)∧(af S.P).length≤cap∧w.heap.size≤b∧b<w'.heap.size∧Holds encZ w' b 0 (af S.P).toArray∧Below w.heap.size w w':=by
 have c3:=h.c3
 have h1:=h.one
 obtain ⟨G,k,e⟩:=h
 obtain ⟨c,qj⟩:=k.qj
 have hL:=qj.toQM.jr h1
 clear k qj h1
 go_enter Tryz.func34,Tryz.ntmps34
 go_wp2_with (go_at_call 111;refine hL.mono ?_;rintro e w1 ⟨b,cap,rfl,hh⟩)
 go_ret
 exact ⟨b,cap,rfl,hh⟩
theorem KX.state (h:KX w m H S U q A) (n:Int) (hn:(Lit.int .i64 n).wf=true):Calls Tryz.prog 35 #[wp H.kb,.int .i64 n] w fun e w'=>e=.returned (.int .i64 (gJ S.P n))∧Below w.heap.size w w':=by
 have c3:=h.c3
 obtain ⟨G,k,e⟩:=h
 obtain ⟨c,qj⟩:=k.qj
 have hL:=qj.toQM.state n hn
 clear k qj hn
 go_enter Tryz.func35,Tryz.ntmps35
 go_wp2_with (go_at_call 112;refine hL.mono ?_;rintro e w1 ⟨rfl,hh⟩)
 go_ret
 exact ⟨rfl,hh⟩
theorem KX.XG (h:KX w m H S U q A) (hj:o.j<S.Ts.length):Calls Tryz.prog 118 #[wp (H.tb o.j)] w fun y w'=>y=.returned (.int .i64 (aj (ax S o.j):Int))∧Below w.heap.size w w':=by
 obtain ⟨G,k,e⟩:=h
 have hb:o.j<G.bs.length:=by rw [k.Lb];exact hj
 have:=k.kd.used hb
 rw [k.tb _ hb,←iM hj] at this
 exact this
theorem KX.jm (h:KX w m H S U q A) (ho:S.O p=some o):Calls Tryz.prog 38 #[wp H.kb,.int .i64 p] w fun e w'=>e=.returned (.tuple #[.int .i64 (bN (aK S o.j):Nat),.int .i64 (iq (aK S o.j):Nat),.int .i64 (aj (ax S o.j):Nat),.nilIface])∧Below w.heap.size w w':=by
 have hF:=h.aC ho
 have hj:=h.qx ho
 have hx:=fun V (hb:Below w.heap.size w V)=>(h.below hb).ZT hj
 have hy:∀V,Below w.heap.size w V→Calls Tryz.prog 117 #[wp (H.sp o.j)] V fun y w'=>y=.returned (.int .i64 (iq (aK S o.j):Nat))∧Below w.heap.size w w':=fun V hb=>by
  refine ((h.below hb).Xf hj).mono ?_
  rintro y w' ⟨rfl,b⟩
  exact ⟨rfl,hb.trans (b.mono hb.size)⟩
 have hz:∀V,Below w.heap.size w V→Calls Tryz.prog 118 #[wp (H.tb o.j)] V fun y w'=>y=.returned (.int .i64 (aj (ax S o.j):Int))∧Below w.heap.size w w':=fun V hb=>by
  refine ((h.below hb).XG hj).mono ?_
  rintro y w' ⟨rfl,b⟩
  exact ⟨rfl,hb.trans (b.mono hb.size)⟩
 have cc:∀V,Below w.heap.size w V→V.cell? ⟨H.hs o.j,0,none⟩=some (wp (H.sp o.j))∧V.cell? ⟨H.hs o.j,1,none⟩=some (wp (H.tb o.j)):=fun V hb=>⟨((h.below hb).hd ho).at 0,((h.below hb).hd ho).at 1⟩
 have c0:=cc w (Below.refl _ _)
 generalize bN (aK S o.j)=X at *
 generalize iq (aK S o.j)=Y at *
 generalize aj (ax S o.j)=Z at *
 have CC:Aside _:=cc
 clear h ho hj cc
 go_enter Tryz.func38,Tryz.ntmps38
 go_upto_region 4 with (go_at_call 51;refine hF.mono ?_;rintro e w1 ⟨rfl,hw⟩;subst w1)
 have bd:Below w.heap.size w w.drew:=⟨rfl,rfl,rfl,Nat.le_refl _,fun _ _=>rfl⟩
 go_region_held3 (fun w'=>w'.cell? ⟨H.hs o.j,0,none⟩=some (wp (H.sp o.j))∧w'.cell? ⟨H.hs o.j,1,none⟩=some (wp (H.tb o.j))) (first|exact c0|exact CC.out _ bd) (first
  |(go_at_call 116;refine (hx _ bd).mono ?_;rintro e w1 ⟨rfl,hww⟩;subst w1)
  |(go_at_call 117;refine (hy _ bd).mono ?_;rintro e w1 ⟨rfl,bd⟩)
  |(go_at_call 118;refine (hz _ bd).mono ?_;rintro e w1 ⟨rfl,bd⟩))
 all_goals
  go_wp2_with fail
  (try simp only [Exit.inBlock,Exit.then])
  refine bodyPost_ret (su rfl _ _ _) rfl ?_
  exact ⟨rfl,bd⟩
theorem KX.FJ (h:KX w m H S U q A) (ho:S.O p=none) (hp:(Lit.int .i64 p).wf=true):Calls Tryz.prog 38 #[wp H.kb,.int .i64 p] w fun e w'=>e=.returned (.tuple #[.int .i64 0,.int .i64 0,.int .i64 0,eX 7])∧w'=w:=by
 have hF:=h.aU ho hp
 clear h ho
 go_enter Tryz.func38,Tryz.ntmps38
 go_wp2_with (go_at_call 51;refine hF.mono ?_;rintro e w1 ⟨rfl,hw⟩;subst w1)
 (try simp only [Exit.inBlock,Exit.then])
 refine bodyPost_ret (su rfl _ _ _) rfl ?_
 exact ⟨rfl,rfl⟩
end
end Go.Proofs.YtcfhanoekniaaaaGreatDoor
namespace Go.Proofs.YtcfhanoekniaaaaGreatDoor
open Go.RowKit Go.Maps
section
variable {w w' V:World}{A A':Nat→Prop}
theorem Stp.base (e:V.heap=w.heap) (e1:V.os=w.os) (e2:V.tape=w.tape) (e3:V.output=w.output) (h:Stp V w' A A'):Stp w w' A A':=
 ⟨⟨h.wt.os.trans e1,h.wt.tape.trans e2,h.wt.output.trans e3,by rw [←e];exact h.wt.size,fun i hi hn=>by rw [←e];exact h.wt.block i (by rw [e];exact hi) hn⟩,fun i hi=>by rw [←e];exact h.own i hi⟩
theorem Stp.up (h:Stp w w' A A') (e:V.heap=w'.heap) (e1:V.os=w'.os) (e2:V.tape=w'.tape) (e3:V.output=w'.output):Stp w V A A':=
 ⟨⟨e1.trans h.wt.os,e2.trans h.wt.tape,e3.trans h.wt.output,by rw [e];exact h.wt.size,fun i hi hn=>by rw [e];exact h.wt.block i hi hn⟩,h.own⟩
theorem bJ (w:World):Below w.heap.size w w.drew:=⟨rfl,rfl,rfl,Nat.le_refl _,fun _ _=>rfl⟩
theorem Stp.after {w0:World}(hb:Below w0.heap.size w0 w) (h:Stp w w' A A'):Stp w0 w' A A':=(Stp.below hb).trans h
end
def KN (w:World) (m:Int) (H:KH) (S:KS) (q:Nat) (A:Nat→Prop):Prop:=KX w m H S (jX S) q A∧pq S
section
variable {w w':World}{m:Int}{H:KH}{S:KS}{U U':Nat→Nat→Int}{q:Nat}{A:Nat→Prop}{p:Int}{o:Ow}
theorem Hd.congr {b s t:Nat}{U U' M:Nat→Int}{a:Int}(h:Hd w b s t U M a) (e:∀k,k<3→U k=U' k):Hd w b s t U' M a:=by
 unfold Hd at h ⊢
 rw [h,hcs,hcs,e 0 (by omega),e 1 (by omega),e 2 (by omega)]
theorem KX.FK (h:KX w m H S U q A) (e:∀p o,S.O p=some o→∀k,k<3→U o.j k=U' o.j k):KX w m H S U' q A:=by
 obtain ⟨G,k,hA⟩:=h
 exact ⟨G,{ k with hold:=fun p o ho=>(k.hold p o ho).congr (e p o ho) },hA⟩
theorem zF (ho:S.O p=some o):iX S.O p ⟨o.j,o.m,o.dF⟩=S.O:=by
 funext x
 by_cases e:x=p
 ·rw [e,df,ho]
 ·rw [dQ e]
theorem KX.TS (h:KX w m H S U q A) (ho:S.O p=some o) {U' M':Nat→Int}{a':Int}(hd:Hd w' (H.hs o.j) (H.sp o.j) (H.tb o.j) U' M' a') (g:w.grownBy w' (some (H.hs o.j))):KX w' m H (S.own p ⟨o.j,M',a'⟩) (fun i=>if i=o.j then U' else U i) q A∧Stp w w' A A:=by
 obtain ⟨G,k,e⟩:=h
 obtain ⟨k',st⟩:=k.hd ho hd g
 have hA:A=fun i=>G.κ i≠0:=funext fun i=>propext (e i)
 subst hA
 exact ⟨⟨G,k',fun _=>Iff.rfl⟩,st⟩
theorem KX.hold (h:KX w m H S U q A) (ho:S.O p=some o) {U' M':Nat→Int}{a':Int}(hd:Hd w' (H.hs o.j) (H.sp o.j) (H.tb o.j) U' M' a') (g:w.grownBy w' (some (H.hs o.j))):∃A',KX w' m H (S.own p ⟨o.j,M',a'⟩) (fun i=>if i=o.j then U' else U i) q A'∧Stp w w' A A':=by
 obtain ⟨A',h',st⟩:=(⟨A,h.TS ho hd g⟩:∃A',KX w' m H (S.own p ⟨o.j,M',a'⟩) (fun i=>if i=o.j then U' else U i) q A'∧Stp w w' A A')
 exact ⟨A',h',st⟩
theorem KX.UA (h:KX w m H S U q A) (ho:S.O p=some o) {U':Nat→Int}(hd:Hd w' (H.hs o.j) (H.sp o.j) (H.tb o.j) U' o.m o.dF) (g:w.grownBy w' (some (H.hs o.j))):KX w' m H S (fun i=>if i=o.j then U' else U i) q A∧Stp w w' A A:=by
 obtain ⟨h',st⟩:=h.TS ho hd g
 unfold KS.own at h'
 rw [zF ho] at h'
 exact ⟨h',st⟩
theorem KX.led (h:KX w m H S U q A) (ho:S.O p=some o) {U':Nat→Int}(hd:Hd w' (H.hs o.j) (H.sp o.j) (H.tb o.j) U' o.m o.dF) (g:w.grownBy w' (some (H.hs o.j))):∃A',KX w' m H S (fun i=>if i=o.j then U' else U i) q A'∧Stp w w' A A':=by
 obtain ⟨A',h',st⟩:=h.hold ho hd g
 unfold KS.own at h'
 rw [zF ho] at h'
 exact ⟨A',h',st⟩
theorem KX.sV (h:KX w m H S U q A) (j:Nat):(ax S j).length=8:=by
 by_cases hj:j<S.Ts.length
 ·rw [iM hj];exact h.inv.len hj
 ·unfold ax;rw [List.getD_eq_getElem?_getD,List.getElem?_eq_none (by omega)];rfl
theorem KX.Fu (h:KX w m H S U q A) (j:Nat):Fit (jX S j):=fun k=>by
 have h1:=nG (aK S j)
 have h2:=tZ (h.sV j)
 unfold jX
 split
 ·omega
 ·split<;>omega
theorem dS {S:KS}{j:Nat}(hj:j<S.Ms.length) (P':PM) (D':Nat→Nat→Int) (i:Nat):aK (S.space j P' D') i=if i=j then P' else aK S i:=by
 unfold aK KS.space
 simp only [List.getD_eq_getElem?_getD,List.getElem?_set]
 by_cases e:i=j
 ·subst e;simp [hj]
 ·rw [if_neg (Ne.symm e),if_neg e]
theorem oL {S:KS}{j:Nat}(P':PM) (D':Nat→Nat→Int) (i:Nat):ax (S.space j P' D') i=ax S i:=rfl
theorem fD {S:KS}{j:Nat}(hj:j<S.Ts.length) (D':DS) (N':Ns) (i:Nat):ax (S.files D' j N') i=if i=j then N' else ax S i:=by
 unfold ax KS.files
 simp only [List.getD_eq_getElem?_getD,List.getElem?_set]
 by_cases e:i=j
 ·subst e;simp [hj]
 ·rw [if_neg (Ne.symm e),if_neg e]
theorem mG {S:KS}{j:Nat}(D':DS) (N':Ns) (i:Nat):aK (S.files D' j N') i=aK S i:=rfl
theorem nM {S:KS}{j:Nat}(hj:j<S.Ms.length):S.space j (aK S j) S.W=S:=by
 unfold KS.space
 rw [wy hj,List.set_getElem_self]
theorem nQ {S:KS}{j:Nat}(hj:j<S.Ts.length):S.files S.D j (ax S j)=S:=by
 unfold KS.files
 rw [iM hj,List.set_getElem_self]
theorem Ev {S:KS}{j:Nat}(P1 P2:PM) (D1 D2:Nat→Nat→Int):(S.space j P1 D1).space j P2 D2=S.space j P2 D2:=by
 unfold KS.space;simp only [List.set_set]
theorem EP {S:KS}{j:Nat}(D1 D2:DS) (N1 N2:Ns):(S.files D1 j N1).files D2 j N2=S.files D2 j N2:=by
 unfold KS.files;simp only [List.set_set]
theorem pq.space (k:pq S) (ho:S.O p=some o) (hl:S.Ms.length=S.Ts.length) (P':PM) (D':Nat→Nat→Int):pq (S.space o.j P' D'):=by
 refine ⟨k.run,fun j hj hn=>?_,k.fit⟩
 obtain ⟨h1,h2⟩:=k.gone j hj hn
 refine ⟨h1,?_⟩
 have hne:j≠o.j:=fun e=>hn p o ho e.symm
 by_cases hl':o.j<S.Ms.length
 ·rw [dS hl',if_neg hne];exact h2
 ·unfold KS.space aK;rw [List.set_eq_of_length_le (by omega)];exact h2
theorem pq.files (k:pq S) (ho:S.O p=some o) (D':DS) (N':Ns):pq (S.files D' o.j N'):=by
 refine ⟨k.run,fun j hj hn=>?_,k.fit⟩
 have hj':j<S.Ts.length:=by unfold KS.files at hj;simpa using hj
 obtain ⟨h1,h2⟩:=k.gone j hj' hn
 refine ⟨?_,h2⟩
 have hne:j≠o.j:=fun e=>hn p o ho e.symm
 by_cases hl':o.j<S.Ts.length
 ·rw [fD hl',if_neg hne];exact h1
 ·unfold KS.files ax;rw [List.set_eq_of_length_le (by omega)];exact h1
theorem pq.tree (k:pq S) (T':Wd):pq (S.tree T'):=⟨k.run,k.gone,k.fit⟩
theorem pq.own (k:pq S) (ho:S.O p=some o) {M':Nat→Int}{a':Int}(hM:Fit M') (ha:-100≤a'∧a'≤100):pq (S.own p ⟨o.j,M',a'⟩):=by
 refine ⟨fun x=>?_,fun j hj hn=>k.gone j hj (fun x o' e=>?_),fun x o' e=>?_⟩
 ·by_cases e:x=p
  ·have:=k.run x
   rw [e] at this ⊢
   rw [ho] at this
   show (iX S.O p _ p).isSome=_
   rw [df];exact this
  ·show (iX S.O p _ x).isSome=_
   rw [dQ e];exact k.run x
 ·by_cases ex:x=p
  ·subst ex
   rw [ho] at e
   obtain rfl:=Option.some.inj e
   exact hn x ⟨o.j,M',a'⟩ (df _ _ _)
  ·exact hn x o' (by show iX S.O p _ x=_;rw [dQ ex];exact e)
 ·by_cases ex:x=p
  ·subst ex
   have e:iX S.O x ⟨o.j,M',a'⟩ x=some o':=e
   rw [df] at e
   obtain rfl:=Option.some.inj e
   exact ⟨hM,ha⟩
  ·have e:iX S.O p ⟨o.j,M',a'⟩ x=some o':=e
   rw [dQ ex] at e
   exact k.fit x o' e
theorem pq.procs (k:pq S) {P':Ps}(h:∀x,az P' x=az S.P x):pq (S.procs P'):=⟨fun x=>(k.run x).trans (h x).symm,k.gone,k.fit⟩
theorem KX.toN (h:KX w m H S U q A) (ok:pq S) (e:∀p o,S.O p=some o→∀k,k<3→U o.j k=jX S o.j k):KN w m H S q A:=⟨h.FK e,ok⟩
theorem KN.below (h:KN w m H S q A) (hb:Below w.heap.size w w'):KN w' m H S q A:=⟨h.1.below hb,h.2⟩
theorem KN.more (h:KN w m H S q A) {q':Nat}(hq:q≤q'):KN w m H S q' A:=⟨h.1.more hq,h.2⟩
theorem KN.XP (h:KN w m H S q A):S.O p=none↔az S.P p=false:=by
 rw [←h.2.run p];cases S.O p<;>simp
def pX (w:World) (A:Nat→Prop) (l:List (Nat×Value)):Prop:=∀y∈l,w.cell? ⟨y.1,0,none⟩=some y.2∧¬A y.1
theorem pX.oo {A':Nat→Prop}{l:List (Nat×Value)}(h:pX w A l) (st:Stp w w' A A'):pX w' A' l:=fun y hy=>st.aW (h y hy).1 (h y hy).2
theorem pX.below {l:List (Nat×Value)}(h:pX w A l) (hb:Below w.heap.size w w'):pX w' A l:=h.oo (.below hb)
theorem ik (w:World) (a:Value) (ta:TypeId):Below w.heap.size w (w.alloc (.cells #[a] ta))∧(w.alloc (.cells #[a] ta)).heap.size=w.heap.size+1∧(w.alloc (.cells #[a] ta)).cell? ⟨w.heap.size,0,none⟩=some a∧(w.alloc (.cells #[a] ta)).frozen? ⟨w.heap.size,0,none⟩=false:=by
 have h:(w.alloc (.cells #[a] ta)).heap[w.heap.size]? = some (.cells #[a] ta):=by
  show (w.heap.push _)[w.heap.size]? = _
  rw [Array.getElem?_push,if_pos rfl]
 exact ⟨(Below.refl _ w).alloc (Nat.le_refl _) _,by show (w.heap.push _).size=_;rw [Array.size_push],by rw [cell_of_row _ _ _ _ _ _ h];rfl,by unfold World.frozen?;simp only [h];rfl⟩
theorem aZ {V:World}(hb:Below w.heap.size w V) {x:Nat}{v:Value}(h:w.cell? ⟨x,0,none⟩=some v):V.cell? ⟨x,0,none⟩=some v:=by
 rw [hb.cell (p:=⟨x,0,none⟩) (World.block_lt_of_cell? w _ h)];exact h
theorem ry (w:World) (a b:Value) (ta tb:TypeId):Below w.heap.size w ((w.alloc (.cells #[a] ta)).alloc (.cells #[b] tb))∧((w.alloc (.cells #[a] ta)).alloc (.cells #[b] tb)).heap.size=w.heap.size+1+1∧((w.alloc (.cells #[a] ta)).alloc (.cells #[b] tb)).cell? ⟨w.heap.size,0,none⟩=some a∧((w.alloc (.cells #[a] ta)).alloc (.cells #[b] tb)).cell? ⟨w.heap.size+1,0,none⟩=some b:=by
 obtain ⟨b1,s1,c1,_⟩:=ik w a ta
 obtain ⟨b2,s2,c2,_⟩:=ik (w.alloc (.cells #[a] ta)) b tb
 rw [s1] at s2 c2
 exact ⟨b1.trans (b2.mono (by omega)),s2,(aZ b2 c1),c2⟩
theorem yJ (w:World) (a b c:Value) (ta tb tc:TypeId):Below w.heap.size w (((w.alloc (.cells #[a] ta)).alloc (.cells #[b] tb)).alloc (.cells #[c] tc))∧(((w.alloc (.cells #[a] ta)).alloc (.cells #[b] tb)).alloc (.cells #[c] tc)).heap.size=w.heap.size+1+1+1∧(((w.alloc (.cells #[a] ta)).alloc (.cells #[b] tb)).alloc (.cells #[c] tc)).cell? ⟨w.heap.size,0,none⟩=some a∧(((w.alloc (.cells #[a] ta)).alloc (.cells #[b] tb)).alloc (.cells #[c] tc)).cell? ⟨w.heap.size+1,0,none⟩=some b∧(((w.alloc (.cells #[a] ta)).alloc (.cells #[b] tb)).alloc (.cells #[c] tc)).cell? ⟨w.heap.size+1+1,0,none⟩=some c:=by
 obtain ⟨b1,s1,c1,c2⟩:=ry w a b ta tb
 obtain ⟨b2,s2,c3,_⟩:=ik ((w.alloc (.cells #[a] ta)).alloc (.cells #[b] tb)) c tc
 rw [s1] at s2 c3
 exact ⟨b1.trans (b2.mono (by omega)),s2,(aZ b2 c1),(aZ b2 c2),c3⟩
end
section
variable {w w':World}{m:Int}{H:KH}{S:KS}{U U':Nat→Nat→Int}{q:Nat}{A:Nat→Prop}{p:Int}{o:Ow}
theorem xY {P:PM}{a ag:Int}(h0:0≤a):∀(n:Nat),a+n≤64→(∀i:Nat,i<n→P (a+i)=none)→bN (fC P a n ag)=bN P+n
 |0,_,_=>by rw [xV,Nat.add_zero]
 |n+1,h1,hn=>by
  rw [xW,sG (by omega) (by omega) (by rw [DI];exact hn n (by omega)),xY h0 n (by omega) (fun i hi=>hn i (by omega))]
  omega
theorem zS {P:PM}{a:Int}(h0:0≤a):∀(n:Nat),a+n≤64→(∀i:Nat,i<n→(P (a+i)).isSome=true)→bN (jP P a n)+n=bN P
 |0,_,_=>by rw [ug,Nat.add_zero]
 |n+1,h1,hn=>by
  have:=zS h0 n (by omega) (fun i hi=>hn i (by omega))
  have h2:=wW (P:=jP P a n) (a:=a+n) (by omega) (by omega) (by rw [Ig];exact hn n (by omega))
  rw [uh]
  omega
theorem UU {P:PM}{a ag:Int}{n:Nat}(hn:∀i:Nat,i<n→P (a+i)=none):jP (fC P a n ag) a n=P:=by
 funext x
 unfold jP fC
 by_cases e:a≤x∧x<a+n
 ·rw [if_pos e]
  have:=hn (x-a).toNat (by omega)
  rw [show a+((x-a).toNat:Int)=x by omega] at this
  exact this.symm
 ·rw [if_neg e,if_neg e]
theorem uw {P:PM}{a n ag:Int}(h:iY P a n ag=0):1≤n∧0≤a∧a+n≤64∧Qb ag=true∧iw P a n.toNat=0:=by
 unfold iY at h
 split at h
 ·omega
 ·rename_i h1
  split at h
  ·omega
  ·rename_i h2
   split at h
   ·rename_i h3
    obtain ⟨a1,a2,a3⟩:=j4.1 (by simpa using h1)
    exact ⟨a1,a2,a3,by simpa using h2,h3⟩
   ·omega
theorem OI {P:PM}{a n ag:Int}(h:iY P a n ag=0):((bN (kY P a n ag):Nat):Int)=bN P+n:=by
 obtain ⟨h1,h2,h3,h4,h5⟩:=uw h
 unfold kY
 rw [if_pos h,xY h2 n.toNat (by omega) (fun i hi=>pR h5 i hi)]
 omega
theorem JS {P:PM}{a n ag:Int}(h:iY P a n ag=0):EX (kY P a n ag) a n=P:=by
 obtain ⟨h1,h2,h3,h4,h5⟩:=uw h
 have hm:kY P a n ag=fC P a n.toNat ag:=if_pos h
 have hE:vD (fC P a n.toNat ag) a n=0:=by
  unfold vD
  rw [j4.2 ⟨h1,h2,h3⟩,if_neg (by simp),if_neg]
  intro hlt
  have hx:iw (fC P a n.toNat ag) a n.toNat=n.toNat:=by
   unfold iw
   have:∀k:Nat,k≤n.toNat→sumTo (fun i=>if (fC P a n.toNat ag (a+i)).isSome then 1 else 0) 0 k=k:=fun k=>by
    induction k with
    |zero=>intro _;rfl
    |succ k ih=>
     intro hk
     rw [nL,ih (by omega),Nat.zero_add]
     have:(fC P a n.toNat ag (a+k)).isSome=true:=by unfold fC;rw [if_pos (by omega)];rfl
     rw [if_pos this]
   exact this _ (Nat.le_refl _)
  omega
 unfold EX
 rw [hm,if_pos hE]
 exact UU (fun i hi=>pR h5 i hi)
theorem RX {P:PM}{a n ag:Int}(h:iY P a n ag≠0):kY P a n ag=P:=if_neg h
def oC (S:KS) (o:Ow) (a n ag:Int):Int:=if iY (aK S o.j) a n ag≠0 then iY (aK S o.j) a n ag else if ((bN (aK S o.j):Nat):Int)+n≤o.m 0 then 0 else 4
def jy (S:KS) (o:Ow) (a n ag:Int):KS:=if oC S o a n ag=0 then S.space o.j (kY (aK S o.j) a n ag) S.W else S
theorem QO {S:KS}{o:Ow}{a n ag:Int}(h:iY (aK S o.j) a n ag=0):why (jX S o.j) o.m 0 n=oC S o a n ag:=by
 obtain ⟨h1,h2,h3,h4,h5⟩:=uw h
 unfold oC why
 rw [if_neg (not_not_intro h)]
 have e:jX S o.j (0:Int).toNat=((bN (aK S o.j):Nat):Int):=rfl
 have e2:o.m (0:Int).toNat=o.m 0:=rfl
 rw [e,e2]
 have hl:=nG (aK S o.j)
 by_cases hc:((bN (aK S o.j):Nat):Int)+n≤o.m 0
 ·rw [if_pos hc,if_neg (by omega),if_neg (by omega),if_neg (by omega),if_neg (by omega)]
 ·rw [if_neg hc,if_neg (by omega),if_neg (by omega),if_pos (by omega)]
theorem KX.ZR (h:KX w m H S U q A) (ho:S.O p=some o) (a n ag:Int) (hn:n≤9223372036854775807) {x0 x1 x2 x3:Nat}(hb:pX w A [(x0,wp (H.hs o.j)),(x1,.int .i64 a),(x2,.int .i64 n),(x3,.int .i64 ag)]) :
 Calls Tryz.prog 126 #[wp x0,wp x1,wp x2,wp x3] w fun y w'=>y=.returned (aJ (iY (aK S o.j) a n ag))∧∃A',KX w' m H (S.space o.j (kY (aK S o.j) a n ag) S.W) U q A'∧Stp w w' A A':=by
 have cells:∀ {w':World}{A':Nat→Prop}{S':KS},KX w' m H S' U q A'→S'.O p=some o→pX w' A' [(x0,wp (H.hs o.j)),(x1,.int .i64 a),(x2,.int .i64 n),(x3,.int .i64 ag)]→w'.cell? ⟨x0,0,none⟩=some (wp (H.hs o.j))∧w'.cell? ⟨x1,0,none⟩=some (.int .i64 a)∧w'.cell? ⟨x2,0,none⟩=some (.int .i64 n)∧w'.cell? ⟨x3,0,none⟩=some (.int .i64 ag)∧w'.cell? ⟨H.hs o.j,0,none⟩=some (wp (H.sp o.j)):=fun h' ho' b'=>
  ⟨(b' (x0,_) (by simp)).1,(b' (x1,_) (by simp)).1,(b' (x2,_) (by simp)).1,(b' (x3,_) (by simp)).1,(h'.hd ho').at 0⟩
 have c0:=cells h ho hb
 have hM:Calls Tryz.prog 127 #[wp (H.sp o.j),.int .i64 a,.int .i64 n,.int .i64 ag] w.drew fun y w'=>y=.returned (aJ (iY (aK S o.j) a n ag))∧(w'.cell? ⟨x0,0,none⟩=some (wp (H.hs o.j))∧w'.cell? ⟨x1,0,none⟩=some (.int .i64 a)∧w'.cell? ⟨x2,0,none⟩=some (.int .i64 n)∧w'.cell? ⟨x3,0,none⟩=some (.int .i64 ag)∧w'.cell? ⟨H.hs o.j,0,none⟩=some (wp (H.sp o.j)))∧∃A',KX w' m H (S.space o.j (kY (aK S o.j) a n ag) S.W) U q A'∧Stp w w' A A':=by
  refine ((h.below (bJ w)).map (h.qx ho) a n ag hn).mono ?_
  rintro y w' ⟨rfl,A',h',st⟩
  have st':Stp w w' A A':=Stp.base (V:=w.drew) rfl rfl rfl rfl st
  exact ⟨rfl,cells h' ho (hb.oo st'),A',h',st'⟩
 generalize iY (aK S o.j) a n ag=E at *
 generalize S.space o.j (kY (aK S o.j) a n ag) S.W=S2 at *
 clear h ho cells hb
 go_enter Tryz.func126,Tryz.ntmps126
 go_upto_region 1 with fail
 go_region_held3 (fun w'=>w'.cell? ⟨x0,0,none⟩=some (wp (H.hs o.j))∧w'.cell? ⟨x1,0,none⟩=some (.int .i64 a)∧w'.cell? ⟨x2,0,none⟩=some (.int .i64 n)∧w'.cell? ⟨x3,0,none⟩=some (.int .i64 ag)∧w'.cell? ⟨H.hs o.j,0,none⟩=some (wp (H.sp o.j))) (first|exact c0|exact c1) (first
  |(go_at_call 127;refine hM.mono ?_;rintro e w1 ⟨rfl,c1,hw⟩))
 all_goals
  go_wp2_with fail
  go_ret
  exact ⟨rfl,hw⟩
theorem KX.ZQ (h:KX w m H S U q A) (ho:S.O p=some o) (a n:Int) (hn:n≤9223372036854775807) {x0 x1 x2:Nat}(hb:pX w A [(x0,wp (H.hs o.j)),(x1,.int .i64 a),(x2,.int .i64 n)]) :
 Calls Tryz.prog 128 #[wp x0,wp x1,wp x2] w fun y w'=>y=.returned (aJ (vD (aK S o.j) a n))∧∃A',KX w' m H (S.space o.j (EX (aK S o.j) a n) S.W) U q A'∧Stp w w' A A':=by
 have cells:∀ {w':World}{A':Nat→Prop}{S':KS},KX w' m H S' U q A'→S'.O p=some o→pX w' A' [(x0,wp (H.hs o.j)),(x1,.int .i64 a),(x2,.int .i64 n)]→w'.cell? ⟨x0,0,none⟩=some (wp (H.hs o.j))∧w'.cell? ⟨x1,0,none⟩=some (.int .i64 a)∧w'.cell? ⟨x2,0,none⟩=some (.int .i64 n)∧w'.cell? ⟨H.hs o.j,0,none⟩=some (wp (H.sp o.j)):=fun h' ho' b'=>
  ⟨(b' (x0,_) (by simp)).1,(b' (x1,_) (by simp)).1,(b' (x2,_) (by simp)).1,(h'.hd ho').at 0⟩
 have c0:=cells h ho hb
 have hM:Calls Tryz.prog 129 #[wp (H.sp o.j),.int .i64 a,.int .i64 n] w.drew fun y w'=>y=.returned (aJ (vD (aK S o.j) a n))∧(w'.cell? ⟨x0,0,none⟩=some (wp (H.hs o.j))∧w'.cell? ⟨x1,0,none⟩=some (.int .i64 a)∧w'.cell? ⟨x2,0,none⟩=some (.int .i64 n)∧w'.cell? ⟨H.hs o.j,0,none⟩=some (wp (H.sp o.j)))∧∃A',KX w' m H (S.space o.j (EX (aK S o.j) a n) S.W) U q A'∧Stp w w' A A':=by
  refine ((h.below (bJ w)).uI (h.qx ho) a n hn).mono ?_
  rintro y w' ⟨rfl,A',h',st⟩
  have st':Stp w w' A A':=Stp.base (V:=w.drew) rfl rfl rfl rfl st
  exact ⟨rfl,cells h' ho (hb.oo st'),A',h',st'⟩
 generalize vD (aK S o.j) a n=E at *
 generalize S.space o.j (EX (aK S o.j) a n) S.W=S2 at *
 clear h ho cells hb
 go_enter Tryz.func128,Tryz.ntmps128
 go_upto_region 1 with fail
 go_region_held3 (fun w'=>w'.cell? ⟨x0,0,none⟩=some (wp (H.hs o.j))∧w'.cell? ⟨x1,0,none⟩=some (.int .i64 a)∧w'.cell? ⟨x2,0,none⟩=some (.int .i64 n)∧w'.cell? ⟨H.hs o.j,0,none⟩=some (wp (H.sp o.j))) (first|exact c0|exact c1) (first
  |(go_at_call 129;refine hM.mono ?_;rintro e w1 ⟨rfl,c1,hw⟩))
 all_goals
  go_wp2_with fail
  go_ret
  exact ⟨rfl,hw⟩
theorem KN.II (h:KN w m H S q A) (ho:S.O p=some o) (a n ag:Int) (hn:n≤9223372036854775807) :
 Calls Tryz.prog 45 #[wp H.kb,.int .i64 p,.int .i64 a,.int .i64 n,.int .i64 ag] w fun y w'=>y=.returned (aJ (oC S o a n ag))∧∃A',KN w' m H (jy S o a n ag) q A'∧Stp w w' A A':=by
 have hpay:∀(W:World) (x0 x1 x2 x3:Nat),Below w.heap.size w W→pX W A [(x0,wp (H.hs o.j)),(x1,.int .i64 a),(x2,.int .i64 n),(x3,.int .i64 ag)]→
  Calls Tryz.prog 125 #[wp (H.hs o.j),.int .i64 0,.int .i64 n,.func (.func 126) #[] #[wp x0,wp x1,wp x2,wp x3],.func (.func 128) #[] #[wp x0,wp x1,wp x2]] W fun y w'=>∃c,y=.returned (aJ c)∧c=oC S o a n ag∧∃A',KN w' m H (jy S o a n ag) q A'∧Stp w w' A A':=fun W x0 x1 x2 x3 bW bx=>by
  have hW:=h.1.below bW
  have sN:=h.1.mlt ho
  refine xP (H.hs o.j) 0 n (fun args w=>by kernel_rfl) (fun args w=>by kernel_rfl) (R:=fun c w'=>c=oC S o a n ag∧∃A',KN w' m H (jy S o a n ag) q A'∧Stp w w' A A') ((hW.ZR ho a n ag hn bx).mono ?_)
  rintro y w1 ⟨rfl,A1,h1,st1⟩
  refine ⟨_,rfl,fun hc=>?_,fun hc=>?_⟩
  ·have e1:oC S o a n ag=iY (aK S o.j) a n ag:=if_pos hc
   have e2:jy S o a n ag=S:=by unfold jy;rw [e1,if_neg hc]
   rw [RX hc,nM sN] at h1
   rw [e1,e2]
   exact ⟨rfl,A1,⟨h1,h.2⟩,st1.after bW⟩
  ·have hd1:=h1.hd (p:=p) (o:=o) ho
   refine ⟨why (jX S o.j) o.m 0 n,(hd1.Bg (h.1.Fu o.j) (h.2.fit p o ho).1 0 n h1.er (h1.hne (p:=p) (o:=o) ho)).mono ?_⟩
   rintro y w2 ⟨rfl,hd2,g2⟩
   obtain ⟨A2,h2,st2⟩:=h1.led (p:=p) (o:=o) ho hd2 g2
   have ME:Stp w w2 A A2:=(st1.after bW).trans st2
   have ew:=QO hc
   refine ⟨rfl,fun hz=>?_,fun hz=>?_⟩
   ·have e2:jy S o a n ag=S.space o.j (kY (aK S o.j) a n ag) S.W:=by unfold jy;rw [←ew,if_pos hz]
    rw [←ew,e2]
    refine ⟨hz.symm,A2,h2.toN (h.2.space ho h.1.len _ _) (fun p' o' ho' k hk=>?_),ME⟩
    by_cases ej:o'.j=o.j
    ·simp only [if_pos ej]
     unfold Mo
     rw [if_pos hz,ej]
     unfold after put jX
     rw [dS sN,if_pos rfl,oL]
     have aac:=OI hc
     match k,hk with
     |0,_=>simp only [Int.toNat_zero,if_true];exact aac.symm
     |1,_=>rfl
     |2,_=>rfl
    ·simp only [if_neg ej]
     unfold jX
     rw [dS sN,if_neg ej,oL]
   ·have e2:jy S o a n ag=S:=by unfold jy;rw [←ew,if_neg hz]
    have CE:KX w2 m H (S.space o.j (kY (aK S o.j) a n ag) S.W) (jX S) q A2:=h2.FK (fun p' o' ho' k hk=>by
     by_cases ej:o'.j=o.j
     ·simp only [if_pos ej]
      unfold Mo
      rw [if_neg hz,ej]
     ·simp only [if_neg ej])
    have Zv:pX w2 A2 [(x0,wp (H.hs o.j)),(x1,.int .i64 a),(x2,.int .i64 n)]:=fun y hy=>((bx.oo st1).oo st2) y (by simp at hy ⊢;rcases hy with z|z|z<;>simp [z])
    refine (CE.ZQ (p:=p) (o:=o) ho a n hn Zv).mono ?_
    rintro y w3 ⟨rfl,A3,h3,vT⟩
    rw [Ev,dS sN,if_pos rfl,JS hc] at h3
    have:(S.space o.j (kY (aK S o.j) a n ag) S.W).W=S.W:=rfl
    rw [this,nM sN] at h3
    rw [←ew,e2]
    exact ⟨_,rfl,rfl,A3,⟨h3,h.2⟩,ME.trans vT⟩
 have hF:=fun W (hb:Below w.heap.size w W)=>(h.1.below hb).aC ho
 have hA:=h.1.lt
 generalize oC S o a n ag=E at *
 generalize jy S o a n ag=S2 at *
 have HP:Aside _:=hpay
 have HF:Aside _:=hF
 clear h ho hpay hF
 go_enter Tryz.func45,Tryz.ntmps45
 go_upto_region 1 with fail
 obtain ⟨b3,s3,c1,c2,c3⟩:=yJ w (.int .i64 a) (.int .i64 n) (.int .i64 ag) 3 3 3
 generalize ((w.alloc (.cells #[.int .i64 a] 3)).alloc (.cells #[.int .i64 n] 3)).alloc (.cells #[.int .i64 ag] 3)=W at *
 have hF:=HF.out W b3
 clear HF
 go_upto_region 4 with (go_at_call 51;refine hF.mono ?_;rintro e w1 ⟨rfl,hw⟩;subst w1)
 obtain ⟨b4,s4,c4,_⟩:=ik W (wp (H.hs o.j)) 99
 rw [s3] at c4
 have d1:=aZ b4 c1
 have d2:=(aZ b4 c2)
 have d3:=(aZ b4 c3)
 generalize W.alloc (.cells #[wp (H.hs o.j)] 99)=V at *
 have bV:Below w.heap.size w V:=b3.trans (b4.mono b3.size)
 have hP:=HP.out V (w.heap.size+1+1+1) w.heap.size (w.heap.size+1) (w.heap.size+1+1) bV (fun y hy=>by
  have hn:∀i,w.heap.size≤i→¬A i:=fun i hi z=>by have:=hA i z;omega
  simp only [List.mem_cons,List.not_mem_nil,or_false] at hy
  rcases hy with rfl|rfl|rfl|rfl
  ·exact ⟨c4,hn _ (by omega)⟩
  ·exact ⟨d1,hn _ (Nat.le_refl _)⟩
  ·exact ⟨d2,hn _ (by omega)⟩
  ·exact ⟨d3,hn _ (by omega)⟩)
 clear HP c1 c2 c3 hF b3 b4 bV s3 s4 d1 d3
 go_wp2_with (go_at_call 125;refine hP.mono ?_;rintro e w1 ⟨c,rfl,hc,hR⟩)
 go_ret
 exact ⟨by rw [←hc];rfl,hR⟩
end
section
variable {w w':World}{m:Int}{H:KH}{S:KS}{U:Nat→Nat→Int}{q:Nat}{A:Nat→Prop}{p:Int}{o:Ow}
theorem KX.J5 (h:KX w m H S U q A) (ho:S.O p=none) (hp:(Lit.int .i64 p).wf=true) :
 Calls Tryz.prog 26 #[wp H.kb,.int .i64 p] w fun y w'=>y=.returned (.tuple #[.bool false,eX 7])∧w'=w:=by
 have hF:=h.aU ho hp
 clear h ho
 go_enter Tryz.func26,Tryz.ntmps26
 go_wp2_with (go_at_call 51;refine hF.mono ?_;rintro e w1 ⟨rfl,hw⟩;subst w1)
 go_ret2
 exact ⟨rfl,rfl⟩
theorem KX.I4 (h:KX w m H S U q A) (ho:S.O p=none) (hp:(Lit.int .i64 p).wf=true) :
 Calls Tryz.prog 14 #[wp H.kb,.int .i64 p] w fun y w'=>y=.returned (.tuple #[.int .i64 0,eX 7])∧w'=w:=by
 have hF:=h.aU ho hp
 clear h ho
 go_enter Tryz.func14,Tryz.ntmps14
 go_wp2_with (go_at_call 51;refine hF.mono ?_;rintro e w1 ⟨rfl,hw⟩;subst w1)
 go_ret2
 exact ⟨rfl,rfl⟩
theorem KX.Sn (h:KX w m H S U q A) (ho:S.O p=none) (hp:(Lit.int .i64 p).wf=true) (x:Int) :
 Calls Tryz.prog 20 #[wp H.kb,.int .i64 p,.int .i64 x] w fun y w'=>y=.returned (eX 7)∧w'=w:=by
 have hF:=h.aU ho hp
 clear h ho
 go_enter Tryz.func20,Tryz.ntmps20
 go_wp2_with (go_at_call 51;refine hF.mono ?_;rintro e w1 ⟨rfl,hw⟩;subst w1)
 go_ret
 exact ⟨rfl,rfl⟩
theorem KX.Su (h:KX w m H S U q A) (ho:S.O p=none) (hp:(Lit.int .i64 p).wf=true) :
 Calls Tryz.prog 37 #[wp H.kb,.int .i64 p] w fun y w'=>y=.returned (eX 7)∧w'=w:=by
 have hF:=h.aU ho hp
 clear h ho
 go_enter Tryz.func37,Tryz.ntmps37
 go_wp2_with (go_at_call 51;refine hF.mono ?_;rintro e w1 ⟨rfl,hw⟩;subst w1)
 go_ret
 exact ⟨rfl,rfl⟩
theorem KX.Bj (h:KX w m H S U q A) (ho:S.O p=none) (hp:(Lit.int .i64 p).wf=true) :
 Calls Tryz.prog 36 #[wp H.kb,.int .i64 p] w fun y w'=>y=.returned (.tuple #[.int .i64 0,.int .i64 0,eX 7])∧w'=w:=by
 have hF:=h.aU ho hp
 clear h ho
 go_enter Tryz.func36,Tryz.ntmps36
 go_wp2_with (go_at_call 51;refine hF.mono ?_;rintro e w1 ⟨rfl,hw⟩;subst w1)
 go_ret3
 exact ⟨rfl,rfl⟩
theorem KX.R6 (h:KX w m H S U q A) (ho:S.O p=none) (hp:(Lit.int .i64 p).wf=true) (x y:Int) :
 Calls Tryz.prog 92 #[wp H.kb,.int .i64 p,.int .i64 x,.int .i64 y] w fun y w'=>y=.returned (eX 7)∧w'=w:=by
 have hF:=h.aU ho hp
 clear h ho
 go_enter Tryz.func92,Tryz.ntmps92
 go_wp2_with (go_at_call 51;refine hF.mono ?_;rintro e w1 ⟨rfl,hw⟩;subst w1)
 go_ret
 exact ⟨rfl,rfl⟩
theorem KX.OL (h:KX w m H S U q A) (ho:S.O p=none) (hp:(Lit.int .i64 p).wf=true) (x y:Int) :
 Calls Tryz.prog 41 #[wp H.kb,.int .i64 p,.int .i64 x,.int .i64 y] w fun y w'=>y=.returned (eX 7)∧w'=w:=by
 have hF:=h.aU ho hp
 clear h ho
 go_enter Tryz.func41,Tryz.ntmps41
 go_wp2_with (go_at_call 51;refine hF.mono ?_;rintro e w1 ⟨rfl,hw⟩;subst w1)
 go_ret
 exact ⟨rfl,rfl⟩
theorem KX.L9 (h:KX w m H S U q A) (ho:S.O p=none) (hp:(Lit.int .i64 p).wf=true) (x:Int) :
 Calls Tryz.prog 94 #[wp H.kb,.int .i64 p,.int .i64 x] w fun y w'=>y=.returned (eX 7)∧w'=w:=by
 have hF:=h.aU ho hp
 clear h ho
 go_enter Tryz.func94,Tryz.ntmps94
 go_wp2_with (go_at_call 51;refine hF.mono ?_;rintro e w1 ⟨rfl,hw⟩;subst w1)
 go_ret
 exact ⟨rfl,rfl⟩
theorem KX.NM (h:KX w m H S U q A) (ho:S.O p=none) (hp:(Lit.int .i64 p).wf=true) (x y:Int) :
 Calls Tryz.prog 95 #[wp H.kb,.int .i64 p,.int .i64 x,.int .i64 y] w fun y w'=>y=.returned (eX 7)∧w'=w:=by
 have hF:=h.aU ho hp
 clear h ho
 go_enter Tryz.func95,Tryz.ntmps95
 go_wp2_with (go_at_call 51;refine hF.mono ?_;rintro e w1 ⟨rfl,hw⟩;subst w1)
 go_ret
 exact ⟨rfl,rfl⟩
theorem KX.Gc (h:KX w m H S U q A) (ho:S.O p=none) (hp:(Lit.int .i64 p).wf=true) (x y z:Int) :
 Calls Tryz.prog 96 #[wp H.kb,.int .i64 p,.int .i64 x,.int .i64 y,.int .i64 z] w fun y w'=>y=.returned (eX 7)∧w'=w:=by
 have hF:=h.aU ho hp
 clear h ho
 go_enter Tryz.func96,Tryz.ntmps96
 go_wp2_with (go_at_call 51;refine hF.mono ?_;rintro e w1 ⟨rfl,hw⟩;subst w1)
 go_ret
 exact ⟨rfl,rfl⟩
theorem KX.NY (h:KX w m H S U q A) (ho:S.O p=none) (hp:(Lit.int .i64 p).wf=true) (x y z:Int) :
 Calls Tryz.prog 42 #[wp H.kb,.int .i64 p,.int .i64 x,.int .i64 y,.int .i64 z] w fun y w'=>y=.returned (.tuple #[.slice none 0 0,eX 7])∧w'=w:=by
 have hF:=h.aU ho hp
 clear h ho
 go_enter Tryz.func42,Tryz.ntmps42
 go_wp2_with (go_at_call 51;refine hF.mono ?_;rintro e w1 ⟨rfl,hw⟩;subst w1)
 go_ret2
 exact ⟨rfl,rfl⟩
theorem KX.RV (h:KX w m H S U q A) (ho:S.O p=none) (hp:(Lit.int .i64 p).wf=true) (x:Int) (c:Bool) :
 Calls Tryz.prog 189 #[wp H.kb,.int .i64 p,.int .i64 x,.bool c] w fun y w'=>y=.returned (eX 7)∧w'=w:=by
 have hF:=h.aU ho hp
 clear h ho
 go_enter Tryz.func189,Tryz.ntmps189
 go_wp2_with (go_at_call 51;refine hF.mono ?_;rintro e w1 ⟨rfl,hw⟩;subst w1)
 go_ret
 exact ⟨rfl,rfl⟩
theorem KX.xq (h:KX w m H S U q A) (ho:S.O p=none) (hp:(Lit.int .i64 p).wf=true) (x:Int) :
 Calls Tryz.prog 15 #[wp H.kb,.int .i64 p,.int .i64 x] w fun y w'=>y=.returned (eX 7)∧w'=w:=by
 have hF:=h.aU ho hp
 clear h ho
 go_enter Tryz.func15,Tryz.ntmps15
 go_wp2_with (go_at_call 51;refine hF.mono ?_;rintro e w1 ⟨rfl,hw⟩;subst w1)
 go_ret
 exact ⟨rfl,rfl⟩
theorem KX.vK (h:KX w m H S U q A) (ho:S.O p=none) (hp:(Lit.int .i64 p).wf=true) (x y:Int) :
 Calls Tryz.prog 19 #[wp H.kb,.int .i64 p,.int .i64 x,.int .i64 y] w fun y w'=>y=.returned (.tuple #[tx [],eX 7])∧w'=w:=by
 have hF:=h.aU ho hp
 clear h ho
 go_enter Tryz.func19,Tryz.ntmps19
 go_wp2_with (go_at_call 51;refine hF.mono ?_;rintro e w1 ⟨rfl,hw⟩;subst w1)
 go_ret2
 exact ⟨rfl,rfl⟩
theorem KX.rV (h:KX w m H S U q A) (ho:S.O p=none) (hp:(Lit.int .i64 p).wf=true) (x:Int) (s:List UInt8) :
 Calls Tryz.prog 16 #[wp H.kb,.int .i64 p,.int .i64 x,tx s] w fun y w'=>y=.returned (.tuple #[.int .i64 0,eX 7])∧w'=w:=by
 have hF:=h.aU ho hp
 clear h ho
 go_enter Tryz.func16,Tryz.ntmps16
 go_wp2_with (go_at_call 51;refine hF.mono ?_;rintro e w1 ⟨rfl,hw⟩;subst w1)
 go_ret2
 exact ⟨rfl,rfl⟩
theorem KX.OG (h:KX w m H S U q A) (ho:S.O p=none) (hp:(Lit.int .i64 p).wf=true) (s:List UInt8) :
 Calls Tryz.prog 191 #[wp H.kb,.int .i64 p,tx s] w fun y w'=>y=.returned (eX 7)∧w'=w:=by
 have hF:=h.aU ho hp
 clear h ho
 go_enter Tryz.func191,Tryz.ntmps191
 go_wp2_with (go_at_call 51;refine hF.mono ?_;rintro e w1 ⟨rfl,hw⟩;subst w1)
 go_ret
 exact ⟨rfl,rfl⟩
theorem KX.uf (h:KX w m H S U q A) (ho:S.O p=none) (hp:(Lit.int .i64 p).wf=true) (s:List UInt8) :
 Calls Tryz.prog 193 #[wp H.kb,.int .i64 p,tx s] w fun y w'=>y=.returned (eX 7)∧w'=w:=by
 have hF:=h.aU ho hp
 clear h ho
 go_enter Tryz.func193,Tryz.ntmps193
 go_wp2_with (go_at_call 51;refine hF.mono ?_;rintro e w1 ⟨rfl,hw⟩;subst w1)
 go_ret
 exact ⟨rfl,rfl⟩
theorem KX.uo (h:KX w m H S U q A) (ho:S.O p=none) (hp:(Lit.int .i64 p).wf=true) (s u:List UInt8) :
 Calls Tryz.prog 194 #[wp H.kb,.int .i64 p,tx s,tx u] w fun y w'=>y=.returned (eX 7)∧w'=w:=by
 have hF:=h.aU ho hp
 clear h ho
 go_enter Tryz.func194,Tryz.ntmps194
 go_wp2_with (go_at_call 51;refine hF.mono ?_;rintro e w1 ⟨rfl,hw⟩;subst w1)
 go_ret
 exact ⟨rfl,rfl⟩
end
end Go.Proofs.YtcfhanoekniaaaaGreatDoor

/- Package desc, with several tables: Close, Dup2, Pipe, Read, Write, Exec, Clear, Fork; the tree's Unlink. -/
import Derived.Test.YtcfhanoekniaaaaGreatDoorQAll
import Derived.Test.YtcfhanoekniaaaaGreatDoorDOps
import Derived.Test.YtcfhanoekniaaaaGreatDoorVNew
import Derived.Test.YtcfhanoekniaaaaGreatDoorVFork
import Derived.Test.YtcfhanoekniaaaaGreatDoorJProg4
import Derived.Test.YtcfhanoekniaaaaGreatDoorOVic
import Derived.Test.YtcfhanoekniaaaaGreatDoorAdd
import Derived.Test.YtcfhanoekniaaaaGreatDoorZPay
import Derived.Test.YtcfhanoekniaaaaGreatDoorJProg8
import Derived.Deep.QuietTactic
import Derived.Deep.RegionHeld3
set_option maxHeartbeats 4000000
set_option maxRecDepth 100000
namespace Go.Proofs.YtcfhanoekniaaaaGreatDoor
open Go.RowKit Go.Maps
section
variable {w w' w2 w0 w1:World}{f r b n k k' j:Nat}{D D':DS}{g g':QG}{bs:List Nat}{Ts:List Ns}{M N N':Ns}{d m:Int}{A:Nat→Prop}
theorem KD.close (h:KD w m f r D bs Ts k A) (hk:k≤900) (hj:j<bs.length) (x:Int) :
 Calls Tryz.prog 57 #[wp f,wp bs[j],.int .i64 x] w fun y w'=>∃D' N' A',(y=.returned (aH (if aG (Ts[j]'(h.jT hj)) x=true then 0 else 7))∧D'=gM D (Ts[j]'(h.jT hj)) x∧N'=fO (Ts[j]'(h.jT hj)) x)∧KD w' m f r D' bs (Ts.set j N') k A'∧Stp w w' A A':=by
 have hI:=h.inv.Vf hk (h.jT hj) x
 refine h.call hj (Q:=fun y D' N'=>y=.returned (aH (if aG (Ts[j]'(h.jT hj)) x=true then 0 else 7))∧D'=gM D (Ts[j]'(h.jT hj)) x∧N'=fO (Ts[j]'(h.jT hj)) x) (fun g n9 M hj' q t _=>?_) (fun y D' N' hq=>?_)
 ·by_cases hx:aG (Ts[j]'hj') x=true
  ·obtain ⟨i,rfl,hi,aD,h0⟩:=dL hx t.len
   obtain ⟨e,cl⟩:=h.inv.cl hj' aD h0
   have e1:gM D (Ts[j]'hj') i=aQ D (Ts[j]'hj')[i].1:=by unfold gM;rw [if_pos hx,getD_in aD]
   have e2:fO (Ts[j]'hj') i=(Ts[j]'hj').set i (0,false):=by unfold fO;rw [if_pos hx,show (i:Int).toNat=i by omega]
   have hjs:j<(Ts.set j (fO (Ts[j]'hj') i)).length:=by rw [List.length_set];exact hj'
   have hl:=hI.live hjs
   rw [mq hj' _ hjs,e1,e2] at hl
   refine (q.wT t hi aD h0 cl hl).mono ?_
   rintro y w' ⟨rfl,hG⟩
   exact ⟨_,_,⟨by rw [if_pos hx];rfl,rfl,rfl⟩,by rw [e1,e2];exact hG⟩
  ·have hx':aG (Ts[j]'hj') x=false:=by simpa using hx
   refine (q.wU t x hx').mono ?_
   rintro y w' ⟨rfl,hG⟩
   exact ⟨_,_,⟨by rw [if_neg hx];rfl,(if_neg hx).symm,(if_neg hx).symm⟩,hG⟩
 ·obtain ⟨_,rfl,rfl⟩:=hq
  exact hI
theorem KD.dup2 (h:KD w m f r D bs Ts k A) (hk:k≤900) (hj:j<bs.length) (x y9:Int) :
 Calls Tryz.prog 208 #[wp f,wp bs[j],.int .i64 x,.int .i64 y9] w fun y w'=>∃D' N' A',(y=.returned (aH (eD (Ts[j]'(h.jT hj)) x y9))∧D'=eO D (Ts[j]'(h.jT hj)) x y9∧N'=dV (Ts[j]'(h.jT hj)) x y9)∧KD w' m f r D' bs (Ts.set j N') k A'∧Stp w w' A A':=by
 have hI:=h.inv.XB hk (h.jT hj) x y9
 refine h.call hj (Q:=fun y D' N'=>y=.returned (aH (eD (Ts[j]'(h.jT hj)) x y9))∧D'=eO D (Ts[j]'(h.jT hj)) x y9∧N'=dV (Ts[j]'(h.jT hj)) x y9) (fun g n9 M hj' q t _=>?_) (fun y D' N' hq=>?_)
 ·by_cases hx:aG (Ts[j]'hj') x=true
  ·by_cases hy:0≤y9∧y9≤7
   ·have e0:eD (Ts[j]'hj') x y9=0:=by unfold eD;rw [if_pos hx,if_pos hy]
    by_cases hne:x=y9
    ·subst hne
     have e1:eO D (Ts[j]'hj') x x=D:=if_neg (fun z=>z.2 rfl)
     have e2:dV (Ts[j]'hj') x x=Ts[j]'hj':=if_neg (fun z=>z.2 rfl)
     refine (q.KZ t x hx).mono ?_
     rintro y w' ⟨rfl,hG⟩
     exact ⟨_,_,⟨by rw [e0];rfl,rfl,rfl⟩,by rw [e1,e2];exact hG⟩
    ·obtain ⟨i,rfl,hi,aD,h0⟩:=dL hx t.len
     obtain ⟨i2,rfl⟩:∃i2:Nat,y9=i2:=⟨y9.toNat,by omega⟩
     have Ap:i2<(Ts[j]'hj').length:=by rw [t.len];omega
     have e1:eO D (Ts[j]'hj') i i2=if (Ts[j]'hj')[i2].1=0 then iA D (Ts[j]'hj')[i].1 else aQ (iA D (Ts[j]'hj')[i].1) (Ts[j]'hj')[i2].1:=by
      unfold eO;rw [if_pos ⟨e0,hne⟩,getD_in aD,getD_in Ap]
     have e2:dV (Ts[j]'hj') i i2=(Ts[j]'hj').set i2 ((Ts[j]'hj')[i].1,false):=by
      unfold dV;rw [if_pos ⟨e0,hne⟩,getD_in aD,show (i2:Int).toNat=i2 by omega]
     have hjs:j<(Ts.set j (dV (Ts[j]'hj') i i2)).length:=by rw [List.length_set];exact hj'
     have hl:=hI.live hjs
     rw [mq hj' _ hjs,e2] at hl
     have hnn:=h.inv.nn hj' _ (List.getElem_mem Ap)
     refine (q.RP t hi (j:=i2) (by omega) aD Ap (fun z=>hne (by rw [z])) h0 (h.inv.GZ hj') (D2:=eO D (Ts[j]'hj') i i2) ?_ hl).mono ?_
     ·by_cases z0:(Ts[j]'hj')[i2].1=0
      ·exact .inl ⟨z0,by rw [e1,if_pos z0]⟩
      ·refine .inr ⟨by omega,by rw [e1,if_neg z0],?_⟩
       exact (h.inv.dup2 hk hj' Ap (by omega) h0 (eG hj' aD)).2
     ·rintro y w' ⟨rfl,hG⟩
      exact ⟨_,_,⟨by rw [e0];rfl,rfl,rfl⟩,by rw [e2];exact hG⟩
   ·have e0:eD (Ts[j]'hj') x y9=2:=by unfold eD;rw [if_pos hx,if_neg hy]
    refine (q.Gh t x y9 hx hy).mono ?_
    rintro y w' ⟨rfl,hG⟩
    exact ⟨_,_,⟨by rw [e0];rfl,(if_neg (fun z=>by rw [e0] at z;omega)).symm,(if_neg (fun z=>by rw [e0] at z;omega)).symm⟩,hG⟩
  ·have hx':aG (Ts[j]'hj') x=false:=by simpa using hx
   have e0:eD (Ts[j]'hj') x y9=7:=if_neg hx
   refine (q.rH t x y9 hx').mono ?_
   rintro y w' ⟨rfl,hG⟩
   exact ⟨_,_,⟨by rw [e0];rfl,(if_neg (fun z=>by rw [e0] at z;omega)).symm,(if_neg (fun z=>by rw [e0] at z;omega)).symm⟩,hG⟩
 ·obtain ⟨_,rfl,rfl⟩:=hq
  exact hI
theorem KD.pipe (h:KD w m f r D bs Ts k A) (hn:D.nx<890) (hj:j<bs.length) {n:Nat}(hN:qR D.E n) :
 Calls Tryz.prog 54 #[wp f,wp bs[j]] w fun z w'=>∃D' N' A',(∃x y c,z=.returned (.tuple #[.int .i64 x,.int .i64 y,aH c])∧qc D (Ts[j]'(h.jT hj)) n x y c D' N')∧KD w' m f r D' bs (Ts.set j N') k A'∧Stp w w' A A':=by
 refine h.call hj (Q:=fun z D' N'=>∃x y c,z=.returned (.tuple #[.int .i64 x,.int .i64 y,aH c])∧qc D (Ts[j]'(h.jT hj)) n x y c D' N') (fun g n9 M hj' q t _=>?_) (fun y D' N' hq=>?_)
 ·obtain rfl:=hN.one q.vN
  by_cases hf:sV (Ts[j]'hj') n
  ·refine (q.Bf t hf (q.few h.inv.core.ja)).mono ?_
   rintro y w' ⟨rfl,hG⟩
   exact ⟨_,_,⟨0,0,12,rfl,.inl ⟨hf,rfl,rfl,rfl,rfl,rfl⟩⟩,hG⟩
  ·obtain ⟨l1,l2⟩:=h.inv.zu hj' hf
   have g:=h.inv.core.ja
   refine (q.wJ t g hn (fun d e he=>?_) hf l1 l2 (h.inv.live hj')).mono ?_
   ·by_cases hk:e.kind=1
    ·exact .inr hk
    ·have:=((h.inv.core.dX d e he).pipe hk).2.1
     exact .inl (by omega)
   ·rintro y w' ⟨rfl,hG⟩
    exact ⟨_,_,⟨_,_,0,rfl,.inr ⟨hf,rfl,rfl,rfl,rfl,rfl⟩⟩,hG⟩
 ·obtain ⟨x,y,c,_,hP⟩:=hq
  rcases hP with ⟨_,_,_,_,rfl,rfl⟩|⟨hf,_,_,_,rfl,rfl⟩
  ·exact h.inv.kU (h.jT hj)
  ·obtain ⟨l1,l2⟩:=h.inv.zu (h.jT hj) hf
   exact h.inv.pipe hn (h.jT hj) l1 l2
theorem KD.read (h:KD w m f r D bs Ts k A) (hj:j<bs.length) (x a:Int) :
 Calls Tryz.prog 63 #[wp f,wp bs[j],.int .i64 x,.int .i64 a] w fun y w'=>∃D' N' A',(y=.returned (.tuple #[tx (dh D (Ts[j]'(h.jT hj)) x a).1,aH (dh D (Ts[j]'(h.jT hj)) x a).2.1])∧D'=(dh D (Ts[j]'(h.jT hj)) x a).2.2∧N'=Ts[j]'(h.jT hj))∧KD w' m f r D' bs (Ts.set j N') k A'∧Stp w w' A A':=by
 refine h.call hj (Q:=fun y D' N'=>y=.returned (.tuple #[tx (dh D (Ts[j]'(h.jT hj)) x a).1,aH (dh D (Ts[j]'(h.jT hj)) x a).2.1])∧D'=(dh D (Ts[j]'(h.jT hj)) x a).2.2∧N'=Ts[j]'(h.jT hj)) (fun g n9 M hj' q t _=>?_) (fun y D' N' hq=>?_)
 ·by_cases hx:aG (Ts[j]'hj') x=true
  ·obtain ⟨i,rfl,hi,aD,h0⟩:=dL hx t.len
   obtain ⟨e,he⟩:=Option.isSome_iff_exists.1 (h.inv.live hj' i aD h0)
   have ok:=h.inv.core.dX _ e he
   by_cases hp2:e.af=2
   ·rw [Eg hi aD h0 he hp2]
    refine (q.vv t i a 13 (by omega) (q.rT t hi aD h0 he 1 (.inl ⟨rfl,hp2⟩))).mono ?_
    rintro y w' ⟨rfl,hG⟩
    exact ⟨_,_,⟨rfl,rfl,rfl⟩,hG⟩
   ·by_cases hk:e.kind=1
    ·obtain ⟨a1,a2,a3,a4,a5,a6⟩:=ok.file hk
     rw [FJ hi aD h0 he hk hp2]
     have hl:=zk (x:=e.node) (c:=a) h.inv.core.sm a5 a6
     refine (q.JQ t hi aD h0 he a hk (by omega) ⟨a3,a4⟩ ⟨a5,a6⟩ (by omega)).mono ?_
     rintro y w' ⟨rfl,hG⟩
     exact ⟨_,_,⟨rfl,rfl,rfl⟩,hG⟩
    ·obtain ⟨a1,a2,p,a3,a4,a5,a6,a7,a8⟩:=ok.pipe hk
     have hpr:e.af=1:=by
      rcases ok.kind with z|z|z
      ·exact absurd z hk
      ·exact ok.bZ z
      ·exact absurd (ok.into z) hp2
     rw [JS hi aD h0 he hk hp2 a3]
     refine (q.NI t hi aD h0 he a hk (.inl hpr) a3 a7).mono ?_
     rintro y w' ⟨rfl,hG⟩
     exact ⟨_,_,⟨rfl,rfl,rfl⟩,hG⟩
  ·have hx':aG (Ts[j]'hj') x=false:=by simpa using hx
   rw [NJ hx']
   refine (q.vv t x a 7 (by omega) (q.yS t x 1 hx')).mono ?_
   rintro y w' ⟨rfl,hG⟩
   exact ⟨_,_,⟨rfl,rfl,rfl⟩,hG⟩
 ·obtain ⟨_,rfl,rfl⟩:=hq
  exact (h.inv.read (h.jT hj) x a).kU (h.jT hj)
theorem KD.write (h:KD w m f r D bs Ts k A) (hj:j<bs.length) (x:Int) (s:List UInt8) (hs:s.length<100000) (a:Int) :
 Calls Tryz.prog 59 #[wp f,wp bs[j],.int .i64 x,tx s,.int .i64 a] w fun y w'=>∃D' N' A',(y=.returned (.tuple #[.int .i64 (cu D (Ts[j]'(h.jT hj)) x s a).1,aH (cu D (Ts[j]'(h.jT hj)) x s a).2.1])∧D'=(cu D (Ts[j]'(h.jT hj)) x s a).2.2∧N'=Ts[j]'(h.jT hj))∧KD w' m f r D' bs (Ts.set j N') (k+1) A'∧Stp w w' A A':=by
 refine h.call hj (Q:=fun y D' N'=>y=.returned (.tuple #[.int .i64 (cu D (Ts[j]'(h.jT hj)) x s a).1,aH (cu D (Ts[j]'(h.jT hj)) x s a).2.1])∧D'=(cu D (Ts[j]'(h.jT hj)) x s a).2.2∧N'=Ts[j]'(h.jT hj)) (fun g n9 M hj' q t _=>?_) (fun y D' N' hq=>?_)
 ·by_cases hx:aG (Ts[j]'hj') x=true
  ·obtain ⟨i,rfl,hi,aD,h0⟩:=dL hx t.len
   obtain ⟨e,he⟩:=Option.isSome_iff_exists.1 (h.inv.live hj' i aD h0)
   have ok:=h.inv.core.dX _ e he
   by_cases hp1:e.af=1
   ·rw [BO hi aD h0 he hp1]
    refine (q.rM t i s a 13 (by omega) (q.rT t hi aD h0 he 2 (.inr ⟨rfl,hp1⟩))).mono ?_
    rintro y w' ⟨rfl,hG⟩
    exact ⟨_,_,⟨rfl,rfl,rfl⟩,hG⟩
   ·by_cases hk:e.kind=1
    ·obtain ⟨a1,a2,a3,a4,a5,a6⟩:=ok.file hk
     by_cases hl:ng s a e.pos
     ·rw [BN hi aD h0 he hk hp1 hl]
      refine (q.D6 t hi aD h0 he s a hk (by omega) ⟨a5,a6⟩ hs hl).mono ?_
      rintro y w' ⟨rfl,hG⟩
      exact ⟨_,_,⟨rfl,rfl,rfl⟩,hG⟩
     ·refine (q.Fu t hi aD h0 he s a hk (by omega) ⟨a3,a4⟩ ⟨a5,a6⟩ hs h.inv.core.lv hl).mono ?_
      rintro y w' (⟨hE,rfl,hG⟩|⟨hE,rfl,hG⟩)
      ·rw [Fw hi aD h0 he hk hp1 hl hE]
       exact ⟨_,_,⟨by rw [az hE],rfl,rfl⟩,hG⟩
      ·rw [D8 hi aD h0 he hk hp1 hl hE]
       exact ⟨_,_,⟨rfl,rfl,rfl⟩,hG⟩
    ·obtain ⟨a1,a2,p,a3,a4,a5,a6,a7,a8⟩:=ok.pipe hk
     have hpr:e.af=2:=by
      rcases ok.kind with z|z|z
      ·exact absurd z hk
      ·exact absurd (ok.bZ z) hp1
      ·exact ok.into z
     rw [Fv hi aD h0 he hk hp1 a3]
     refine (q.Je t hi aD h0 he s a hk (.inl hpr) a3).mono ?_
     rintro y w' ⟨rfl,hG⟩
     exact ⟨_,_,⟨rfl,rfl,rfl⟩,hG⟩
  ·have hx':aG (Ts[j]'hj') x=false:=by simpa using hx
   rw [Jg hx']
   refine (q.rM t x s a 7 (by omega) (q.yS t x 2 hx')).mono ?_
   rintro y w' ⟨rfl,hG⟩
   exact ⟨_,_,⟨rfl,rfl,rfl⟩,hG⟩
 ·obtain ⟨_,rfl,rfl⟩:=hq
  exact (h.inv.write (h.jT hj) x s a).kU (h.jT hj)
theorem KD.clear (h:KD w m f r D bs Ts k A) (hk:k≤900) (hj:j<bs.length) :
 Calls Tryz.prog 250 #[wp f,wp bs[j]] w fun y w'=>∃D' N' A',(y=.returned (.tuple #[])∧D'=(ai true D (Ts[j]'(h.jT hj)) 8).1∧N'=(ai true D (Ts[j]'(h.jT hj)) 8).2)∧KD w' m f r D' bs (Ts.set j N') k A'∧Stp w w' A A':=by
 refine h.call hj (Q:=fun y D' N'=>y=.returned (.tuple #[])∧D'=(ai true D (Ts[j]'(h.jT hj)) 8).1∧N'=(ai true D (Ts[j]'(h.jT hj)) 8).2) (fun g n9 M hj' q t _=>?_) (fun y D' N' hq=>?_)
 ·refine (q.wV t h.inv hk hj' rfl).mono ?_
  rintro y w' ⟨rfl,hG⟩
  exact ⟨_,_,⟨rfl,rfl,rfl⟩,hG⟩
 ·obtain ⟨_,rfl,rfl⟩:=hq
  exact h.inv.free hk (h.jT hj) true 8 (by omega)
theorem KD.exec (h:KD w m f r D bs Ts k A) (hk:k≤900) (hj:j<bs.length) :
 Calls Tryz.prog 115 #[wp f,wp bs[j]] w fun y w'=>∃D' N' A',(y=.returned (.tuple #[])∧D'=(ai false D (Ts[j]'(h.jT hj)) 8).1∧N'=(ai false D (Ts[j]'(h.jT hj)) 8).2)∧KD w' m f r D' bs (Ts.set j N') k A'∧Stp w w' A A':=by
 refine h.call hj (Q:=fun y D' N'=>y=.returned (.tuple #[])∧D'=(ai false D (Ts[j]'(h.jT hj)) 8).1∧N'=(ai false D (Ts[j]'(h.jT hj)) 8).2) (fun g n9 M hj' q t _=>?_) (fun y D' N' hq=>?_)
 ·refine (q.RH t h.inv hk hj' rfl).mono ?_
  rintro y w' ⟨rfl,hG⟩
  exact ⟨_,_,⟨rfl,rfl,rfl⟩,hG⟩
 ·obtain ⟨_,rfl,rfl⟩:=hq
  exact h.inv.free hk (h.jT hj) false 8 (by omega)
theorem KD.fork (h:KD w m f r D bs Ts k A) (hf:Ts.length<500) (hj:j<bs.length) :
 Calls Tryz.prog 140 #[wp f,wp bs[j]] w fun y w'=>∃A',y=.returned (wp w.heap.size)∧KD w' m f r (iO D (Ts[j]'(h.jT hj))) (bs ++ [w.heap.size]) (Ts ++ [Ts[j]'(h.jT hj)]) k A'∧Stp w w' A A':=by
 obtain ⟨g,n,h1,hr,ht,hA⟩:=h.st
 have hj':=h.jT hj
 obtain ⟨M,tj⟩:=ht j hj hj'
 refine (h1.rG tj h.inv hj' rfl).mono ?_
 rintro y w' ⟨rfl,a1,a2,a3,wt⟩
 have hst:Stp w w' A (fun i=>A i∨(w.heap.size≤i∧i<w'.heap.size)):=⟨wt.mono hA,fun i hi=>by
  rcases hi with hi|hi
  ·exact .inl hi
  ·exact .inr hi.1⟩
 have hbl:∀x∈bs,x<w.heap.size:=fun x hx=>h.lt x (h.Po x hx)
 refine ⟨_,rfl,⟨⟨g,n,a1,hr,fun x hx hx'=>?_,fun i hi=>.inl (hA i hi)⟩,by rw [List.length_append,List.length_append,h.len];rfl,?_,fun b hb=>?_,h.inv.fork hf hj',fun i hi=>?_,(hst.bg h.ml h.mn).1,(hst.bg h.ml h.mn).2,(hst.bg h.er h.en).1,(hst.bg h.er h.en).2⟩,hst⟩
 ·by_cases e1:x<bs.length
  ·have e2:x<Ts.length:=by rw [←h.len];exact e1
   rw [List.getElem_append_left e1,List.getElem_append_left e2]
   obtain ⟨Mx,tx⟩:=ht x e1 e2
   exact ⟨Mx,tx.keep (wt.block _ tx.tab.lt (by rw [tx.off];simp))⟩
  ·have e3:x=bs.length:=by rw [List.length_append] at hx;simp at hx;omega
   have e4:x=Ts.length:=by rw [←h.len];exact e3
   subst e3
   rw [List.getElem_concat_length rfl]
   have:(Ts ++ [Ts[j]])[bs.length]'hx'=Ts[j]:=by
    rw [List.getElem_append_right (by omega)]
    simp
   rw [this]
   exact ⟨M,a3⟩
 ·rw [List.nodup_append]
  exact ⟨h.nd,by simp,fun a ha b hb e=>by rw [List.mem_singleton.1 hb] at e;have:=hbl a ha;omega⟩
 ·rcases List.mem_append.1 hb with z|z
  ·exact .inl (h.Po b z)
  ·rw [List.mem_singleton.1 z]
   exact .inr ⟨Nat.le_refl _,a3.tab.lt⟩
 ·rcases hi with hi|hi
  ·exact Nat.lt_of_lt_of_le (h.lt i hi) wt.size
  ·exact hi.2
end
abbrev bE:Ns:=List.replicate 8 (0,false)
def KW (w0 w:World) (m:Int) (f r:Nat) (D:DS) (bs:List Nat) (Ts:List Ns) (k:Nat):Prop:=∃A,KD w m f r D bs Ts k A∧(∀i,A i→w0.heap.size≤i)∧Below w0.heap.size w0 w
section
variable {w w' w2 w0 w1:World}{f r b n k k' j:Nat}{D D':DS}{g g':QG}{bs:List Nat}{Ts Ts':List Ns}{M N N':Ns}{d m:Int}{A A':Nat→Prop}
theorem Inv.none {T:Wd}{k:Nat}(hT:bq T) (hs:Sm k T):Inv (nZ T) [] k:=
 ⟨⟨Ej T,hT,hs,fun d e h=>(by cases h),fun d _=>by simp [nZ,iB],fun d _=>by simp [nZ,iB]⟩,fun N hN=>(by cases hN),by simp⟩
theorem Qv:Sm 0 iF:=⟨fun i C e=>by
 obtain ⟨_,e9⟩:=bn e;cases e9;simp,fun i b x e=>by
 obtain ⟨_,e9⟩:=bn e;cases e9⟩
theorem KW.first (w:World) (hm:w.cell? ⟨4,0,none⟩=some (.int .i64 m)) (he:w.cell? ⟨0,0,none⟩=some fC) :
 Calls Tryz.prog 47 #[] w fun y w'=>∃r,y=.returned (wp r)∧Below w.heap.size w w'∧Calls Tryz.prog 48 #[wp r] w' fun y w2=>∃f,y=.returned (.tuple #[wp f,.nilIface])∧KW w w2 m f r (nZ iF) [] [] 0:=by
 refine (UI w).mono ?_
 rintro y w1 ⟨r,O,rfl,p1,b1,hO⟩
 refine ⟨r,rfl,b1,(ZV.ok p1).mono ?_⟩
 rintro y w2 ⟨f,g,rfl,q,hk,hr,b2⟩
 have bb:=b1.trans (b2.mono b1.size)
 have hA:∀i,(g.cZ i).isSome=true→w.heap.size≤i:=fun i hi=>by
  by_cases e1:i<w1.heap.size
  ·exact hO i ((hk i e1).1 hi)
  ·have:=b1.size;omega
 have sw:=World.block_lt_of_cell? w _ hm
 have hel:=World.block_lt_of_cell? w _ he
 refine ⟨f,rfl,fun i=>(g.cZ i).isSome=true,⟨⟨g,0,q,hr,fun j h=>(by simp at h),fun i hi=>hi⟩,rfl,List.nodup_nil,fun b hb=>(by cases hb),Inv.none NY Qv,fun i hi=>q.lt i hi,cell_below hm bb,fun z=>?_,cell_below he bb,fun z=>?_⟩,hA,bb⟩
 ·have:=hA _ z
  simp only at sw
  omega
 ·have:=hA _ z
  simp only at hel
  omega
theorem Lc {d:Int}(hd:0<d):qx d bE=0:=by
 unfold qx
 rw [List.length_eq_zero_iff,List.filter_eq_nil_iff]
 intro x hx
 rw [List.eq_of_mem_replicate hx]
 simp;omega
theorem KD.table (h1:KD w m f r D bs Ts k A) (hf:Ts.length<8):KD (w.alloc (.cells (nv bE).toArray 216)) m f r D (bs ++ [w.heap.size]) (Ts ++ [bE]) k (fun i=>A i∨i=w.heap.size):=by
 have bA:Below w.heap.size w (w.alloc (.cells (nv bE).toArray 216)):=(Below.refl _ w).alloc (Nat.le_refl _) _
 have hsz:(w.alloc (.cells (nv bE).toArray 216)).heap.size=w.heap.size+1:=by show (w.heap.push _).size=_;rw [Array.size_push]
 have hn:(w.alloc (.cells (nv bE).toArray 216)).heap[w.heap.size]? = some (.cells (nv bE).toArray 216):=by
  show (w.heap.push _)[w.heap.size]? = _
  rw [Array.getElem?_push,if_pos rfl]
 obtain ⟨g,n,q,hr,ht,hk⟩:=h1.st
 have h2:=h1.below bA
 have sw:=World.block_lt_of_cell? _ _ h1.ml
 have hel:=World.block_lt_of_cell? _ _ h1.er
 simp only at sw hel
 have hz:dB (w.alloc (.cells (nv bE).toArray 216)) w.heap.size g bE bE:=by
  refine ⟨⟨hn,rfl,fun x hx=>?_⟩,Ip q,rfl,fun i h1 h2=>?_⟩
  ·rw [List.eq_of_mem_replicate hx];simp
  ·have e1:(bE)[i]=(0,false):=List.eq_of_mem_replicate (List.getElem_mem h1)
   exact ⟨rfl,.inl ⟨congrArg Prod.fst e1,congrArg Prod.fst e1⟩⟩
 refine ⟨⟨g,n,q.below bA,hr,fun x hx hx'=>?_,fun i hi=>.inl (hk i hi)⟩,by rw [List.length_append,List.length_append,h1.len];rfl,?_,fun b hb=>?_,⟨h1.inv.core.congr (fun d hd=>?_),fun N hN=>?_,by rw [List.length_append];simp;omega⟩,fun i hi=>?_,h2.ml,fun z=>?_,h2.er,fun z=>?_⟩
 ·by_cases e1:x<bs.length
  ·have e2:x<Ts.length:=by rw [←h1.len];exact e1
   rw [List.getElem_append_left e1,List.getElem_append_left e2]
   obtain ⟨Mx,tx⟩:=ht x e1 e2
   exact ⟨Mx,tx.below bA⟩
  ·have e3:x=bs.length:=by rw [List.length_append] at hx;simp at hx;omega
   have e4:=h1.len
   subst e3
   rw [List.getElem_concat_length rfl]
   have:(Ts ++ [bE])[bs.length]'hx'=bE:=by
    rw [List.getElem_append_right (by omega)]
    simp
   rw [this]
   exact ⟨bE,hz⟩
 ·rw [List.nodup_append]
  exact ⟨h1.nd,by simp,fun a ha b hb e=>by rw [List.mem_singleton.1 hb] at e;have:=h1.lt a (h1.Po a ha);omega⟩
 ·rcases List.mem_append.1 hb with z|z
  ·exact .inl (h1.Po b z)
  ·exact .inr (List.mem_singleton.1 z)
 ·have:=Lc hd
  simp only [iB,List.map_append,List.sum_append,List.map_cons,List.map_nil,List.sum_cons,List.sum_nil]
  omega
 ·rcases List.mem_append.1 hN with z|z
  ·exact h1.inv.tab N z
  ·rw [List.mem_singleton.1 z]
   exact ⟨rfl,fun x hx=>by rw [List.eq_of_mem_replicate hx];simp⟩
 ·rw [hsz]
  rcases hi with z|z
  ·have:=h1.lt i z;omega
  ·omega
 ·rcases z with z|z
  ·exact h1.mn z
  ·omega
 ·rcases z with z|z
  ·exact h1.en z
  ·omega
end
end Go.Proofs.YtcfhanoekniaaaaGreatDoor
namespace Go.Proofs.YtcfhanoekniaaaaGreatDoor
open Go.RowKit Go.Shelf Go.Lib Go.Sort Go.Maps
abbrev Sq:=Nat×Nat×PM
def jH (L:List Sq) (f:Int):Nat:=(L.map fun x=>sh x.2.2 f).sum
theorem CS {L:List Sq}{i:Nat}(hi:i<L.length) (x:Sq) (f:Int):jH (L.set i x) f+sh L[i].2.2 f=jH L f+sh x.2.2 f:=by
 unfold jH
 induction L generalizing i with
 |nil=>cases hi
 |cons y r ih=>
  cases i with
  |zero=>simp;omega
  |succ i=>
   have:=ih (i:=i) (by simpa using hi)
   simp at this ⊢;omega
theorem A8 {L:List Sq}{i:Nat}(hi:i<L.length) (f:Int):sh L[i].2.2 f≤jH L f:=by
 unfold jH
 induction L generalizing i with
 |nil=>cases hi
 |cons y r ih=>
  cases i with
  |zero=>simp
  |succ i=>
   have:=ih (i:=i) (by simpa using hi)
   simp at this ⊢;omega
theorem Nr (L:List Sq) (x:Sq) (f:Int):jH (L ++ [x]) f=jH L f+sh x.2.2 f:=by unfold jH;simp
theorem Qr {L:List Sq}{f:Int}(h:∀x∈L,sh x.2.2 f≤1):jH L f≤L.length:=by
 unfold jH
 induction L with
 |nil=>simp
 |cons y r ih=>
  have h1:=h y (by simp)
  have h2:=ih (fun x hx=>h x (by simp [hx]))
  simp at h2 ⊢;omega
def vJ (L:List Sq) (i:Nat) (hi:i<L.length) (f:Int):Nat:=jH L f-sh L[i].2.2 f
theorem vz {L:List Sq}{i:Nat}(hi:i<L.length) (f:Int):sh L[i].2.2 f+vJ L i hi f=jH L f:=by
 have:=A8 hi f;unfold vJ;omega
structure Al (E:St) (w:World) (D:Nat→Nat→Int) (A:Nat→Prop) (L:List Sq):Prop where
 sp:∀i (hi:i<L.length),VS E w L[i].1 L[i].2.1 D A L[i].2.2 (vJ L i hi)
 apart:∀i j (hi:i<L.length) (hj:j<L.length),L[i].2.1=L[j].2.1→i=j
 pos:0<L.length
def I8 (E:St) (A:Nat→Prop) (L:List Sq) (i:Nat):Prop:=bD E A i∨∃x∈L,i=x.2.1
def CF (E:St) (w:World) (A:Nat→Prop) (L:List Sq) (w':World) (D:Nat→Nat→Int) (L':List Sq):Prop:=
 ∃A',Al E w' D A' L'∧Fr (I8 E A L) w w'∧∀i,i<w.heap.size→I8 E A' L' i→I8 E A L i
section
variable {E:St}{w w':World}{D D':Nat→Nat→Int}{A:Nat→Prop}{L:List Sq}
theorem H5 {i:Nat}(hi:i<L.length):gH (fun f=>sh L[i].2.2 f+vJ L i hi f)=gH (jH L):=fB (fun x _=>vz hi x)
theorem Al.st (h:Al E w D A L):Vs E w D (gH (jH L)) A:=by
 have:=(h.sp 0 h.pos).st
 rwa [H5] at this
theorem Al.below (h:Al E w D A L) (hb:Below w.heap.size w w'):Al E w' D A L:=⟨fun i hi=>(h.sp i hi).below hb,h.apart,h.pos⟩
theorem Al.Ac (h:Al E w D A L) {i:Nat}(ho:I8 E A L i):i<w.heap.size:=by
 rcases ho with ho|⟨x,hx,rfl⟩
 ·exact h.st.Ac ho
 ·obtain ⟨j,hj,rfl⟩:=List.mem_iff_getElem.1 hx
  exact (h.sp j hj).sp.qW
theorem BR {i:Nat}(hi:i<L.length) (x:Sq) (f:Int):vJ (L.set i x) i (by simpa using hi) f=vJ L i hi f:=by
 have:=CS hi x f
 have:=A8 hi f
 unfold vJ;simp;omega
theorem Al.turn (h:Al E w D A L) {i:Nat}(hi:i<L.length) {P':PM}(t:aT E w L[i].1 L[i].2.1 A w' D' P' (vJ L i hi)):CF E w A L w' D' (L.set i (L[i].1,L[i].2.1,P')):=by
 obtain ⟨A',v,f,s⟩:=t
 have hl:(L.set i (L[i].1,L[i].2.1,P')).length=L.length:=by simp
 have vi:=h.sp i hi
 have hown:∀j,j<w.heap.size→bD E A' j→bD E A j:=fun j hj ho=>by
  rcases ho with ho|ho
  ·exact .inl (s j hj ho)
  ·exact .inr ho
 have Yp:gH (fun f=>sh P' f+vJ L i hi f)=gH (jH (L.set i (L[i].1,L[i].2.1,P'))):=fB (fun x _=>by
  have h1:=CS hi (L[i].1,L[i].2.1,P') x
  have h2:=A8 hi x
  unfold vJ;simp only at h1;omega)
 refine ⟨A',⟨fun j hj=>?_,fun j k hj hk e=>?_,by rw [hl];exact h.pos⟩,f.mono (fun j _ ho=>?_),fun j hj ho=>?_⟩
 ·by_cases e:j=i
  ·subst e
   have e1:(L.set j (L[j].1,L[j].2.1,P'))[j]=(L[j].1,L[j].2.1,P'):=by simp
   rw [e1]
   have:(vJ (L.set j (L[j].1,L[j].2.1,P')) j hj)=vJ L j hi:=by funext z;exact BR hi _ z
   rw [this];exact v
  ·have hj':j<L.length:=by simpa using hj
   have e1:(L.set i (L[i].1,L[i].2.1,P'))[j]=L[j]:=by simp [Ne.symm e]
   have vj:=h.sp j hj'
   rw [e1]
   have hgj:L[j].2.1≠L[i].2.1:=fun he=>e (h.apart j i hj' hi he)
   have hcj:L[j].1≠L[i].2.1:=fun he=>by
    obtain ⟨es,cl,hm⟩:=vi.sp.map.isMap
    rw [←he,vj.sp.head] at hm;cases hm
   refine ⟨?_,vj.sp.keep (f.block _ vj.sp.lt (fun ho=>?_)) (f.block _ vj.sp.qW (fun ho=>?_)),vj.ok,vj.Af,fun ho=>vj.kN (hown _ vj.sp.lt ho),fun ho=>vj.gK (hown _ vj.sp.qW ho),vj.gb,vj.gm⟩
   ·have hR:gH (fun f=>sh L[j].2.2 f+vJ (L.set i (L[i].1,L[i].2.1,P')) j hj f)=gH (jH (L.set i (L[i].1,L[i].2.1,P'))):=fB (fun x _=>by
     have:=vz hj x;rw [e1] at this;exact this)
    rw [hR,←Yp];exact v.st
   ·rcases ho with ho|ho
    ·exact vj.kN ho
    ·exact hcj ho
   ·rcases ho with ho|ho
    ·exact vj.gK ho
    ·exact hgj ho
 ·have hj':j<L.length:=by simpa using hj
  have hk':k<L.length:=by simpa using hk
  refine h.apart j k hj' hk' ?_
  have g:∀m (hm:m<L.length),(L.set i (L[i].1,L[i].2.1,P'))[m]'(by simpa using hm)=if i=m then (L[i].1,L[i].2.1,P') else L[m]:=fun m hm=>by rw [List.getElem_set]
  rw [g j hj',g k hk'] at e
  by_cases e1:i=j<;>by_cases e2:i=k
  ·subst e1;subst e2;rfl
  ·subst e1;simpa [e2] using e
  ·subst e2;simpa [e1] using e
  ·simpa [e1,e2] using e
 ·rcases ho with ho|ho
  ·exact .inl ho
  ·exact .inr ⟨L[i],List.getElem_mem hi,ho⟩
 ·rcases ho with ho|⟨x,hx,rfl⟩
  ·exact .inl (hown j hj ho)
  ·rcases List.mem_or_eq_of_mem_set hx with hx|rfl
   ·exact .inr ⟨x,hx,rfl⟩
   ·exact .inr ⟨L[i],List.getElem_mem hi,rfl⟩
theorem Al.wy (h:Al E w D A L) {i:Nat}(hi:i<L.length) {c':Nat}(t:MG E w L[i].1 L[i].2.1 c' A w' D L[i].2.2 (vJ L i hi)):∃gc',CF E w A L w' D (L ++ [(c',gc',L[i].2.2)])∧w.heap.size≤c':=by
 obtain ⟨gc',A',v,v',f,s,lc,lg⟩:=t
 have hown:∀j,j<w.heap.size→bD E A' j→bD E A j:=fun j hj ho=>by
  rcases ho with ho|ho
  ·exact .inl (s j hj ho)
  ·exact .inr ho
 have Yp:gH (fun f=>sh L[i].2.2 f+(vJ L i hi f+sh L[i].2.2 f))=gH (jH (L ++ [(c',gc',L[i].2.2)])):=fB (fun x _=>by
  have h1:=Nr L (c',gc',L[i].2.2) x
  have h2:=vz hi x
  simp only at h1;omega)
 have hst:Vs E w' D (gH (jH (L ++ [(c',gc',L[i].2.2)]))) A':=by rw [←Yp];exact v.st
 refine ⟨gc',⟨A',⟨fun j hj=>?_,fun j k hj hk e=>?_,by simp⟩,f.mono (fun j _ ho=>.inl ho),fun j hj ho=>?_⟩,lc⟩
 ·have hR:gH (fun f=>sh (L ++ [(c',gc',L[i].2.2)])[j].2.2 f+vJ (L ++ [(c',gc',L[i].2.2)]) j hj f)=gH (jH (L ++ [(c',gc',L[i].2.2)])):=H5 hj
  by_cases e:j<L.length
  ·have e1:(L ++ [(c',gc',L[i].2.2)])[j]=L[j]:=by rw [List.getElem_append_left e]
   have vj:=h.sp j e
   rw [e1] at hR ⊢
   exact ⟨by rw [hR];exact hst,vj.sp.keep (f.block _ vj.sp.lt vj.kN) (f.block _ vj.sp.qW vj.gK),vj.ok,vj.Af,fun ho=>vj.kN (hown _ vj.sp.lt ho),fun ho=>vj.gK (hown _ vj.sp.qW ho),vj.gb,vj.gm⟩
  ·have ej:j=L.length:=by simp at hj;omega
   subst ej
   have e1:(L ++ [(c',gc',L[i].2.2)])[L.length]=(c',gc',L[i].2.2):=by simp
   rw [e1] at hR ⊢
   exact ⟨by rw [hR];exact hst,v'.sp,v'.ok,v'.Af,v'.kN,v'.gK,v'.gb,v'.gm⟩
 ·have g:∀m (hm:m<L.length),(L ++ [(c',gc',L[i].2.2)])[m]'(by simp;omega)=L[m]:=fun m hm=>by rw [List.getElem_append_left hm]
  have lt:∀m (hm:m<L.length),L[m].2.1<w.heap.size:=fun m hm=>(h.sp m hm).sp.qW
  have g':∀m (hm:m<(L ++ [(c',gc',L[i].2.2)]).length),¬m<L.length→(L ++ [(c',gc',L[i].2.2)])[m]=(c',gc',L[i].2.2):=fun m hm hn=>by
   have:m=L.length:=by simp at hm;omega
   subst this;simp
  by_cases e1:j<L.length<;>by_cases e2:k<L.length
  ·rw [g j e1,g k e2] at e;exact h.apart j k e1 e2 e
  ·rw [g j e1,g' k hk e2] at e;have:=lt j e1;simp only at e;omega
  ·rw [g' j hj e1,g k e2] at e;have:=lt k e2;simp only at e;omega
  ·simp at hj hk;omega
 ·rcases ho with ho|⟨x,hx,rfl⟩
  ·exact .inl (hown j hj ho)
  ·rcases List.mem_append.1 hx with hx|hx
   ·exact .inr ⟨x,hx,rfl⟩
   ·simp at hx;subst hx;simp only at hj;omega
theorem Al.left (h:Al E w D A L):Calls Tryz.prog 119 #[vp E.b] w fun e w'=>e=.returned (.int .i64 ((E.n-used (jH L) E.n:Nat):Int))∧w'=w:=h.st.left
theorem Al.Uy (h:Al E w D A L) (hl:L.length≤100) {i:Nat}(hi:i<L.length):∀f,0≤f→vJ L i hi f≤100:=fun f hf=>by
 have h1:=vz hi f
 have h2:=Qr (L:=L) (f:=f) (fun x hx=>by
  obtain ⟨j,hj,rfl⟩:=List.mem_iff_getElem.1 hx
  exact (h.sp j hj).Af f hf)
 omega
theorem Al.rG (h:Al E w D A L) (hl:L.length≤100) {i:Nat}(hi:i<L.length):Calls Tryz.prog 139 #[vp L[i].1] w fun e w'=>∃c',e=.returned (vp c')∧∃gc',CF E w A L w' D (L ++ [(c',gc',L[i].2.2)])∧w.heap.size≤c':=by
 refine ((h.sp i hi).rG (h.Uy hl hi)).mono ?_
 rintro e w' ⟨c',he,t⟩
 exact ⟨c',he,h.wy hi t⟩
theorem Al.keep (h:Al E w D A L) (hk:∀i,I8 E A L i→w'.heap[i]? = w.heap[i]?) (hb:w'.heap[E.b]? = w.heap[E.b]?) (hm:w'.heap[E.bm]? = w.heap[E.bm]?) (hc:∀i (hi:i<L.length),w'.heap[L[i].1]? = w.heap[L[i].1]?):Al E w' D A L:=
 ⟨fun i hi=>(h.sp i hi).keep (fun j hj=>hk j (.inl hj)) hb hm (hc i hi) (hk _ (.inr ⟨L[i],List.getElem_mem hi,rfl⟩)),h.apart,h.pos⟩
theorem Al.first {c gc:Nat}(h:VS E w c gc D A (fun _=>none) (fun _=>0)):Al E w D A [(c,gc,fun _=>none)]:=by
 refine ⟨fun i hi=>?_,fun i j hi hj _=>by simp at hi hj;omega,by simp⟩
 have:i=0:=by simp at hi;omega
 subst this
 have e:vJ [(c,gc,fun _=>none)] 0 hi=fun _=>0:=by funext f;simp [vJ,jH]
 rw [e];exact h
theorem xg {t t':Int→Nat}{n:Nat}(h:∀x,0≤x→t x=t' x):used t n=used t' n:=by unfold used;rw [fB h]
theorem tF (n:Nat):used (fun _=>0) n=0:=Ic n
theorem He (t:Int→Nat) (n:Nat):used t n=sumTo (fun f=>if t f=0 then 0 else 1) 0 n:=by
 unfold used num;refine sumTo_congr _ _ (fun i _ _=>?_)
 by_cases e:t (i:Int)=0<;>simp [gH,e]
end
section
variable {D:Nat→Nat→Int}{P:PM}{o:Int→Nat}
theorem yw.refused {n:Nat}{a k v er:Int}{P':PM}{D':Nat→Nat→Int}(h:yw n P o D a k v er P' D') (he:er≠0):P'=P∧D'=D:=by
 rcases h with ⟨_,_,h1,h2⟩|⟨_,_,_,h0,_⟩|⟨_,_,_,_,h1,h2⟩|⟨_,_,f,_,_,h0,_⟩
 ·exact ⟨h1,h2⟩
 ·exact absurd h0 he
 ·exact ⟨h1,h2⟩
 ·exact absurd h0 he
end
end Go.Proofs.YtcfhanoekniaaaaGreatDoor
namespace Go.Proofs.YtcfhanoekniaaaaGreatDoor
structure Ow where
 j:Nat
 m:Nat→Int
 dO:Int
structure KS where
 n:Nat
 P:Ps
 D:DS
 Ts:List Ns
 Ms:List PM
 W:Nat→Nat→Int
 O:Int→Option Ow
def kL:PM:=fun _=>none
def aK (S:KS) (j:Nat):PM:=S.Ms.getD j kL
def ax (S:KS) (j:Nat):Ns:=S.Ts.getD j bE
def jM (S:KS) (j:Nat):Nat→Int:=fun k=>if k=0 then ((bI (aK S j):Nat):Int) else if k=1 then ((aj (ax S j):Nat):Int) else 0
theorem vT {S:KS}{j:Nat}(h:j<S.Ms.length):aK S j=S.Ms[j]:=by unfold aK;rw [List.getD_eq_getElem?_getD,List.getElem?_eq_getElem h];rfl
theorem iD {S:KS}{j:Nat}(h:j<S.Ts.length):ax S j=S.Ts[j]:=by unfold ax;rw [List.getD_eq_getElem?_getD,List.getElem?_eq_getElem h];rfl
structure oW (S:KS):Prop where
 run:∀p,(S.O p).isSome=ay S.P p
 gone:∀j,j<S.Ts.length→(∀p o,S.O p=some o→o.j≠j)→ax S j=bE∧aK S j=kL
 fit:∀p o,S.O p=some o→Fit o.m∧-100≤o.dO∧o.dO≤100
theorem tH {N:Ns}(h:N.length=8):aj N≤8:=by have:=vo N;omega
def jI (O:Int→Option Ow) (p:Int) (o:Ow):Int→Option Ow:=fun x=>if x=p then some o else O x
def jU (O:Int→Option Ow) (p:Int):Int→Option Ow:=fun x=>if x=p then none else O x
theorem dH (O:Int→Option Ow) (p:Int) (o:Ow):jI O p o p=some o:=if_pos rfl
theorem fG {O:Int→Option Ow}{p x:Int}{o:Ow}(h:x≠p):jI O p o x=O x:=if_neg h
end Go.Proofs.YtcfhanoekniaaaaGreatDoor
namespace Go.Proofs.YtcfhanoekniaaaaGreatDoor
open Go.RowKit Go.Maps
structure KH where
 kb:Nat
 eb:Nat
 f:Nat
 r:Nat
 t:Nat
 g:Nat
 gm:Nat
 hs:Nat→Nat
 sp:Nat→Nat
 tb:Nat→Nat
 ok:Bool
def uY (ok:Bool) (w:World):Prop:=2<w.heap.size∧(ok=true→lZ w)
theorem uY.lt {ok:Bool}{w:World}(h:uY ok w):2<w.heap.size:=h.1
theorem uY.keep {ok:Bool}{w w':World}(h:uY ok w) (hb:w'.heap[2]? = w.heap[2]?):uY ok w':=
 ⟨by
  have h1:=h.1
  rw [Array.getElem?_eq_getElem h1] at hb
  exact (Array.getElem?_eq_some_iff.1 hb).1,fun e=>(h.2 e).keep hb⟩
structure KG where
 E:St
 Av:Nat→Prop
 L:List Sq
 bs:List Nat
 Ad:Nat→Prop
 κ:Nat→Nat
abbrev Yo (H:KH):Array Value:=#[wp H.eb,wp H.r,wp H.f,wp H.t,.map (some H.gm)]
structure KM (w:World) (m:Int) (H:KH) (S:KS) (U:Nat→Nat→Int) (q:Nat) (G:KG):Prop where
 head:w.heap[H.kb]? = some (.cells (Yo H) 106)
 eb:G.E.b=H.eb
 en:G.E.n=S.n
 al:Al G.E w S.W G.Av G.L
 ms:G.L.map (fun x=>x.2.2)=S.Ms
 sp:∀j (h:j<G.L.length),G.L[j].1=H.sp j
 kd:KD w m H.f H.r S.D G.bs S.Ts (2*q) G.Ad
 tb:∀j (h:j<G.bs.length),G.bs[j]=H.tb j
 qj:∃c,QJ w H.t H.g S.P c
 map:∃z,aF w H.gm z (fun p=>(S.O p).map (fun o=>wp (H.hs o.j)))
 hold:∀p o,S.O p=some o→Hd w (H.hs o.j) (H.sp o.j) (H.tb o.j) (U o.j) o.m o.dO
 hinj:∀p o p' o',S.O p=some o→S.O p'=some o'→H.hs o.j=H.hs o'.j→p=p'
 len:S.Ms.length=S.Ts.length
 lt:∀p o,S.O p=some o→o.j<S.Ts.length
 key:∀p o,S.O p=some o→1≤p∧p≤24
 tab:uY H.ok w
 nx:S.D.nx≤3*(q:Int)
 few:S.Ts.length≤q+1
 k1:∀i,I8 G.E G.Av G.L i→G.κ i=1
 k2:∀i,G.Ad i→G.κ i=2
 k3:G.κ H.g=3
 k4:G.κ H.gm=4
 k5:∀p o,S.O p=some o→G.κ (H.hs o.j)=5
 kk:G.κ H.kb=6
 kE:G.κ G.E.b=6
 kB:G.κ G.E.bm=6
 kt:G.κ H.t=6
 ks:∀j,j<S.Ts.length→G.κ (H.sp j)=6
 km:G.κ 4=0
 ke:G.κ 0=0
 LK:G.κ 2=0
 yI:∀i,G.κ i≠0→i<w.heap.size
def tg (κ:Nat→Nat) (X:Nat) (w w':World):Nat→Nat:=fun i=>if i<w.heap.size then κ i else if i<w'.heap.size then X else 0
section
variable {w w':World}{m:Int}{H:KH}{S:KS}{U:Nat→Nat→Int}{q X:Nat}{G:KG}{κ:Nat→Nat}
theorem wh {i:Nat}(hi:i<w.heap.size):tg κ X w w' i=κ i:=if_pos hi
theorem MO {i:Nat}(h1:w.heap.size≤i) (h2:i<w'.heap.size):tg κ X w w' i=X:=by unfold tg;rw [if_neg (by omega),if_pos h2]
theorem ry {i c:Nat}(hk:∀i,κ i≠0→i<w.heap.size) (hc:c≠0) (h:κ i=c):tg κ X w w' i=c:=by
 rw [wh (hk i (by omega))];exact h
theorem eX {i:Nat}(hi:i<w.heap.size) (h:κ i=0):tg κ X w w' i=0:=by rw [wh hi];exact h
theorem Cx (_hk:∀i,κ i≠0→i<w.heap.size) (hs:w.heap.size≤w'.heap.size):∀i,tg κ X w w' i≠0→i<w'.heap.size:=fun i hi=>by
 unfold tg at hi
 split at hi
 ·omega
 ·split at hi
  ·assumption
  ·exact absurd rfl hi
theorem vZ (wt:Wt (fun i=>κ i=X) w w') (hX:X≠0):Stp w w' (fun i=>κ i≠0) (fun i=>tg κ X w w' i≠0):=
 ⟨⟨wt.os,wt.tape,wt.output,wt.size,fun i hi hn=>wt.block i hi (fun e=>by rw [e] at hn;exact hn hX)⟩,fun i hi=>by
  by_cases e:i<w.heap.size
  ·rw [wh e] at hi;exact .inl hi
  ·exact .inr (by omega)⟩
theorem KM.pX (h:KM w m H S U q G):4<w.heap.size:=World.block_lt_of_cell? w _ h.kd.ml
theorem KM.p8 (h:KM w m H S U q G):0<w.heap.size:=World.block_lt_of_cell? w _ h.kd.er
theorem KM.Ll (h:KM w m H S U q G):G.L.length=S.Ts.length:=by rw [←h.len,←h.ms,List.length_map]
theorem KM.Lb (h:KM w m H S U q G):G.bs.length=S.Ts.length:=h.kd.len
structure Kept (w w':World) (m:Int) (H:KH) (S:KS) (U:Nat→Nat→Int) (q X:Nat) (G:KG):Prop where
 head:w'.heap[H.kb]? = some (.cells (Yo H) 106)
 al:X≠1→Al G.E w' S.W G.Av G.L
 kd:X≠2→KD w' m H.f H.r S.D G.bs S.Ts (2*q) G.Ad
 qj:X≠3→∃c,QJ w' H.t H.g S.P c
 map:X≠4→∃z,aF w' H.gm z (fun p=>(S.O p).map (fun o=>wp (H.hs o.j)))
 hold:X≠5→∀p o,S.O p=some o→Hd w' (H.hs o.j) (H.sp o.j) (H.tb o.j) (U o.j) o.m o.dO
 tab:uY H.ok w'
 ml:w'.cell? ⟨4,0,none⟩=some (.int .i64 m)
 er:w'.cell? ⟨0,0,none⟩=some fC
theorem KM.kept (h:KM w m H S U q G) (hX:1≤X∧X≤5) (wt:Wt (fun i=>G.κ i=X) w w'):Kept w w' m H S U q X G:=by
 have hb:∀i c,G.κ i=c→c≠0→c≠X→w'.heap[i]? = w.heap[i]? := fun i c e h0 hc=>wt.block i (h.yI i (by omega)) (fun z=>hc (by omega))
 have hz:∀i,G.κ i=0→i<w.heap.size→w'.heap[i]? = w.heap[i]? := fun i e hi=>wt.block i hi (fun z=>by omega)
 have m1:w'.cell? ⟨4,0,none⟩=some (.int .i64 m):=by
  rw [World.cell?_of_block (w:=w) (a:=⟨4,0,none⟩) (hz _ h.km h.pX)];exact h.kd.ml
 have m2:w'.cell? ⟨0,0,none⟩=some fC:=by
  rw [World.cell?_of_block (w:=w) (a:=⟨0,0,none⟩) (hz _ h.ke h.p8)];exact h.kd.er
 refine ⟨(hb _ 6 h.kk (by omega) (by omega)).trans h.head,fun hx=>?_,fun hx=>?_,fun hx=>?_,fun hx=>?_,fun hx p o ho=>?_,h.tab.keep (hz _ h.LK h.tab.lt),m1,m2⟩
 ·refine h.al.keep (fun i hi=>hb i 1 (h.k1 i hi) (by omega) (by omega)) (hb _ 6 h.kE (by omega) (by omega)) (hb _ 6 h.kB (by omega) (by omega)) (fun i hi=>?_)
  rw [h.sp i hi]
  exact hb _ 6 (h.ks i (by rw [←h.Ll];exact hi)) (by omega) (by omega)
 ·exact h.kd.keep (fun i hi=>hb i 2 (h.k2 i hi) (by omega) (by omega)) wt.size m1 m2
 ·obtain ⟨c,hc⟩:=h.qj
  exact ⟨c,⟨hc.toQM.keep (hb _ 6 h.kt (by omega) (by omega)) (hb _ 3 h.k3 (by omega) (by omega)),hc.ok,hc.dj⟩⟩
 ·obtain ⟨z,hm⟩:=h.map
  exact ⟨z,hm.keep (hb _ 4 h.k4 (by omega) (by omega))⟩
 ·exact (h.hold p o ho).keep (hb _ 5 (h.k5 p o ho) (by omega) (by omega))
theorem KM.jJ (h:KM w m H S U q G):2<w.heap.size:=h.tab.lt
theorem KM.below (h:KM w m H S U q G) (hb:Below w.heap.size w w'):KM w' m H S U q G:=by
 have wt:Wt (fun i=>G.κ i=1) w w':=.below _ hb
 have k:=h.kept (X:=1) ⟨by omega,by omega⟩ wt
 exact { h with head:=k.head,al:=h.al.below hb,kd:=k.kd (by omega),qj:=k.qj (by omega),map:=k.map (by omega),hold:=k.hold (by omega),tab:=k.tab,yI:=fun i hi=>Nat.lt_of_lt_of_le (h.yI i hi) hb.size }
theorem KM.vm (h:KM w m H S U q G) {j:Nat}(hj:j<G.L.length) {D':Nat→Nat→Int}{P':PM}(t:CF G.E w G.Av G.L w' D' (G.L.set j (G.L[j].1,G.L[j].2.1,P'))) :
 ∃G',KM w' m H { S with W:=D',Ms:=S.Ms.set j P' } U q G'∧Stp w w' (fun i=>G.κ i≠0) (fun i=>G'.κ i≠0):=by
 obtain ⟨A',a',f,sub⟩:=t
 have wt:Wt (fun i=>G.κ i=1) w w':=⟨f.os,f.tape,f.output,f.size,fun i hi hn=>f.block i hi (fun ho=>hn (h.k1 i ho))⟩
 have k:=h.kept (X:=1) ⟨by omega,by omega⟩ wt
 have hk:=h.yI
 have keep:∀ {i c},c≠0→G.κ i=c→tg G.κ 1 w w' i=c:=fun hc e=>ry hk hc e
 refine ⟨⟨G.E,A',G.L.set j (G.L[j].1,G.L[j].2.1,P'),G.bs,G.Ad,tg G.κ 1 w w'⟩,⟨k.head,h.eb,h.en,a',?_,?_,k.kd (by omega),h.tb,k.qj (by omega),k.map (by omega),k.hold (by omega),h.hinj,?_,h.lt,h.key,k.tab,h.nx,h.few,?_,fun i hi=>keep (by omega) (h.k2 i hi),keep (by omega) h.k3,keep (by omega) h.k4,fun p o ho=>keep (by omega) (h.k5 p o ho),keep (by omega) h.kk,keep (by omega) h.kE,keep (by omega) h.kB,keep (by omega) h.kt,fun x hx=>keep (by omega) (h.ks x hx),eX h.pX h.km,eX h.p8 h.ke,eX h.jJ h.LK,Cx hk wt.size⟩,vZ wt (by omega)⟩
 ·rw [List.map_set,h.ms]
 ·intro x hx
  by_cases e:x=j
  ·subst e;simp only [List.getElem_set_self];exact h.sp x hj
  ·simp only [List.getElem_set_ne (Ne.symm e)];exact h.sp x (by simpa using hx)
 ·show (S.Ms.set j P').length=_;rw [List.length_set];exact h.len
 ·intro i hi
  by_cases e:i<w.heap.size
  ·show tg G.κ 1 w w' i=1
   rw [wh e];exact h.k1 i (sub i e hi)
  ·exact MO (by omega) (a'.Ac hi)
theorem KM.desc (h:KM w m H S U q G) {q':Nat}{D':DS}{Ts':List Ns}{A':Nat→Prop}(hd:KD w' m H.f H.r D' G.bs Ts' (2*q') A') (st:Stp w w' G.Ad A') (hl:Ts'.length=S.Ts.length) (hx:D'.nx≤3*(q':Int)) (hq:q≤q') :
 ∃G',KM w' m H { S with D:=D',Ts:=Ts' } U q' G'∧Stp w w' (fun i=>G.κ i≠0) (fun i=>G'.κ i≠0):=by
 have wt:Wt (fun i=>G.κ i=2) w w':=⟨st.wt.os,st.wt.tape,st.wt.output,st.wt.size,fun i hi hn=>st.wt.block i hi (fun ho=>hn (h.k2 i ho))⟩
 have k:=h.kept (X:=2) ⟨by omega,by omega⟩ wt
 have hk:=h.yI
 have keep:∀ {i c},c≠0→G.κ i=c→tg G.κ 2 w w' i=c:=fun hc e=>ry hk hc e
 refine ⟨⟨G.E,G.Av,G.L,G.bs,A',tg G.κ 2 w w'⟩,⟨k.head,h.eb,h.en,k.al (by omega),h.ms,h.sp,hd,h.tb,k.qj (by omega),k.map (by omega),k.hold (by omega),h.hinj,h.len.trans hl.symm,fun p o ho=>by show o.j<Ts'.length;rw [hl];exact h.lt p o ho,h.key,k.tab,hx,?_,fun i hi=>keep (by omega) (h.k1 i hi),?_,keep (by omega) h.k3,keep (by omega) h.k4,fun p o ho=>keep (by omega) (h.k5 p o ho),keep (by omega) h.kk,keep (by omega) h.kE,keep (by omega) h.kB,keep (by omega) h.kt,fun x hx=>keep (by omega) (h.ks x (by rw [←hl];exact hx)),eX h.pX h.km,eX h.p8 h.ke,eX h.jJ h.LK,Cx hk wt.size⟩,vZ wt (by omega)⟩
 ·show Ts'.length≤_;have:=h.few;omega
 ·intro i hi
  by_cases e:i<w.heap.size
  ·show tg G.κ 2 w w' i=2
   rw [wh e]
   rcases st.own i hi with z|z
   ·exact h.k2 i z
   ·omega
  ·exact MO (by omega) (hd.lt i hi)
theorem KM.proc (h:KM w m H S U q G) {P':Ps}(t:GH w H.t H.g P' w') :
 ∃G',KM w' m H { S with P:=P' } U q G'∧Stp w w' (fun i=>G.κ i≠0) (fun i=>G'.κ i≠0):=by
 obtain ⟨c',qj,wg⟩:=t
 have wt:Wt (fun i=>G.κ i=3) w w':=⟨wg.os,wg.tape,wg.output,wg.size,fun i hi hn=>wg.block i hi (fun e=>hn (by rw [e];exact h.k3))⟩
 have k:=h.kept (X:=3) ⟨by omega,by omega⟩ wt
 have hk:=h.yI
 have keep:∀ {i c},c≠0→G.κ i=c→tg G.κ 3 w w' i=c:=fun hc e=>ry hk hc e
 exact ⟨⟨G.E,G.Av,G.L,G.bs,G.Ad,tg G.κ 3 w w'⟩,⟨k.head,h.eb,h.en,k.al (by omega),h.ms,h.sp,k.kd (by omega),h.tb,⟨c',qj⟩,k.map (by omega),k.hold (by omega),h.hinj,h.len,h.lt,h.key,k.tab,h.nx,h.few,fun i hi=>keep (by omega) (h.k1 i hi),fun i hi=>keep (by omega) (h.k2 i hi),keep (by omega) h.k3,keep (by omega) h.k4,fun p o ho=>keep (by omega) (h.k5 p o ho),keep (by omega) h.kk,keep (by omega) h.kE,keep (by omega) h.kB,keep (by omega) h.kt,fun x hx=>keep (by omega) (h.ks x hx),eX h.pX h.km,eX h.p8 h.ke,eX h.jJ h.LK,Cx hk wt.size⟩,vZ wt (by omega)⟩
theorem KM.hd (h:KM w m H S U q G) {p:Int}{o:Ow}(ho:S.O p=some o) {U':Nat→Int}{M':Nat→Int}{a':Int}(hd:Hd w' (H.hs o.j) (H.sp o.j) (H.tb o.j) U' M' a') (g:w.grownBy w' (some (H.hs o.j))) :
 KM w' m H { S with O:=jI S.O p ⟨o.j,M',a'⟩ } (fun i=>if i=o.j then U' else U i) q G∧Stp w w' (fun i=>G.κ i≠0) (fun i=>G.κ i≠0):=by
 have wt:Wt (fun i=>G.κ i=5) w w':=⟨g.os,g.tape,g.output,g.size,fun i hi hn=>g.block i hi (fun e=>hn (by cases e;exact h.k5 p o ho))⟩
 have k:=h.kept (X:=5) ⟨by omega,by omega⟩ wt
 have hk:=h.yI
 have hO:∀x o',jI S.O p ⟨o.j,M',a'⟩ x=some o'→(x=p∧o'=⟨o.j,M',a'⟩)∨(x≠p∧S.O x=some o'):=fun x o' e=>by
  by_cases ex:x=p
  ·rw [ex,dH] at e;exact .inl ⟨ex,(Option.some.inj e).symm⟩
  ·rw [fG ex] at e;exact .inr ⟨ex,e⟩
 have hJ:∀x o',jI S.O p ⟨o.j,M',a'⟩ x=some o'→∃o2,S.O x=some o2∧o2.j=o'.j:=fun x o' e=>by
  rcases hO x o' e with ⟨rfl,rfl⟩|⟨_,z⟩
  ·exact ⟨o,ho,rfl⟩
  ·exact ⟨o',z,rfl⟩
 refine ⟨⟨k.head,h.eb,h.en,k.al (by omega),h.ms,h.sp,k.kd (by omega),h.tb,k.qj (by omega),?_,?_,?_,h.len,?_,?_,k.tab,h.nx,h.few,h.k1,h.k2,h.k3,h.k4,?_,h.kk,h.kE,h.kB,h.kt,h.ks,h.km,h.ke,h.LK,fun i hi=>Nat.lt_of_lt_of_le (hk i hi) wt.size⟩,⟨⟨wt.os,wt.tape,wt.output,wt.size,fun i hi hn=>wt.block i hi (fun e=>hn (by rw [e];omega))⟩,fun i hi=>.inl hi⟩⟩
 ·obtain ⟨z,hm⟩:=k.map (by omega)
  refine ⟨z,?_⟩
  have e:(fun x=>(jI S.O p ⟨o.j,M',a'⟩ x).map (fun o=>wp (H.hs o.j)))=fun x=>(S.O x).map (fun o=>wp (H.hs o.j)):=by
   funext x
   by_cases ex:x=p
   ·rw [ex,dH,ho];rfl
   ·rw [fG ex]
  show aF w' H.gm z (fun x=>(jI S.O p ⟨o.j,M',a'⟩ x).map (fun o=>wp (H.hs o.j)))
  rw [e];exact hm
 ·intro x o' e
  rcases hO x o' e with ⟨rfl,rfl⟩|⟨hne,z⟩
  ·simp only [if_true];exact hd
  ·have hj:o'.j≠o.j:=fun ej=>hne (h.hinj x o' p o z ho (by rw [ej]))
   simp only [if_neg hj]
   refine (h.hold x o' z).keep (g.block _ (h.yI _ (by rw [h.k5 x o' z];omega)) (fun e=>hne (h.hinj x o' p o z ho (Option.some.inj e))))
 ·intro x o1 y o2 e1 e2 e3
  obtain ⟨a1,z1,j1⟩:=hJ x o1 e1
  obtain ⟨a2,z2,j2⟩:=hJ y o2 e2
  exact h.hinj x a1 y a2 z1 z2 (by rw [j1,j2];exact e3)
 ·intro x o' e
  obtain ⟨a1,z1,j1⟩:=hJ x o' e
  rw [←j1];exact h.lt x a1 z1
 ·intro x o' e
  obtain ⟨a1,z1,j1⟩:=hJ x o' e
  exact h.key x a1 z1
 ·intro x o' e
  obtain ⟨a1,z1,j1⟩:=hJ x o' e
  rw [←j1];exact h.k5 x a1 z1
theorem KM.del (h:KM w m H S U q G) {p:Int}{z:Nat}(hm:aF w' H.gm z (fun x=>if x=p then none else (S.O x).map (fun o=>wp (H.hs o.j)))) (g:w.grownBy w' (some H.gm)) :
 ∃G',KM w' m H { S with O:=jU S.O p } U q G'∧Stp w w' (fun i=>G.κ i≠0) (fun i=>G'.κ i≠0):=by
 have wt:Wt (fun i=>G.κ i=4) w w':=⟨g.os,g.tape,g.output,g.size,fun i hi hn=>g.block i hi (fun e=>hn (by cases e;exact h.k4))⟩
 have k:=h.kept (X:=4) ⟨by omega,by omega⟩ wt
 have hk:=h.yI
 have keep:∀ {i c},c≠0→G.κ i=c→tg G.κ 4 w w' i=c:=fun hc e=>ry hk hc e
 have hO:∀x o',jU S.O p x=some o'→S.O x=some o':=fun x o' e=>by
  unfold jU at e
  split at e
  ·cases e
  ·exact e
 refine ⟨⟨G.E,G.Av,G.L,G.bs,G.Ad,tg G.κ 4 w w'⟩,⟨k.head,h.eb,h.en,k.al (by omega),h.ms,h.sp,k.kd (by omega),h.tb,k.qj (by omega),?_,fun x o e=>k.hold (by omega) x o (hO x o e),fun x o1 y o2 e1 e2 e3=>h.hinj x o1 y o2 (hO _ _ e1) (hO _ _ e2) e3,h.len,fun x o e=>h.lt x o (hO x o e),fun x o e=>h.key x o (hO x o e),k.tab,h.nx,h.few,fun i hi=>keep (by omega) (h.k1 i hi),fun i hi=>keep (by omega) (h.k2 i hi),keep (by omega) h.k3,keep (by omega) h.k4,fun x o e=>keep (by omega) (h.k5 x o (hO x o e)),keep (by omega) h.kk,keep (by omega) h.kE,keep (by omega) h.kB,keep (by omega) h.kt,fun x hx=>keep (by omega) (h.ks x hx),eX h.pX h.km,eX h.p8 h.ke,eX h.jJ h.LK,Cx hk wt.size⟩,vZ wt (by omega)⟩
 refine ⟨z,?_⟩
 have e:(fun x=>(jU S.O p x).map (fun o=>wp (H.hs o.j)))=fun x=>if x=p then none else (S.O x).map (fun o=>wp (H.hs o.j)):=by
  funext x
  unfold jU
  by_cases ex:x=p
  ·rw [if_pos ex,if_pos ex];rfl
  ·rw [if_neg ex,if_neg ex]
 show aF w' H.gm z (fun x=>(jU S.O p x).map (fun o=>wp (H.hs o.j)))
 rw [e];exact hm
end
def KX (w:World) (m:Int) (H:KH) (S:KS) (U:Nat→Nat→Int) (q:Nat) (A:Nat→Prop):Prop:=∃G,KM w m H S U q G∧∀i,A i↔G.κ i≠0
def KS.space (S:KS) (j:Nat) (P':PM) (D':Nat→Nat→Int):KS:={ S with W:=D',Ms:=S.Ms.set j P' }
def KS.files (S:KS) (D':DS) (j:Nat) (N':Ns):KS:={ S with D:=D',Ts:=S.Ts.set j N' }
def KS.tree (S:KS) (T':Wd):KS:={ S with D:={ S.D with T:=T' } }
def KS.procs (S:KS) (P':Ps):KS:={ S with P:=P' }
def KS.own (S:KS) (p:Int) (o:Ow):KS:={ S with O:=jI S.O p o }
def KS.drop (S:KS) (p:Int):KS:={ S with O:=jU S.O p }
def kM (Ms:List PM) (f:Int):Nat:=(Ms.map fun P=>sh P f).sum
def mX (S:KS) (j:Nat) (f:Int):Nat:=kM S.Ms f-sh (aK S j) f
section
variable {w w':World}{m:Int}{H:KH}{S:KS}{U:Nat→Nat→Int}{q:Nat}{A:Nat→Prop}{p:Int}{o:Ow}
theorem KX.below (h:KX w m H S U q A) (hb:Below w.heap.size w w'):KX w' m H S U q A:=by
 obtain ⟨G,k,e⟩:=h
 exact ⟨G,k.below hb,e⟩
theorem KX.lt (h:KX w m H S U q A):∀i,A i→i<w.heap.size:=fun i hi=>by
 obtain ⟨G,k,e⟩:=h
 exact k.yI i ((e i).1 hi)
theorem KX.of {G:KG}(k:KM w m H S U q G):KX w m H S U q (fun i=>G.κ i≠0):=⟨G,k,fun _=>Iff.rfl⟩
theorem oZ {A B A':Nat→Prop}(e:∀i,A i↔B i) (st:Stp w w' B A'):Stp w w' A A':=by
 have:A=B:=funext fun i=>propext (e i)
 rw [this];exact st
theorem KX.head (h:KX w m H S U q A):w.heap[H.kb]? = some (.cells (Yo H) 106):=by
 obtain ⟨G,k,e⟩:=h;exact k.head
theorem KX.c0 (h:KX w m H S U q A):w.cell? ⟨H.kb,0,none⟩=some (wp H.eb):=by rw [cell_of_row w H.kb 0 _ _ _ h.head];rfl
theorem KX.c1 (h:KX w m H S U q A):w.cell? ⟨H.kb,1,none⟩=some (wp H.r):=by rw [cell_of_row w H.kb 1 _ _ _ h.head];rfl
theorem KX.c2 (h:KX w m H S U q A):w.cell? ⟨H.kb,2,none⟩=some (wp H.f):=by rw [cell_of_row w H.kb 2 _ _ _ h.head];rfl
theorem KX.c3 (h:KX w m H S U q A):w.cell? ⟨H.kb,3,none⟩=some (wp H.t):=by rw [cell_of_row w H.kb 3 _ _ _ h.head];rfl
theorem KX.c4 (h:KX w m H S U q A):w.cell? ⟨H.kb,4,none⟩=some (.map (some H.gm)):=by rw [cell_of_row w H.kb 4 _ _ _ h.head];rfl
theorem KX.hd (h:KX w m H S U q A) (ho:S.O p=some o):Hd w (H.hs o.j) (H.sp o.j) (H.tb o.j) (U o.j) o.m o.dO:=by
 obtain ⟨G,k,e⟩:=h;exact k.hold p o ho
theorem KX.er (h:KX w m H S U q A):w.cell? ⟨0,0,none⟩=some fC:=by
 obtain ⟨G,k,e⟩:=h;exact k.kd.er
theorem KX.tab (h:KX w m H S U q A):uY H.ok w:=by
 obtain ⟨G,k,e⟩:=h;exact k.tab
theorem KX.hne (h:KX w m H S U q A) (ho:S.O p=some o):0≠H.hs o.j:=by
 obtain ⟨G,k,e⟩:=h
 intro z
 have:=k.k5 p o ho
 rw [←z,k.ke] at this;omega
theorem KX.inv (h:KX w m H S U q A):Inv S.D S.Ts (2*q):=by
 obtain ⟨G,k,e⟩:=h;exact k.kd.inv
theorem KX.PD (h:KX w m H S U q A):nU S.P:=by
 obtain ⟨G,k,e⟩:=h
 obtain ⟨c,qj⟩:=k.qj
 exact qj.ok
theorem KX.qh (h:KX w m H S U q A) (ho:S.O p=some o):o.j<S.Ts.length:=by
 obtain ⟨G,k,e⟩:=h;exact k.lt p o ho
theorem KX.mlt (h:KX w m H S U q A) (ho:S.O p=some o):o.j<S.Ms.length:=by
 obtain ⟨G,k,e⟩:=h;rw [k.len];exact k.lt p o ho
theorem KX.len (h:KX w m H S U q A):S.Ms.length=S.Ts.length:=by
 obtain ⟨G,k,e⟩:=h;exact k.len
theorem KX.nx (h:KX w m H S U q A):S.D.nx≤3*(q:Int):=by
 obtain ⟨G,k,e⟩:=h;exact k.nx
theorem KX.key (h:KX w m H S U q A) (ho:S.O p=some o):1≤p∧p≤24:=by
 obtain ⟨G,k,e⟩:=h;exact k.key p o ho
theorem KX.inj (h:KX w m H S U q A) {p':Int}{o':Ow}(ho:S.O p=some o) (ho':S.O p'=some o') (e:o.j=o'.j):p=p':=by
 obtain ⟨G,k,_⟩:=h;exact k.hinj p o p' o' ho ho' (by rw [e])
theorem KX.more (h:KX w m H S U q A) {q':Nat}(hq:q≤q'):KX w m H S U q' A:=by
 obtain ⟨G,k,e⟩:=h
 refine ⟨G,{ k with kd:=?_,nx:=?_,few:=?_ },e⟩
 ·exact { k.kd with inv:=k.kd.inv.more (by omega) }
 ·have:=k.nx;omega
 ·have:=k.few;omega
theorem wH (L:List Sq) (f:Int):kM (L.map (fun x=>x.2.2)) f=jH L f:=by unfold kM jH;rw [List.map_map];rfl
theorem KX.vm (h:KX w m H S U q A) (hj:o.j<S.Ts.length) {fn:FuncId}{args:Array Value}{Q:Ending→PM→(Nat→Nat→Int)→Prop}
 (hc:∀E Av gc,E.n=S.n→VS E w (H.sp o.j) gc S.W Av (aK S o.j) (mX S o.j)→Calls Tryz.prog fn args w fun y w'=>∃P' D',Q y P' D'∧aT E w (H.sp o.j) gc Av w' D' P' (mX S o.j)) :
 Calls Tryz.prog fn args w fun y w'=>∃P' D',Q y P' D'∧∃A',KX w' m H (S.space o.j P' D') U q A'∧Stp w w' A A':=by
 obtain ⟨G,k,e⟩:=h
 have hl:o.j<G.L.length:=by rw [k.Ll];exact hj
 have hP:G.L[o.j].2.2=aK S o.j:=by
  rw [vT (by rw [k.len];exact hj)]
  have:S.Ms=G.L.map (fun x=>x.2.2):=k.ms.symm
  simp only [this,List.getElem_map]
 have hO:vJ G.L o.j hl=mX S o.j:=by
  funext f;unfold vJ mX;rw [←k.ms,wH,hP]
 have hv:=k.al.sp o.j hl
 rw [k.sp o.j hl,hP,hO] at hv
 refine (hc G.E G.Av G.L[o.j].2.1 k.en hv).mono ?_
 rintro y w' ⟨P',D',hQ,t⟩
 rw [←k.sp o.j hl,←hO] at t
 obtain ⟨G',k',st⟩:=k.vm hl (k.al.turn hl t)
 exact ⟨P',D',hQ,_,.of k',oZ e st⟩
theorem KX.XH (h:KX w m H S U q A) (hj:o.j<S.Ts.length) {C:Prop}(hc:∀E Av gc,E.n=S.n→VS E w (H.sp o.j) gc S.W Av (aK S o.j) (mX S o.j)→C):C:=by
 obtain ⟨G,k,e⟩:=h
 have hl:o.j<G.L.length:=by rw [k.Ll];exact hj
 have hP:G.L[o.j].2.2=aK S o.j:=by
  rw [vT (by rw [k.len];exact hj)]
  have:S.Ms=G.L.map (fun x=>x.2.2):=k.ms.symm
  simp only [this,List.getElem_map]
 have hO:vJ G.L o.j hl=mX S o.j:=by
  funext f;unfold vJ mX;rw [←k.ms,wH,hP]
 have hv:=k.al.sp o.j hl
 rw [k.sp o.j hl,hP,hO] at hv
 exact hc G.E G.Av G.L[o.j].2.1 k.en hv
theorem KX.map (h:KX w m H S U q A) (hj:o.j<S.Ts.length) (a n af:Int) (hn:n≤9223372036854775807) :
 Calls Tryz.prog 127 #[wp (H.sp o.j),.int .i64 a,.int .i64 n,.int .i64 af] w fun y w'=>y=.returned (aH (iP (aK S o.j) a n af))∧∃A',KX w' m H (S.space o.j (kP (aK S o.j) a n af) S.W) U q A'∧Stp w w' A A':=by
 refine (h.vm hj (Q:=fun y P' D'=>y=.returned (aH (iP (aK S o.j) a n af))∧P'=kP (aK S o.j) a n af∧D'=S.W) (fun E Av gc _ v=>?_)).mono ?_
 ·refine (v.map_ok a n af hn).mono ?_
  rintro y w' ⟨rfl,t⟩
  exact ⟨_,_,⟨rfl,rfl,rfl⟩,t⟩
 ·rintro y w' ⟨P',D',⟨rfl,rfl,rfl⟩,r⟩
  exact ⟨rfl,r⟩
theorem KX.vS (h:KX w m H S U q A) (hj:o.j<S.Ts.length) (a n:Int) (hn:n≤9223372036854775807) :
 Calls Tryz.prog 129 #[wp (H.sp o.j),.int .i64 a,.int .i64 n] w fun y w'=>y=.returned (aH (u6 (aK S o.j) a n))∧∃A',KX w' m H (S.space o.j (EC (aK S o.j) a n) S.W) U q A'∧Stp w w' A A':=by
 refine (h.vm hj (Q:=fun y P' D'=>y=.returned (aH (u6 (aK S o.j) a n))∧P'=EC (aK S o.j) a n∧D'=S.W) (fun E Av gc _ v=>?_)).mono ?_
 ·refine (v.Nk a n hn).mono ?_
  rintro y w' ⟨rfl,t⟩
  exact ⟨_,_,⟨rfl,rfl,rfl⟩,t⟩
 ·rintro y w' ⟨P',D',⟨rfl,rfl,rfl⟩,r⟩
  exact ⟨rfl,r⟩
theorem KX.o6 (h:KX w m H S U q A) (hj:o.j<S.Ts.length) (a n af:Int) (hn:n≤9223372036854775807) :
 Calls Tryz.prog 188 #[wp (H.sp o.j),.int .i64 a,.int .i64 n,.int .i64 af] w fun y w'=>y=.returned (aH (nW (aK S o.j) a n af))∧∃A',KX w' m H (S.space o.j (qY (aK S o.j) a n af) S.W) U q A'∧Stp w w' A A':=by
 refine (h.vm hj (Q:=fun y P' D'=>y=.returned (aH (nW (aK S o.j) a n af))∧P'=qY (aK S o.j) a n af∧D'=S.W) (fun E Av gc _ v=>?_)).mono ?_
 ·refine (v.FL a n af hn).mono ?_
  rintro y w' ⟨rfl,t⟩
  exact ⟨_,_,⟨rfl,rfl,rfl⟩,t⟩
 ·rintro y w' ⟨P',D',⟨rfl,rfl,rfl⟩,r⟩
  exact ⟨rfl,r⟩
theorem KX.Nb (h:KX w m H S U q A) (hj:o.j<S.Ts.length) :
 Calls Tryz.prog 114 #[wp (H.sp o.j)] w fun y w'=>y=.returned (.tuple #[])∧∃A',KX w' m H (S.space o.j kL S.W) U q A'∧Stp w w' A A':=by
 refine (h.vm hj (Q:=fun y P' D'=>y=.returned (.tuple #[])∧P'=kL∧D'=S.W) (fun E Av gc _ v=>?_)).mono ?_
 ·refine v.wV.mono ?_
  rintro y w' ⟨rfl,t⟩
  exact ⟨_,_,⟨rfl,rfl,rfl⟩,t⟩
 ·rintro y w' ⟨P',D',⟨rfl,rfl,rfl⟩,r⟩
  exact ⟨rfl,r⟩
theorem KX.Us (h:KX w m H S U q A) (hj:o.j<S.Ts.length) (a k v:Int) (ha:(Lit.int .i64 a).wf=true) :
 Calls Tryz.prog 121 #[wp (H.sp o.j),.int .i64 a,.int .i64 k,.int .i64 v] w fun y w'=>∃P' D' er,yw S.n (aK S o.j) (mX S o.j) S.W a k v er P' D'∧y=.returned (aH er)∧∃A',KX w' m H (S.space o.j P' D') U q A'∧Stp w w' A A':=by
 refine (h.vm hj (Q:=fun y P' D'=>∃er,yw S.n (aK S o.j) (mX S o.j) S.W a k v er P' D'∧y=.returned (aH er)) (fun E Av gc en v9=>?_)).mono ?_
 ·refine (v9.Ny a k v ha).mono ?_
  rintro y w' ⟨er,P',D',hS,rfl,t⟩
  rw [en] at hS
  exact ⟨_,_,⟨er,hS,rfl⟩,t⟩
 ·rintro y w' ⟨P',D',⟨er,hS,rfl⟩,r⟩
  exact ⟨P',D',er,hS,rfl,r⟩
theorem KX.Xp (h:KX w m H S U q A) (hj:o.j<S.Ts.length) (a k:Int) (ha:(Lit.int .i64 a).wf=true) :
 Calls Tryz.prog 124 #[wp (H.sp o.j),.int .i64 a,.int .i64 k] w fun y w'=>y=.returned (.tuple #[.int .i64 (gI (aK S o.j) S.W a k),aH (eu (aK S o.j) a k 1)])∧Below w.heap.size w w':=
 h.XH hj (fun _ _ _ _ v=>v.load a k ha)
theorem KX.Zh (h:KX w m H S U q A) (hj:o.j<S.Ts.length) :
 Calls Tryz.prog 116 #[wp (H.sp o.j)] w fun y w'=>y=.returned (.int .i64 (bI (aK S o.j):Nat))∧w'=w:=
 h.XH hj (fun _ _ _ _ v=>v.sp.len)
theorem KX.Ww (h:KX w m H S U q A) (hj:o.j<S.Ts.length) :
 Calls Tryz.prog 117 #[wp (H.sp o.j)] w fun y w'=>y=.returned (.int .i64 (gT (aK S o.j):Nat))∧Below w.heap.size w w':=
 h.XH hj (fun _ _ _ _ v=>v.sp.resident)
theorem KX.Xq (h:KX w m H S U q A):Calls Tryz.prog 119 #[wp H.eb] w fun y w'=>y=.returned (.int .i64 ((S.n-used (kM S.Ms) S.n:Nat):Int))∧w'=w:=by
 obtain ⟨G,k,e⟩:=h
 have:=k.al.left
 rw [k.eb,k.en,show jH G.L=kM S.Ms by funext f;rw [←k.ms,wH]] at this
 exact this
end
end Go.Proofs.YtcfhanoekniaaaaGreatDoor
namespace Go.Proofs.YtcfhanoekniaaaaGreatDoor
open Go.RowKit Go.Maps Go.Sort
theorem rU {fn:Func}{t u v x:Tmp}(h:fn.results=#[.tmp t,.tmp u,.tmp v,.tmp x]) (tmps:Array Value) (P:Program) (w:World) :
 (results fn tmps).run P w=.ok (.tuple #[tmps.getD t undef,tmps.getD u undef,tmps.getD v undef,tmps.getD x undef]) w:=by
 simp [results,h]
section
variable {w w':World}{m:Int}{H:KH}{S:KS}{U:Nat→Nat→Int}{q:Nat}{A:Nat→Prop}{p:Int}{o:Ow}
theorem Jb (w:World):(zeroValue 99).run Tryz.prog w=.ok (.pointer none) w:=by kernel_rfl
theorem KX.look (h:KX w m H S U q A) (p:Int) (hp:(Lit.int .i64 p).wf=true):(Instr.lookup 104 (.map (some H.gm)) (.int .i64 p) false).run Tryz.prog w=.ok (match S.O p with|some o=>wp (H.hs o.j) | none=>.pointer none) w:=by
 obtain ⟨G,k,e⟩:=h
 obtain ⟨z,hm⟩:=k.map
 rw [hm.look Tryz.underlying104 (Jb w) p hp]
 cases S.O p<;>rfl
theorem EL {p:Int}(h:1≤p∧p≤24):(Lit.int .i64 p).wf=true:=yz (by omega)
theorem KX.vU (h:KX w m H S U q A) (ho:S.O p=some o):(Instr.lookup 104 (.map (some H.gm)) (.int .i64 p) false).run Tryz.prog w=.ok (wp (H.hs o.j)) w:=by
 rw [h.look p (EL (h.key ho)),ho]
theorem KX.Xn (h:KX w m H S U q A) (ho:S.O p=none) (hp:(Lit.int .i64 p).wf=true):(Instr.lookup 104 (.map (some H.gm)) (.int .i64 p) false).run Tryz.prog w=.ok (.pointer none) w:=by
 rw [h.look p hp,ho]
theorem KX.aB (h:KX w m H S U q A) (ho:S.O p=some o):Calls Tryz.prog 51 #[wp H.kb,.int .i64 p] w fun e w'=>e=.returned (.tuple #[wp (H.hs o.j),.nilIface])∧w'=w:=by
 have c4:=h.c4
 have l1:=h.vU ho
 clear h ho
 go_enter Tryz.func51,Tryz.ntmps51
 go_wp2_with fail
 go_ret2
 exact ⟨rfl,rfl⟩
theorem KX.aS (h:KX w m H S U q A) (ho:S.O p=none) (hp:(Lit.int .i64 p).wf=true):Calls Tryz.prog 51 #[wp H.kb,.int .i64 p] w fun e w'=>e=.returned (.tuple #[.pointer none,eZ 7])∧w'=w:=by
 have c4:=h.c4
 have l1:=h.Xn ho hp
 clear h ho
 go_enter Tryz.func51,Tryz.ntmps51
 go_wp2_with fail
 go_ret2
 exact ⟨rfl,rfl⟩
theorem KX.left (h:KX w m H S U q A):Calls Tryz.prog 39 #[wp H.kb] w fun e w'=>e=.returned (.int .i64 ((S.n-used (kM S.Ms) S.n:Nat):Int))∧w'=w:=by
 have c0:=h.c0
 have hL:=h.Xq
 generalize S.n-used (kM S.Ms) S.n=x at *
 clear h
 go_enter Tryz.func39,Tryz.ntmps39
 go_wp2_with (go_at_call 119;refine hL.mono ?_;rintro e w1 ⟨rfl,hw⟩;subst w1)
 go_ret
 exact ⟨rfl,rfl⟩
theorem KX.o8 (h:KX w m H S U q A) {n:Nat}(hn:qR S.D.E n):Calls Tryz.prog 21 #[wp H.kb] w fun e w'=>e=.returned (.int .i64 (n:Int))∧w'=w:=by
 have c2:=h.c2
 obtain ⟨G,k,e⟩:=h
 have hL:=k.kd.UB hn
 clear k hn
 go_enter Tryz.func21,Tryz.ntmps21
 go_wp2_with (go_at_call 65;refine hL.mono ?_;rintro e w1 ⟨rfl,hw⟩;subst w1)
 go_ret
 exact ⟨rfl,rfl⟩
theorem KX.mg (h:KX w m H S U q A) {s:Nat}(hs:di S.D.T s):Calls Tryz.prog 102 #[wp H.kb] w fun e w'=>e=.returned (.int .i64 (s:Int))∧w'=w:=by
 have c1:=h.c1
 obtain ⟨G,k,e⟩:=h
 have hL:=k.kd.nodes hs
 clear k hs
 go_enter Tryz.func102,Tryz.ntmps102
 go_wp2_with (go_at_call 197;refine hL.mono ?_;rintro e w1 ⟨rfl,hw⟩;subst w1)
 go_ret
 exact ⟨rfl,rfl⟩
theorem KX.vN (h:KX w m H S U q A):∃n,qR S.D.E n:=by
 obtain ⟨G,k,e⟩:=h;exact k.kd.vN
theorem KX.Mf (h:KX w m H S U q A):∃n,di S.D.T n:=by
 obtain ⟨G,k,e⟩:=h;exact k.kd.Mf
theorem KX.one (h:KX w m H S U q A):(S.P 1).isSome=true:=by
 obtain ⟨p,hp,_⟩:=h.PD.one
 rw [hp];rfl
theorem KX.jg (h:KX w m H S U q A):Calls Tryz.prog 34 #[wp H.kb] w fun e w'=>∃b cap,e=.returned (.slice (some ⟨b,0,none⟩) (ah S.P).length cap)∧(ah S.P).length≤cap∧w.heap.size≤b∧b<w'.heap.size∧Holds encZ w' b 0 (ah S.P).toArray∧Below w.heap.size w w':=by
 have c3:=h.c3
 have h1:=h.one
 obtain ⟨G,k,e⟩:=h
 obtain ⟨c,qj⟩:=k.qj
 have hL:=qj.toQM.jg h1
 clear k qj h1
 go_enter Tryz.func34,Tryz.ntmps34
 go_wp2_with (go_at_call 111;refine hL.mono ?_;rintro e w1 ⟨b,cap,rfl,hh⟩)
 go_ret
 exact ⟨b,cap,rfl,hh⟩
theorem KX.state (h:KX w m H S U q A) (n:Int) (hn:(Lit.int .i64 n).wf=true):Calls Tryz.prog 35 #[wp H.kb,.int .i64 n] w fun e w'=>e=.returned (.int .i64 (gJ S.P n))∧Below w.heap.size w w':=by
 have c3:=h.c3
 obtain ⟨G,k,e⟩:=h
 obtain ⟨c,qj⟩:=k.qj
 have hL:=qj.toQM.state n hn
 clear k qj hn
 go_enter Tryz.func35,Tryz.ntmps35
 go_wp2_with (go_at_call 112;refine hL.mono ?_;rintro e w1 ⟨rfl,hh⟩)
 go_ret
 exact ⟨rfl,hh⟩
theorem KX.Xb (h:KX w m H S U q A) (hj:o.j<S.Ts.length):Calls Tryz.prog 118 #[wp (H.tb o.j)] w fun y w'=>y=.returned (.int .i64 (aj (ax S o.j):Int))∧Below w.heap.size w w':=by
 obtain ⟨G,k,e⟩:=h
 have hb:o.j<G.bs.length:=by rw [k.Lb];exact hj
 have:=k.kd.used hb
 rw [k.tb _ hb,←iD hj] at this
 exact this
theorem KX.je (h:KX w m H S U q A) (ho:S.O p=some o):Calls Tryz.prog 38 #[wp H.kb,.int .i64 p] w fun e w'=>e=.returned (.tuple #[.int .i64 (bI (aK S o.j):Nat),.int .i64 (gT (aK S o.j):Nat),.int .i64 (aj (ax S o.j):Nat),.nilIface])∧Below w.heap.size w w':=by
 have hF:=h.aB ho
 have hj:=h.qh ho
 have hx:=fun V (hb:Below w.heap.size w V)=>(h.below hb).Zh hj
 have hy:∀V,Below w.heap.size w V→Calls Tryz.prog 117 #[wp (H.sp o.j)] V fun y w'=>y=.returned (.int .i64 (gT (aK S o.j):Nat))∧Below w.heap.size w w':=fun V hb=>by
  refine ((h.below hb).Ww hj).mono ?_
  rintro y w' ⟨rfl,b⟩
  exact ⟨rfl,hb.trans (b.mono hb.size)⟩
 have hz:∀V,Below w.heap.size w V→Calls Tryz.prog 118 #[wp (H.tb o.j)] V fun y w'=>y=.returned (.int .i64 (aj (ax S o.j):Int))∧Below w.heap.size w w':=fun V hb=>by
  refine ((h.below hb).Xb hj).mono ?_
  rintro y w' ⟨rfl,b⟩
  exact ⟨rfl,hb.trans (b.mono hb.size)⟩
 have cc:∀V,Below w.heap.size w V→V.cell? ⟨H.hs o.j,0,none⟩=some (wp (H.sp o.j))∧V.cell? ⟨H.hs o.j,1,none⟩=some (wp (H.tb o.j)):=fun V hb=>⟨((h.below hb).hd ho).at 0,((h.below hb).hd ho).at 1⟩
 have c0:=cc w (Below.refl _ _)
 generalize bI (aK S o.j)=X at *
 generalize gT (aK S o.j)=Y at *
 generalize aj (ax S o.j)=Z at *
 have CC:Aside _:=cc
 clear h ho hj cc
 go_enter Tryz.func38,Tryz.ntmps38
 go_upto_region 4 with (go_at_call 51;refine hF.mono ?_;rintro e w1 ⟨rfl,hw⟩;subst w1)
 have bd:Below w.heap.size w w.drew:=⟨rfl,rfl,rfl,Nat.le_refl _,fun _ _=>rfl⟩
 go_region_held3 (fun w'=>w'.cell? ⟨H.hs o.j,0,none⟩=some (wp (H.sp o.j))∧w'.cell? ⟨H.hs o.j,1,none⟩=some (wp (H.tb o.j))) (first|exact c0|exact CC.out _ bd) (first
  |(go_at_call 116;refine (hx _ bd).mono ?_;rintro e w1 ⟨rfl,hww⟩;subst w1)
  |(go_at_call 117;refine (hy _ bd).mono ?_;rintro e w1 ⟨rfl,bd⟩)
  |(go_at_call 118;refine (hz _ bd).mono ?_;rintro e w1 ⟨rfl,bd⟩))
 all_goals
  go_wp2_with fail
  (try simp only [Exit.inBlock,Exit.then])
  refine bodyPost_ret (rU rfl _ _ _) rfl ?_
  exact ⟨rfl,bd⟩
theorem KX.Ff (h:KX w m H S U q A) (ho:S.O p=none) (hp:(Lit.int .i64 p).wf=true):Calls Tryz.prog 38 #[wp H.kb,.int .i64 p] w fun e w'=>e=.returned (.tuple #[.int .i64 0,.int .i64 0,.int .i64 0,eZ 7])∧w'=w:=by
 have hF:=h.aS ho hp
 clear h ho
 go_enter Tryz.func38,Tryz.ntmps38
 go_wp2_with (go_at_call 51;refine hF.mono ?_;rintro e w1 ⟨rfl,hw⟩;subst w1)
 (try simp only [Exit.inBlock,Exit.then])
 refine bodyPost_ret (rU rfl _ _ _) rfl ?_
 exact ⟨rfl,rfl⟩
end
end Go.Proofs.YtcfhanoekniaaaaGreatDoor
namespace Go.Proofs.YtcfhanoekniaaaaGreatDoor
open Go.RowKit Go.Maps
section
variable {w w' V:World}{A A':Nat→Prop}
theorem Stp.base (e:V.heap=w.heap) (e1:V.os=w.os) (e2:V.tape=w.tape) (e3:V.output=w.output) (h:Stp V w' A A'):Stp w w' A A':=
 ⟨⟨h.wt.os.trans e1,h.wt.tape.trans e2,h.wt.output.trans e3,by rw [←e];exact h.wt.size,fun i hi hn=>by rw [←e];exact h.wt.block i (by rw [e];exact hi) hn⟩,fun i hi=>by rw [←e];exact h.own i hi⟩
theorem Stp.up (h:Stp w w' A A') (e:V.heap=w'.heap) (e1:V.os=w'.os) (e2:V.tape=w'.tape) (e3:V.output=w'.output):Stp w V A A':=
 ⟨⟨e1.trans h.wt.os,e2.trans h.wt.tape,e3.trans h.wt.output,by rw [e];exact h.wt.size,fun i hi hn=>by rw [e];exact h.wt.block i hi hn⟩,h.own⟩
theorem bG (w:World):Below w.heap.size w w.drew:=⟨rfl,rfl,rfl,Nat.le_refl _,fun _ _=>rfl⟩
theorem Stp.after {w0:World}(hb:Below w0.heap.size w0 w) (h:Stp w w' A A'):Stp w0 w' A A':=(Stp.below hb).trans h
end
def KN (w:World) (m:Int) (H:KH) (S:KS) (q:Nat) (A:Nat→Prop):Prop:=KX w m H S (jM S) q A∧oW S
section
variable {w w':World}{m:Int}{H:KH}{S:KS}{U U':Nat→Nat→Int}{q:Nat}{A:Nat→Prop}{p:Int}{o:Ow}
theorem Hd.congr {b s t:Nat}{U U' M:Nat→Int}{a:Int}(h:Hd w b s t U M a) (e:∀k,k<3→U k=U' k):Hd w b s t U' M a:=by
 unfold Hd at h ⊢
 rw [h,hcs,hcs,e 0 (by omega),e 1 (by omega),e 2 (by omega)]
theorem KX.Fg (h:KX w m H S U q A) (e:∀p o,S.O p=some o→∀k,k<3→U o.j k=U' o.j k):KX w m H S U' q A:=by
 obtain ⟨G,k,hA⟩:=h
 exact ⟨G,{ k with hold:=fun p o ho=>(k.hold p o ho).congr (e p o ho) },hA⟩
theorem zn (ho:S.O p=some o):jI S.O p ⟨o.j,o.m,o.dO⟩=S.O:=by
 funext x
 by_cases e:x=p
 ·rw [e,dH,ho]
 ·rw [fG e]
theorem KX.Tm (h:KX w m H S U q A) (ho:S.O p=some o) {U' M':Nat→Int}{a':Int}(hd:Hd w' (H.hs o.j) (H.sp o.j) (H.tb o.j) U' M' a') (g:w.grownBy w' (some (H.hs o.j))):KX w' m H (S.own p ⟨o.j,M',a'⟩) (fun i=>if i=o.j then U' else U i) q A∧Stp w w' A A:=by
 obtain ⟨G,k,e⟩:=h
 obtain ⟨k',st⟩:=k.hd ho hd g
 have hA:A=fun i=>G.κ i≠0:=funext fun i=>propext (e i)
 subst hA
 exact ⟨⟨G,k',fun _=>Iff.rfl⟩,st⟩
theorem KX.hold (h:KX w m H S U q A) (ho:S.O p=some o) {U' M':Nat→Int}{a':Int}(hd:Hd w' (H.hs o.j) (H.sp o.j) (H.tb o.j) U' M' a') (g:w.grownBy w' (some (H.hs o.j))):∃A',KX w' m H (S.own p ⟨o.j,M',a'⟩) (fun i=>if i=o.j then U' else U i) q A'∧Stp w w' A A':=by
 obtain ⟨A',h',st⟩:=(⟨A,h.Tm ho hd g⟩:∃A',KX w' m H (S.own p ⟨o.j,M',a'⟩) (fun i=>if i=o.j then U' else U i) q A'∧Stp w w' A A')
 exact ⟨A',h',st⟩
theorem KX.TY (h:KX w m H S U q A) (ho:S.O p=some o) {U':Nat→Int}(hd:Hd w' (H.hs o.j) (H.sp o.j) (H.tb o.j) U' o.m o.dO) (g:w.grownBy w' (some (H.hs o.j))):KX w' m H S (fun i=>if i=o.j then U' else U i) q A∧Stp w w' A A:=by
 obtain ⟨h',st⟩:=h.Tm ho hd g
 unfold KS.own at h'
 rw [zn ho] at h'
 exact ⟨h',st⟩
theorem KX.led (h:KX w m H S U q A) (ho:S.O p=some o) {U':Nat→Int}(hd:Hd w' (H.hs o.j) (H.sp o.j) (H.tb o.j) U' o.m o.dO) (g:w.grownBy w' (some (H.hs o.j))):∃A',KX w' m H S (fun i=>if i=o.j then U' else U i) q A'∧Stp w w' A A':=by
 obtain ⟨A',h',st⟩:=h.hold ho hd g
 unfold KS.own at h'
 rw [zn ho] at h'
 exact ⟨A',h',st⟩
theorem KX.sJ (h:KX w m H S U q A) (j:Nat):(ax S j).length=8:=by
 by_cases hj:j<S.Ts.length
 ·rw [iD hj];exact h.inv.len hj
 ·unfold ax;rw [List.getD_eq_getElem?_getD,List.getElem?_eq_none (by omega)];rfl
theorem KX.ET (h:KX w m H S U q A) (j:Nat):Fit (jM S j):=fun k=>by
 have h1:=ni (aK S j)
 have h2:=tH (h.sJ j)
 unfold jM
 split
 ·omega
 ·split<;>omega
theorem dM {S:KS}{j:Nat}(hj:j<S.Ms.length) (P':PM) (D':Nat→Nat→Int) (i:Nat):aK (S.space j P' D') i=if i=j then P' else aK S i:=by
 unfold aK KS.space
 simp only [List.getD_eq_getElem?_getD,List.getElem?_set]
 by_cases e:i=j
 ·subst e;simp [hj]
 ·rw [if_neg (Ne.symm e),if_neg e]
theorem oD {S:KS}{j:Nat}(P':PM) (D':Nat→Nat→Int) (i:Nat):ax (S.space j P' D') i=ax S i:=rfl
theorem fo {S:KS}{j:Nat}(hj:j<S.Ts.length) (D':DS) (N':Ns) (i:Nat):ax (S.files D' j N') i=if i=j then N' else ax S i:=by
 unfold ax KS.files
 simp only [List.getD_eq_getElem?_getD,List.getElem?_set]
 by_cases e:i=j
 ·subst e;simp [hj]
 ·rw [if_neg (Ne.symm e),if_neg e]
theorem mh {S:KS}{j:Nat}(D':DS) (N':Ns) (i:Nat):aK (S.files D' j N') i=aK S i:=rfl
theorem nD {S:KS}{j:Nat}(hj:j<S.Ms.length):S.space j (aK S j) S.W=S:=by
 unfold KS.space
 rw [vT hj,List.set_getElem_self]
theorem nI {S:KS}{j:Nat}(hj:j<S.Ts.length):S.files S.D j (ax S j)=S:=by
 unfold KS.files
 rw [iD hj,List.set_getElem_self]
theorem Eb {S:KS}{j:Nat}(P1 P2:PM) (D1 D2:Nat→Nat→Int):(S.space j P1 D1).space j P2 D2=S.space j P2 D2:=by
 unfold KS.space;simp only [List.set_set]
theorem Et {S:KS}{j:Nat}(D1 D2:DS) (N1 N2:Ns):(S.files D1 j N1).files D2 j N2=S.files D2 j N2:=by
 unfold KS.files;simp only [List.set_set]
theorem oW.space (k:oW S) (ho:S.O p=some o) (hl:S.Ms.length=S.Ts.length) (P':PM) (D':Nat→Nat→Int):oW (S.space o.j P' D'):=by
 refine ⟨k.run,fun j hj hn=>?_,k.fit⟩
 obtain ⟨h1,h2⟩:=k.gone j hj hn
 refine ⟨h1,?_⟩
 have hne:j≠o.j:=fun e=>hn p o ho e.symm
 by_cases hl':o.j<S.Ms.length
 ·rw [dM hl',if_neg hne];exact h2
 ·unfold KS.space aK;rw [List.set_eq_of_length_le (by omega)];exact h2
theorem oW.files (k:oW S) (ho:S.O p=some o) (D':DS) (N':Ns):oW (S.files D' o.j N'):=by
 refine ⟨k.run,fun j hj hn=>?_,k.fit⟩
 have hj':j<S.Ts.length:=by unfold KS.files at hj;simpa using hj
 obtain ⟨h1,h2⟩:=k.gone j hj' hn
 refine ⟨?_,h2⟩
 have hne:j≠o.j:=fun e=>hn p o ho e.symm
 by_cases hl':o.j<S.Ts.length
 ·rw [fo hl',if_neg hne];exact h1
 ·unfold KS.files ax;rw [List.set_eq_of_length_le (by omega)];exact h1
theorem oW.tree (k:oW S) (T':Wd):oW (S.tree T'):=⟨k.run,k.gone,k.fit⟩
theorem oW.own (k:oW S) (ho:S.O p=some o) {M':Nat→Int}{a':Int}(hM:Fit M') (ha:-100≤a'∧a'≤100):oW (S.own p ⟨o.j,M',a'⟩):=by
 refine ⟨fun x=>?_,fun j hj hn=>k.gone j hj (fun x o' e=>?_),fun x o' e=>?_⟩
 ·by_cases e:x=p
  ·have:=k.run x
   rw [e] at this ⊢
   rw [ho] at this
   show (jI S.O p _ p).isSome=_
   rw [dH];exact this
  ·show (jI S.O p _ x).isSome=_
   rw [fG e];exact k.run x
 ·by_cases ex:x=p
  ·subst ex
   rw [ho] at e
   obtain rfl:=Option.some.inj e
   exact hn x ⟨o.j,M',a'⟩ (dH _ _ _)
  ·exact hn x o' (by show jI S.O p _ x=_;rw [fG ex];exact e)
 ·by_cases ex:x=p
  ·subst ex
   have e:jI S.O x ⟨o.j,M',a'⟩ x=some o':=e
   rw [dH] at e
   obtain rfl:=Option.some.inj e
   exact ⟨hM,ha⟩
  ·have e:jI S.O p ⟨o.j,M',a'⟩ x=some o':=e
   rw [fG ex] at e
   exact k.fit x o' e
theorem oW.procs (k:oW S) {P':Ps}(h:∀x,ay P' x=ay S.P x):oW (S.procs P'):=⟨fun x=>(k.run x).trans (h x).symm,k.gone,k.fit⟩
theorem KX.toN (h:KX w m H S U q A) (ok:oW S) (e:∀p o,S.O p=some o→∀k,k<3→U o.j k=jM S o.j k):KN w m H S q A:=⟨h.Fg e,ok⟩
theorem KN.below (h:KN w m H S q A) (hb:Below w.heap.size w w'):KN w' m H S q A:=⟨h.1.below hb,h.2⟩
theorem KN.more (h:KN w m H S q A) {q':Nat}(hq:q≤q'):KN w m H S q' A:=⟨h.1.more hq,h.2⟩
theorem KN.Xl (h:KN w m H S q A):S.O p=none↔ay S.P p=false:=by
 rw [←h.2.run p];cases S.O p<;>simp
def pR (w:World) (A:Nat→Prop) (l:List (Nat×Value)):Prop:=∀y∈l,w.cell? ⟨y.1,0,none⟩=some y.2∧¬A y.1
theorem pR.nV {A':Nat→Prop}{l:List (Nat×Value)}(h:pR w A l) (st:Stp w w' A A'):pR w' A' l:=fun y hy=>st.bg (h y hy).1 (h y hy).2
theorem pR.below {l:List (Nat×Value)}(h:pR w A l) (hb:Below w.heap.size w w'):pR w' A l:=h.nV (.below hb)
theorem gQ (w:World) (a:Value) (ta:TypeId):Below w.heap.size w (w.alloc (.cells #[a] ta))∧(w.alloc (.cells #[a] ta)).heap.size=w.heap.size+1∧(w.alloc (.cells #[a] ta)).cell? ⟨w.heap.size,0,none⟩=some a∧(w.alloc (.cells #[a] ta)).frozen? ⟨w.heap.size,0,none⟩=false:=by
 have h:(w.alloc (.cells #[a] ta)).heap[w.heap.size]? = some (.cells #[a] ta):=by
  show (w.heap.push _)[w.heap.size]? = _
  rw [Array.getElem?_push,if_pos rfl]
 exact ⟨(Below.refl _ w).alloc (Nat.le_refl _) _,by show (w.heap.push _).size=_;rw [Array.size_push],by rw [cell_of_row _ _ _ _ _ _ h];rfl,by unfold World.frozen?;simp only [h];rfl⟩
theorem aV {V:World}(hb:Below w.heap.size w V) {x:Nat}{v:Value}(h:w.cell? ⟨x,0,none⟩=some v):V.cell? ⟨x,0,none⟩=some v:=by
 rw [hb.cell (p:=⟨x,0,none⟩) (World.block_lt_of_cell? w _ h)];exact h
theorem qZ (w:World) (a b:Value) (ta tb:TypeId):Below w.heap.size w ((w.alloc (.cells #[a] ta)).alloc (.cells #[b] tb))∧((w.alloc (.cells #[a] ta)).alloc (.cells #[b] tb)).heap.size=w.heap.size+1+1∧((w.alloc (.cells #[a] ta)).alloc (.cells #[b] tb)).cell? ⟨w.heap.size,0,none⟩=some a∧((w.alloc (.cells #[a] ta)).alloc (.cells #[b] tb)).cell? ⟨w.heap.size+1,0,none⟩=some b:=by
 obtain ⟨b1,s1,c1,_⟩:=gQ w a ta
 obtain ⟨b2,s2,c2,_⟩:=gQ (w.alloc (.cells #[a] ta)) b tb
 rw [s1] at s2 c2
 exact ⟨b1.trans (b2.mono (by omega)),s2,(aV b2 c1),c2⟩
theorem yB (w:World) (a b c:Value) (ta tb tc:TypeId):Below w.heap.size w (((w.alloc (.cells #[a] ta)).alloc (.cells #[b] tb)).alloc (.cells #[c] tc))∧(((w.alloc (.cells #[a] ta)).alloc (.cells #[b] tb)).alloc (.cells #[c] tc)).heap.size=w.heap.size+1+1+1∧(((w.alloc (.cells #[a] ta)).alloc (.cells #[b] tb)).alloc (.cells #[c] tc)).cell? ⟨w.heap.size,0,none⟩=some a∧(((w.alloc (.cells #[a] ta)).alloc (.cells #[b] tb)).alloc (.cells #[c] tc)).cell? ⟨w.heap.size+1,0,none⟩=some b∧(((w.alloc (.cells #[a] ta)).alloc (.cells #[b] tb)).alloc (.cells #[c] tc)).cell? ⟨w.heap.size+1+1,0,none⟩=some c:=by
 obtain ⟨b1,s1,c1,c2⟩:=qZ w a b ta tb
 obtain ⟨b2,s2,c3,_⟩:=gQ ((w.alloc (.cells #[a] ta)).alloc (.cells #[b] tb)) c tc
 rw [s1] at s2 c3
 exact ⟨b1.trans (b2.mono (by omega)),s2,(aV b2 c1),(aV b2 c2),c3⟩
end
section
variable {w w':World}{m:Int}{H:KH}{S:KS}{U U':Nat→Nat→Int}{q:Nat}{A:Nat→Prop}{p:Int}{o:Ow}
theorem xP {P:PM}{a af:Int}(h0:0≤a):∀(n:Nat),a+n≤64→(∀i:Nat,i<n→P (a+i)=none)→bI (fe P a n af)=bI P+n
 |0,_,_=>by rw [xM,Nat.add_zero]
 |n+1,h1,hn=>by
  rw [xN,rY (by omega) (by omega) (by rw [Dk];exact hn n (by omega)),xP h0 n (by omega) (fun i hi=>hn i (by omega))]
  omega
theorem zG {P:PM}{a:Int}(h0:0≤a):∀(n:Nat),a+n≤64→(∀i:Nat,i<n→(P (a+i)).isSome=true)→bI (jG P a n)+n=bI P
 |0,_,_=>by rw [tK,Nat.add_zero]
 |n+1,h1,hn=>by
  have:=zG h0 n (by omega) (fun i hi=>hn i (by omega))
  have h2:=wN (P:=jG P a n) (a:=a+n) (by omega) (by omega) (by rw [Hf];exact hn n (by omega))
  rw [tL]
  omega
theorem Uo {P:PM}{a af:Int}{n:Nat}(hn:∀i:Nat,i<n→P (a+i)=none):jG (fe P a n af) a n=P:=by
 funext x
 unfold jG fe
 by_cases e:a≤x∧x<a+n
 ·rw [if_pos e]
  have:=hn (x-a).toNat (by omega)
  rw [show a+((x-a).toNat:Int)=x by omega] at this
  exact this.symm
 ·rw [if_neg e,if_neg e]
theorem uf {P:PM}{a n af:Int}(h:iP P a n af=0):1≤n∧0≤a∧a+n≤64∧PE af=true∧gU P a n.toNat=0:=by
 unfold iP at h
 split at h
 ·omega
 ·rename_i h1
  split at h
  ·omega
  ·rename_i h2
   split at h
   ·rename_i h3
    obtain ⟨a1,a2,a3⟩:=jP.1 (by simpa using h1)
    exact ⟨a1,a2,a3,by simpa using h2,h3⟩
   ·omega
theorem Od {P:PM}{a n af:Int}(h:iP P a n af=0):((bI (kP P a n af):Nat):Int)=bI P+n:=by
 obtain ⟨h1,h2,h3,h4,h5⟩:=uf h
 unfold kP
 rw [if_pos h,xP h2 n.toNat (by omega) (fun i hi=>pM h5 i hi)]
 omega
theorem Jt {P:PM}{a n af:Int}(h:iP P a n af=0):EC (kP P a n af) a n=P:=by
 obtain ⟨h1,h2,h3,h4,h5⟩:=uf h
 have hm:kP P a n af=fe P a n.toNat af:=if_pos h
 have hE:u6 (fe P a n.toNat af) a n=0:=by
  unfold u6
  rw [jP.2 ⟨h1,h2,h3⟩,if_neg (by simp),if_neg]
  intro hlt
  have hx:gU (fe P a n.toNat af) a n.toNat=n.toNat:=by
   unfold gU
   have:∀k:Nat,k≤n.toNat→sumTo (fun i=>if (fe P a n.toNat af (a+i)).isSome then 1 else 0) 0 k=k:=fun k=>by
    induction k with
    |zero=>intro _;rfl
    |succ k ih=>
     intro hk
     rw [nC,ih (by omega),Nat.zero_add]
     have:(fe P a n.toNat af (a+k)).isSome=true:=by unfold fe;rw [if_pos (by omega)];rfl
     rw [if_pos this]
   exact this _ (Nat.le_refl _)
  omega
 unfold EC
 rw [hm,if_pos hE]
 exact Uo (fun i hi=>pM h5 i hi)
theorem Rm {P:PM}{a n af:Int}(h:iP P a n af≠0):kP P a n af=P:=if_neg h
def og (S:KS) (o:Ow) (a n af:Int):Int:=if iP (aK S o.j) a n af≠0 then iP (aK S o.j) a n af else if ((bI (aK S o.j):Nat):Int)+n≤o.m 0 then 0 else 4
def jA (S:KS) (o:Ow) (a n af:Int):KS:=if og S o a n af=0 then S.space o.j (kP (aK S o.j) a n af) S.W else S
theorem Qj {S:KS}{o:Ow}{a n af:Int}(h:iP (aK S o.j) a n af=0):why (jM S o.j) o.m 0 n=og S o a n af:=by
 obtain ⟨h1,h2,h3,h4,h5⟩:=uf h
 unfold og why
 rw [if_neg (not_not_intro h)]
 have e:jM S o.j (0:Int).toNat=((bI (aK S o.j):Nat):Int):=rfl
 have e2:o.m (0:Int).toNat=o.m 0:=rfl
 rw [e,e2]
 have hl:=ni (aK S o.j)
 by_cases hc:((bI (aK S o.j):Nat):Int)+n≤o.m 0
 ·rw [if_pos hc,if_neg (by omega),if_neg (by omega),if_neg (by omega),if_neg (by omega)]
 ·rw [if_neg hc,if_neg (by omega),if_neg (by omega),if_pos (by omega)]
theorem KX.Zg (h:KX w m H S U q A) (ho:S.O p=some o) (a n af:Int) (hn:n≤9223372036854775807) {x0 x1 x2 x3:Nat}(hb:pR w A [(x0,wp (H.hs o.j)),(x1,.int .i64 a),(x2,.int .i64 n),(x3,.int .i64 af)]) :
 Calls Tryz.prog 126 #[wp x0,wp x1,wp x2,wp x3] w fun y w'=>y=.returned (aH (iP (aK S o.j) a n af))∧∃A',KX w' m H (S.space o.j (kP (aK S o.j) a n af) S.W) U q A'∧Stp w w' A A':=by
 have cells:∀ {w':World}{A':Nat→Prop}{S':KS},KX w' m H S' U q A'→S'.O p=some o→pR w' A' [(x0,wp (H.hs o.j)),(x1,.int .i64 a),(x2,.int .i64 n),(x3,.int .i64 af)]→w'.cell? ⟨x0,0,none⟩=some (wp (H.hs o.j))∧w'.cell? ⟨x1,0,none⟩=some (.int .i64 a)∧w'.cell? ⟨x2,0,none⟩=some (.int .i64 n)∧w'.cell? ⟨x3,0,none⟩=some (.int .i64 af)∧w'.cell? ⟨H.hs o.j,0,none⟩=some (wp (H.sp o.j)):=fun h' ho' b'=>
  ⟨(b' (x0,_) (by simp)).1,(b' (x1,_) (by simp)).1,(b' (x2,_) (by simp)).1,(b' (x3,_) (by simp)).1,(h'.hd ho').at 0⟩
 have c0:=cells h ho hb
 have hM:Calls Tryz.prog 127 #[wp (H.sp o.j),.int .i64 a,.int .i64 n,.int .i64 af] w.drew fun y w'=>y=.returned (aH (iP (aK S o.j) a n af))∧(w'.cell? ⟨x0,0,none⟩=some (wp (H.hs o.j))∧w'.cell? ⟨x1,0,none⟩=some (.int .i64 a)∧w'.cell? ⟨x2,0,none⟩=some (.int .i64 n)∧w'.cell? ⟨x3,0,none⟩=some (.int .i64 af)∧w'.cell? ⟨H.hs o.j,0,none⟩=some (wp (H.sp o.j)))∧∃A',KX w' m H (S.space o.j (kP (aK S o.j) a n af) S.W) U q A'∧Stp w w' A A':=by
  refine ((h.below (bG w)).map (h.qh ho) a n af hn).mono ?_
  rintro y w' ⟨rfl,A',h',st⟩
  have st':Stp w w' A A':=Stp.base (V:=w.drew) rfl rfl rfl rfl st
  exact ⟨rfl,cells h' ho (hb.nV st'),A',h',st'⟩
 generalize iP (aK S o.j) a n af=E at *
 generalize S.space o.j (kP (aK S o.j) a n af) S.W=S2 at *
 clear h ho cells hb
 go_enter Tryz.func126,Tryz.ntmps126
 go_upto_region 1 with fail
 go_region_held3 (fun w'=>w'.cell? ⟨x0,0,none⟩=some (wp (H.hs o.j))∧w'.cell? ⟨x1,0,none⟩=some (.int .i64 a)∧w'.cell? ⟨x2,0,none⟩=some (.int .i64 n)∧w'.cell? ⟨x3,0,none⟩=some (.int .i64 af)∧w'.cell? ⟨H.hs o.j,0,none⟩=some (wp (H.sp o.j))) (first|exact c0|exact c1) (first
  |(go_at_call 127;refine hM.mono ?_;rintro e w1 ⟨rfl,c1,hw⟩))
 all_goals
  go_wp2_with fail
  go_ret
  exact ⟨rfl,hw⟩
theorem KX.Zf (h:KX w m H S U q A) (ho:S.O p=some o) (a n:Int) (hn:n≤9223372036854775807) {x0 x1 x2:Nat}(hb:pR w A [(x0,wp (H.hs o.j)),(x1,.int .i64 a),(x2,.int .i64 n)]) :
 Calls Tryz.prog 128 #[wp x0,wp x1,wp x2] w fun y w'=>y=.returned (aH (u6 (aK S o.j) a n))∧∃A',KX w' m H (S.space o.j (EC (aK S o.j) a n) S.W) U q A'∧Stp w w' A A':=by
 have cells:∀ {w':World}{A':Nat→Prop}{S':KS},KX w' m H S' U q A'→S'.O p=some o→pR w' A' [(x0,wp (H.hs o.j)),(x1,.int .i64 a),(x2,.int .i64 n)]→w'.cell? ⟨x0,0,none⟩=some (wp (H.hs o.j))∧w'.cell? ⟨x1,0,none⟩=some (.int .i64 a)∧w'.cell? ⟨x2,0,none⟩=some (.int .i64 n)∧w'.cell? ⟨H.hs o.j,0,none⟩=some (wp (H.sp o.j)):=fun h' ho' b'=>
  ⟨(b' (x0,_) (by simp)).1,(b' (x1,_) (by simp)).1,(b' (x2,_) (by simp)).1,(h'.hd ho').at 0⟩
 have c0:=cells h ho hb
 have hM:Calls Tryz.prog 129 #[wp (H.sp o.j),.int .i64 a,.int .i64 n] w.drew fun y w'=>y=.returned (aH (u6 (aK S o.j) a n))∧(w'.cell? ⟨x0,0,none⟩=some (wp (H.hs o.j))∧w'.cell? ⟨x1,0,none⟩=some (.int .i64 a)∧w'.cell? ⟨x2,0,none⟩=some (.int .i64 n)∧w'.cell? ⟨H.hs o.j,0,none⟩=some (wp (H.sp o.j)))∧∃A',KX w' m H (S.space o.j (EC (aK S o.j) a n) S.W) U q A'∧Stp w w' A A':=by
  refine ((h.below (bG w)).vS (h.qh ho) a n hn).mono ?_
  rintro y w' ⟨rfl,A',h',st⟩
  have st':Stp w w' A A':=Stp.base (V:=w.drew) rfl rfl rfl rfl st
  exact ⟨rfl,cells h' ho (hb.nV st'),A',h',st'⟩
 generalize u6 (aK S o.j) a n=E at *
 generalize S.space o.j (EC (aK S o.j) a n) S.W=S2 at *
 clear h ho cells hb
 go_enter Tryz.func128,Tryz.ntmps128
 go_upto_region 1 with fail
 go_region_held3 (fun w'=>w'.cell? ⟨x0,0,none⟩=some (wp (H.hs o.j))∧w'.cell? ⟨x1,0,none⟩=some (.int .i64 a)∧w'.cell? ⟨x2,0,none⟩=some (.int .i64 n)∧w'.cell? ⟨H.hs o.j,0,none⟩=some (wp (H.sp o.j))) (first|exact c0|exact c1) (first
  |(go_at_call 129;refine hM.mono ?_;rintro e w1 ⟨rfl,c1,hw⟩))
 all_goals
  go_wp2_with fail
  go_ret
  exact ⟨rfl,hw⟩
theorem KN.Ii (h:KN w m H S q A) (ho:S.O p=some o) (a n af:Int) (hn:n≤9223372036854775807) :
 Calls Tryz.prog 45 #[wp H.kb,.int .i64 p,.int .i64 a,.int .i64 n,.int .i64 af] w fun y w'=>y=.returned (aH (og S o a n af))∧∃A',KN w' m H (jA S o a n af) q A'∧Stp w w' A A':=by
 have hpay:∀(W:World) (x0 x1 x2 x3:Nat),Below w.heap.size w W→pR W A [(x0,wp (H.hs o.j)),(x1,.int .i64 a),(x2,.int .i64 n),(x3,.int .i64 af)]→
  Calls Tryz.prog 125 #[wp (H.hs o.j),.int .i64 0,.int .i64 n,.func (.func 126) #[] #[wp x0,wp x1,wp x2,wp x3],.func (.func 128) #[] #[wp x0,wp x1,wp x2]] W fun y w'=>∃c,y=.returned (aH c)∧c=og S o a n af∧∃A',KN w' m H (jA S o a n af) q A'∧Stp w w' A A':=fun W x0 x1 x2 x3 bW bx=>by
  have hW:=h.1.below bW
  have sw:=h.1.mlt ho
  refine xH (H.hs o.j) 0 n (fun args w=>by kernel_rfl) (fun args w=>by kernel_rfl) (R:=fun c w'=>c=og S o a n af∧∃A',KN w' m H (jA S o a n af) q A'∧Stp w w' A A') ((hW.Zg ho a n af hn bx).mono ?_)
  rintro y w1 ⟨rfl,A1,h1,st1⟩
  refine ⟨_,rfl,fun hc=>?_,fun hc=>?_⟩
  ·have e1:og S o a n af=iP (aK S o.j) a n af:=if_pos hc
   have e2:jA S o a n af=S:=by unfold jA;rw [e1,if_neg hc]
   rw [Rm hc,nD sw] at h1
   rw [e1,e2]
   exact ⟨rfl,A1,⟨h1,h.2⟩,st1.after bW⟩
  ·have hd1:=h1.hd (p:=p) (o:=o) ho
   refine ⟨why (jM S o.j) o.m 0 n,(hd1.AU (h.1.ET o.j) (h.2.fit p o ho).1 0 n h1.er (h1.hne (p:=p) (o:=o) ho)).mono ?_⟩
   rintro y w2 ⟨rfl,hd2,g2⟩
   obtain ⟨A2,h2,st2⟩:=h1.led (p:=p) (o:=o) ho hd2 g2
   have Ma:Stp w w2 A A2:=(st1.after bW).trans st2
   have ew:=Qj hc
   refine ⟨rfl,fun hz=>?_,fun hz=>?_⟩
   ·have e2:jA S o a n af=S.space o.j (kP (aK S o.j) a n af) S.W:=by unfold jA;rw [←ew,if_pos hz]
    rw [←ew,e2]
    refine ⟨hz.symm,A2,h2.toN (h.2.space ho h.1.len _ _) (fun p' o' ho' k hk=>?_),Ma⟩
    by_cases ej:o'.j=o.j
    ·simp only [if_pos ej]
     unfold LU
     rw [if_pos hz,ej]
     unfold after put jM
     rw [dM sw,if_pos rfl,oD]
     have Zx:=Od hc
     match k,hk with
     |0,_=>simp only [Int.toNat_zero,if_true];exact Zx.symm
     |1,_=>rfl
     |2,_=>rfl
    ·simp only [if_neg ej]
     unfold jM
     rw [dM sw,if_neg ej,oD]
   ·have e2:jA S o a n af=S:=by unfold jA;rw [←ew,if_neg hz]
    have Cn:KX w2 m H (S.space o.j (kP (aK S o.j) a n af) S.W) (jM S) q A2:=h2.Fg (fun p' o' ho' k hk=>by
     by_cases ej:o'.j=o.j
     ·simp only [if_pos ej]
      unfold LU
      rw [if_neg hz,ej]
     ·simp only [if_neg ej])
    have YU:pR w2 A2 [(x0,wp (H.hs o.j)),(x1,.int .i64 a),(x2,.int .i64 n)]:=fun y hy=>((bx.nV st1).nV st2) y (by simp at hy ⊢;rcases hy with z|z|z<;>simp [z])
    refine (Cn.Zf (p:=p) (o:=o) ho a n hn YU).mono ?_
    rintro y w3 ⟨rfl,A3,h3,vI⟩
    rw [Eb,dM sw,if_pos rfl,Jt hc] at h3
    have:(S.space o.j (kP (aK S o.j) a n af) S.W).W=S.W:=rfl
    rw [this,nD sw] at h3
    rw [←ew,e2]
    exact ⟨_,rfl,rfl,A3,⟨h3,h.2⟩,Ma.trans vI⟩
 have hF:=fun W (hb:Below w.heap.size w W)=>(h.1.below hb).aB ho
 have hA:=h.1.lt
 generalize og S o a n af=E at *
 generalize jA S o a n af=S2 at *
 have HP:Aside _:=hpay
 have HF:Aside _:=hF
 clear h ho hpay hF
 go_enter Tryz.func45,Tryz.ntmps45
 go_upto_region 1 with fail
 obtain ⟨b3,s3,c1,c2,c3⟩:=yB w (.int .i64 a) (.int .i64 n) (.int .i64 af) 3 3 3
 generalize ((w.alloc (.cells #[.int .i64 a] 3)).alloc (.cells #[.int .i64 n] 3)).alloc (.cells #[.int .i64 af] 3)=W at *
 have hF:=HF.out W b3
 clear HF
 go_upto_region 4 with (go_at_call 51;refine hF.mono ?_;rintro e w1 ⟨rfl,hw⟩;subst w1)
 obtain ⟨b4,s4,c4,_⟩:=gQ W (wp (H.hs o.j)) 99
 rw [s3] at c4
 have d1:=aV b4 c1
 have d2:=(aV b4 c2)
 have d3:=(aV b4 c3)
 generalize W.alloc (.cells #[wp (H.hs o.j)] 99)=V at *
 have bV:Below w.heap.size w V:=b3.trans (b4.mono b3.size)
 have hP:=HP.out V (w.heap.size+1+1+1) w.heap.size (w.heap.size+1) (w.heap.size+1+1) bV (fun y hy=>by
  have hn:∀i,w.heap.size≤i→¬A i:=fun i hi z=>by have:=hA i z;omega
  simp only [List.mem_cons,List.not_mem_nil,or_false] at hy
  rcases hy with rfl|rfl|rfl|rfl
  ·exact ⟨c4,hn _ (by omega)⟩
  ·exact ⟨d1,hn _ (Nat.le_refl _)⟩
  ·exact ⟨d2,hn _ (by omega)⟩
  ·exact ⟨d3,hn _ (by omega)⟩)
 clear HP c1 c2 c3 hF b3 b4 bV s3 s4 d1 d3
 go_wp2_with (go_at_call 125;refine hP.mono ?_;rintro e w1 ⟨c,rfl,hc,hR⟩)
 go_ret
 exact ⟨by rw [←hc];rfl,hR⟩
end
section
variable {w w':World}{m:Int}{H:KH}{S:KS}{U:Nat→Nat→Int}{q:Nat}{A:Nat→Prop}{p:Int}{o:Ow}
theorem KX.JF (h:KX w m H S U q A) (ho:S.O p=none) (hp:(Lit.int .i64 p).wf=true) :
 Calls Tryz.prog 26 #[wp H.kb,.int .i64 p] w fun y w'=>y=.returned (.tuple #[.bool false,eZ 7])∧w'=w:=by
 have hF:=h.aS ho hp
 clear h ho
 go_enter Tryz.func26,Tryz.ntmps26
 go_wp2_with (go_at_call 51;refine hF.mono ?_;rintro e w1 ⟨rfl,hw⟩;subst w1)
 go_ret2
 exact ⟨rfl,rfl⟩
theorem KX.RB (h:KX w m H S U q A) (ho:S.O p=none) (hp:(Lit.int .i64 p).wf=true) :
 Calls Tryz.prog 14 #[wp H.kb,.int .i64 p] w fun y w'=>y=.returned (.tuple #[.int .i64 0,eZ 7])∧w'=w:=by
 have hF:=h.aS ho hp
 clear h ho
 go_enter Tryz.func14,Tryz.ntmps14
 go_wp2_with (go_at_call 51;refine hF.mono ?_;rintro e w1 ⟨rfl,hw⟩;subst w1)
 go_ret2
 exact ⟨rfl,rfl⟩
theorem KX.RG (h:KX w m H S U q A) (ho:S.O p=none) (hp:(Lit.int .i64 p).wf=true) (x:Int) :
 Calls Tryz.prog 20 #[wp H.kb,.int .i64 p,.int .i64 x] w fun y w'=>y=.returned (eZ 7)∧w'=w:=by
 have hF:=h.aS ho hp
 clear h ho
 go_enter Tryz.func20,Tryz.ntmps20
 go_wp2_with (go_at_call 51;refine hF.mono ?_;rintro e w1 ⟨rfl,hw⟩;subst w1)
 go_ret
 exact ⟨rfl,rfl⟩
theorem KX.RI (h:KX w m H S U q A) (ho:S.O p=none) (hp:(Lit.int .i64 p).wf=true) :
 Calls Tryz.prog 37 #[wp H.kb,.int .i64 p] w fun y w'=>y=.returned (eZ 7)∧w'=w:=by
 have hF:=h.aS ho hp
 clear h ho
 go_enter Tryz.func37,Tryz.ntmps37
 go_wp2_with (go_at_call 51;refine hF.mono ?_;rintro e w1 ⟨rfl,hw⟩;subst w1)
 go_ret
 exact ⟨rfl,rfl⟩
theorem KX.G9 (h:KX w m H S U q A) (ho:S.O p=none) (hp:(Lit.int .i64 p).wf=true) :
 Calls Tryz.prog 36 #[wp H.kb,.int .i64 p] w fun y w'=>y=.returned (.tuple #[.int .i64 0,.int .i64 0,eZ 7])∧w'=w:=by
 have hF:=h.aS ho hp
 clear h ho
 go_enter Tryz.func36,Tryz.ntmps36
 go_wp2_with (go_at_call 51;refine hF.mono ?_;rintro e w1 ⟨rfl,hw⟩;subst w1)
 go_ret3
 exact ⟨rfl,rfl⟩
theorem KX.Rt (h:KX w m H S U q A) (ho:S.O p=none) (hp:(Lit.int .i64 p).wf=true) (x y:Int) :
 Calls Tryz.prog 92 #[wp H.kb,.int .i64 p,.int .i64 x,.int .i64 y] w fun y w'=>y=.returned (eZ 7)∧w'=w:=by
 have hF:=h.aS ho hp
 clear h ho
 go_enter Tryz.func92,Tryz.ntmps92
 go_wp2_with (go_at_call 51;refine hF.mono ?_;rintro e w1 ⟨rfl,hw⟩;subst w1)
 go_ret
 exact ⟨rfl,rfl⟩
theorem KX.Og (h:KX w m H S U q A) (ho:S.O p=none) (hp:(Lit.int .i64 p).wf=true) (x y:Int) :
 Calls Tryz.prog 41 #[wp H.kb,.int .i64 p,.int .i64 x,.int .i64 y] w fun y w'=>y=.returned (eZ 7)∧w'=w:=by
 have hF:=h.aS ho hp
 clear h ho
 go_enter Tryz.func41,Tryz.ntmps41
 go_wp2_with (go_at_call 51;refine hF.mono ?_;rintro e w1 ⟨rfl,hw⟩;subst w1)
 go_ret
 exact ⟨rfl,rfl⟩
theorem KX.LA (h:KX w m H S U q A) (ho:S.O p=none) (hp:(Lit.int .i64 p).wf=true) (x:Int) :
 Calls Tryz.prog 94 #[wp H.kb,.int .i64 p,.int .i64 x] w fun y w'=>y=.returned (eZ 7)∧w'=w:=by
 have hF:=h.aS ho hp
 clear h ho
 go_enter Tryz.func94,Tryz.ntmps94
 go_wp2_with (go_at_call 51;refine hF.mono ?_;rintro e w1 ⟨rfl,hw⟩;subst w1)
 go_ret
 exact ⟨rfl,rfl⟩
theorem KX.Nl (h:KX w m H S U q A) (ho:S.O p=none) (hp:(Lit.int .i64 p).wf=true) (x y:Int) :
 Calls Tryz.prog 95 #[wp H.kb,.int .i64 p,.int .i64 x,.int .i64 y] w fun y w'=>y=.returned (eZ 7)∧w'=w:=by
 have hF:=h.aS ho hp
 clear h ho
 go_enter Tryz.func95,Tryz.ntmps95
 go_wp2_with (go_at_call 51;refine hF.mono ?_;rintro e w1 ⟨rfl,hw⟩;subst w1)
 go_ret
 exact ⟨rfl,rfl⟩
theorem KX.FM (h:KX w m H S U q A) (ho:S.O p=none) (hp:(Lit.int .i64 p).wf=true) (x y z:Int) :
 Calls Tryz.prog 96 #[wp H.kb,.int .i64 p,.int .i64 x,.int .i64 y,.int .i64 z] w fun y w'=>y=.returned (eZ 7)∧w'=w:=by
 have hF:=h.aS ho hp
 clear h ho
 go_enter Tryz.func96,Tryz.ntmps96
 go_wp2_with (go_at_call 51;refine hF.mono ?_;rintro e w1 ⟨rfl,hw⟩;subst w1)
 go_ret
 exact ⟨rfl,rfl⟩
theorem KX.Nz (h:KX w m H S U q A) (ho:S.O p=none) (hp:(Lit.int .i64 p).wf=true) (x y z:Int) :
 Calls Tryz.prog 42 #[wp H.kb,.int .i64 p,.int .i64 x,.int .i64 y,.int .i64 z] w fun y w'=>y=.returned (.tuple #[.slice none 0 0,eZ 7])∧w'=w:=by
 have hF:=h.aS ho hp
 clear h ho
 go_enter Tryz.func42,Tryz.ntmps42
 go_wp2_with (go_at_call 51;refine hF.mono ?_;rintro e w1 ⟨rfl,hw⟩;subst w1)
 go_ret2
 exact ⟨rfl,rfl⟩
theorem KX.Rl (h:KX w m H S U q A) (ho:S.O p=none) (hp:(Lit.int .i64 p).wf=true) (x:Int) (c:Bool) :
 Calls Tryz.prog 189 #[wp H.kb,.int .i64 p,.int .i64 x,.bool c] w fun y w'=>y=.returned (eZ 7)∧w'=w:=by
 have hF:=h.aS ho hp
 clear h ho
 go_enter Tryz.func189,Tryz.ntmps189
 go_wp2_with (go_at_call 51;refine hF.mono ?_;rintro e w1 ⟨rfl,hw⟩;subst w1)
 go_ret
 exact ⟨rfl,rfl⟩
theorem KX.wU (h:KX w m H S U q A) (ho:S.O p=none) (hp:(Lit.int .i64 p).wf=true) (x:Int) :
 Calls Tryz.prog 15 #[wp H.kb,.int .i64 p,.int .i64 x] w fun y w'=>y=.returned (eZ 7)∧w'=w:=by
 have hF:=h.aS ho hp
 clear h ho
 go_enter Tryz.func15,Tryz.ntmps15
 go_wp2_with (go_at_call 51;refine hF.mono ?_;rintro e w1 ⟨rfl,hw⟩;subst w1)
 go_ret
 exact ⟨rfl,rfl⟩
theorem KX.vv (h:KX w m H S U q A) (ho:S.O p=none) (hp:(Lit.int .i64 p).wf=true) (x y:Int) :
 Calls Tryz.prog 19 #[wp H.kb,.int .i64 p,.int .i64 x,.int .i64 y] w fun y w'=>y=.returned (.tuple #[tx [],eZ 7])∧w'=w:=by
 have hF:=h.aS ho hp
 clear h ho
 go_enter Tryz.func19,Tryz.ntmps19
 go_wp2_with (go_at_call 51;refine hF.mono ?_;rintro e w1 ⟨rfl,hw⟩;subst w1)
 go_ret2
 exact ⟨rfl,rfl⟩
theorem KX.rM (h:KX w m H S U q A) (ho:S.O p=none) (hp:(Lit.int .i64 p).wf=true) (x:Int) (s:List UInt8) :
 Calls Tryz.prog 16 #[wp H.kb,.int .i64 p,.int .i64 x,tx s] w fun y w'=>y=.returned (.tuple #[.int .i64 0,eZ 7])∧w'=w:=by
 have hF:=h.aS ho hp
 clear h ho
 go_enter Tryz.func16,Tryz.ntmps16
 go_wp2_with (go_at_call 51;refine hF.mono ?_;rintro e w1 ⟨rfl,hw⟩;subst w1)
 go_ret2
 exact ⟨rfl,rfl⟩
theorem KX.Ob (h:KX w m H S U q A) (ho:S.O p=none) (hp:(Lit.int .i64 p).wf=true) (s:List UInt8) :
 Calls Tryz.prog 191 #[wp H.kb,.int .i64 p,tx s] w fun y w'=>y=.returned (eZ 7)∧w'=w:=by
 have hF:=h.aS ho hp
 clear h ho
 go_enter Tryz.func191,Tryz.ntmps191
 go_wp2_with (go_at_call 51;refine hF.mono ?_;rintro e w1 ⟨rfl,hw⟩;subst w1)
 go_ret
 exact ⟨rfl,rfl⟩
theorem KX.tJ (h:KX w m H S U q A) (ho:S.O p=none) (hp:(Lit.int .i64 p).wf=true) (s:List UInt8) :
 Calls Tryz.prog 193 #[wp H.kb,.int .i64 p,tx s] w fun y w'=>y=.returned (eZ 7)∧w'=w:=by
 have hF:=h.aS ho hp
 clear h ho
 go_enter Tryz.func193,Tryz.ntmps193
 go_wp2_with (go_at_call 51;refine hF.mono ?_;rintro e w1 ⟨rfl,hw⟩;subst w1)
 go_ret
 exact ⟨rfl,rfl⟩
theorem KX.tX (h:KX w m H S U q A) (ho:S.O p=none) (hp:(Lit.int .i64 p).wf=true) (s u:List UInt8) :
 Calls Tryz.prog 194 #[wp H.kb,.int .i64 p,tx s,tx u] w fun y w'=>y=.returned (eZ 7)∧w'=w:=by
 have hF:=h.aS ho hp
 clear h ho
 go_enter Tryz.func194,Tryz.ntmps194
 go_wp2_with (go_at_call 51;refine hF.mono ?_;rintro e w1 ⟨rfl,hw⟩;subst w1)
 go_ret
 exact ⟨rfl,rfl⟩
end
end Go.Proofs.YtcfhanoekniaaaaGreatDoor

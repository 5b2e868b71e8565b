/- Package desc, with several tables: Close, Dup2, Pipe, Read, Write, Exec, Clear, Fork; the tree's Unlink. -/
import Derived.Test.YtippochapiolpaaGreatDoorDFlat2
import Derived.Test.YtippochapiolpaaGreatDoorVNew
import Derived.Test.YtippochapiolpaaGreatDoorVPg
import Derived.Test.YtippochapiolpaaGreatDoorJProg4
import Derived.Test.YtippochapiolpaaGreatDoorOVic
import Derived.Test.YtippochapiolpaaGreatDoorAdd
import Derived.Test.YtippochapiolpaaGreatDoorZPay
import Derived.Test.YtippochapiolpaaGreatDoorJProg8
import Derived.Deep.QuietTactic
import Derived.Deep.RegionHeld3
set_option maxHeartbeats 4000000
set_option maxRecDepth 100000
namespace Go.Proofs.YtippochapiolpaaGreatDoor
open Go.RowKit Go.Maps
section
variable {w w' w2 w0 w1:World}{f r b n k k' j:Nat}{D D':DS}{g g':QG}{bs:List Nat}{Ts:List Ns}{M N N':Ns}{d m:Int}{A:Nat→Prop}
theorem KD.close (h:KD w m f r D bs Ts k A) (hk:k≤900) (hj:j<bs.length) (x:Int) :
 Calls Tryz.prog 148 #[wp f,wp bs[j],.int .i64 x] w fun y w'=>∃D' N' A',(y=.returned (aI (if aJ (Ts[j]'(h.jT hj)) x=true then 0 else 7))∧D'=iU D (Ts[j]'(h.jT hj)) x∧N'=gX (Ts[j]'(h.jT hj)) x)∧KD w' m f r D' bs (Ts.set j N') k A'∧Stp w w' A A':=by
 have hI:=h.inv.abz hk (h.jT hj) x
 refine h.call hj (Q:=fun y D' N'=>y=.returned (aI (if aJ (Ts[j]'(h.jT hj)) x=true then 0 else 7))∧D'=iU D (Ts[j]'(h.jT hj)) x∧N'=gX (Ts[j]'(h.jT hj)) x) (fun g n9 M hj' q t _=>?_) (fun y D' N' hq=>?_)
 ·by_cases hx:aJ (Ts[j]'hj') x=true
  ·obtain ⟨i,rfl,hi,aG,h0⟩:=dX hx t.len
   obtain ⟨e,cl⟩:=h.inv.cl hj' aG h0
   have e1:iU D (Ts[j]'hj') i=aT D (Ts[j]'hj')[i].1:=by unfold iU;rw [if_pos hx,getD_in aG]
   have e2:gX (Ts[j]'hj') i=(Ts[j]'hj').set i (0,false):=by unfold gX;rw [if_pos hx,show (i:Int).toNat=i by omega]
   have hjs:j<(Ts.set j (gX (Ts[j]'hj') i)).length:=by rw [List.length_set];exact hj'
   have hl:=hI.live hjs
   rw [oF hj' _ hjs,e1,e2] at hl
   refine (q.zM t hi aG h0 cl hl).mono ?_
   rintro y w' ⟨rfl,hG⟩
   exact ⟨_,_,⟨by rw [if_pos hx];rfl,rfl,rfl⟩,by rw [e1,e2];exact hG⟩
  ·have hx':aJ (Ts[j]'hj') x=false:=by simpa using hx
   refine (q.U3 t x hx').mono ?_
   rintro y w' ⟨rfl,hG⟩
   exact ⟨_,_,⟨by rw [if_neg hx];rfl,(if_neg hx).symm,(if_neg hx).symm⟩,hG⟩
 ·obtain ⟨_,rfl,rfl⟩:=hq
  exact hI
theorem KD.dup2 (h:KD w m f r D bs Ts k A) (hk:k≤900) (hj:j<bs.length) (x y9:Int) :
 Calls Tryz.prog 156 #[wp f,wp bs[j],.int .i64 x,.int .i64 y9] w fun y w'=>∃D' N' A',(y=.returned (aI (fD (Ts[j]'(h.jT hj)) x y9))∧D'=fV D (Ts[j]'(h.jT hj)) x y9∧N'=fC (Ts[j]'(h.jT hj)) x y9)∧KD w' m f r D' bs (Ts.set j N') k A'∧Stp w w' A A':=by
 have hI:=h.inv.adE hk (h.jT hj) x y9
 refine h.call hj (Q:=fun y D' N'=>y=.returned (aI (fD (Ts[j]'(h.jT hj)) x y9))∧D'=fV D (Ts[j]'(h.jT hj)) x y9∧N'=fC (Ts[j]'(h.jT hj)) x y9) (fun g n9 M hj' q t _=>?_) (fun y D' N' hq=>?_)
 ·by_cases hx:aJ (Ts[j]'hj') x=true
  ·by_cases hy:0≤y9∧y9≤7
   ·have e0:fD (Ts[j]'hj') x y9=0:=by unfold fD;rw [if_pos hx,if_pos hy]
    by_cases hne:x=y9
    ·subst hne
     have e1:fV D (Ts[j]'hj') x x=D:=if_neg (fun z=>z.2 rfl)
     have e2:fC (Ts[j]'hj') x x=Ts[j]'hj':=if_neg (fun z=>z.2 rfl)
     refine (q.P9 t x hx).mono ?_
     rintro y w' ⟨rfl,hG⟩
     exact ⟨_,_,⟨by rw [e0];rfl,rfl,rfl⟩,by rw [e1,e2];exact hG⟩
    ·obtain ⟨i,rfl,hi,aG,h0⟩:=dX hx t.len
     obtain ⟨i2,rfl⟩:∃i2:Nat,y9=i2:=⟨y9.toNat,by omega⟩
     have Dy:i2<(Ts[j]'hj').length:=by rw [t.len];omega
     have e1:fV D (Ts[j]'hj') i i2=if (Ts[j]'hj')[i2].1=0 then jr D (Ts[j]'hj')[i].1 else aT (jr D (Ts[j]'hj')[i].1) (Ts[j]'hj')[i2].1:=by
      unfold fV;rw [if_pos ⟨e0,hne⟩,getD_in aG,getD_in Dy]
     have e2:fC (Ts[j]'hj') i i2=(Ts[j]'hj').set i2 ((Ts[j]'hj')[i].1,false):=by
      unfold fC;rw [if_pos ⟨e0,hne⟩,getD_in aG,show (i2:Int).toNat=i2 by omega]
     have hjs:j<(Ts.set j (fC (Ts[j]'hj') i i2)).length:=by rw [List.length_set];exact hj'
     have hl:=hI.live hjs
     rw [oF hj' _ hjs,e2] at hl
     have hnn:=h.inv.nn hj' _ (List.getElem_mem Dy)
     refine (q.X8 t hi (j:=i2) (by omega) aG Dy (fun z=>hne (by rw [z])) h0 (h.inv.LD hj') (D2:=fV D (Ts[j]'hj') i i2) ?_ hl).mono ?_
     ·by_cases z0:(Ts[j]'hj')[i2].1=0
      ·exact .inl ⟨z0,by rw [e1,if_pos z0]⟩
      ·refine .inr ⟨by omega,by rw [e1,if_neg z0],?_⟩
       exact (h.inv.dup2 hk hj' Dy (by omega) h0 (fP hj' aG)).2
     ·rintro y w' ⟨rfl,hG⟩
      exact ⟨_,_,⟨by rw [e0];rfl,rfl,rfl⟩,by rw [e2];exact hG⟩
   ·have e0:fD (Ts[j]'hj') x y9=2:=by unfold fD;rw [if_pos hx,if_neg hy]
    refine (q.KT t x y9 hx hy).mono ?_
    rintro y w' ⟨rfl,hG⟩
    exact ⟨_,_,⟨by rw [e0];rfl,(if_neg (fun z=>by rw [e0] at z;omega)).symm,(if_neg (fun z=>by rw [e0] at z;omega)).symm⟩,hG⟩
  ·have hx':aJ (Ts[j]'hj') x=false:=by simpa using hx
   have e0:fD (Ts[j]'hj') x y9=7:=if_neg hx
   refine (q.EB t x y9 hx').mono ?_
   rintro y w' ⟨rfl,hG⟩
   exact ⟨_,_,⟨by rw [e0];rfl,(if_neg (fun z=>by rw [e0] at z;omega)).symm,(if_neg (fun z=>by rw [e0] at z;omega)).symm⟩,hG⟩
 ·obtain ⟨_,rfl,rfl⟩:=hq
  exact hI
theorem KD.pipe (h:KD w m f r D bs Ts k A) (hn:D.nx<4990) (hj:j<bs.length) {n:Nat}(hN:p9 D.E n) :
 Calls Tryz.prog 177 #[wp f,wp bs[j]] w fun z w'=>∃D' N' A',(∃x y c,z=.returned (.tuple #[.int .i64 x,.int .i64 y,aI c])∧rX D (Ts[j]'(h.jT hj)) n x y c D' N')∧KD w' m f r D' bs (Ts.set j N') k A'∧Stp w w' A A':=by
 refine h.call hj (Q:=fun z D' N'=>∃x y c,z=.returned (.tuple #[.int .i64 x,.int .i64 y,aI c])∧rX D (Ts[j]'(h.jT hj)) n x y c D' N') (fun g n9 M hj' q t _=>?_) (fun y D' N' hq=>?_)
 ·obtain rfl:=hN.one q.yF
  by_cases hf:vV (Ts[j]'hj') n
  ·refine (q.WL t hf (q.few h.inv.core.jW)).mono ?_
   rintro y w' ⟨rfl,hG⟩
   exact ⟨_,_,⟨0,0,12,rfl,.inl ⟨hf,rfl,rfl,rfl,rfl,rfl⟩⟩,hG⟩
  ·obtain ⟨l1,l2⟩:=h.inv.Ct hj' hf
   have g:=h.inv.core.jW
   refine (q.zA t g hn (fun d e he=>?_) hf l1 l2 (h.inv.live hj')).mono ?_
   ·by_cases hk:e.kind=1
    ·exact .inr hk
    ·have:=((h.inv.core.gF d e he).pipe hk).2.1
     exact .inl (by omega)
   ·rintro y w' ⟨rfl,hG⟩
    exact ⟨_,_,⟨_,_,0,rfl,.inr ⟨hf,rfl,rfl,rfl,rfl,rfl⟩⟩,hG⟩
 ·obtain ⟨x,y,c,_,hP⟩:=hq
  rcases hP with ⟨_,_,_,_,rfl,rfl⟩|⟨hf,_,_,_,rfl,rfl⟩
  ·exact h.inv.lu (h.jT hj)
  ·obtain ⟨l1,l2⟩:=h.inv.Ct (h.jT hj) hf
   exact h.inv.pipe hn (h.jT hj) l1 l2
theorem KD.read (h:KD w m f r D bs Ts k A) (hj:j<bs.length) (x a:Int) :
 Calls Tryz.prog 179 #[wp f,wp bs[j],.int .i64 x,.int .i64 a] w fun y w'=>∃D' N' A',(y=.returned (.tuple #[tx (bR D (Ts[j]'(h.jT hj)) x a).1,aI (bR D (Ts[j]'(h.jT hj)) x a).2.1])∧D'=(bR D (Ts[j]'(h.jT hj)) x a).2.2∧N'=Ts[j]'(h.jT hj))∧KD w' m f r D' bs (Ts.set j N') k A'∧Stp w w' A A':=by
 refine h.call hj (Q:=fun y D' N'=>y=.returned (.tuple #[tx (bR D (Ts[j]'(h.jT hj)) x a).1,aI (bR D (Ts[j]'(h.jT hj)) x a).2.1])∧D'=(bR D (Ts[j]'(h.jT hj)) x a).2.2∧N'=Ts[j]'(h.jT hj)) (fun g n9 M hj' q t _=>?_) (fun y D' N' hq=>?_)
 ·by_cases hx:aJ (Ts[j]'hj') x=true
  ·obtain ⟨i,rfl,hi,aG,h0⟩:=dX hx t.len
   obtain ⟨e,he⟩:=Option.isSome_iff_exists.1 (h.inv.live hj' i aG h0)
   have ok:=h.inv.core.gF _ e he
   by_cases hp2:e.af=2
   ·rw [Ic hi aG h0 he hp2]
    refine (q.Mg t i a 13 (by omega) (q.vv t hi aG h0 he 1 (.inl ⟨rfl,hp2⟩))).mono ?_
    rintro y w' ⟨rfl,hG⟩
    exact ⟨_,_,⟨rfl,rfl,rfl⟩,hG⟩
   ·by_cases hk:e.kind=1
    ·obtain ⟨a1,a2,a3,a4,a5,a6⟩:=ok.file hk
     rw [J5 hi aG h0 he hk hp2]
     have hl:=Co (x:=e.node) (c:=a) h.inv.core.sm a5 a6
     refine (q.OB t hi aG h0 he a hk (by omega) ⟨a3,a4⟩ ⟨a5,a6⟩ (by omega)).mono ?_
     rintro y w' ⟨rfl,hG⟩
     exact ⟨_,_,⟨rfl,rfl,rfl⟩,hG⟩
    ·obtain ⟨a1,a2,p,a3,a4,a5,a6,a7,a8⟩:=ok.pipe hk
     have hpr:e.af=1:=by
      rcases ok.kind with z|z|z
      ·exact absurd z hk
      ·exact ok.aR z
      ·exact absurd (ok.into z) hp2
     rw [OD hi aG h0 he hk hp2 a3]
     refine (q.Tt t hi aG h0 he a hk (.inl hpr) a3 a7).mono ?_
     rintro y w' ⟨rfl,hG⟩
     exact ⟨_,_,⟨rfl,rfl,rfl⟩,hG⟩
  ·have hx':aJ (Ts[j]'hj') x=false:=by simpa using hx
   rw [Tv hx']
   refine (q.Mg t x a 7 (by omega) (q.Ca t x 1 hx')).mono ?_
   rintro y w' ⟨rfl,hG⟩
   exact ⟨_,_,⟨rfl,rfl,rfl⟩,hG⟩
 ·obtain ⟨_,rfl,rfl⟩:=hq
  exact (h.inv.read (h.jT hj) x a).lu (h.jT hj)
theorem KD.write (h:KD w m f r D bs Ts k A) (hj:j<bs.length) (x:Int) (s:List UInt8) (hs:s.length<100000) (a:Int) :
 Calls Tryz.prog 187 #[wp f,wp bs[j],.int .i64 x,tx s,.int .i64 a] w fun y w'=>∃D' N' A',(y=.returned (.tuple #[.int .i64 (bZ D (Ts[j]'(h.jT hj)) x s a).1,aI (bZ D (Ts[j]'(h.jT hj)) x s a).2.1])∧D'=(bZ D (Ts[j]'(h.jT hj)) x s a).2.2∧N'=Ts[j]'(h.jT hj))∧KD w' m f r D' bs (Ts.set j N') (k+1) A'∧Stp w w' A A':=by
 refine h.call hj (Q:=fun y D' N'=>y=.returned (.tuple #[.int .i64 (bZ D (Ts[j]'(h.jT hj)) x s a).1,aI (bZ D (Ts[j]'(h.jT hj)) x s a).2.1])∧D'=(bZ D (Ts[j]'(h.jT hj)) x s a).2.2∧N'=Ts[j]'(h.jT hj)) (fun g n9 M hj' q t _=>?_) (fun y D' N' hq=>?_)
 ·by_cases hx:aJ (Ts[j]'hj') x=true
  ·obtain ⟨i,rfl,hi,aG,h0⟩:=dX hx t.len
   obtain ⟨e,he⟩:=Option.isSome_iff_exists.1 (h.inv.live hj' i aG h0)
   have ok:=h.inv.core.gF _ e he
   by_cases hp1:e.af=1
   ·rw [EM hi aG h0 he hp1]
    refine (q.FZ t i s a 13 (by omega) (q.vv t hi aG h0 he 2 (.inr ⟨rfl,hp1⟩))).mono ?_
    rintro y w' ⟨rfl,hG⟩
    exact ⟨_,_,⟨rfl,rfl,rfl⟩,hG⟩
   ·by_cases hk:e.kind=1
    ·obtain ⟨a1,a2,a3,a4,a5,a6⟩:=ok.file hk
     by_cases hl:o5 s a e.pos
     ·rw [EL hi aG h0 he hk hp1 hl]
      refine (q.Hm t hi aG h0 he s a hk (by omega) ⟨a5,a6⟩ hs hl).mono ?_
      rintro y w' ⟨rfl,hG⟩
      exact ⟨_,_,⟨rfl,rfl,rfl⟩,hG⟩
     ·refine (q.JL t hi aG h0 he s a hk (by omega) ⟨a3,a4⟩ ⟨a5,a6⟩ hs h.inv.core.lv hl).mono ?_
      rintro y w' (⟨hE,rfl,hG⟩|⟨hE,rfl,hG⟩)
      ·rw [JN hi aG h0 he hk hp1 hl hE]
       exact ⟨_,_,⟨by rw [ax hE],rfl,rfl⟩,hG⟩
      ·rw [Hq hi aG h0 he hk hp1 hl hE]
       exact ⟨_,_,⟨rfl,rfl,rfl⟩,hG⟩
    ·obtain ⟨a1,a2,p,a3,a4,a5,a6,a7,a8⟩:=ok.pipe hk
     have hpr:e.af=2:=by
      rcases ok.kind with z|z|z
      ·exact absurd z hk
      ·exact absurd (ok.aR z) hp1
      ·exact ok.into z
     rw [JM hi aG h0 he hk hp1 a3]
     refine (q.Nz t hi aG h0 he s a hk (.inl hpr) a3).mono ?_
     rintro y w' ⟨rfl,hG⟩
     exact ⟨_,_,⟨rfl,rfl,rfl⟩,hG⟩
  ·have hx':aJ (Ts[j]'hj') x=false:=by simpa using hx
   rw [NB hx']
   refine (q.FZ t x s a 7 (by omega) (q.Ca t x 2 hx')).mono ?_
   rintro y w' ⟨rfl,hG⟩
   exact ⟨_,_,⟨rfl,rfl,rfl⟩,hG⟩
 ·obtain ⟨_,rfl,rfl⟩:=hq
  exact (h.inv.write (h.jT hj) x s a).lu (h.jT hj)
theorem KD.clear (h:KD w m f r D bs Ts k A) (hk:k≤900) (hj:j<bs.length) :
 Calls Tryz.prog 283 #[wp f,wp bs[j]] w fun y w'=>∃D' N' A',(y=.returned (.tuple #[])∧D'=(ah true D (Ts[j]'(h.jT hj)) 8).1∧N'=(ah true D (Ts[j]'(h.jT hj)) 8).2)∧KD w' m f r D' bs (Ts.set j N') k A'∧Stp w w' A A':=by
 refine h.call hj (Q:=fun y D' N'=>y=.returned (.tuple #[])∧D'=(ah true D (Ts[j]'(h.jT hj)) 8).1∧N'=(ah true D (Ts[j]'(h.jT hj)) 8).2) (fun g n9 M hj' q t _=>?_) (fun y D' N' hq=>?_)
 ·refine (q.zN t h.inv hk hj' rfl).mono ?_
  rintro y w' ⟨rfl,hG⟩
  exact ⟨_,_,⟨rfl,rfl,rfl⟩,hG⟩
 ·obtain ⟨_,rfl,rfl⟩:=hq
  exact h.inv.free hk (h.jT hj) true 8 (by omega)
theorem KD.exec (h:KD w m f r D bs Ts k A) (hk:k≤900) (hj:j<bs.length) :
 Calls Tryz.prog 159 #[wp f,wp bs[j]] w fun y w'=>∃D' N' A',(y=.returned (.tuple #[])∧D'=(ah false D (Ts[j]'(h.jT hj)) 8).1∧N'=(ah false D (Ts[j]'(h.jT hj)) 8).2)∧KD w' m f r D' bs (Ts.set j N') k A'∧Stp w w' A A':=by
 refine h.call hj (Q:=fun y D' N'=>y=.returned (.tuple #[])∧D'=(ah false D (Ts[j]'(h.jT hj)) 8).1∧N'=(ah false D (Ts[j]'(h.jT hj)) 8).2) (fun g n9 M hj' q t _=>?_) (fun y D' N' hq=>?_)
 ·refine (q.XZ t h.inv hk hj' rfl).mono ?_
  rintro y w' ⟨rfl,hG⟩
  exact ⟨_,_,⟨rfl,rfl,rfl⟩,hG⟩
 ·obtain ⟨_,rfl,rfl⟩:=hq
  exact h.inv.free hk (h.jT hj) false 8 (by omega)
theorem KD.fork (h:KD w m f r D bs Ts k A) (hf:Ts.length<500) (hj:j<bs.length) :
 Calls Tryz.prog 230 #[wp f,wp bs[j]] w fun y w'=>∃A',y=.returned (wp w.heap.size)∧KD w' m f r (jg D (Ts[j]'(h.jT hj))) (bs ++ [w.heap.size]) (Ts ++ [Ts[j]'(h.jT hj)]) k A'∧Stp w w' A A':=by
 obtain ⟨g,n,h1,hr,ht,hA⟩:=h.st
 have hj':=h.jT hj
 obtain ⟨M,tj⟩:=ht j hj hj'
 refine (h1.uP tj h.inv hj' rfl).mono ?_
 rintro y w' ⟨rfl,a1,a2,a3,wt⟩
 have hst:Stp w w' A (fun i=>A i∨(w.heap.size≤i∧i<w'.heap.size)):=⟨wt.mono hA,fun i hi=>by
  rcases hi with hi|hi
  ·exact .inl hi
  ·exact .inr hi.1⟩
 have hbl:∀x∈bs,x<w.heap.size:=fun x hx=>h.lt x (h.Vk x hx)
 refine ⟨_,rfl,⟨⟨g,n,a1,hr,fun x hx hx'=>?_,fun i hi=>.inl (hA i hi)⟩,by rw [List.length_append,List.length_append,h.len];rfl,?_,fun b hb=>?_,h.inv.fork hf hj',fun i hi=>?_,(hst.cO h.ml h.mn).1,(hst.cO h.ml h.mn).2,(hst.cO h.er h.en).1,(hst.cO h.er h.en).2⟩,hst⟩
 ·by_cases e1:x<bs.length
  ·have e2:x<Ts.length:=by rw [←h.len];exact e1
   rw [List.getElem_append_left e1,List.getElem_append_left e2]
   obtain ⟨Mx,tx⟩:=ht x e1 e2
   exact ⟨Mx,tx.keep (wt.block _ tx.tab.lt (by rw [tx.off];simp))⟩
  ·have e3:x=bs.length:=by rw [List.length_append] at hx;simp at hx;omega
   have e4:x=Ts.length:=by rw [←h.len];exact e3
   subst e3
   rw [List.getElem_concat_length rfl]
   have:(Ts ++ [Ts[j]])[bs.length]'hx'=Ts[j]:=by
    rw [List.getElem_append_right (by omega)]
    simp
   rw [this]
   exact ⟨M,a3⟩
 ·rw [List.nodup_append]
  exact ⟨h.nd,by simp,fun a ha b hb e=>by rw [List.mem_singleton.1 hb] at e;have:=hbl a ha;omega⟩
 ·rcases List.mem_append.1 hb with z|z
  ·exact .inl (h.Vk b z)
  ·rw [List.mem_singleton.1 z]
   exact .inr ⟨Nat.le_refl _,a3.tab.lt⟩
 ·rcases hi with hi|hi
  ·exact Nat.lt_of_lt_of_le (h.lt i hi) wt.size
  ·exact hi.2
end
abbrev bQ:Ns:=List.replicate 8 (0,false)
def KW (w0 w:World) (m:Int) (f r:Nat) (D:DS) (bs:List Nat) (Ts:List Ns) (k:Nat):Prop:=∃A,KD w m f r D bs Ts k A∧(∀i,A i→w0.heap.size≤i)∧Below w0.heap.size w0 w
section
variable {w w' w2 w0 w1:World}{f r b n k k' j:Nat}{D D':DS}{g g':QG}{bs:List Nat}{Ts Ts':List Ns}{M N N':Ns}{d m:Int}{A A':Nat→Prop}
theorem Inv.none {T:Wd}{k:Nat}(hT:bu T) (hs:Sm k T):Inv (qh T) [] k:=
 ⟨⟨Il T,hT,hs,fun d e h=>(by cases h),fun d _=>by simp [qh,jw],fun d _=>by simp [qh,jw]⟩,fun N hN=>(by cases hN),by simp⟩
theorem Wm:Sm 0 jd:=⟨fun i C e=>by
 obtain ⟨_,e9⟩:=bE e;cases e9;simp,fun i b x e=>by
 obtain ⟨_,e9⟩:=bE e;cases e9⟩
theorem KW.first (w:World) (hm:w.cell? ⟨4,0,none⟩=some (.int .i64 m)) (he:w.cell? ⟨0,0,none⟩=some iB) :
 Calls Tryz.prog 17 #[] w fun y w'=>∃r,y=.returned (wp r)∧Below w.heap.size w w'∧Calls Tryz.prog 18 #[wp r] w' fun y w2=>∃f,y=.returned (.tuple #[wp f,.nilIface])∧KW w w2 m f r (qh jd) [] [] 0:=by
 refine (aaK w).mono ?_
 rintro y w1 ⟨r,O,rfl,p1,b1,hO⟩
 refine ⟨r,rfl,b1,(af2.ok p1).mono ?_⟩
 rintro y w2 ⟨f,g,rfl,q,hk,hr,b2⟩
 have bb:=b1.trans (b2.mono b1.size)
 have hA:∀i,(g.dC i).isSome=true→w.heap.size≤i:=fun i hi=>by
  by_cases e1:i<w1.heap.size
  ·exact hO i ((hk i e1).1 hi)
  ·have:=b1.size;omega
 have wY:=World.block_lt_of_cell? w _ hm
 have hel:=World.block_lt_of_cell? w _ he
 refine ⟨f,rfl,fun i=>(g.dC i).isSome=true,⟨⟨g,0,q,hr,fun j h=>(by simp at h),fun i hi=>hi⟩,rfl,List.nodup_nil,fun b hb=>(by cases hb),Inv.none TQ Wm,fun i hi=>q.lt i hi,cell_below hm bb,fun z=>?_,cell_below he bb,fun z=>?_⟩,hA,bb⟩
 ·have:=hA _ z
  simp only at wY
  omega
 ·have:=hA _ z
  simp only at hel
  omega
theorem Qi {d:Int}(hd:0<d):sF d bQ=0:=by
 unfold sF
 rw [List.length_eq_zero_iff,List.filter_eq_nil_iff]
 intro x hx
 rw [List.eq_of_mem_replicate hx]
 simp;omega
theorem KD.table (h1:KD w m f r D bs Ts k A) (hf:Ts.length<8):KD (w.alloc (.cells (nv bQ).toArray 116)) m f r D (bs ++ [w.heap.size]) (Ts ++ [bQ]) k (fun i=>A i∨i=w.heap.size):=by
 have bA:Below w.heap.size w (w.alloc (.cells (nv bQ).toArray 116)):=(Below.refl _ w).alloc (Nat.le_refl _) _
 have hsz:(w.alloc (.cells (nv bQ).toArray 116)).heap.size=w.heap.size+1:=by show (w.heap.push _).size=_;rw [Array.size_push]
 have hn:(w.alloc (.cells (nv bQ).toArray 116)).heap[w.heap.size]? = some (.cells (nv bQ).toArray 116):=by
  show (w.heap.push _)[w.heap.size]? = _
  rw [Array.getElem?_push,if_pos rfl]
 obtain ⟨g,n,q,hr,ht,hk⟩:=h1.st
 have h2:=h1.below bA
 have wY:=World.block_lt_of_cell? _ _ h1.ml
 have hel:=World.block_lt_of_cell? _ _ h1.er
 simp only at wY hel
 have hz:dM (w.alloc (.cells (nv bQ).toArray 116)) w.heap.size g bQ bQ:=by
  refine ⟨⟨hn,rfl,fun x hx=>?_⟩,MJ q,rfl,fun i h1 h2=>?_⟩
  ·rw [List.eq_of_mem_replicate hx];simp
  ·have e1:(bQ)[i]=(0,false):=List.eq_of_mem_replicate (List.getElem_mem h1)
   exact ⟨rfl,.inl ⟨congrArg Prod.fst e1,congrArg Prod.fst e1⟩⟩
 refine ⟨⟨g,n,q.below bA,hr,fun x hx hx'=>?_,fun i hi=>.inl (hk i hi)⟩,by rw [List.length_append,List.length_append,h1.len];rfl,?_,fun b hb=>?_,⟨h1.inv.core.congr (fun d hd=>?_),fun N hN=>?_,by rw [List.length_append];simp;omega⟩,fun i hi=>?_,h2.ml,fun z=>?_,h2.er,fun z=>?_⟩
 ·by_cases e1:x<bs.length
  ·have e2:x<Ts.length:=by rw [←h1.len];exact e1
   rw [List.getElem_append_left e1,List.getElem_append_left e2]
   obtain ⟨Mx,tx⟩:=ht x e1 e2
   exact ⟨Mx,tx.below bA⟩
  ·have e3:x=bs.length:=by rw [List.length_append] at hx;simp at hx;omega
   have e4:=h1.len
   subst e3
   rw [List.getElem_concat_length rfl]
   have:(Ts ++ [bQ])[bs.length]'hx'=bQ:=by
    rw [List.getElem_append_right (by omega)]
    simp
   rw [this]
   exact ⟨bQ,hz⟩
 ·rw [List.nodup_append]
  exact ⟨h1.nd,by simp,fun a ha b hb e=>by rw [List.mem_singleton.1 hb] at e;have:=h1.lt a (h1.Vk a ha);omega⟩
 ·rcases List.mem_append.1 hb with z|z
  ·exact .inl (h1.Vk b z)
  ·exact .inr (List.mem_singleton.1 z)
 ·have:=Qi hd
  simp only [jw,List.map_append,List.sum_append,List.map_cons,List.map_nil,List.sum_cons,List.sum_nil]
  omega
 ·rcases List.mem_append.1 hN with z|z
  ·exact h1.inv.tab N z
  ·rw [List.mem_singleton.1 z]
   exact ⟨rfl,fun x hx=>by rw [List.eq_of_mem_replicate hx];simp⟩
 ·rw [hsz]
  rcases hi with z|z
  ·have:=h1.lt i z;omega
  ·omega
 ·rcases z with z|z
  ·exact h1.mn z
  ·omega
 ·rcases z with z|z
  ·exact h1.en z
  ·omega
end
end Go.Proofs.YtippochapiolpaaGreatDoor
namespace Go.Proofs.YtippochapiolpaaGreatDoor
structure Ow where
 j:Nat
 m:Nat→Int
 fo:Int
structure KS where
 n:Nat
 P:Ps
 D:DS
 Ts:List Ns
 Ms:List PM
 W:Nat→Nat→Int
 O:Int→Option Ow
def lG:PM:=fun _=>none
def aC (S:KS) (j:Nat):PM:=S.Ms.getD j lG
def au (S:KS) (j:Nat):Ns:=S.Ts.getD j bQ
def kZ (S:KS) (j:Nat):Nat→Int:=fun k=>if k=0 then ((bX (aC S j):Nat):Int) else if k=1 then ((ak (au S j):Nat):Int) else 0
theorem pQ {S:KS}{j:Nat}(h:j<S.Ms.length):aC S j=S.Ms[j]:=by unfold aC;rw [List.getD_eq_getElem?_getD,List.getElem?_eq_getElem h];rfl
theorem jc {S:KS}{j:Nat}(h:j<S.Ts.length):au S j=S.Ts[j]:=by unfold au;rw [List.getD_eq_getElem?_getD,List.getElem?_eq_getElem h];rfl
structure uh (S:KS):Prop where
 run:∀p,(S.O p).isSome=aD S.P p
 gone:∀j,j<S.Ts.length→(∀p o,S.O p=some o→o.j≠j)→au S j=bQ∧aC S j=lG
 fit:∀p o,S.O p=some o→Fit o.m∧-100≤o.fo∧o.fo≤100
theorem wo {N:Ns}(h:N.length=8):ak N≤8:=by have:=yc N;omega
def kL (O:Int→Option Ow) (p:Int) (o:Ow):Int→Option Ow:=fun x=>if x=p then some o else O x
def jK (O:Int→Option Ow) (p:Int):Int→Option Ow:=fun x=>if x=p then none else O x
theorem eH (O:Int→Option Ow) (p:Int) (o:Ow):kL O p o p=some o:=if_pos rfl
theorem iX {O:Int→Option Ow}{p x:Int}{o:Ow}(h:x≠p):kL O p o x=O x:=if_neg h
end Go.Proofs.YtippochapiolpaaGreatDoor
namespace Go.Proofs.YtippochapiolpaaGreatDoor
open Go.RowKit Go.Maps
structure KH where
 kb:Nat
 eb:Nat
 f:Nat
 r:Nat
 t:Nat
 g:Nat
 gm:Nat
 hs:Nat→Nat
 sp:Nat→Nat
 tb:Nat→Nat
 ok:Bool
def Bn (ok:Bool) (w:World):Prop:=8<w.heap.size∧(ok=true→ni w)
theorem Bn.lt {ok:Bool}{w:World}(h:Bn ok w):8<w.heap.size:=h.1
theorem Bn.keep {ok:Bool}{w w':World}(h:Bn ok w) (hb:w'.heap[8]? = w.heap[8]?):Bn ok w':=
 ⟨by
  have h1:=h.1
  rw [Array.getElem?_eq_getElem h1] at hb
  exact (Array.getElem?_eq_some_iff.1 hb).1,fun e=>(h.2 e).keep hb⟩
structure KG where
 E:St
 Av:Nat→Prop
 L:List Sq
 bs:List Nat
 Ad:Nat→Prop
 κ:Nat→Nat
abbrev kcs (H:KH):Array Value:=#[wp H.eb,wp H.r,wp H.f,wp H.t,.map (some H.gm)]
structure KM (w:World) (m:Int) (H:KH) (S:KS) (U:Nat→Nat→Int) (q:Nat) (G:KG):Prop where
 head:w.heap[H.kb]? = some (.cells (kcs H) 66)
 eb:G.E.b=H.eb
 en:G.E.n=S.n
 al:Al G.E w S.W G.Av G.L
 ms:G.L.map (fun x=>x.2.2)=S.Ms
 sp:∀j (h:j<G.L.length),G.L[j].1=H.sp j
 kd:KD w m H.f H.r S.D G.bs S.Ts (2*q) G.Ad
 tb:∀j (h:j<G.bs.length),G.bs[j]=H.tb j
 qj:∃c,QJ w H.t H.g S.P c
 map:∃z,aK w H.gm z (fun p=>(S.O p).map (fun o=>wp (H.hs o.j)))
 hold:∀p o,S.O p=some o→Hd w (H.hs o.j) (H.sp o.j) (H.tb o.j) (U o.j) o.m o.fo
 hinj:∀p o p' o',S.O p=some o→S.O p'=some o'→H.hs o.j=H.hs o'.j→p=p'
 len:S.Ms.length=S.Ts.length
 lt:∀p o,S.O p=some o→o.j<S.Ts.length
 key:∀p o,S.O p=some o→1≤p∧p≤24
 tab:Bn H.ok w
 nx:S.D.nx≤3*(q:Int)
 few:S.Ts.length≤q+1
 k1:∀i,Nr G.E G.Av G.L i→G.κ i=1
 k2:∀i,G.Ad i→G.κ i=2
 k3:G.κ H.g=3
 k4:G.κ H.gm=4
 k5:∀p o,S.O p=some o→G.κ (H.hs o.j)=5
 kk:G.κ H.kb=6
 kE:G.κ G.E.b=6
 kB:G.κ G.E.bm=6
 kt:G.κ H.t=6
 ks:∀j,j<S.Ts.length→G.κ (H.sp j)=6
 km:G.κ 4=0
 ke:G.κ 0=0
 Qz:G.κ 8=0
 Bd:∀i,G.κ i≠0→i<w.heap.size
def tg (κ:Nat→Nat) (X:Nat) (w w':World):Nat→Nat:=fun i=>if i<w.heap.size then κ i else if i<w'.heap.size then X else 0
section
variable {w w':World}{m:Int}{H:KH}{S:KS}{U:Nat→Nat→Int}{q X:Nat}{G:KG}{κ:Nat→Nat}
theorem yS {i:Nat}(hi:i<w.heap.size):tg κ X w w' i=κ i:=if_pos hi
theorem RF {i:Nat}(h1:w.heap.size≤i) (h2:i<w'.heap.size):tg κ X w w' i=X:=by unfold tg;rw [if_neg (by omega),if_pos h2]
theorem uF {i c:Nat}(hk:∀i,κ i≠0→i<w.heap.size) (hc:c≠0) (h:κ i=c):tg κ X w w' i=c:=by
 rw [yS (hk i (by omega))];exact h
theorem gu {i:Nat}(hi:i<w.heap.size) (h:κ i=0):tg κ X w w' i=0:=by rw [yS hi];exact h
theorem FJ (_hk:∀i,κ i≠0→i<w.heap.size) (hs:w.heap.size≤w'.heap.size):∀i,tg κ X w w' i≠0→i<w'.heap.size:=fun i hi=>by
 unfold tg at hi
 split at hi
 ·omega
 ·split at hi
  ·assumption
  ·exact absurd rfl hi
theorem yR (wt:Wt (fun i=>κ i=X) w w') (hX:X≠0):Stp w w' (fun i=>κ i≠0) (fun i=>tg κ X w w' i≠0):=
 ⟨⟨wt.os,wt.tape,wt.output,wt.size,fun i hi hn=>wt.block i hi (fun e=>by rw [e] at hn;exact hn hX)⟩,fun i hi=>by
  by_cases e:i<w.heap.size
  ·rw [yS e] at hi;exact .inl hi
  ·exact .inr (by omega)⟩
theorem KM.qi (h:KM w m H S U q G):4<w.heap.size:=World.block_lt_of_cell? w _ h.kd.ml
theorem KM.qm (h:KM w m H S U q G):0<w.heap.size:=World.block_lt_of_cell? w _ h.kd.er
theorem KM.Ll (h:KM w m H S U q G):G.L.length=S.Ts.length:=by rw [←h.len,←h.ms,List.length_map]
theorem KM.Lb (h:KM w m H S U q G):G.bs.length=S.Ts.length:=h.kd.len
structure Kept (w w':World) (m:Int) (H:KH) (S:KS) (U:Nat→Nat→Int) (q X:Nat) (G:KG):Prop where
 head:w'.heap[H.kb]? = some (.cells (kcs H) 66)
 al:X≠1→Al G.E w' S.W G.Av G.L
 kd:X≠2→KD w' m H.f H.r S.D G.bs S.Ts (2*q) G.Ad
 qj:X≠3→∃c,QJ w' H.t H.g S.P c
 map:X≠4→∃z,aK w' H.gm z (fun p=>(S.O p).map (fun o=>wp (H.hs o.j)))
 hold:X≠5→∀p o,S.O p=some o→Hd w' (H.hs o.j) (H.sp o.j) (H.tb o.j) (U o.j) o.m o.fo
 tab:Bn H.ok w'
 ml:w'.cell? ⟨4,0,none⟩=some (.int .i64 m)
 er:w'.cell? ⟨0,0,none⟩=some iB
theorem KM.kept (h:KM w m H S U q G) (hX:1≤X∧X≤5) (wt:Wt (fun i=>G.κ i=X) w w'):Kept w w' m H S U q X G:=by
 have hb:∀i c,G.κ i=c→c≠0→c≠X→w'.heap[i]? = w.heap[i]? := fun i c e h0 hc=>wt.block i (h.Bd i (by omega)) (fun z=>hc (by omega))
 have hz:∀i,G.κ i=0→i<w.heap.size→w'.heap[i]? = w.heap[i]? := fun i e hi=>wt.block i hi (fun z=>by omega)
 have m1:w'.cell? ⟨4,0,none⟩=some (.int .i64 m):=by
  rw [World.cell?_of_block (w:=w) (a:=⟨4,0,none⟩) (hz _ h.km h.qi)];exact h.kd.ml
 have m2:w'.cell? ⟨0,0,none⟩=some iB:=by
  rw [World.cell?_of_block (w:=w) (a:=⟨0,0,none⟩) (hz _ h.ke h.qm)];exact h.kd.er
 refine ⟨(hb _ 6 h.kk (by omega) (by omega)).trans h.head,fun hx=>?_,fun hx=>?_,fun hx=>?_,fun hx=>?_,fun hx p o ho=>?_,h.tab.keep (hz _ h.Qz h.tab.lt),m1,m2⟩
 ·refine h.al.keep (fun i hi=>hb i 1 (h.k1 i hi) (by omega) (by omega)) (hb _ 6 h.kE (by omega) (by omega)) (hb _ 6 h.kB (by omega) (by omega)) (fun i hi=>?_)
  rw [h.sp i hi]
  exact hb _ 6 (h.ks i (by rw [←h.Ll];exact hi)) (by omega) (by omega)
 ·exact h.kd.keep (fun i hi=>hb i 2 (h.k2 i hi) (by omega) (by omega)) wt.size m1 m2
 ·obtain ⟨c,hc⟩:=h.qj
  exact ⟨c,⟨hc.toQM.keep (hb _ 6 h.kt (by omega) (by omega)) (hb _ 3 h.k3 (by omega) (by omega)),hc.ok,hc.dj⟩⟩
 ·obtain ⟨z,hm⟩:=h.map
  exact ⟨z,hm.keep (hb _ 4 h.k4 (by omega) (by omega))⟩
 ·exact (h.hold p o ho).keep (hb _ 5 (h.k5 p o ho) (by omega) (by omega))
theorem KM.jX (h:KM w m H S U q G):8<w.heap.size:=h.tab.lt
theorem KM.below (h:KM w m H S U q G) (hb:Below w.heap.size w w'):KM w' m H S U q G:=by
 have wt:Wt (fun i=>G.κ i=1) w w':=.below _ hb
 have k:=h.kept (X:=1) ⟨by omega,by omega⟩ wt
 exact { h with head:=k.head,al:=h.al.below hb,kd:=k.kd (by omega),qj:=k.qj (by omega),map:=k.map (by omega),hold:=k.hold (by omega),tab:=k.tab,Bd:=fun i hi=>Nat.lt_of_lt_of_le (h.Bd i hi) hb.size }
theorem KM.vm (h:KM w m H S U q G) {j:Nat}(hj:j<G.L.length) {D':Nat→Nat→Int}{P':PM}(t:FW G.E w G.Av G.L w' D' (G.L.set j (G.L[j].1,G.L[j].2.1,P'))) :
 ∃G',KM w' m H { S with W:=D',Ms:=S.Ms.set j P' } U q G'∧Stp w w' (fun i=>G.κ i≠0) (fun i=>G'.κ i≠0):=by
 obtain ⟨A',a',f,sub⟩:=t
 have wt:Wt (fun i=>G.κ i=1) w w':=⟨f.os,f.tape,f.output,f.size,fun i hi hn=>f.block i hi (fun ho=>hn (h.k1 i ho))⟩
 have k:=h.kept (X:=1) ⟨by omega,by omega⟩ wt
 have hk:=h.Bd
 have keep:∀ {i c},c≠0→G.κ i=c→tg G.κ 1 w w' i=c:=fun hc e=>uF hk hc e
 refine ⟨⟨G.E,A',G.L.set j (G.L[j].1,G.L[j].2.1,P'),G.bs,G.Ad,tg G.κ 1 w w'⟩,⟨k.head,h.eb,h.en,a',?_,?_,k.kd (by omega),h.tb,k.qj (by omega),k.map (by omega),k.hold (by omega),h.hinj,?_,h.lt,h.key,k.tab,h.nx,h.few,?_,fun i hi=>keep (by omega) (h.k2 i hi),keep (by omega) h.k3,keep (by omega) h.k4,fun p o ho=>keep (by omega) (h.k5 p o ho),keep (by omega) h.kk,keep (by omega) h.kE,keep (by omega) h.kB,keep (by omega) h.kt,fun x hx=>keep (by omega) (h.ks x hx),gu h.qi h.km,gu h.qm h.ke,gu h.jX h.Qz,FJ hk wt.size⟩,yR wt (by omega)⟩
 ·rw [List.map_set,h.ms]
 ·intro x hx
  by_cases e:x=j
  ·subst e;simp only [List.getElem_set_self];exact h.sp x hj
  ·simp only [List.getElem_set_ne (Ne.symm e)];exact h.sp x (by simpa using hx)
 ·show (S.Ms.set j P').length=_;rw [List.length_set];exact h.len
 ·intro i hi
  by_cases e:i<w.heap.size
  ·show tg G.κ 1 w w' i=1
   rw [yS e];exact h.k1 i (sub i e hi)
  ·exact RF (by omega) (a'.Dm hi)
theorem KM.desc (h:KM w m H S U q G) {q':Nat}{D':DS}{Ts':List Ns}{A':Nat→Prop}(hd:KD w' m H.f H.r D' G.bs Ts' (2*q') A') (st:Stp w w' G.Ad A') (hl:Ts'.length=S.Ts.length) (hx:D'.nx≤3*(q':Int)) (hq:q≤q') :
 ∃G',KM w' m H { S with D:=D',Ts:=Ts' } U q' G'∧Stp w w' (fun i=>G.κ i≠0) (fun i=>G'.κ i≠0):=by
 have wt:Wt (fun i=>G.κ i=2) w w':=⟨st.wt.os,st.wt.tape,st.wt.output,st.wt.size,fun i hi hn=>st.wt.block i hi (fun ho=>hn (h.k2 i ho))⟩
 have k:=h.kept (X:=2) ⟨by omega,by omega⟩ wt
 have hk:=h.Bd
 have keep:∀ {i c},c≠0→G.κ i=c→tg G.κ 2 w w' i=c:=fun hc e=>uF hk hc e
 refine ⟨⟨G.E,G.Av,G.L,G.bs,A',tg G.κ 2 w w'⟩,⟨k.head,h.eb,h.en,k.al (by omega),h.ms,h.sp,hd,h.tb,k.qj (by omega),k.map (by omega),k.hold (by omega),h.hinj,h.len.trans hl.symm,fun p o ho=>by show o.j<Ts'.length;rw [hl];exact h.lt p o ho,h.key,k.tab,hx,?_,fun i hi=>keep (by omega) (h.k1 i hi),?_,keep (by omega) h.k3,keep (by omega) h.k4,fun p o ho=>keep (by omega) (h.k5 p o ho),keep (by omega) h.kk,keep (by omega) h.kE,keep (by omega) h.kB,keep (by omega) h.kt,fun x hx=>keep (by omega) (h.ks x (by rw [←hl];exact hx)),gu h.qi h.km,gu h.qm h.ke,gu h.jX h.Qz,FJ hk wt.size⟩,yR wt (by omega)⟩
 ·show Ts'.length≤_;have:=h.few;omega
 ·intro i hi
  by_cases e:i<w.heap.size
  ·show tg G.κ 2 w w' i=2
   rw [yS e]
   rcases st.own i hi with z|z
   ·exact h.k2 i z
   ·omega
  ·exact RF (by omega) (hd.lt i hi)
theorem KM.proc (h:KM w m H S U q G) {P':Ps}(t:Fw w H.t H.g P' w') :
 ∃G',KM w' m H { S with P:=P' } U q G'∧Stp w w' (fun i=>G.κ i≠0) (fun i=>G'.κ i≠0):=by
 obtain ⟨c',qj,wg⟩:=t
 have wt:Wt (fun i=>G.κ i=3) w w':=⟨wg.os,wg.tape,wg.output,wg.size,fun i hi hn=>wg.block i hi (fun e=>hn (by rw [e];exact h.k3))⟩
 have k:=h.kept (X:=3) ⟨by omega,by omega⟩ wt
 have hk:=h.Bd
 have keep:∀ {i c},c≠0→G.κ i=c→tg G.κ 3 w w' i=c:=fun hc e=>uF hk hc e
 exact ⟨⟨G.E,G.Av,G.L,G.bs,G.Ad,tg G.κ 3 w w'⟩,⟨k.head,h.eb,h.en,k.al (by omega),h.ms,h.sp,k.kd (by omega),h.tb,⟨c',qj⟩,k.map (by omega),k.hold (by omega),h.hinj,h.len,h.lt,h.key,k.tab,h.nx,h.few,fun i hi=>keep (by omega) (h.k1 i hi),fun i hi=>keep (by omega) (h.k2 i hi),keep (by omega) h.k3,keep (by omega) h.k4,fun p o ho=>keep (by omega) (h.k5 p o ho),keep (by omega) h.kk,keep (by omega) h.kE,keep (by omega) h.kB,keep (by omega) h.kt,fun x hx=>keep (by omega) (h.ks x hx),gu h.qi h.km,gu h.qm h.ke,gu h.jX h.Qz,FJ hk wt.size⟩,yR wt (by omega)⟩
theorem KM.hd (h:KM w m H S U q G) {p:Int}{o:Ow}(ho:S.O p=some o) {U':Nat→Int}{M':Nat→Int}{a':Int}(hd:Hd w' (H.hs o.j) (H.sp o.j) (H.tb o.j) U' M' a') (g:w.grownBy w' (some (H.hs o.j))) :
 KM w' m H { S with O:=kL S.O p ⟨o.j,M',a'⟩ } (fun i=>if i=o.j then U' else U i) q G∧Stp w w' (fun i=>G.κ i≠0) (fun i=>G.κ i≠0):=by
 have wt:Wt (fun i=>G.κ i=5) w w':=⟨g.os,g.tape,g.output,g.size,fun i hi hn=>g.block i hi (fun e=>hn (by cases e;exact h.k5 p o ho))⟩
 have k:=h.kept (X:=5) ⟨by omega,by omega⟩ wt
 have hk:=h.Bd
 have hO:∀x o',kL S.O p ⟨o.j,M',a'⟩ x=some o'→(x=p∧o'=⟨o.j,M',a'⟩)∨(x≠p∧S.O x=some o'):=fun x o' e=>by
  by_cases ex:x=p
  ·rw [ex,eH] at e;exact .inl ⟨ex,(Option.some.inj e).symm⟩
  ·rw [iX ex] at e;exact .inr ⟨ex,e⟩
 have hJ:∀x o',kL S.O p ⟨o.j,M',a'⟩ x=some o'→∃o2,S.O x=some o2∧o2.j=o'.j:=fun x o' e=>by
  rcases hO x o' e with ⟨rfl,rfl⟩|⟨_,z⟩
  ·exact ⟨o,ho,rfl⟩
  ·exact ⟨o',z,rfl⟩
 refine ⟨⟨k.head,h.eb,h.en,k.al (by omega),h.ms,h.sp,k.kd (by omega),h.tb,k.qj (by omega),?_,?_,?_,h.len,?_,?_,k.tab,h.nx,h.few,h.k1,h.k2,h.k3,h.k4,?_,h.kk,h.kE,h.kB,h.kt,h.ks,h.km,h.ke,h.Qz,fun i hi=>Nat.lt_of_lt_of_le (hk i hi) wt.size⟩,⟨⟨wt.os,wt.tape,wt.output,wt.size,fun i hi hn=>wt.block i hi (fun e=>hn (by rw [e];omega))⟩,fun i hi=>.inl hi⟩⟩
 ·obtain ⟨z,hm⟩:=k.map (by omega)
  refine ⟨z,?_⟩
  have e:(fun x=>(kL S.O p ⟨o.j,M',a'⟩ x).map (fun o=>wp (H.hs o.j)))=fun x=>(S.O x).map (fun o=>wp (H.hs o.j)):=by
   funext x
   by_cases ex:x=p
   ·rw [ex,eH,ho];rfl
   ·rw [iX ex]
  show aK w' H.gm z (fun x=>(kL S.O p ⟨o.j,M',a'⟩ x).map (fun o=>wp (H.hs o.j)))
  rw [e];exact hm
 ·intro x o' e
  rcases hO x o' e with ⟨rfl,rfl⟩|⟨hne,z⟩
  ·simp only [if_true];exact hd
  ·have hj:o'.j≠o.j:=fun ej=>hne (h.hinj x o' p o z ho (by rw [ej]))
   simp only [if_neg hj]
   refine (h.hold x o' z).keep (g.block _ (h.Bd _ (by rw [h.k5 x o' z];omega)) (fun e=>hne (h.hinj x o' p o z ho (Option.some.inj e))))
 ·intro x o1 y o2 e1 e2 e3
  obtain ⟨a1,z1,j1⟩:=hJ x o1 e1
  obtain ⟨a2,z2,j2⟩:=hJ y o2 e2
  exact h.hinj x a1 y a2 z1 z2 (by rw [j1,j2];exact e3)
 ·intro x o' e
  obtain ⟨a1,z1,j1⟩:=hJ x o' e
  rw [←j1];exact h.lt x a1 z1
 ·intro x o' e
  obtain ⟨a1,z1,j1⟩:=hJ x o' e
  exact h.key x a1 z1
 ·intro x o' e
  obtain ⟨a1,z1,j1⟩:=hJ x o' e
  rw [←j1];exact h.k5 x a1 z1
theorem KM.del (h:KM w m H S U q G) {p:Int}{z:Nat}(hm:aK w' H.gm z (fun x=>if x=p then none else (S.O x).map (fun o=>wp (H.hs o.j)))) (g:w.grownBy w' (some H.gm)) :
 ∃G',KM w' m H { S with O:=jK S.O p } U q G'∧Stp w w' (fun i=>G.κ i≠0) (fun i=>G'.κ i≠0):=by
 have wt:Wt (fun i=>G.κ i=4) w w':=⟨g.os,g.tape,g.output,g.size,fun i hi hn=>g.block i hi (fun e=>hn (by cases e;exact h.k4))⟩
 have k:=h.kept (X:=4) ⟨by omega,by omega⟩ wt
 have hk:=h.Bd
 have keep:∀ {i c},c≠0→G.κ i=c→tg G.κ 4 w w' i=c:=fun hc e=>uF hk hc e
 have hO:∀x o',jK S.O p x=some o'→S.O x=some o':=fun x o' e=>by
  unfold jK at e
  split at e
  ·cases e
  ·exact e
 refine ⟨⟨G.E,G.Av,G.L,G.bs,G.Ad,tg G.κ 4 w w'⟩,⟨k.head,h.eb,h.en,k.al (by omega),h.ms,h.sp,k.kd (by omega),h.tb,k.qj (by omega),?_,fun x o e=>k.hold (by omega) x o (hO x o e),fun x o1 y o2 e1 e2 e3=>h.hinj x o1 y o2 (hO _ _ e1) (hO _ _ e2) e3,h.len,fun x o e=>h.lt x o (hO x o e),fun x o e=>h.key x o (hO x o e),k.tab,h.nx,h.few,fun i hi=>keep (by omega) (h.k1 i hi),fun i hi=>keep (by omega) (h.k2 i hi),keep (by omega) h.k3,keep (by omega) h.k4,fun x o e=>keep (by omega) (h.k5 x o (hO x o e)),keep (by omega) h.kk,keep (by omega) h.kE,keep (by omega) h.kB,keep (by omega) h.kt,fun x hx=>keep (by omega) (h.ks x hx),gu h.qi h.km,gu h.qm h.ke,gu h.jX h.Qz,FJ hk wt.size⟩,yR wt (by omega)⟩
 refine ⟨z,?_⟩
 have e:(fun x=>(jK S.O p x).map (fun o=>wp (H.hs o.j)))=fun x=>if x=p then none else (S.O x).map (fun o=>wp (H.hs o.j)):=by
  funext x
  unfold jK
  by_cases ex:x=p
  ·rw [if_pos ex,if_pos ex];rfl
  ·rw [if_neg ex,if_neg ex]
 show aK w' H.gm z (fun x=>(jK S.O p x).map (fun o=>wp (H.hs o.j)))
 rw [e];exact hm
end
def KX (w:World) (m:Int) (H:KH) (S:KS) (U:Nat→Nat→Int) (q:Nat) (A:Nat→Prop):Prop:=∃G,KM w m H S U q G∧∀i,A i↔G.κ i≠0
def KS.space (S:KS) (j:Nat) (P':PM) (D':Nat→Nat→Int):KS:={ S with W:=D',Ms:=S.Ms.set j P' }
def KS.files (S:KS) (D':DS) (j:Nat) (N':Ns):KS:={ S with D:=D',Ts:=S.Ts.set j N' }
def KS.tree (S:KS) (T':Wd):KS:={ S with D:={ S.D with T:=T' } }
def KS.procs (S:KS) (P':Ps):KS:={ S with P:=P' }
def KS.own (S:KS) (p:Int) (o:Ow):KS:={ S with O:=kL S.O p o }
def KS.drop (S:KS) (p:Int):KS:={ S with O:=jK S.O p }
def bI (Ms:List PM) (f:Int):Nat:=(Ms.map fun P=>sh P f).sum
def iY (S:KS) (j:Nat) (f:Int):Nat:=bI S.Ms f-sh (aC S j) f
section
variable {w w':World}{m:Int}{H:KH}{S:KS}{U:Nat→Nat→Int}{q:Nat}{A:Nat→Prop}{p:Int}{o:Ow}
theorem KX.below (h:KX w m H S U q A) (hb:Below w.heap.size w w'):KX w' m H S U q A:=by
 obtain ⟨G,k,e⟩:=h
 exact ⟨G,k.below hb,e⟩
theorem KX.lt (h:KX w m H S U q A):∀i,A i→i<w.heap.size:=fun i hi=>by
 obtain ⟨G,k,e⟩:=h
 exact k.Bd i ((e i).1 hi)
theorem KX.of {G:KG}(k:KM w m H S U q G):KX w m H S U q (fun i=>G.κ i≠0):=⟨G,k,fun _=>Iff.rfl⟩
theorem qY {A B A':Nat→Prop}(e:∀i,A i↔B i) (st:Stp w w' B A'):Stp w w' A A':=by
 have:A=B:=funext fun i=>propext (e i)
 rw [this];exact st
theorem KX.head (h:KX w m H S U q A):w.heap[H.kb]? = some (.cells (kcs H) 66):=by
 obtain ⟨G,k,e⟩:=h;exact k.head
theorem KX.c0 (h:KX w m H S U q A):w.cell? ⟨H.kb,0,none⟩=some (wp H.eb):=by rw [cell_of_row w H.kb 0 _ _ _ h.head];rfl
theorem KX.c1 (h:KX w m H S U q A):w.cell? ⟨H.kb,1,none⟩=some (wp H.r):=by rw [cell_of_row w H.kb 1 _ _ _ h.head];rfl
theorem KX.c2 (h:KX w m H S U q A):w.cell? ⟨H.kb,2,none⟩=some (wp H.f):=by rw [cell_of_row w H.kb 2 _ _ _ h.head];rfl
theorem KX.c3 (h:KX w m H S U q A):w.cell? ⟨H.kb,3,none⟩=some (wp H.t):=by rw [cell_of_row w H.kb 3 _ _ _ h.head];rfl
theorem KX.c4 (h:KX w m H S U q A):w.cell? ⟨H.kb,4,none⟩=some (.map (some H.gm)):=by rw [cell_of_row w H.kb 4 _ _ _ h.head];rfl
theorem KX.hd (h:KX w m H S U q A) (ho:S.O p=some o):Hd w (H.hs o.j) (H.sp o.j) (H.tb o.j) (U o.j) o.m o.fo:=by
 obtain ⟨G,k,e⟩:=h;exact k.hold p o ho
theorem KX.er (h:KX w m H S U q A):w.cell? ⟨0,0,none⟩=some iB:=by
 obtain ⟨G,k,e⟩:=h;exact k.kd.er
theorem KX.ml (h:KX w m H S U q A):w.cell? ⟨4,0,none⟩=some (.int .i64 m):=by
 obtain ⟨G,k,e⟩:=h;exact k.kd.ml
theorem KX.tab (h:KX w m H S U q A):Bn H.ok w:=by
 obtain ⟨G,k,e⟩:=h;exact k.tab
theorem KX.hne (h:KX w m H S U q A) (ho:S.O p=some o):0≠H.hs o.j:=by
 obtain ⟨G,k,e⟩:=h
 intro z
 have:=k.k5 p o ho
 rw [←z,k.ke] at this;omega
theorem KX.inv (h:KX w m H S U q A):Inv S.D S.Ts (2*q):=by
 obtain ⟨G,k,e⟩:=h;exact k.kd.inv
theorem KX.Vi (h:KX w m H S U q A):pX S.P:=by
 obtain ⟨G,k,e⟩:=h
 obtain ⟨c,qj⟩:=k.qj
 exact qj.ok
theorem KX.rR (h:KX w m H S U q A) (ho:S.O p=some o):o.j<S.Ts.length:=by
 obtain ⟨G,k,e⟩:=h;exact k.lt p o ho
theorem KX.mlt (h:KX w m H S U q A) (ho:S.O p=some o):o.j<S.Ms.length:=by
 obtain ⟨G,k,e⟩:=h;rw [k.len];exact k.lt p o ho
theorem KX.len (h:KX w m H S U q A):S.Ms.length=S.Ts.length:=by
 obtain ⟨G,k,e⟩:=h;exact k.len
theorem KX.nx (h:KX w m H S U q A):S.D.nx≤3*(q:Int):=by
 obtain ⟨G,k,e⟩:=h;exact k.nx
theorem KX.key (h:KX w m H S U q A) (ho:S.O p=some o):1≤p∧p≤24:=by
 obtain ⟨G,k,e⟩:=h;exact k.key p o ho
theorem KX.inj (h:KX w m H S U q A) {p':Int}{o':Ow}(ho:S.O p=some o) (ho':S.O p'=some o') (e:o.j=o'.j):p=p':=by
 obtain ⟨G,k,_⟩:=h;exact k.hinj p o p' o' ho ho' (by rw [e])
theorem KX.more (h:KX w m H S U q A) {q':Nat}(hq:q≤q'):KX w m H S U q' A:=by
 obtain ⟨G,k,e⟩:=h
 refine ⟨G,{ k with kd:=?_,nx:=?_,few:=?_ },e⟩
 ·exact { k.kd with inv:=k.kd.inv.more (by omega) }
 ·have:=k.nx;omega
 ·have:=k.few;omega
theorem zu (L:List Sq) (f:Int):bI (L.map (fun x=>x.2.2)) f=lh L f:=by unfold bI lh;rw [List.map_map];rfl
theorem KX.vm (h:KX w m H S U q A) (hj:o.j<S.Ts.length) {fn:FuncId}{args:Array Value}{Q:Ending→PM→(Nat→Nat→Int)→Prop}
 (hc:∀E Av gc,E.n=S.n→VS E w (H.sp o.j) gc S.W Av (aC S o.j) (iY S o.j)→Calls Tryz.prog fn args w fun y w'=>∃P' D',Q y P' D'∧aW E w (H.sp o.j) gc Av w' D' P' (iY S o.j)) :
 Calls Tryz.prog fn args w fun y w'=>∃P' D',Q y P' D'∧∃A',KX w' m H (S.space o.j P' D') U q A'∧Stp w w' A A':=by
 obtain ⟨G,k,e⟩:=h
 have hl:o.j<G.L.length:=by rw [k.Ll];exact hj
 have hP:G.L[o.j].2.2=aC S o.j:=by
  rw [pQ (by rw [k.len];exact hj)]
  have:S.Ms=G.L.map (fun x=>x.2.2):=k.ms.symm
  simp only [this,List.getElem_map]
 have hO:xQ G.L o.j hl=iY S o.j:=by
  funext f;unfold xQ iY;rw [←k.ms,zu,hP]
 have hv:=k.al.sp o.j hl
 rw [k.sp o.j hl,hP,hO] at hv
 refine (hc G.E G.Av G.L[o.j].2.1 k.en hv).mono ?_
 rintro y w' ⟨P',D',hQ,t⟩
 rw [←k.sp o.j hl,←hO] at t
 obtain ⟨G',k',st⟩:=k.vm hl (k.al.turn hl t)
 exact ⟨P',D',hQ,_,.of k',qY e st⟩
theorem KX.vmr (h:KX w m H S U q A) (hj:o.j<S.Ts.length) {C:Prop}(hc:∀E Av gc,E.n=S.n→VS E w (H.sp o.j) gc S.W Av (aC S o.j) (iY S o.j)→C):C:=by
 obtain ⟨G,k,e⟩:=h
 have hl:o.j<G.L.length:=by rw [k.Ll];exact hj
 have hP:G.L[o.j].2.2=aC S o.j:=by
  rw [pQ (by rw [k.len];exact hj)]
  have:S.Ms=G.L.map (fun x=>x.2.2):=k.ms.symm
  simp only [this,List.getElem_map]
 have hO:xQ G.L o.j hl=iY S o.j:=by
  funext f;unfold xQ iY;rw [←k.ms,zu,hP]
 have hv:=k.al.sp o.j hl
 rw [k.sp o.j hl,hP,hO] at hv
 exact hc G.E G.Av G.L[o.j].2.1 k.en hv
theorem KX.map (h:KX w m H S U q A) (hj:o.j<S.Ts.length) (a n af:Int) (hn:n≤9223372036854775807) :
 Calls Tryz.prog 169 #[wp (H.sp o.j),.int .i64 a,.int .i64 n,.int .i64 af] w fun y w'=>y=.returned (aI (iW (aC S o.j) a n af))∧∃A',KX w' m H (S.space o.j (jJ (aC S o.j) a n af) S.W) U q A'∧Stp w w' A A':=by
 refine (h.vm hj (Q:=fun y P' D'=>y=.returned (aI (iW (aC S o.j) a n af))∧P'=jJ (aC S o.j) a n af∧D'=S.W) (fun E Av gc _ v=>?_)).mono ?_
 ·refine (v.map_ok a n af hn).mono ?_
  rintro y w' ⟨rfl,t⟩
  exact ⟨_,_,⟨rfl,rfl,rfl⟩,t⟩
 ·rintro y w' ⟨P',D',⟨rfl,rfl,rfl⟩,r⟩
  exact ⟨rfl,r⟩
theorem KX.YQ (h:KX w m H S U q A) (hj:o.j<S.Ts.length) (a n:Int) (hn:n≤9223372036854775807) :
 Calls Tryz.prog 171 #[wp (H.sp o.j),.int .i64 a,.int .i64 n] w fun y w'=>y=.returned (aI (ui (aC S o.j) a n))∧∃A',KX w' m H (S.space o.j (Bc (aC S o.j) a n) S.W) U q A'∧Stp w w' A A':=by
 refine (h.vm hj (Q:=fun y P' D'=>y=.returned (aI (ui (aC S o.j) a n))∧P'=Bc (aC S o.j) a n∧D'=S.W) (fun E Av gc _ v=>?_)).mono ?_
 ·refine (v.SC a n hn).mono ?_
  rintro y w' ⟨rfl,t⟩
  exact ⟨_,_,⟨rfl,rfl,rfl⟩,t⟩
 ·rintro y w' ⟨P',D',⟨rfl,rfl,rfl⟩,r⟩
  exact ⟨rfl,r⟩
theorem KX.WI (h:KX w m H S U q A) (hj:o.j<S.Ts.length) (a n af:Int) (hn:n≤9223372036854775807) :
 Calls Tryz.prog 178 #[wp (H.sp o.j),.int .i64 a,.int .i64 n,.int .i64 af] w fun y w'=>y=.returned (aI (mQ (aC S o.j) a n af))∧∃A',KX w' m H (S.space o.j (nR (aC S o.j) a n af) S.W) U q A'∧Stp w w' A A':=by
 refine (h.vm hj (Q:=fun y P' D'=>y=.returned (aI (mQ (aC S o.j) a n af))∧P'=nR (aC S o.j) a n af∧D'=S.W) (fun E Av gc _ v=>?_)).mono ?_
 ·refine (v.J7 a n af hn).mono ?_
  rintro y w' ⟨rfl,t⟩
  exact ⟨_,_,⟨rfl,rfl,rfl⟩,t⟩
 ·rintro y w' ⟨P',D',⟨rfl,rfl,rfl⟩,r⟩
  exact ⟨rfl,r⟩
theorem KX.Si (h:KX w m H S U q A) (hj:o.j<S.Ts.length) :
 Calls Tryz.prog 158 #[wp (H.sp o.j)] w fun y w'=>y=.returned (.tuple #[])∧∃A',KX w' m H (S.space o.j lG S.W) U q A'∧Stp w w' A A':=by
 refine (h.vm hj (Q:=fun y P' D'=>y=.returned (.tuple #[])∧P'=lG∧D'=S.W) (fun E Av gc _ v=>?_)).mono ?_
 ·refine v.zN.mono ?_
  rintro y w' ⟨rfl,t⟩
  exact ⟨_,_,⟨rfl,rfl,rfl⟩,t⟩
 ·rintro y w' ⟨P',D',⟨rfl,rfl,rfl⟩,r⟩
  exact ⟨rfl,r⟩
theorem KX.aag (h:KX w m H S U q A) (hj:o.j<S.Ts.length) (a k v:Int) (ha:(Lit.int .i64 a).wf=true) :
 Calls Tryz.prog 182 #[wp (H.sp o.j),.int .i64 a,.int .i64 k,.int .i64 v] w fun y w'=>∃P' D' er,uo S.n (aC S o.j) (iY S o.j) S.W a k v er P' D'∧y=.returned (aI er)∧∃A',KX w' m H (S.space o.j P' D') U q A'∧Stp w w' A A':=by
 refine (h.vm hj (Q:=fun y P' D'=>∃er,uo S.n (aC S o.j) (iY S o.j) S.W a k v er P' D'∧y=.returned (aI er)) (fun E Av gc en v9=>?_)).mono ?_
 ·refine (v9.SV a k v ha).mono ?_
  rintro y w' ⟨er,P',D',hS,rfl,t⟩
  rw [en] at hS
  exact ⟨_,_,⟨er,hS,rfl⟩,t⟩
 ·rintro y w' ⟨P',D',⟨er,hS,rfl⟩,r⟩
  exact ⟨P',D',er,hS,rfl,r⟩
theorem KX.adp (h:KX w m H S U q A) (hj:o.j<S.Ts.length) (a k:Int) (ha:(Lit.int .i64 a).wf=true) :
 Calls Tryz.prog 167 #[wp (H.sp o.j),.int .i64 a,.int .i64 k] w fun y w'=>y=.returned (.tuple #[.int .i64 (jf (aC S o.j) S.W a k),aI (dN (aC S o.j) a k 1)])∧Below w.heap.size w w':=
 h.vmr hj (fun _ _ _ _ v=>v.load a k ha)
theorem KX.aft (h:KX w m H S U q A) (hj:o.j<S.Ts.length) :
 Calls Tryz.prog 143 #[wp (H.sp o.j)] w fun y w'=>y=.returned (.int .i64 (bX (aC S o.j):Nat))∧w'=w:=
 h.vmr hj (fun _ _ _ _ v=>v.sp.len)
theorem KX.Fy (h:KX w m H S U q A) (hj:o.j<S.Ts.length) :
 Calls Tryz.prog 144 #[wp (H.sp o.j)] w fun y w'=>y=.returned (.int .i64 (gM (aC S o.j):Nat))∧Below w.heap.size w w':=
 h.vmr hj (fun _ _ _ _ v=>v.sp.resident)
theorem KX.adr (h:KX w m H S U q A):Calls Tryz.prog 140 #[wp H.eb] w fun y w'=>y=.returned (.int .i64 ((S.n-used (bI S.Ms) S.n:Nat):Int))∧w'=w:=by
 obtain ⟨G,k,e⟩:=h
 have:=k.al.left
 rw [k.eb,k.en,show lh G.L=bI S.Ms by funext f;rw [←k.ms,zu]] at this
 exact this
theorem KX.pages (h:KX w m H S U q A) (hj:o.j<S.Ts.length):lN S.n (aC S o.j)∧QQ (aC S o.j):=
 h.vmr hj (fun E _ _ en v=>by rw [←en];exact ⟨v.ok,v.Bh⟩)
end
end Go.Proofs.YtippochapiolpaaGreatDoor
namespace Go.Proofs.YtippochapiolpaaGreatDoor
open Go.RowKit Go.Maps Go.Sort
theorem vz {fn:Func}{t u v x:Tmp}(h:fn.results=#[.tmp t,.tmp u,.tmp v,.tmp x]) (tmps:Array Value) (P:Program) (w:World) :
 (results fn tmps).run P w=.ok (.tuple #[tmps.getD t undef,tmps.getD u undef,tmps.getD v undef,tmps.getD x undef]) w:=by
 simp [results,h]
section
variable {w w':World}{m:Int}{H:KH}{S:KS}{U:Nat→Nat→Int}{q:Nat}{A:Nat→Prop}{p:Int}{o:Ow}
theorem Nv (w:World):(zeroValue 59).run Tryz.prog w=.ok (.pointer none) w:=by kernel_rfl
theorem KX.look (h:KX w m H S U q A) (p:Int) (hp:(Lit.int .i64 p).wf=true):(Instr.lookup 64 (.map (some H.gm)) (.int .i64 p) false).run Tryz.prog w=.ok (match S.O p with|some o=>wp (H.hs o.j) | none=>.pointer none) w:=by
 obtain ⟨G,k,e⟩:=h
 obtain ⟨z,hm⟩:=k.map
 rw [hm.look Tryz.underlying64 (Nv w) p hp]
 cases S.O p<;>rfl
theorem Nj {p:Int}(h:1≤p∧p≤24):(Lit.int .i64 p).wf=true:=uq (by omega)
theorem KX.xu (h:KX w m H S U q A) (ho:S.O p=some o):(Instr.lookup 64 (.map (some H.gm)) (.int .i64 p) false).run Tryz.prog w=.ok (wp (H.hs o.j)) w:=by
 rw [h.look p (Nj (h.key ho)),ho]
theorem KX.adn (h:KX w m H S U q A) (ho:S.O p=none) (hp:(Lit.int .i64 p).wf=true):(Instr.lookup 64 (.map (some H.gm)) (.int .i64 p) false).run Tryz.prog w=.ok (.pointer none) w:=by
 rw [h.look p hp,ho]
theorem KX.ay (h:KX w m H S U q A) (ho:S.O p=some o):Calls Tryz.prog 127 #[wp H.kb,.int .i64 p] w fun e w'=>e=.returned (.tuple #[wp (H.hs o.j),.nilIface])∧w'=w:=by
 have c4:=h.c4
 have l1:=h.xu ho
 go_enter Tryz.func127,Tryz.ntmps127
 go_wp2_with fail
 go_ret2
 exact ⟨rfl,rfl⟩
theorem KX.j4 (h:KX w m H S U q A) (ho:S.O p=none) (hp:(Lit.int .i64 p).wf=true):Calls Tryz.prog 127 #[wp H.kb,.int .i64 p] w fun e w'=>e=.returned (.tuple #[.pointer none,eQ 7])∧w'=w:=by
 have c4:=h.c4
 have l1:=h.adn ho hp
 go_enter Tryz.func127,Tryz.ntmps127
 go_wp2_with fail
 go_ret2
 exact ⟨rfl,rfl⟩
theorem KX.left (h:KX w m H S U q A):Calls Tryz.prog 86 #[wp H.kb] w fun e w'=>e=.returned (.int .i64 ((S.n-used (bI S.Ms) S.n:Nat):Int))∧w'=w:=by
 have c0:=h.c0
 have hL:=h.adr
 generalize S.n-used (bI S.Ms) S.n=x at *
 go_enter Tryz.func86,Tryz.ntmps86
 go_wp2_with (go_at_call 140;refine hL.mono ?_;rintro e w1 ⟨rfl,hw⟩;subst w1)
 go_ret
 exact ⟨rfl,rfl⟩
theorem KX.rf (h:KX w m H S U q A) {n:Nat}(hn:p9 S.D.E n):Calls Tryz.prog 87 #[wp H.kb] w fun e w'=>e=.returned (.int .i64 (n:Int))∧w'=w:=by
 have c2:=h.c2
 obtain ⟨G,k,e⟩:=h
 have hL:=k.kd.aas hn
 go_enter Tryz.func87,Tryz.ntmps87
 go_wp2_with (go_at_call 141;refine hL.mono ?_;rintro e w1 ⟨rfl,hw⟩;subst w1)
 go_ret
 exact ⟨rfl,rfl⟩
theorem KX.oC (h:KX w m H S U q A) {s:Nat}(hs:dF S.D.T s):Calls Tryz.prog 88 #[wp H.kb] w fun e w'=>e=.returned (.int .i64 (s:Int))∧w'=w:=by
 have c1:=h.c1
 obtain ⟨G,k,e⟩:=h
 have hL:=k.kd.nodes hs
 go_enter Tryz.func88,Tryz.ntmps88
 go_wp2_with (go_at_call 142;refine hL.mono ?_;rintro e w1 ⟨rfl,hw⟩;subst w1)
 go_ret
 exact ⟨rfl,rfl⟩
theorem KX.yF (h:KX w m H S U q A):∃n,p9 S.D.E n:=by
 obtain ⟨G,k,e⟩:=h;exact k.kd.yF
theorem KX.gQ (h:KX w m H S U q A):∃n,dF S.D.T n:=by
 obtain ⟨G,k,e⟩:=h;exact k.kd.gQ
theorem KX.one (h:KX w m H S U q A):(S.P 1).isSome=true:=by
 obtain ⟨p,hp,_⟩:=h.Vi.one
 rw [hp];rfl
theorem KX.si (h:KX w m H S U q A):Calls Tryz.prog 90 #[wp H.kb] w fun e w'=>∃b cap,e=.returned (.slice (some ⟨b,0,none⟩) (aH S.P).length cap)∧(aH S.P).length≤cap∧w.heap.size≤b∧b<w'.heap.size∧Holds encZ w' b 0 (aH S.P).toArray∧Below w.heap.size w w':=by
 have c3:=h.c3
 have h1:=h.one
 obtain ⟨G,k,e⟩:=h
 obtain ⟨c,qj⟩:=k.qj
 have hL:=qj.toQM.si h1
 go_enter Tryz.func90,Tryz.ntmps90
 go_wp2_with (go_at_call 146;refine hL.mono ?_;rintro e w1 ⟨b,cap,rfl,hh⟩)
 go_ret
 exact ⟨b,cap,rfl,hh⟩
theorem KX.state (h:KX w m H S U q A) (n:Int) (hn:(Lit.int .i64 n).wf=true):Calls Tryz.prog 91 #[wp H.kb,.int .i64 n] w fun e w'=>e=.returned (.int .i64 (nN S.P n))∧Below w.heap.size w w':=by
 have c3:=h.c3
 obtain ⟨G,k,e⟩:=h
 obtain ⟨c,qj⟩:=k.qj
 have hL:=qj.toQM.state n hn
 go_enter Tryz.func91,Tryz.ntmps91
 go_wp2_with (go_at_call 147;refine hL.mono ?_;rintro e w1 ⟨rfl,hh⟩)
 go_ret
 exact ⟨rfl,hh⟩
theorem KX.ac1 (h:KX w m H S U q A) (hj:o.j<S.Ts.length):Calls Tryz.prog 145 #[wp (H.tb o.j)] w fun y w'=>y=.returned (.int .i64 (ak (au S o.j):Int))∧Below w.heap.size w w':=by
 obtain ⟨G,k,e⟩:=h
 have hb:o.j<G.bs.length:=by rw [k.Lb];exact hj
 have:=k.kd.used hb
 rw [k.tb _ hb,←jc hj] at this
 exact this
theorem KX.nz (h:KX w m H S U q A) (ho:S.O p=some o):Calls Tryz.prog 89 #[wp H.kb,.int .i64 p] w fun e w'=>e=.returned (.tuple #[.int .i64 (bX (aC S o.j):Nat),.int .i64 (gM (aC S o.j):Nat),.int .i64 (ak (au S o.j):Nat),.nilIface])∧Below w.heap.size w w':=by
 have hF:=h.ay ho
 have hj:=h.rR ho
 have hx:=fun V (hb:Below w.heap.size w V)=>(h.below hb).aft hj
 have hy:∀V,Below w.heap.size w V→Calls Tryz.prog 144 #[wp (H.sp o.j)] V fun y w'=>y=.returned (.int .i64 (gM (aC S o.j):Nat))∧Below w.heap.size w w':=fun V hb=>by
  refine ((h.below hb).Fy hj).mono ?_
  rintro y w' ⟨rfl,b⟩
  exact ⟨rfl,hb.trans (b.mono hb.size)⟩
 have hz:∀V,Below w.heap.size w V→Calls Tryz.prog 145 #[wp (H.tb o.j)] V fun y w'=>y=.returned (.int .i64 (ak (au S o.j):Int))∧Below w.heap.size w w':=fun V hb=>by
  refine ((h.below hb).ac1 hj).mono ?_
  rintro y w' ⟨rfl,b⟩
  exact ⟨rfl,hb.trans (b.mono hb.size)⟩
 have cc:∀V,Below w.heap.size w V→V.cell? ⟨H.hs o.j,0,none⟩=some (wp (H.sp o.j))∧V.cell? ⟨H.hs o.j,1,none⟩=some (wp (H.tb o.j)):=fun V hb=>⟨((h.below hb).hd ho).at 0,((h.below hb).hd ho).at 1⟩
 have c0:=cc w (Below.refl _ _)
 generalize bX (aC S o.j)=X at *
 generalize gM (aC S o.j)=Y at *
 generalize ak (au S o.j)=Z at *
 have CC:Aside _:=cc
 go_enter Tryz.func89,Tryz.ntmps89
 go_upto_region 4 with (go_at_call 127;refine hF.mono ?_;rintro e w1 ⟨rfl,hw⟩;subst w1)
 have bd:Below w.heap.size w w.drew:=⟨rfl,rfl,rfl,Nat.le_refl _,fun _ _=>rfl⟩
 go_region_held3 (fun w'=>w'.cell? ⟨H.hs o.j,0,none⟩=some (wp (H.sp o.j))∧w'.cell? ⟨H.hs o.j,1,none⟩=some (wp (H.tb o.j))) (first|exact c0|exact CC.out _ bd) (first
  |(go_at_call 143;refine (hx _ bd).mono ?_;rintro e w1 ⟨rfl,hww⟩;subst w1)
  |(go_at_call 144;refine (hy _ bd).mono ?_;rintro e w1 ⟨rfl,bd⟩)
  |(go_at_call 145;refine (hz _ bd).mono ?_;rintro e w1 ⟨rfl,bd⟩))
 all_goals
  go_wp2_with fail
  (try simp only [Exit.inBlock,Exit.then])
  refine bodyPost_ret (vz rfl _ _ _) rfl ?_
  exact ⟨rfl,bd⟩
theorem KX.aa3 (h:KX w m H S U q A) (ho:S.O p=none) (hp:(Lit.int .i64 p).wf=true):Calls Tryz.prog 89 #[wp H.kb,.int .i64 p] w fun e w'=>e=.returned (.tuple #[.int .i64 0,.int .i64 0,.int .i64 0,eQ 7])∧w'=w:=by
 have hF:=h.j4 ho hp
 go_enter Tryz.func89,Tryz.ntmps89
 go_wp2_with (go_at_call 127;refine hF.mono ?_;rintro e w1 ⟨rfl,hw⟩;subst w1)
 (try simp only [Exit.inBlock,Exit.then])
 refine bodyPost_ret (vz rfl _ _ _) rfl ?_
 exact ⟨rfl,rfl⟩
end
end Go.Proofs.YtippochapiolpaaGreatDoor
namespace Go.Proofs.YtippochapiolpaaGreatDoor
open Go.RowKit Go.Maps
section
variable {w w' V:World}{A A':Nat→Prop}
theorem Stp.base (e:V.heap=w.heap) (e1:V.os=w.os) (e2:V.tape=w.tape) (e3:V.output=w.output) (h:Stp V w' A A'):Stp w w' A A':=
 ⟨⟨h.wt.os.trans e1,h.wt.tape.trans e2,h.wt.output.trans e3,by rw [←e];exact h.wt.size,fun i hi hn=>by rw [←e];exact h.wt.block i (by rw [e];exact hi) hn⟩,fun i hi=>by rw [←e];exact h.own i hi⟩
theorem Stp.up (h:Stp w w' A A') (e:V.heap=w'.heap) (e1:V.os=w'.os) (e2:V.tape=w'.tape) (e3:V.output=w'.output):Stp w V A A':=
 ⟨⟨e1.trans h.wt.os,e2.trans h.wt.tape,e3.trans h.wt.output,by rw [e];exact h.wt.size,fun i hi hn=>by rw [e];exact h.wt.block i hi hn⟩,h.own⟩
theorem bH (w:World):Below w.heap.size w w.drew:=⟨rfl,rfl,rfl,Nat.le_refl _,fun _ _=>rfl⟩
theorem Stp.after {w0:World}(hb:Below w0.heap.size w0 w) (h:Stp w w' A A'):Stp w0 w' A A':=(Stp.below hb).trans h
end
def KN (w:World) (m:Int) (H:KH) (S:KS) (q:Nat) (A:Nat→Prop):Prop:=KX w m H S (kZ S) q A∧uh S
section
variable {w w':World}{m:Int}{H:KH}{S:KS}{U U':Nat→Nat→Int}{q:Nat}{A:Nat→Prop}{p:Int}{o:Ow}
theorem Hd.congr {b s t:Nat}{U U' M:Nat→Int}{a:Int}(h:Hd w b s t U M a) (e:∀k,k<3→U k=U' k):Hd w b s t U' M a:=by
 unfold Hd at h ⊢
 rw [h,hcs,hcs,e 0 (by omega),e 1 (by omega),e 2 (by omega)]
theorem KX.JC (h:KX w m H S U q A) (e:∀p o,S.O p=some o→∀k,k<3→U o.j k=U' o.j k):KX w m H S U' q A:=by
 obtain ⟨G,k,hA⟩:=h
 exact ⟨G,{ k with hold:=fun p o ho=>(k.hold p o ho).congr (e p o ho) },hA⟩
theorem Cr (ho:S.O p=some o):kL S.O p ⟨o.j,o.m,o.fo⟩=S.O:=by
 funext x
 by_cases e:x=p
 ·rw [e,eH,ho]
 ·rw [iX e]
theorem KX.Zf (h:KX w m H S U q A) (ho:S.O p=some o) {U' M':Nat→Int}{a':Int}(hd:Hd w' (H.hs o.j) (H.sp o.j) (H.tb o.j) U' M' a') (g:w.grownBy w' (some (H.hs o.j))):KX w' m H (S.own p ⟨o.j,M',a'⟩) (fun i=>if i=o.j then U' else U i) q A∧Stp w w' A A:=by
 obtain ⟨G,k,e⟩:=h
 obtain ⟨k',st⟩:=k.hd ho hd g
 have hA:A=fun i=>G.κ i≠0:=funext fun i=>propext (e i)
 subst hA
 exact ⟨⟨G,k',fun _=>Iff.rfl⟩,st⟩
theorem KX.hold (h:KX w m H S U q A) (ho:S.O p=some o) {U' M':Nat→Int}{a':Int}(hd:Hd w' (H.hs o.j) (H.sp o.j) (H.tb o.j) U' M' a') (g:w.grownBy w' (some (H.hs o.j))):∃A',KX w' m H (S.own p ⟨o.j,M',a'⟩) (fun i=>if i=o.j then U' else U i) q A'∧Stp w w' A A':=by
 obtain ⟨A',h',st⟩:=(⟨A,h.Zf ho hd g⟩:∃A',KX w' m H (S.own p ⟨o.j,M',a'⟩) (fun i=>if i=o.j then U' else U i) q A'∧Stp w w' A A')
 exact ⟨A',h',st⟩
theorem KX.ZQ (h:KX w m H S U q A) (ho:S.O p=some o) {U':Nat→Int}(hd:Hd w' (H.hs o.j) (H.sp o.j) (H.tb o.j) U' o.m o.fo) (g:w.grownBy w' (some (H.hs o.j))):KX w' m H S (fun i=>if i=o.j then U' else U i) q A∧Stp w w' A A:=by
 obtain ⟨h',st⟩:=h.Zf ho hd g
 unfold KS.own at h'
 rw [Cr ho] at h'
 exact ⟨h',st⟩
theorem KX.led (h:KX w m H S U q A) (ho:S.O p=some o) {U':Nat→Int}(hd:Hd w' (H.hs o.j) (H.sp o.j) (H.tb o.j) U' o.m o.fo) (g:w.grownBy w' (some (H.hs o.j))):∃A',KX w' m H S (fun i=>if i=o.j then U' else U i) q A'∧Stp w w' A A':=by
 obtain ⟨A',h',st⟩:=h.hold ho hd g
 unfold KS.own at h'
 rw [Cr ho] at h'
 exact ⟨A',h',st⟩
theorem KX.oW (h:KX w m H S U q A) (j:Nat):(au S j).length=8:=by
 by_cases hj:j<S.Ts.length
 ·rw [jc hj];exact h.inv.len hj
 ·unfold au;rw [List.getD_eq_getElem?_getD,List.getElem?_eq_none (by omega)];rfl
theorem KX.Ji (h:KX w m H S U q A) (j:Nat):Fit (kZ S j):=fun k=>by
 have h1:=ry (aC S j)
 have h2:=wo (h.oW j)
 unfold kZ
 split
 ·omega
 ·split<;>omega
theorem gB {S:KS}{j:Nat}(hj:j<S.Ms.length) (P':PM) (D':Nat→Nat→Int) (i:Nat):aC (S.space j P' D') i=if i=j then P' else aC S i:=by
 unfold aC KS.space
 simp only [List.getD_eq_getElem?_getD,List.getElem?_set]
 by_cases e:i=j
 ·subst e;simp [hj]
 ·rw [if_neg (Ne.symm e),if_neg e]
theorem qC {S:KS}{j:Nat}(P':PM) (D':Nat→Nat→Int) (i:Nat):au (S.space j P' D') i=au S i:=rfl
theorem gY {S:KS}{j:Nat}(hj:j<S.Ts.length) (D':DS) (N':Ns) (i:Nat):au (S.files D' j N') i=if i=j then N' else au S i:=by
 unfold au KS.files
 simp only [List.getD_eq_getElem?_getD,List.getElem?_set]
 by_cases e:i=j
 ·subst e;simp [hj]
 ·rw [if_neg (Ne.symm e),if_neg e]
theorem oD {S:KS}{j:Nat}(D':DS) (N':Ns) (i:Nat):aC (S.files D' j N') i=aC S i:=rfl
theorem jS {S:KS}{j:Nat}(hj:j<S.Ms.length):S.space j (aC S j) S.W=S:=by
 unfold KS.space
 rw [pQ hj,List.set_getElem_self]
theorem pJ {S:KS}{j:Nat}(hj:j<S.Ts.length):S.files S.D j (au S j)=S:=by
 unfold KS.files
 rw [jc hj,List.set_getElem_self]
theorem Hy {S:KS}{j:Nat}(P1 P2:PM) (D1 D2:Nat→Nat→Int):(S.space j P1 D1).space j P2 D2=S.space j P2 D2:=by
 unfold KS.space;simp only [List.set_set]
theorem Iy {S:KS}{j:Nat}(D1 D2:DS) (N1 N2:Ns):(S.files D1 j N1).files D2 j N2=S.files D2 j N2:=by
 unfold KS.files;simp only [List.set_set]
theorem uh.space (k:uh S) (ho:S.O p=some o) (hl:S.Ms.length=S.Ts.length) (P':PM) (D':Nat→Nat→Int):uh (S.space o.j P' D'):=by
 refine ⟨k.run,fun j hj hn=>?_,k.fit⟩
 obtain ⟨h1,h2⟩:=k.gone j hj hn
 refine ⟨h1,?_⟩
 have hne:j≠o.j:=fun e=>hn p o ho e.symm
 by_cases hl':o.j<S.Ms.length
 ·rw [gB hl',if_neg hne];exact h2
 ·unfold KS.space aC;rw [List.set_eq_of_length_le (by omega)];exact h2
theorem uh.files (k:uh S) (ho:S.O p=some o) (D':DS) (N':Ns):uh (S.files D' o.j N'):=by
 refine ⟨k.run,fun j hj hn=>?_,k.fit⟩
 have hj':j<S.Ts.length:=by unfold KS.files at hj;simpa using hj
 obtain ⟨h1,h2⟩:=k.gone j hj' hn
 refine ⟨?_,h2⟩
 have hne:j≠o.j:=fun e=>hn p o ho e.symm
 by_cases hl':o.j<S.Ts.length
 ·rw [gY hl',if_neg hne];exact h1
 ·unfold KS.files au;rw [List.set_eq_of_length_le (by omega)];exact h1
theorem uh.tree (k:uh S) (T':Wd):uh (S.tree T'):=⟨k.run,k.gone,k.fit⟩
theorem uh.own (k:uh S) (ho:S.O p=some o) {M':Nat→Int}{a':Int}(hM:Fit M') (ha:-100≤a'∧a'≤100):uh (S.own p ⟨o.j,M',a'⟩):=by
 refine ⟨fun x=>?_,fun j hj hn=>k.gone j hj (fun x o' e=>?_),fun x o' e=>?_⟩
 ·by_cases e:x=p
  ·have:=k.run x
   rw [e] at this ⊢
   rw [ho] at this
   show (kL S.O p _ p).isSome=_
   rw [eH];exact this
  ·show (kL S.O p _ x).isSome=_
   rw [iX e];exact k.run x
 ·by_cases ex:x=p
  ·subst ex
   rw [ho] at e
   obtain rfl:=Option.some.inj e
   exact hn x ⟨o.j,M',a'⟩ (eH _ _ _)
  ·exact hn x o' (by show kL S.O p _ x=_;rw [iX ex];exact e)
 ·by_cases ex:x=p
  ·subst ex
   have e:kL S.O x ⟨o.j,M',a'⟩ x=some o':=e
   rw [eH] at e
   obtain rfl:=Option.some.inj e
   exact ⟨hM,ha⟩
  ·have e:kL S.O p ⟨o.j,M',a'⟩ x=some o':=e
   rw [iX ex] at e
   exact k.fit x o' e
theorem uh.procs (k:uh S) {P':Ps}(h:∀x,aD P' x=aD S.P x):uh (S.procs P'):=⟨fun x=>(k.run x).trans (h x).symm,k.gone,k.fit⟩
theorem KX.toN (h:KX w m H S U q A) (ok:uh S) (e:∀p o,S.O p=some o→∀k,k<3→U o.j k=kZ S o.j k):KN w m H S q A:=⟨h.JC e,ok⟩
theorem KN.below (h:KN w m H S q A) (hb:Below w.heap.size w w'):KN w' m H S q A:=⟨h.1.below hb,h.2⟩
theorem KN.more (h:KN w m H S q A) {q':Nat}(hq:q≤q'):KN w m H S q' A:=⟨h.1.more hq,h.2⟩
theorem KN.adh (h:KN w m H S q A):S.O p=none↔aD S.P p=false:=by
 rw [←h.2.run p];cases S.O p<;>simp
def rP (w:World) (A:Nat→Prop) (l:List (Nat×Value)):Prop:=∀y∈l,w.cell? ⟨y.1,0,none⟩=some y.2∧¬A y.1
theorem rP.p8 {A':Nat→Prop}{l:List (Nat×Value)}(h:rP w A l) (st:Stp w w' A A'):rP w' A' l:=fun y hy=>st.cO (h y hy).1 (h y hy).2
theorem rP.below {l:List (Nat×Value)}(h:rP w A l) (hb:Below w.heap.size w w'):rP w' A l:=h.p8 (.below hb)
theorem sG (w:World) (a:Value) (ta:TypeId):Below w.heap.size w (w.alloc (.cells #[a] ta))∧(w.alloc (.cells #[a] ta)).heap.size=w.heap.size+1∧(w.alloc (.cells #[a] ta)).cell? ⟨w.heap.size,0,none⟩=some a∧(w.alloc (.cells #[a] ta)).frozen? ⟨w.heap.size,0,none⟩=false:=by
 have h:(w.alloc (.cells #[a] ta)).heap[w.heap.size]? = some (.cells #[a] ta):=by
  show (w.heap.push _)[w.heap.size]? = _
  rw [Array.getElem?_push,if_pos rfl]
 exact ⟨(Below.refl _ w).alloc (Nat.le_refl _) _,by show (w.heap.push _).size=_;rw [Array.size_push],by rw [cell_of_row _ _ _ _ _ _ h];rfl,by unfold World.frozen?;simp only [h];rfl⟩
theorem dm {V:World}(hb:Below w.heap.size w V) {x:Nat}{v:Value}(h:w.cell? ⟨x,0,none⟩=some v):V.cell? ⟨x,0,none⟩=some v:=by
 rw [hb.cell (p:=⟨x,0,none⟩) (World.block_lt_of_cell? w _ h)];exact h
theorem Q5 (w:World) (a b:Value) (ta tb:TypeId):Below w.heap.size w ((w.alloc (.cells #[a] ta)).alloc (.cells #[b] tb))∧((w.alloc (.cells #[a] ta)).alloc (.cells #[b] tb)).heap.size=w.heap.size+1+1∧((w.alloc (.cells #[a] ta)).alloc (.cells #[b] tb)).cell? ⟨w.heap.size,0,none⟩=some a∧((w.alloc (.cells #[a] ta)).alloc (.cells #[b] tb)).cell? ⟨w.heap.size+1,0,none⟩=some b:=by
 obtain ⟨b1,s1,c1,_⟩:=sG w a ta
 obtain ⟨b2,s2,c2,_⟩:=sG (w.alloc (.cells #[a] ta)) b tb
 rw [s1] at s2 c2
 exact ⟨b1.trans (b2.mono (by omega)),s2,(dm b2 c1),c2⟩
theorem Q4 (w:World) (a b c:Value) (ta tb tc:TypeId):Below w.heap.size w (((w.alloc (.cells #[a] ta)).alloc (.cells #[b] tb)).alloc (.cells #[c] tc))∧(((w.alloc (.cells #[a] ta)).alloc (.cells #[b] tb)).alloc (.cells #[c] tc)).heap.size=w.heap.size+1+1+1∧(((w.alloc (.cells #[a] ta)).alloc (.cells #[b] tb)).alloc (.cells #[c] tc)).cell? ⟨w.heap.size,0,none⟩=some a∧(((w.alloc (.cells #[a] ta)).alloc (.cells #[b] tb)).alloc (.cells #[c] tc)).cell? ⟨w.heap.size+1,0,none⟩=some b∧(((w.alloc (.cells #[a] ta)).alloc (.cells #[b] tb)).alloc (.cells #[c] tc)).cell? ⟨w.heap.size+1+1,0,none⟩=some c:=by
 obtain ⟨b1,s1,c1,c2⟩:=Q5 w a b ta tb
 obtain ⟨b2,s2,c3,_⟩:=sG ((w.alloc (.cells #[a] ta)).alloc (.cells #[b] tb)) c tc
 rw [s1] at s2 c3
 exact ⟨b1.trans (b2.mono (by omega)),s2,(dm b2 c1),(dm b2 c2),c3⟩
end
section
variable {w w':World}{m:Int}{H:KH}{S:KS}{U:Nat→Nat→Int}{q:Nat}{A:Nat→Prop}{p:Int}{o:Ow}
theorem KX.desc (h:KX w m H S U q A) (hj:o.j<S.Ts.length) {q':Nat}(hq:q≤q') {fn:FuncId}{args:Array Value}{Q:Ending→DS→Ns→Prop}
 (hc:∀bs Ad (hb:o.j<bs.length),bs[o.j]=H.tb o.j→KD w m H.f H.r S.D bs S.Ts (2*q) Ad→Calls Tryz.prog fn args w fun y w'=>∃D' N' A',Q y D' N'∧KD w' m H.f H.r D' bs (S.Ts.set o.j N') (2*q') A'∧Stp w w' Ad A')
 (hx:∀y D' N',Q y D' N'→D'.nx≤3*(q':Int)) :
 Calls Tryz.prog fn args w fun y w'=>∃D' N',Q y D' N'∧∃A',KX w' m H (S.files D' o.j N') U q' A'∧Stp w w' A A':=by
 obtain ⟨G,k,e⟩:=h
 have hb:o.j<G.bs.length:=by rw [k.Lb];exact hj
 refine (hc G.bs G.Ad hb (k.tb _ hb) k.kd).mono ?_
 rintro y w' ⟨D',N',A',hQ,kd',st⟩
 obtain ⟨G',k',st'⟩:=k.desc kd' st (by rw [List.length_set]) (hx y D' N' hQ) hq
 exact ⟨D',N',hQ,_,.of k',qY e st'⟩
theorem KD.more {f r k:Nat}{D:DS}{bs:List Nat}{Ts:List Ns}{Ad:Nat→Prop}(kd:KD w m f r D bs Ts k Ad) {k':Nat}(hk:k≤k'):KD w m f r D bs Ts k' Ad:={ kd with inv:=kd.inv.more hk }
theorem KX.og (h:KX w m H S U q A) (hj:o.j<S.Ts.length) (x:Int):Calls Tryz.prog 153 #[wp H.f,wp (H.tb o.j),.int .i64 x] w fun y w'=>y=.returned (.bool (aJ (au S o.j) x))∧Below w.heap.size w w':=by
 obtain ⟨G,k,e⟩:=h
 have hb:o.j<G.bs.length:=by rw [k.Lb];exact hj
 have:=k.kd.has hb x
 rw [k.tb _ hb,←jc hj] at this
 exact this
theorem KX.Sg (h:KX w m H S U q A) (hj:o.j<S.Ts.length) (hq:q≤400) (x:Int) :
 Calls Tryz.prog 148 #[wp H.f,wp (H.tb o.j),.int .i64 x] w fun y w'=>y=.returned (aI (if aJ (au S o.j) x=true then 0 else 7))∧∃A',KX w' m H (S.files (iU S.D (au S o.j) x) o.j (gX (au S o.j) x)) U q A'∧Stp w w' A A':=by
 refine (h.desc hj (q':=q) (by omega) (Q:=fun y D' N'=>y=.returned (aI (if aJ (au S o.j) x=true then 0 else 7))∧D'=iU S.D (au S o.j) x∧N'=gX (au S o.j) x) (fun bs Ad hb e kd=>?_) (fun y D' N' hq=>?_)).mono ?_
 ·have:=kd.close (by omega) hb x
  rw [←jc hj,e] at this
  exact this
 ·obtain ⟨_,rfl,rfl⟩:=hq
  have:=h.nx
  rw [OV];exact this
 ·rintro y w' ⟨D',N',⟨rfl,rfl,rfl⟩,r⟩
  exact ⟨rfl,r⟩
theorem KX.afT (h:KX w m H S U q A) (hj:o.j<S.Ts.length) (x:Int) :
 Calls Tryz.prog 152 #[wp H.f,wp (H.tb o.j),.int .i64 x] w fun y w'=>y=.returned (.tuple #[.int .i64 (jv (au S o.j) x),aI (jH (au S o.j) x)])∧∃A',KX w' m H (S.files (lM S.D (au S o.j) x) o.j (lL (au S o.j) x)) U q A'∧Stp w w' A A':=by
 refine (h.desc hj (q':=q) (by omega) (Q:=fun y D' N'=>y=.returned (.tuple #[.int .i64 (jv (au S o.j) x),aI (jH (au S o.j) x)])∧D'=lM S.D (au S o.j) x∧N'=lL (au S o.j) x) (fun bs Ad hb e kd=>?_) (fun y D' N' hq=>?_)).mono ?_
 ·have:=kd.dup hb x
  rw [←jc hj,e] at this
  exact this
 ·obtain ⟨_,rfl,rfl⟩:=hq
  have:=h.nx
  rw [aaI];exact this
 ·rintro y w' ⟨D',N',⟨rfl,rfl,rfl⟩,r⟩
  exact ⟨rfl,r⟩
theorem KX.adD (h:KX w m H S U q A) (hj:o.j<S.Ts.length) (hq:q≤400) (x y9:Int) :
 Calls Tryz.prog 156 #[wp H.f,wp (H.tb o.j),.int .i64 x,.int .i64 y9] w fun y w'=>y=.returned (aI (fD (au S o.j) x y9))∧∃A',KX w' m H (S.files (fV S.D (au S o.j) x y9) o.j (fC (au S o.j) x y9)) U q A'∧Stp w w' A A':=by
 refine (h.desc hj (q':=q) (by omega) (Q:=fun y D' N'=>y=.returned (aI (fD (au S o.j) x y9))∧D'=fV S.D (au S o.j) x y9∧N'=fC (au S o.j) x y9) (fun bs Ad hb e kd=>?_) (fun y D' N' hq=>?_)).mono ?_
 ·have:=kd.dup2 (by omega) hb x y9
  rw [←jc hj,e] at this
  exact this
 ·obtain ⟨_,rfl,rfl⟩:=hq
  have:=h.nx
  rw [Xf];exact this
 ·rintro y w' ⟨D',N',⟨rfl,rfl,rfl⟩,r⟩
  exact ⟨rfl,r⟩
theorem KX.markT (h:KX w m H S U q A) (hj:o.j<S.Ts.length) (x:Int) (c:Bool) :
 Calls Tryz.prog 172 #[wp H.f,wp (H.tb o.j),.int .i64 x,.bool c] w fun y w'=>y=.returned (aI (if aJ (au S o.j) x=true then 0 else 7))∧∃A',KX w' m H (S.files (S.D) o.j (kR (au S o.j) x c)) U q A'∧Stp w w' A A':=by
 refine (h.desc hj (q':=q) (by omega) (Q:=fun y D' N'=>y=.returned (aI (if aJ (au S o.j) x=true then 0 else 7))∧D'=S.D∧N'=kR (au S o.j) x c) (fun bs Ad hb e kd=>?_) (fun y D' N' hq=>?_)).mono ?_
 ·have:=kd.mark hb x c
  rw [←jc hj,e] at this
  exact this
 ·obtain ⟨_,rfl,rfl⟩:=hq
  have:=h.nx
  exact this
 ·rintro y w' ⟨D',N',⟨rfl,rfl,rfl⟩,r⟩
  exact ⟨rfl,r⟩
theorem KX.ac4 (h:KX w m H S U q A) (hj:o.j<S.Ts.length) (x a:Int) :
 Calls Tryz.prog 181 #[wp H.f,wp (H.tb o.j),.int .i64 x,.int .i64 a] w fun y w'=>y=.returned (aI (kg S.D (au S o.j) x a))∧∃A',KX w' m H (S.files (kr S.D (au S o.j) x a) o.j ((au S o.j))) U q A'∧Stp w w' A A':=by
 refine (h.desc hj (q':=q) (by omega) (Q:=fun y D' N'=>y=.returned (aI (kg S.D (au S o.j) x a))∧D'=kr S.D (au S o.j) x a∧N'=(au S o.j)) (fun bs Ad hb e kd=>?_) (fun y D' N' hq=>?_)).mono ?_
 ·have:=kd.ZL hb x a
  rw [←jc hj,e] at this
  exact this
 ·obtain ⟨_,rfl,rfl⟩:=hq
  have:=h.nx
  rw [Xa];exact this
 ·rintro y w' ⟨D',N',⟨rfl,rfl,rfl⟩,r⟩
  exact ⟨rfl,r⟩
theorem KX.ac6 (h:KX w m H S U q A) (hj:o.j<S.Ts.length) (x a:Int) :
 Calls Tryz.prog 179 #[wp H.f,wp (H.tb o.j),.int .i64 x,.int .i64 a] w fun y w'=>y=.returned (.tuple #[tx (bR S.D (au S o.j) x a).1,aI (bR S.D (au S o.j) x a).2.1])∧∃A',KX w' m H (S.files ((bR S.D (au S o.j) x a).2.2) o.j ((au S o.j))) U q A'∧Stp w w' A A':=by
 refine (h.desc hj (q':=q) (by omega) (Q:=fun y D' N'=>y=.returned (.tuple #[tx (bR S.D (au S o.j) x a).1,aI (bR S.D (au S o.j) x a).2.1])∧D'=(bR S.D (au S o.j) x a).2.2∧N'=(au S o.j)) (fun bs Ad hb e kd=>?_) (fun y D' N' hq=>?_)).mono ?_
 ·have:=kd.read hb x a
  rw [←jc hj,e] at this
  exact this
 ·obtain ⟨_,rfl,rfl⟩:=hq
  have:=h.nx
  rw [Xb];exact this
 ·rintro y w' ⟨D',N',⟨rfl,rfl,rfl⟩,r⟩
  exact ⟨rfl,r⟩
theorem KX.Z8 (h:KX w m H S U q A) (hj:o.j<S.Ts.length) (x:Int) (s:List UInt8) (hs:s.length<100000) (a:Int) :
 Calls Tryz.prog 187 #[wp H.f,wp (H.tb o.j),.int .i64 x,tx s,.int .i64 a] w fun y w'=>y=.returned (.tuple #[.int .i64 (bZ S.D (au S o.j) x s a).1,aI (bZ S.D (au S o.j) x s a).2.1])∧∃A',KX w' m H (S.files ((bZ S.D (au S o.j) x s a).2.2) o.j ((au S o.j))) U (q+1) A'∧Stp w w' A A':=by
 refine (h.desc hj (q':=(q+1)) (by omega) (Q:=fun y D' N'=>y=.returned (.tuple #[.int .i64 (bZ S.D (au S o.j) x s a).1,aI (bZ S.D (au S o.j) x s a).2.1])∧D'=(bZ S.D (au S o.j) x s a).2.2∧N'=(au S o.j)) (fun bs Ad hb e kd=>?_) (fun y D' N' hq=>?_)).mono ?_
 ·have:=kd.write hb x s hs a
  rw [←jc hj,e] at this
  refine this.mono ?_
  rintro y w' ⟨D',N',A',hQ,kd',st⟩
  exact ⟨D',N',A',hQ,kd'.more (by omega),st⟩
 ·obtain ⟨_,rfl,rfl⟩:=hq
  have:=h.nx
  rw [TN];omega
 ·rintro y w' ⟨D',N',⟨rfl,rfl,rfl⟩,r⟩
  exact ⟨rfl,r⟩
theorem KX.abA (h:KX w m H S U q A) (hj:o.j<S.Ts.length) (hq:q≤400) :
 Calls Tryz.prog 283 #[wp H.f,wp (H.tb o.j)] w fun y w'=>y=.returned (.tuple #[])∧∃A',KX w' m H (S.files ((ah true S.D (au S o.j) 8).1) o.j ((ah true S.D (au S o.j) 8).2)) U q A'∧Stp w w' A A':=by
 refine (h.desc hj (q':=q) (by omega) (Q:=fun y D' N'=>y=.returned (.tuple #[])∧D'=(ah true S.D (au S o.j) 8).1∧N'=(ah true S.D (au S o.j) 8).2) (fun bs Ad hb e kd=>?_) (fun y D' N' hq=>?_)).mono ?_
 ·have:=kd.clear (by omega) hb
  rw [←jc hj,e] at this
  exact this
 ·obtain ⟨_,rfl,rfl⟩:=hq
  have:=h.nx
  rw [yl];exact this
 ·rintro y w' ⟨D',N',⟨rfl,rfl,rfl⟩,r⟩
  exact ⟨rfl,r⟩
theorem KX.adz (h:KX w m H S U q A) (hj:o.j<S.Ts.length) (hq:q≤400) :
 Calls Tryz.prog 159 #[wp H.f,wp (H.tb o.j)] w fun y w'=>y=.returned (.tuple #[])∧∃A',KX w' m H (S.files ((ah false S.D (au S o.j) 8).1) o.j ((ah false S.D (au S o.j) 8).2)) U q A'∧Stp w w' A A':=by
 refine (h.desc hj (q':=q) (by omega) (Q:=fun y D' N'=>y=.returned (.tuple #[])∧D'=(ah false S.D (au S o.j) 8).1∧N'=(ah false S.D (au S o.j) 8).2) (fun bs Ad hb e kd=>?_) (fun y D' N' hq=>?_)).mono ?_
 ·have:=kd.exec (by omega) hb
  rw [←jc hj,e] at this
  exact this
 ·obtain ⟨_,rfl,rfl⟩:=hq
  have:=h.nx
  rw [yl];exact this
 ·rintro y w' ⟨D',N',⟨rfl,rfl,rfl⟩,r⟩
  exact ⟨rfl,r⟩
theorem KX.ada (h:KX w m H S U q A) (hj:o.j<S.Ts.length) (hq:q≤400) {n:Nat}(hN:p9 S.D.E n) :
 Calls Tryz.prog 177 #[wp H.f,wp (H.tb o.j)] w fun z w'=>∃D' N',(∃x y c,z=.returned (.tuple #[.int .i64 x,.int .i64 y,aI c])∧rX S.D (au S o.j) n x y c D' N')∧∃A',KX w' m H (S.files D' o.j N') U (q+1) A'∧Stp w w' A A':=by
 have hx:=h.nx
 refine h.desc hj (q':=q+1) (by omega) (Q:=fun z D' N'=>∃x y c,z=.returned (.tuple #[.int .i64 x,.int .i64 y,aI c])∧rX S.D (au S o.j) n x y c D' N') (fun bs Ad hb e kd=>?_) (fun y D' N' hq=>?_)
 ·have:=kd.pipe (by omega) hb hN
  rw [←jc hj,e] at this
  refine this.mono ?_
  rintro y w' ⟨D',N',A',hQ,kd',st⟩
  exact ⟨D',N',A',hQ,kd'.more (by omega),st⟩
 ·obtain ⟨x,y,c,_,hP⟩:=hq
  have:=Xc hP
  omega
theorem KX.bF (h:KX w m H S U q A) (hj:o.j<S.Ts.length) (hq:q≤400) {n s:Nat}(hN:p9 S.D.E n) (hs:dF S.D.T s) (path:List UInt8) (hp:path.length<100000) (pr:Int) (mk:Bool) :
 Calls Tryz.prog 175 #[wp H.f,wp (H.tb o.j),tx path,.int .i64 pr,.bool mk] w fun z w'=>∃D' N',(∃x c,z=.returned (.tuple #[.int .i64 x,aI c])∧iN S.D (au S o.j) n s path pr mk x c D' N')∧∃A',KX w' m H (S.files D' o.j N') U (q+1) A'∧Stp w w' A A':=by
 have hx:=h.nx
 refine h.desc hj (q':=q+1) (by omega) (Q:=fun z D' N'=>∃x c,z=.returned (.tuple #[.int .i64 x,aI c])∧iN S.D (au S o.j) n s path pr mk x c D' N') (fun bs Ad hb e kd=>?_) (fun y D' N' hq=>?_)
 ·have:=kd.file (by omega) (by omega) hb hN hs path hp pr mk
  rw [←jc hj,e] at this
  refine this.mono ?_
  rintro y w' ⟨D',N',A',hQ,kd',st⟩
  exact ⟨D',N',A',hQ,kd'.more (by omega),st⟩
 ·obtain ⟨x,c,_,hP⟩:=hq
  have:=Xe hP
  omega
theorem KX.Ls (h:KX w m H S U q A) {fn:FuncId}{args:Array Value}{Q:Ending→Wd→Prop}
 (hc:∀bs Ad,KD w m H.f H.r S.D bs S.Ts (2*q) Ad→Calls Tryz.prog fn args w fun y w'=>∃T' A',Q y T'∧KD w' m H.f H.r { S.D with T:=T' } bs S.Ts (2*q+1) A'∧Stp w w' Ad A') :
 Calls Tryz.prog fn args w fun y w'=>∃T',Q y T'∧∃A',KX w' m H (S.tree T') U (q+1) A'∧Stp w w' A A':=by
 have hx:=h.nx
 obtain ⟨G,k,e⟩:=h
 refine (hc G.bs G.Ad k.kd).mono ?_
 rintro y w' ⟨T',A',hQ,kd',st⟩
 obtain ⟨G',k',st'⟩:=k.desc (q':=q+1) (kd'.more (by omega)) st rfl (by show S.D.nx≤_;omega) (by omega)
 exact ⟨T',hQ,_,.of k',qY e st'⟩
theorem KX.proc (h:KX w m H S U q A) {fn:FuncId}{args:Array Value}{Q:Ending→Ps→Prop}
 (hc:∀c,QJ w H.t H.g S.P c→Calls Tryz.prog fn args w fun y w'=>∃P',Q y P'∧Fw w H.t H.g P' w') :
 Calls Tryz.prog fn args w fun y w'=>∃P',Q y P'∧∃A',KX w' m H (S.procs P') U q A'∧Stp w w' A A':=by
 obtain ⟨G,k,e⟩:=h
 obtain ⟨c,qj⟩:=k.qj
 refine (hc c qj).mono ?_
 rintro y w' ⟨P',hQ,t⟩
 obtain ⟨G',k',st'⟩:=k.proc t
 exact ⟨P',hQ,_,.of k',qY e st'⟩
theorem KX.ac3 (h:KX w m H S U q A) (hk:H.ok=true) (n:Int) (hn:(Lit.int .i64 n).wf=true):Calls Tryz.prog 128 #[wp H.t,.int .i64 n] w fun y w'=>y=.returned (.int .i64 (aO S.P n))∧∃A',KX w' m H (S.procs (dS S.P n)) U q A'∧Stp w w' A A':=by
 refine (h.proc (Q:=fun y P'=>y=.returned (.int .i64 (aO S.P n))∧P'=dS S.P n) (fun c qj=>(qj.take (h.tab.2 hk) n hn).mono ?_)).mono ?_
 ·rintro y w' ⟨rfl,t⟩;exact ⟨_,⟨rfl,rfl⟩,t⟩
 ·rintro y w' ⟨P',⟨rfl,rfl⟩,r⟩;exact ⟨rfl,r⟩
theorem KX.Zm (h:KX w m H S U q A) (n code:Int) (hn:(Lit.int .i64 n).wf=true):Calls Tryz.prog 200 #[wp H.t,.int .i64 n,.int .i64 code] w fun y w'=>y=.returned (aI (kV S.P n))∧∃A',KX w' m H (S.procs (if kV S.P n=0 then dI S.P n code else S.P)) U q A'∧Stp w w' A A':=by
 refine (h.proc (Q:=fun y P'=>y=.returned (aI (kV S.P n))∧P'=if kV S.P n=0 then dI S.P n code else S.P) (fun c qj=>(qj.exit n code hn).mono ?_)).mono ?_
 ·rintro y w' ⟨rfl,t⟩;exact ⟨_,⟨rfl,rfl⟩,t⟩
 ·rintro y w' ⟨P',⟨rfl,rfl⟩,r⟩;exact ⟨rfl,r⟩
theorem KX.ac0 (h:KX w m H S U q A) (n:Int) (hn:(Lit.int .i64 n).wf=true):Calls Tryz.prog 186 #[wp H.t,.int .i64 n] w fun y w'=>y=.returned (.tuple #[.int .i64 (bC S.P n).1,.int .i64 (bC S.P n).2.1,aI (bC S.P n).2.2.1])∧∃A',KX w' m H (S.procs (bC S.P n).2.2.2) U q A'∧Stp w w' A A':=by
 refine (h.proc (Q:=fun y P'=>y=.returned (.tuple #[.int .i64 (bC S.P n).1,.int .i64 (bC S.P n).2.1,aI (bC S.P n).2.2.1])∧P'=(bC S.P n).2.2.2) (fun c qj=>(qj.wait n hn).mono ?_)).mono ?_
 ·rintro y w' ⟨rfl,t⟩;exact ⟨_,⟨rfl,rfl⟩,t⟩
 ·rintro y w' ⟨P',⟨rfl,rfl⟩,r⟩;exact ⟨rfl,r⟩
theorem KX.Za (h:KX w m H S U q A) (n sig:Int) (hn:(Lit.int .i64 n).wf=true):Calls Tryz.prog 163 #[wp H.t,.int .i64 n,.int .i64 sig] w fun y w'=>y=.returned (aI (eX S.P n sig))∧∃A',KX w' m H (S.procs (if eX S.P n sig=0 then kC S.P n sig else S.P)) U q A'∧Stp w w' A A':=by
 refine (h.proc (Q:=fun y P'=>y=.returned (aI (eX S.P n sig))∧P'=if eX S.P n sig=0 then kC S.P n sig else S.P) (fun c qj=>(qj.kill n sig hn).mono ?_)).mono ?_
 ·rintro y w' ⟨rfl,t⟩;exact ⟨_,⟨rfl,rfl⟩,t⟩
 ·rintro y w' ⟨P',⟨rfl,rfl⟩,r⟩;exact ⟨rfl,r⟩
theorem KX.XK (h:KX w m H S U q A) (n sig:Int) (on:Bool) (hn:(Lit.int .i64 n).wf=true):Calls Tryz.prog 162 #[wp H.t,.int .i64 n,.int .i64 sig,.bool on] w fun y w'=>y=.returned (aI (bN S.P n sig))∧∃A',KX w' m H (S.procs (if bN S.P n sig=0 then fH S.P n sig on else S.P)) U q A'∧Stp w w' A A':=by
 refine (h.proc (Q:=fun y P'=>y=.returned (aI (bN S.P n sig))∧P'=if bN S.P n sig=0 then fH S.P n sig on else S.P) (fun c qj=>(qj.ignore n sig on hn).mono ?_)).mono ?_
 ·rintro y w' ⟨rfl,t⟩;exact ⟨_,⟨rfl,rfl⟩,t⟩
 ·rintro y w' ⟨P',⟨rfl,rfl⟩,r⟩;exact ⟨rfl,r⟩
end
section
variable {w w':World}{m:Int}{H:KH}{S:KS}{U U':Nat→Nat→Int}{q:Nat}{A:Nat→Prop}{p:Int}{o:Ow}
theorem Aw {P:PM}{a af:Int}(h0:0≤a):∀(n:Nat),a+n≤64→(∀i:Nat,i<n→P (a+i)=none)→bX (fB P a n af)=bX P+n
 |0,_,_=>by rw [Aq,Nat.add_zero]
 |n+1,h1,hn=>by
  rw [Ar,vG (by omega) (by omega) (by rw [Gz];exact hn n (by omega)),Aw h0 n (by omega) (fun i hi=>hn i (by omega))]
  omega
theorem CO {P:PM}{a:Int}(h0:0≤a):∀(n:Nat),a+n≤64→(∀i:Nat,i<n→(P (a+i)).isSome=true)→bX (jI P a n)+n=bX P
 |0,_,_=>by rw [wu,Nat.add_zero]
 |n+1,h1,hn=>by
  have:=CO h0 n (by omega) (fun i hi=>hn i (by omega))
  have h2:=zH (P:=jI P a n) (a:=a+n) (by omega) (by omega) (by rw [LQ];exact hn n (by omega))
  rw [wy]
  omega
theorem aad {P:PM}{a af:Int}{n:Nat}(hn:∀i:Nat,i<n→P (a+i)=none):jI (fB P a n af) a n=P:=by
 funext x
 unfold jI fB
 by_cases e:a≤x∧x<a+n
 ·rw [if_pos e]
  have:=hn (x-a).toNat (by omega)
  rw [show a+((x-a).toNat:Int)=x by omega] at this
  exact this.symm
 ·rw [if_neg e,if_neg e]
theorem wK {P:PM}{a n af:Int}(h:iW P a n af=0):1≤n∧0≤a∧a+n≤64∧Vv af=true∧iP P a n.toNat=0:=by
 unfold iW at h
 split at h
 ·omega
 ·rename_i h1
  split at h
  ·omega
  ·rename_i h2
   split at h
   ·rename_i h3
    obtain ⟨a1,a2,a3⟩:=lK.1 (by simpa using h1)
    exact ⟨a1,a2,a3,by simpa using h2,h3⟩
   ·omega
theorem Ub {P:PM}{a n af:Int}(h:iW P a n af=0):((bX (jJ P a n af):Nat):Int)=bX P+n:=by
 obtain ⟨h1,h2,h3,h4,h5⟩:=wK h
 unfold jJ
 rw [if_pos h,Aw h2 n.toNat (by omega) (fun i hi=>rJ h5 i hi)]
 omega
theorem NQ {P:PM}{a n af:Int}(h:iW P a n af=0):Bc (jJ P a n af) a n=P:=by
 obtain ⟨h1,h2,h3,h4,h5⟩:=wK h
 have hm:jJ P a n af=fB P a n.toNat af:=if_pos h
 have hE:ui (fB P a n.toNat af) a n=0:=by
  unfold ui
  rw [lK.2 ⟨h1,h2,h3⟩,if_neg (by simp),if_neg]
  intro hlt
  have hx:iP (fB P a n.toNat af) a n.toNat=n.toNat:=by
   unfold iP
   have:∀k:Nat,k≤n.toNat→sumTo (fun i=>if (fB P a n.toNat af (a+i)).isSome then 1 else 0) 0 k=k:=fun k=>by
    induction k with
    |zero=>intro _;rfl
    |succ k ih=>
     intro hk
     rw [pE,ih (by omega),Nat.zero_add]
     have:(fB P a n.toNat af (a+k)).isSome=true:=by unfold fB;rw [if_pos (by omega)];rfl
     rw [if_pos this]
   exact this _ (Nat.le_refl _)
  omega
 unfold Bc
 rw [hm,if_pos hE]
 exact aad (fun i hi=>rJ h5 i hi)
theorem Xv {P:PM}{a n af:Int}(h:iW P a n af≠0):jJ P a n af=P:=if_neg h
def kv (S:KS) (o:Ow) (a n af:Int):Int:=if iW (aC S o.j) a n af≠0 then iW (aC S o.j) a n af else if ((bX (aC S o.j):Nat):Int)+n≤o.m 0 then 0 else 4
def ku (S:KS) (o:Ow) (a n af:Int):KS:=if kv S o a n af=0 then S.space o.j (jJ (aC S o.j) a n af) S.W else S
theorem VR {S:KS}{o:Ow}{a n af:Int}(h:iW (aC S o.j) a n af=0):why (kZ S o.j) o.m 0 n=kv S o a n af:=by
 obtain ⟨h1,h2,h3,h4,h5⟩:=wK h
 unfold kv why
 rw [if_neg (not_not_intro h)]
 have e:kZ S o.j (0:Int).toNat=((bX (aC S o.j):Nat):Int):=rfl
 have e2:o.m (0:Int).toNat=o.m 0:=rfl
 rw [e,e2]
 have hl:=ry (aC S o.j)
 by_cases hc:((bX (aC S o.j):Nat):Int)+n≤o.m 0
 ·rw [if_pos hc,if_neg (by omega),if_neg (by omega),if_neg (by omega),if_neg (by omega)]
 ·rw [if_neg hc,if_neg (by omega),if_neg (by omega),if_pos (by omega)]
theorem KX.afs (h:KX w m H S U q A) (ho:S.O p=some o) (a n af:Int) (hn:n≤9223372036854775807) {x0 x1 x2 x3:Nat}(hb:rP w A [(x0,wp (H.hs o.j)),(x1,.int .i64 a),(x2,.int .i64 n),(x3,.int .i64 af)]) :
 Calls Tryz.prog 168 #[wp x0,wp x1,wp x2,wp x3] w fun y w'=>y=.returned (aI (iW (aC S o.j) a n af))∧∃A',KX w' m H (S.space o.j (jJ (aC S o.j) a n af) S.W) U q A'∧Stp w w' A A':=by
 have cells:∀ {w':World}{A':Nat→Prop}{S':KS},KX w' m H S' U q A'→S'.O p=some o→rP w' A' [(x0,wp (H.hs o.j)),(x1,.int .i64 a),(x2,.int .i64 n),(x3,.int .i64 af)]→w'.cell? ⟨x0,0,none⟩=some (wp (H.hs o.j))∧w'.cell? ⟨x1,0,none⟩=some (.int .i64 a)∧w'.cell? ⟨x2,0,none⟩=some (.int .i64 n)∧w'.cell? ⟨x3,0,none⟩=some (.int .i64 af)∧w'.cell? ⟨H.hs o.j,0,none⟩=some (wp (H.sp o.j)):=fun h' ho' b'=>
  ⟨(b' (x0,_) (by simp)).1,(b' (x1,_) (by simp)).1,(b' (x2,_) (by simp)).1,(b' (x3,_) (by simp)).1,(h'.hd ho').at 0⟩
 have c0:=cells h ho hb
 have hM:Calls Tryz.prog 169 #[wp (H.sp o.j),.int .i64 a,.int .i64 n,.int .i64 af] w.drew fun y w'=>y=.returned (aI (iW (aC S o.j) a n af))∧(w'.cell? ⟨x0,0,none⟩=some (wp (H.hs o.j))∧w'.cell? ⟨x1,0,none⟩=some (.int .i64 a)∧w'.cell? ⟨x2,0,none⟩=some (.int .i64 n)∧w'.cell? ⟨x3,0,none⟩=some (.int .i64 af)∧w'.cell? ⟨H.hs o.j,0,none⟩=some (wp (H.sp o.j)))∧∃A',KX w' m H (S.space o.j (jJ (aC S o.j) a n af) S.W) U q A'∧Stp w w' A A':=by
  refine ((h.below (bH w)).map (h.rR ho) a n af hn).mono ?_
  rintro y w' ⟨rfl,A',h',st⟩
  have st':Stp w w' A A':=Stp.base (V:=w.drew) rfl rfl rfl rfl st
  exact ⟨rfl,cells h' ho (hb.p8 st'),A',h',st'⟩
 generalize iW (aC S o.j) a n af=E at *
 generalize S.space o.j (jJ (aC S o.j) a n af) S.W=S2 at *
 go_enter Tryz.func168,Tryz.ntmps168
 go_upto_region 1 with fail
 go_region_held3 (fun w'=>w'.cell? ⟨x0,0,none⟩=some (wp (H.hs o.j))∧w'.cell? ⟨x1,0,none⟩=some (.int .i64 a)∧w'.cell? ⟨x2,0,none⟩=some (.int .i64 n)∧w'.cell? ⟨x3,0,none⟩=some (.int .i64 af)∧w'.cell? ⟨H.hs o.j,0,none⟩=some (wp (H.sp o.j))) (first|exact c0|exact c1) (first
  |(go_at_call 169;refine hM.mono ?_;rintro e w1 ⟨rfl,c1,hw⟩))
 all_goals
  go_wp2_with fail
  go_ret
  exact ⟨rfl,hw⟩
theorem KX.afr (h:KX w m H S U q A) (ho:S.O p=some o) (a n:Int) (hn:n≤9223372036854775807) {x0 x1 x2:Nat}(hb:rP w A [(x0,wp (H.hs o.j)),(x1,.int .i64 a),(x2,.int .i64 n)]) :
 Calls Tryz.prog 170 #[wp x0,wp x1,wp x2] w fun y w'=>y=.returned (aI (ui (aC S o.j) a n))∧∃A',KX w' m H (S.space o.j (Bc (aC S o.j) a n) S.W) U q A'∧Stp w w' A A':=by
 have cells:∀ {w':World}{A':Nat→Prop}{S':KS},KX w' m H S' U q A'→S'.O p=some o→rP w' A' [(x0,wp (H.hs o.j)),(x1,.int .i64 a),(x2,.int .i64 n)]→w'.cell? ⟨x0,0,none⟩=some (wp (H.hs o.j))∧w'.cell? ⟨x1,0,none⟩=some (.int .i64 a)∧w'.cell? ⟨x2,0,none⟩=some (.int .i64 n)∧w'.cell? ⟨H.hs o.j,0,none⟩=some (wp (H.sp o.j)):=fun h' ho' b'=>
  ⟨(b' (x0,_) (by simp)).1,(b' (x1,_) (by simp)).1,(b' (x2,_) (by simp)).1,(h'.hd ho').at 0⟩
 have c0:=cells h ho hb
 have hM:Calls Tryz.prog 171 #[wp (H.sp o.j),.int .i64 a,.int .i64 n] w.drew fun y w'=>y=.returned (aI (ui (aC S o.j) a n))∧(w'.cell? ⟨x0,0,none⟩=some (wp (H.hs o.j))∧w'.cell? ⟨x1,0,none⟩=some (.int .i64 a)∧w'.cell? ⟨x2,0,none⟩=some (.int .i64 n)∧w'.cell? ⟨H.hs o.j,0,none⟩=some (wp (H.sp o.j)))∧∃A',KX w' m H (S.space o.j (Bc (aC S o.j) a n) S.W) U q A'∧Stp w w' A A':=by
  refine ((h.below (bH w)).YQ (h.rR ho) a n hn).mono ?_
  rintro y w' ⟨rfl,A',h',st⟩
  have st':Stp w w' A A':=Stp.base (V:=w.drew) rfl rfl rfl rfl st
  exact ⟨rfl,cells h' ho (hb.p8 st'),A',h',st'⟩
 generalize ui (aC S o.j) a n=E at *
 generalize S.space o.j (Bc (aC S o.j) a n) S.W=S2 at *
 go_enter Tryz.func170,Tryz.ntmps170
 go_upto_region 1 with fail
 go_region_held3 (fun w'=>w'.cell? ⟨x0,0,none⟩=some (wp (H.hs o.j))∧w'.cell? ⟨x1,0,none⟩=some (.int .i64 a)∧w'.cell? ⟨x2,0,none⟩=some (.int .i64 n)∧w'.cell? ⟨H.hs o.j,0,none⟩=some (wp (H.sp o.j))) (first|exact c0|exact c1) (first
  |(go_at_call 171;refine hM.mono ?_;rintro e w1 ⟨rfl,c1,hw⟩))
 all_goals
  go_wp2_with fail
  go_ret
  exact ⟨rfl,hw⟩
theorem KN.Xt (h:KN w m H S q A) (ho:S.O p=some o) (a n af:Int) (hn:n≤9223372036854775807) :
 Calls Tryz.prog 106 #[wp H.kb,.int .i64 p,.int .i64 a,.int .i64 n,.int .i64 af] w fun y w'=>y=.returned (aI (kv S o a n af))∧∃A',KN w' m H (ku S o a n af) q A'∧Stp w w' A A':=by
 have hpay:∀(W:World) (x0 x1 x2 x3:Nat),Below w.heap.size w W→rP W A [(x0,wp (H.hs o.j)),(x1,.int .i64 a),(x2,.int .i64 n),(x3,.int .i64 af)]→
  Calls Tryz.prog 154 #[wp (H.hs o.j),.int .i64 0,.int .i64 n,.func (.func 168) #[] #[wp x0,wp x1,wp x2,wp x3],.func (.func 170) #[] #[wp x0,wp x1,wp x2]] W fun y w'=>∃c,y=.returned (aI c)∧c=kv S o a n af∧∃A',KN w' m H (ku S o a n af) q A'∧Stp w w' A A':=fun W x0 x1 x2 x3 bW bx=>by
  have hW:=h.1.below bW
  have wY:=h.1.mlt ho
  refine Aj (H.hs o.j) 0 n (fun args w=>by kernel_rfl) (fun args w=>by kernel_rfl) (R:=fun c w'=>c=kv S o a n af∧∃A',KN w' m H (ku S o a n af) q A'∧Stp w w' A A') ((hW.afs ho a n af hn bx).mono ?_)
  rintro y w1 ⟨rfl,A1,h1,st1⟩
  refine ⟨_,rfl,fun hc=>?_,fun hc=>?_⟩
  ·have e1:kv S o a n af=iW (aC S o.j) a n af:=if_pos hc
   have e2:ku S o a n af=S:=by unfold ku;rw [e1,if_neg hc]
   rw [Xv hc,jS wY] at h1
   rw [e1,e2]
   exact ⟨rfl,A1,⟨h1,h.2⟩,st1.after bW⟩
  ·have hd1:=h1.hd (p:=p) (o:=o) ho
   refine ⟨why (kZ S o.j) o.m 0 n,(hd1.DV (h.1.Ji o.j) (h.2.fit p o ho).1 0 n h1.er (h1.hne (p:=p) (o:=o) ho)).mono ?_⟩
   rintro y w2 ⟨rfl,hd2,g2⟩
   obtain ⟨A2,h2,st2⟩:=h1.led (p:=p) (o:=o) ho hd2 g2
   have QR:Stp w w2 A A2:=(st1.after bW).trans st2
   have ew:=VR hc
   refine ⟨rfl,fun hz=>?_,fun hz=>?_⟩
   ·have e2:ku S o a n af=S.space o.j (jJ (aC S o.j) a n af) S.W:=by unfold ku;rw [←ew,if_pos hz]
    rw [←ew,e2]
    refine ⟨hz.symm,A2,h2.toN (h.2.space ho h.1.len _ _) (fun p' o' ho' k hk=>?_),QR⟩
    by_cases ej:o'.j=o.j
    ·simp only [if_pos ej]
     unfold QC
     rw [if_pos hz,ej]
     unfold after put kZ
     rw [gB wY,if_pos rfl,qC]
     have afF:=Ub hc
     match k,hk with
     |0,_=>simp only [Int.toNat_zero,if_true];exact afF.symm
     |1,_=>rfl
     |2,_=>rfl
    ·simp only [if_neg ej]
     unfold kZ
     rw [gB wY,if_neg ej,qC]
   ·have e2:ku S o a n af=S:=by unfold ku;rw [←ew,if_neg hz]
    have hU2:KX w2 m H (S.space o.j (jJ (aC S o.j) a n af) S.W) (kZ S) q A2:=h2.JC (fun p' o' ho' k hk=>by
     by_cases ej:o'.j=o.j
     ·simp only [if_pos ej]
      unfold QC
      rw [if_neg hz,ej]
     ·simp only [if_neg ej])
    have bx2:rP w2 A2 [(x0,wp (H.hs o.j)),(x1,.int .i64 a),(x2,.int .i64 n)]:=fun y hy=>((bx.p8 st1).p8 st2) y (by simp at hy ⊢;rcases hy with z|z|z<;>simp [z])
    refine (hU2.afr (p:=p) (o:=o) ho a n hn bx2).mono ?_
    rintro y w3 ⟨rfl,A3,h3,wW⟩
    rw [Hy,gB wY,if_pos rfl,NQ hc] at h3
    have:(S.space o.j (jJ (aC S o.j) a n af) S.W).W=S.W:=rfl
    rw [this,jS wY] at h3
    rw [←ew,e2]
    exact ⟨_,rfl,rfl,A3,⟨h3,h.2⟩,QR.trans wW⟩
 have hF:=fun W (hb:Below w.heap.size w W)=>(h.1.below hb).ay ho
 have hA:=h.1.lt
 generalize kv S o a n af=E at *
 generalize ku S o a n af=S2 at *
 have HP:Aside _:=hpay
 have HF:Aside _:=hF
 go_enter Tryz.func106,Tryz.ntmps106
 go_upto_region 1 with fail
 obtain ⟨b3,s3,c1,c2,c3⟩:=Q4 w (.int .i64 a) (.int .i64 n) (.int .i64 af) 3 3 3
 generalize ((w.alloc (.cells #[.int .i64 a] 3)).alloc (.cells #[.int .i64 n] 3)).alloc (.cells #[.int .i64 af] 3)=W at *
 have hF:=HF.out W b3
 go_upto_region 4 with (go_at_call 127;refine hF.mono ?_;rintro e w1 ⟨rfl,hw⟩;subst w1)
 obtain ⟨b4,s4,c4,_⟩:=sG W (wp (H.hs o.j)) 59
 rw [s3] at c4
 have d1:=dm b4 c1
 have d2:=(dm b4 c2)
 have d3:=(dm b4 c3)
 generalize W.alloc (.cells #[wp (H.hs o.j)] 59)=V at *
 have bV:Below w.heap.size w V:=b3.trans (b4.mono b3.size)
 have hP:=HP.out V (w.heap.size+1+1+1) w.heap.size (w.heap.size+1) (w.heap.size+1+1) bV (fun y hy=>by
  have hn:∀i,w.heap.size≤i→¬A i:=fun i hi z=>by have:=hA i z;omega
  simp only [List.mem_cons,List.not_mem_nil,or_false] at hy
  rcases hy with rfl|rfl|rfl|rfl
  ·exact ⟨c4,hn _ (by omega)⟩
  ·exact ⟨d1,hn _ (Nat.le_refl _)⟩
  ·exact ⟨d2,hn _ (by omega)⟩
  ·exact ⟨d3,hn _ (by omega)⟩)
 go_wp2_with (go_at_call 154;refine hP.mono ?_;rintro e w1 ⟨c,rfl,hc,hR⟩)
 go_ret
 exact ⟨by rw [←hc];rfl,hR⟩
end
section
variable {w w':World}{m:Int}{H:KH}{S:KS}{U:Nat→Nat→Int}{q:Nat}{A:Nat→Prop}{p:Int}{o:Ow}
theorem KX.RH {A':Nat→Prop}{P':PM}{D':Nat→Nat→Int}(h:KX w m H (S.space o.j P' D') (kZ S) q A') (ok:uh S) (ho:S.O p=some o) (hl:S.Ms.length=S.Ts.length) (hj:o.j<S.Ts.length) (hp:bX P'=bX (aC S o.j)):KN w m H (S.space o.j P' D') q A':=
 h.toN (ok.space ho hl _ _) (fun p' o' ho' k hk=>by
  unfold kZ
  rw [gB (by omega),qC]
  by_cases e:o'.j=o.j
  ·rw [if_pos e,hp,e]
  ·rw [if_neg e])
theorem KX.ze {A':Nat→Prop}{D':DS}{N':Ns}(h:KX w m H (S.files D' o.j N') (kZ S) q A') (ok:uh S) (ho:S.O p=some o) (hj:o.j<S.Ts.length) (hp:ak N'=ak (au S o.j)):KN w m H (S.files D' o.j N') q A':=
 h.toN (ok.files ho _ _) (fun p' o' ho' k hk=>by
  unfold kZ
  rw [gY hj,oD]
  by_cases e:o'.j=o.j
  ·rw [if_pos e,hp,e]
  ·rw [if_neg e])
theorem KX.yV {A':Nat→Prop}{P':Ps}(h:KX w m H (S.procs P') (kZ S) q A') (ok:uh S) (hr:∀x,aD P' x=aD S.P x):KN w m H (S.procs P') q A':=⟨h,ok.procs hr⟩
theorem KX.Lt {A':Nat→Prop}{T':Wd}(h:KX w m H (S.tree T') (kZ S) q A') (ok:uh S):KN w m H (S.tree T') q A':=⟨h,ok.tree T'⟩
theorem KX.Um (h:KX w m H S U q A) (ho:S.O p=some o) {V:World}(g:w.grownBy V (some (H.hs o.j))) :
 Calls Tryz.prog 143 #[wp (H.sp o.j)] V fun y w'=>y=.returned (.int .i64 (bX (aC S o.j):Nat))∧w'=V:=by
 have hj:=h.rR ho
 obtain ⟨G,k,e⟩:=h
 have wt:Wt (fun i=>G.κ i=5) w V:=⟨g.os,g.tape,g.output,g.size,fun i hi hn=>g.block i hi (fun e=>hn (by cases e;exact k.k5 p o ho))⟩
 have kp:=k.kept (X:=5) ⟨by omega,by omega⟩ wt
 have al:=kp.al (by omega)
 have hl:o.j<G.L.length:=by rw [k.Ll];exact hj
 have hP:G.L[o.j].2.2=aC S o.j:=by
  rw [pQ (by rw [k.len];exact hj)]
  have:S.Ms=G.L.map (fun x=>x.2.2):=k.ms.symm
  simp only [this,List.getElem_map]
 have:=(al.sp o.j hl).sp.len
 rw [k.sp o.j hl,hP] at this
 exact this
theorem KX.NM (h:KX w m H S U q A) (ho:S.O p=some o) {V:World}(g:w.grownBy V (some (H.hs o.j))) :
 Calls Tryz.prog 145 #[wp (H.tb o.j)] V fun y w'=>y=.returned (.int .i64 (ak (au S o.j):Int))∧Below V.heap.size V w':=by
 have hj:=h.rR ho
 obtain ⟨G,k,e⟩:=h
 have wt:Wt (fun i=>G.κ i=5) w V:=⟨g.os,g.tape,g.output,g.size,fun i hi hn=>g.block i hi (fun e=>hn (by cases e;exact k.k5 p o ho))⟩
 have kp:=k.kept (X:=5) ⟨by omega,by omega⟩ wt
 have kd:=kp.kd (by omega)
 have hb:o.j<G.bs.length:=by rw [k.Lb];exact hj
 have:=kd.used hb
 rw [k.tb _ hb,←jc hj] at this
 exact this
theorem KX.settle (h:KX w m H S U q A) (ok:uh S) (ho:S.O p=some o) (hU:Fit (U o.j)) (h0:((bX (aC S o.j):Nat):Int)≤U o.j 0) (h1:((ak (au S o.j):Nat):Int)≤U o.j 1) (h2:U o.j 2=0) (hr:∀p' o',S.O p'=some o'→o'.j≠o.j→∀k,k<3→U o'.j k=kZ S o'.j k) :
 Calls Tryz.prog 149 #[wp (H.hs o.j)] w fun y w'=>y=.returned (.tuple #[])∧∃A',KN w' m H S q A'∧Stp w w' A A':=by
 refine ((h.hd ho).settle hU (ok.fit p o ho).1 h.er (h.hne ho) ⟨by omega,h0⟩ ⟨by omega,h1⟩ (fun V g=>h.Um ho g) (fun V g=>h.NM ho g)).mono ?_
 rintro y w' ⟨rfl,hd,g⟩
 obtain ⟨A',h',st⟩:=h.led ho hd g
 refine ⟨rfl,A',h'.toN ok (fun p' o' ho' k hk=>?_),st⟩
 by_cases e:o'.j=o.j
 ·simp only [if_pos e]
  unfold QS kZ
  rw [e]
  match k,hk with
  |0,_=>rfl
  |1,_=>rfl
  |2,_=>simpa using h2
 ·simp only [if_neg e]
  exact hr p' o' ho' e k hk
theorem Kn (P:PM) (a af:Int) (n:Nat):bX (iM P a n af)=bX P:=sumTo_congr _ _ (fun i _ _=>by
 unfold iM
 split
 ·cases P (i:Int)<;>rfl
 ·rfl)
theorem Pj (P:PM) (a n af:Int):bX (nR P a n af)=bX P:=by
 unfold nR
 split
 ·exact Kn _ _ _ _
 ·rfl
theorem SF {P:PM}{a n:Int}(h:ui P a n=0):1≤n∧0≤a∧a+n≤64∧¬iP P a n.toNat<n.toNat:=by
 unfold ui at h
 split at h
 ·omega
 ·rename_i h1
  split at h
  ·omega
  ·rename_i h2
   obtain ⟨a1,a2,a3⟩:=lK.1 (by simpa using h1)
   exact ⟨a1,a2,a3,h2⟩
theorem Ul (P:PM) (a n:Int):bX (Bc P a n)≤bX P:=by
 unfold Bc
 split
 ·rename_i h
  obtain ⟨h1,h2,h3,h4⟩:=SF h
  have:=CO h2 n.toNat (by omega) (fun i hi=>u7 h4 i hi)
  omega
 ·exact Nat.le_refl _
def Dr (S:KS) (o:Ow) (a n:Int):KS:=S.space o.j (Bc (aC S o.j) a n) S.W
theorem KN.NP (h:KN w m H S q A) (ho:S.O p=some o) (a n:Int) (hn:n≤9223372036854775807) :
 Calls Tryz.prog 118 #[wp H.kb,.int .i64 p,.int .i64 a,.int .i64 n] w fun y w'=>y=.returned (aI (ui (aC S o.j) a n))∧∃A',KN w' m H (Dr S o a n) q A'∧Stp w w' A A':=by
 have hF:=h.1.ay ho
 have hj:=h.1.rR ho
 have wY:=h.1.mlt ho
 have d0:w.cell? ⟨H.hs o.j,0,none⟩=some (wp (H.sp o.j)):=(h.1.hd ho).at 0
 have hU:Calls Tryz.prog 171 #[wp (H.sp o.j),.int .i64 a,.int .i64 n] w fun y w'=>y=.returned (aI (ui (aC S o.j) a n))∧(ui (aC S o.j) a n≠0→∃A',KN w' m H (Dr S o a n) q A'∧Stp w w' A A')∧(ui (aC S o.j) a n=0→Calls Tryz.prog 149 #[wp (H.hs o.j)] w' fun y w2=>y=.returned (.tuple #[])∧∃A',KN w2 m H (Dr S o a n) q A'∧Stp w w2 A A'):=by
  refine (h.1.YQ hj a n hn).mono ?_
  rintro y w1 ⟨rfl,A1,h1,st1⟩
  refine ⟨rfl,fun hc=>?_,fun hc=>?_⟩
  ·have e:Bc (aC S o.j) a n=aC S o.j:=if_neg hc
   unfold Dr
   rw [e,jS wY] at h1 ⊢
   exact ⟨A1,⟨h1,h.2⟩,st1⟩
  ·refine (h1.settle (h.2.space ho h.1.len _ _) (p:=p) (o:=o) ho (h.1.Ji o.j) ?_ ?_ rfl (fun p' o' ho' hne k hk=>?_)).mono ?_
   ·rw [gB wY,if_pos rfl]
    have:=Ul (aC S o.j) a n
    show _≤((bX (aC S o.j):Nat):Int)
    omega
   ·exact Int.le_refl _
   ·unfold kZ
    rw [gB wY,if_neg hne,qC]
   ·rintro y w2 ⟨rfl,A2,h2,st2⟩
    exact ⟨rfl,A2,h2,st1.trans st2⟩
 generalize Dr S o a n=S2 at *
 generalize ui (aC S o.j) a n=E at *
 go_enter Tryz.func118,Tryz.ntmps118
 go_upto_region 5 with (first
  |(go_at_call 127;refine hF.mono ?_;rintro e w1 ⟨rfl,hw⟩;subst w1)
  |(go_at_call 171;refine hU.mono ?_;rintro e w1 ⟨rfl,hx1,hx0⟩))
 have X1:Aside _:=hx1
 have X0:Aside _:=hx0
 by_cases hE:E=0
 ·have hs:=X0.out hE
  subst hE
  rw [aB]
  go_wp2_with (go_at_call 149;refine hs.mono ?_;rintro e w2 ⟨rfl,hR⟩)
  go_ret
  exact ⟨rfl,hR⟩
 ·have hR:=X1.out hE
  have HE:Aside (E≠0):=hE
  rw [ax hE]
  go_wp2_with fail
  go_ret
  exact ⟨by rw [ax HE.out];rfl,hR⟩
theorem KN.Ie (h:KN w m H S q A) (ho:S.O p=some o) (a n af:Int) (hn:n≤9223372036854775807) :
 Calls Tryz.prog 111 #[wp H.kb,.int .i64 p,.int .i64 a,.int .i64 n,.int .i64 af] w fun y w'=>y=.returned (aI (mQ (aC S o.j) a n af))∧∃A',KN w' m H (S.space o.j (nR (aC S o.j) a n af) S.W) q A'∧Stp w w' A A':=by
 have hF:=h.1.ay ho
 have hj:=h.1.rR ho
 have d0:w.cell? ⟨H.hs o.j,0,none⟩=some (wp (H.sp o.j)):=(h.1.hd ho).at 0
 have hU:Calls Tryz.prog 178 #[wp (H.sp o.j),.int .i64 a,.int .i64 n,.int .i64 af] w fun y w'=>y=.returned (aI (mQ (aC S o.j) a n af))∧∃A',KN w' m H (S.space o.j (nR (aC S o.j) a n af) S.W) q A'∧Stp w w' A A':=by
  refine (h.1.WI hj a n af hn).mono ?_
  rintro y w1 ⟨rfl,A1,h1,st1⟩
  exact ⟨rfl,A1,h1.RH h.2 ho h.1.len hj (Pj _ _ _ _),st1⟩
 generalize S.space o.j (nR (aC S o.j) a n af) S.W=S2 at *
 generalize mQ (aC S o.j) a n af=E at *
 go_enter Tryz.func111,Tryz.ntmps111
 go_wp2_with (first
  |(go_at_call 127;refine hF.mono ?_;rintro e w1 ⟨rfl,hw⟩;subst w1)
  |(go_at_call 178;refine hU.mono ?_;rintro e w1 ⟨rfl,hR⟩))
 go_ret
 exact ⟨rfl,hR⟩
theorem KX.Ud (h:KX w m H S U q A) (ho:S.O p=some o) (a k:Int) (ha:(Lit.int .i64 a).wf=true) :
 Calls Tryz.prog 105 #[wp H.kb,.int .i64 p,.int .i64 a,.int .i64 k] w fun y w'=>y=.returned (.tuple #[.int .i64 (jf (aC S o.j) S.W a k),aI (dN (aC S o.j) a k 1)])∧Below w.heap.size w w':=by
 have hF:=h.ay ho
 have hj:=h.rR ho
 have d0:w.cell? ⟨H.hs o.j,0,none⟩=some (wp (H.sp o.j)):=(h.hd ho).at 0
 have hU:=h.adp hj a k ha
 generalize jf (aC S o.j) S.W a k=X at *
 generalize dN (aC S o.j) a k 1=E at *
 go_enter Tryz.func105,Tryz.ntmps105
 go_wp2_with (first
  |(go_at_call 127;refine hF.mono ?_;rintro e w1 ⟨rfl,hw⟩;subst w1)
  |(go_at_call 167;refine hU.mono ?_;rintro e w1 ⟨rfl,hR⟩))
 go_ret2
 exact ⟨rfl,hR⟩
def LA (S:KS) (p:Int) (o:Ow) (k n:Int):KS:=S.own p ⟨o.j,yG o.m k n,o.fo⟩
theorem Uk {M:Nat→Int}(h:Fit M) (k n:Int):Fit (yG M k n):=by
 unfold yG
 split
 ·rename_i e
  have hn:0≤n∧n≤1000000:=by
   unfold qd at e
   split at e
   ·omega
   ·split at e
    ·omega
    ·rename_i z;exact Classical.not_not.1 z
  exact h.put _ _ hn.1 hn.2
 ·exact h
theorem KX.sj {A':Nat→Prop}{M':Nat→Int}{a':Int}(h:KX w m H (S.own p ⟨o.j,M',a'⟩) (fun i=>if i=o.j then kZ S o.j else kZ S i) q A') (ok:uh S) (ho:S.O p=some o) (hM:Fit M') (ha:-100≤a'∧a'≤100):KN w m H (S.own p ⟨o.j,M',a'⟩) q A':=
 h.toN (ok.own ho hM ha) (fun p' o' ho' k hk=>by
  show (if o'.j=o.j then kZ S o.j else kZ S o'.j) k=kZ S o'.j k
  split
  ·rename_i e;rw [e]
  ·rfl)
theorem KN.Pf (h:KN w m H S q A) (ho:S.O p=some o) (k n:Int) :
 Calls Tryz.prog 101 #[wp H.kb,.int .i64 p,.int .i64 k,.int .i64 n] w fun y w'=>y=.returned (aI (qd k n))∧∃A',KN w' m H (LA S p o k n) q A'∧Stp w w' A A':=by
 have hF:=h.1.ay ho
 have hU:Calls Tryz.prog 39 #[lq (H.hs o.j),.int .i64 k,.int .i64 n] w fun y w'=>y=.returned (aI (qd k n))∧∃A',KN w' m H (LA S p o k n) q A'∧Stp w w' A A':=by
  refine ((h.1.hd ho).limit k n).mono ?_
  rintro y w1 ⟨rfl,hd,g⟩
  obtain ⟨A1,h1,st1⟩:=h.1.hold ho hd g
  exact ⟨rfl,A1,h1.sj h.2 ho (Uk (h.2.fit p o ho).1 k n) (h.2.fit p o ho).2,st1⟩
 generalize LA S p o k n=S2 at *
 generalize qd k n=E at *
 go_enter Tryz.func101,Tryz.ntmps101
 go_wp2_with (first
  |(go_at_call 127;refine hF.mono ?_;rintro e w1 ⟨rfl,hw⟩;subst w1)
  |(go_at_call 39;refine hU.mono ?_;rintro e w1 ⟨rfl,hR⟩))
 go_ret
 exact ⟨rfl,hR⟩
def Jj (n:Int):Int:=if -100≤n∧n≤100 then 0 else 2
def yL (S:KS) (p:Int) (o:Ow) (n:Int):KS:=if Jj n=0 then S.own p ⟨o.j,o.m,n⟩ else S
theorem KN.Ld (h:KN w m H S q A) (ho:S.O p=some o) (n:Int) :
 Calls Tryz.prog 92 #[wp H.kb,.int .i64 p,.int .i64 n] w fun y w'=>y=.returned (aI (Jj n))∧∃A',KN w' m H (yL S p o n) q A'∧Stp w w' A A':=by
 have hF:=h.1.ay ho
 have hd:=h.1.hd ho
 by_cases hn:-100≤n∧n≤100
 ·have e0:Jj n=0:=if_pos hn
  have e1:yL S p o n=S.own p ⟨o.j,o.m,n⟩:=if_pos e0
  obtain ⟨A1,h1,st1⟩:=h.1.hold ho (hd.YD n) (cu w (H.hs o.j) 8 (.int .i64 n))
  have fin:=kU (⟨A1,h1.sj h.2 ho (h.2.fit p o ho).1 hn,st1⟩:∃A',KN (w.setCell ⟨H.hs o.j,8,none⟩ (.int .i64 n)) m H (S.own p ⟨o.j,o.m,n⟩) q A'∧Stp w (w.setCell ⟨H.hs o.j,8,none⟩ (.int .i64 n)) A A')
  have c8:w.cell? ⟨H.hs o.j,8,none⟩=some (.int .i64 o.fo):=hd.at 8
  have f8:=hd.free 8
  rw [e0,e1,aB]
  obtain ⟨g1,g2⟩:=hn
  generalize S.own p ⟨o.j,o.m,n⟩=S2 at *
  go_enter Tryz.func92,Tryz.ntmps92
  go_wp2_with (go_at_call 127;refine hF.mono ?_;rintro e w1 ⟨rfl,hw⟩;subst w1)
  go_ret
  exact ⟨rfl,fin.out⟩
 ·have e0:Jj n=2:=if_neg hn
  have e1:yL S p o n=S:=by unfold yL;rw [e0];rfl
  rw [e0,e1,ax (by omega)]
  have HN:Aside _:=(⟨A,h,Stp.refl _ _⟩:∃A',KN w m H S q A'∧Stp w w A A')
  by_cases g1:n < -100
  ·clear h ho hd e0 e1 hn
   go_enter Tryz.func92,Tryz.ntmps92
   go_wp2_with (go_at_call 127;refine hF.mono ?_;rintro e w1 ⟨rfl,hw⟩;subst w1)
   go_ret
   exact ⟨rfl,HN.out⟩
  ·have g2:100<n:=by omega
   go_enter Tryz.func92,Tryz.ntmps92
   go_wp2_with (go_at_call 127;refine hF.mono ?_;rintro e w1 ⟨rfl,hw⟩;subst w1)
   go_ret
   exact ⟨rfl,HN.out⟩
theorem yh {P:Ps}{n:Int}{f:Pr→Pr}(hf:∀q,(f q).state=q.state) (x:Int):aD (vP P n f) x=aD P x:=iq (Js hf x)
theorem Cn (P:Ps) (n sig x:Int):aD (if eX P n sig=0 then kC P n sig else P) x=aD P x:=by
 split
 ·unfold kC
  refine yh (fun q=>?_) x
  split<;>rfl
 ·rfl
theorem Ia (P:Ps) (n sig x:Int) (on:Bool):aD (if bN P n sig=0 then fH P n sig on else P) x=aD P x:=by
 split
 ·unfold fH
  refine yh (fun q=>?_) x
  rfl
 ·rfl
theorem Ot (P:Ps) (n x:Int):aD (dS P n) x=aD P x:=by
 unfold dS
 split
 ·rfl
 ·refine yh (fun q=>?_) x
  rfl
theorem Oq {P:Ps}(n x:Int):aD (bC P n).2.2.2 x=aD P x:=by
 unfold bC
 split
 ·rfl
 ·split
  ·rename_i y hy
   obtain ⟨_,h2,_⟩:=NF hy
   show aD (uu P y) x=aD P x
   by_cases e:x=y
   ·subst e
    unfold aD
    rw [h2,lY (by unfold uu;rw [if_pos rfl])]
    rfl
   ·refine iq ?_
    unfold nN
    rw [ED e]
  ·rfl
theorem KN.Un (h:KN w m H S q A) (ho:S.O p=some o) (n sig:Int) (hn:(Lit.int .i64 n).wf=true) :
 Calls Tryz.prog 100 #[wp H.kb,.int .i64 p,.int .i64 n,.int .i64 sig] w fun y w'=>y=.returned (aI (eX S.P n sig))∧∃A',KN w' m H (S.procs (if eX S.P n sig=0 then kC S.P n sig else S.P)) q A'∧Stp w w' A A':=by
 have hF:=h.1.ay ho
 have c3:=h.1.c3
 have hU:Calls Tryz.prog 163 #[wp H.t,.int .i64 n,.int .i64 sig] w fun y w'=>y=.returned (aI (eX S.P n sig))∧∃A',KN w' m H (S.procs (if eX S.P n sig=0 then kC S.P n sig else S.P)) q A'∧Stp w w' A A':=by
  refine (h.1.Za n sig hn).mono ?_
  rintro y w1 ⟨rfl,A1,h1,st1⟩
  exact ⟨rfl,A1,h1.yV h.2 (fun x=>Cn _ _ _ _),st1⟩
 generalize S.procs (if eX S.P n sig=0 then kC S.P n sig else S.P)=S2 at *
 generalize eX S.P n sig=E at *
 go_enter Tryz.func100,Tryz.ntmps100
 go_wp2_with (first
  |(go_at_call 127;refine hF.mono ?_;rintro e w1 ⟨rfl,hw⟩;subst w1)
  |(go_at_call 163;refine hU.mono ?_;rintro e w1 ⟨rfl,hR⟩))
 go_ret
 exact ⟨rfl,hR⟩
theorem KN.Ku (h:KN w m H S q A) (ho:S.O p=some o) (sig:Int) (on:Bool) :
 Calls Tryz.prog 99 #[wp H.kb,.int .i64 p,.int .i64 sig,.bool on] w fun y w'=>y=.returned (aI (bN S.P p sig))∧∃A',KN w' m H (S.procs (if bN S.P p sig=0 then fH S.P p sig on else S.P)) q A'∧Stp w w' A A':=by
 have hF:=h.1.ay ho
 have c3:=h.1.c3
 have hU:Calls Tryz.prog 162 #[wp H.t,.int .i64 p,.int .i64 sig,.bool on] w fun y w'=>y=.returned (aI (bN S.P p sig))∧∃A',KN w' m H (S.procs (if bN S.P p sig=0 then fH S.P p sig on else S.P)) q A'∧Stp w w' A A':=by
  refine (h.1.XK p sig on (Nj (h.1.key ho))).mono ?_
  rintro y w1 ⟨rfl,A1,h1,st1⟩
  exact ⟨rfl,A1,h1.yV h.2 (fun x=>Ia _ _ _ _ _),st1⟩
 generalize S.procs (if bN S.P p sig=0 then fH S.P p sig on else S.P)=S2 at *
 generalize bN S.P p sig=E at *
 go_enter Tryz.func99,Tryz.ntmps99
 go_wp2_with (first
  |(go_at_call 127;refine hF.mono ?_;rintro e w1 ⟨rfl,hw⟩;subst w1)
  |(go_at_call 162;refine hU.mono ?_;rintro e w1 ⟨rfl,hR⟩))
 go_ret
 exact ⟨rfl,hR⟩
theorem KN.Sw (h:KN w m H S q A) (ho:S.O p=some o) :
 Calls Tryz.prog 119 #[wp H.kb,.int .i64 p] w fun y w'=>y=.returned (.tuple #[.int .i64 (bC S.P p).1,.int .i64 (bC S.P p).2.1,aI (bC S.P p).2.2.1])∧∃A',KN w' m H (S.procs (bC S.P p).2.2.2) q A'∧Stp w w' A A':=by
 have hF:=h.1.ay ho
 have c3:=h.1.c3
 have hU:Calls Tryz.prog 186 #[wp H.t,.int .i64 p] w fun y w'=>y=.returned (.tuple #[.int .i64 (bC S.P p).1,.int .i64 (bC S.P p).2.1,aI (bC S.P p).2.2.1])∧∃A',KN w' m H (S.procs (bC S.P p).2.2.2) q A'∧Stp w w' A A':=by
  refine (h.1.ac0 p (Nj (h.1.key ho))).mono ?_
  rintro y w1 ⟨rfl,A1,h1,st1⟩
  exact ⟨rfl,A1,h1.yV h.2 (fun x=>Oq _ _),st1⟩
 generalize S.procs (bC S.P p).2.2.2=S2 at *
 generalize (bC S.P p).2.2.1=E at *
 generalize (bC S.P p).2.1=E1 at *
 generalize (bC S.P p).1=E2 at *
 go_enter Tryz.func119,Tryz.ntmps119
 go_wp2_with (first
  |(go_at_call 127;refine hF.mono ?_;rintro e w1 ⟨rfl,hw⟩;subst w1)
  |(go_at_call 186;refine hU.mono ?_;rintro e w1 ⟨rfl,hR⟩))
 go_ret3
 exact ⟨rfl,hR⟩
end
end Go.Proofs.YtippochapiolpaaGreatDoor
namespace Go.Proofs.YtippochapiolpaaGreatDoor
theorem ow:∀(N:Ns) (i:Nat) (hi:i<N.length) (y:Int×Bool),ak (N.set i y)+(if 0<N[i].1 then 1 else 0)=ak N+(if 0<y.1 then 1 else 0)
 | [],i,hi,_=>absurd hi (Nat.not_lt_zero _)
 |x :: N,0,_,y=>by
  simp only [List.set_cons_zero,ak,List.filter_cons,List.getElem_cons_zero,decide_eq_true_eq]
  split<;>split<;>simp
 |x :: N,i+1,hi,y=>by
  have:=ow N i (by simpa using hi) y
  simp only [List.set_cons_succ,ak,List.filter_cons,List.getElem_cons_succ] at this ⊢
  split
  ·simp only [List.length_cons];omega
  ·exact this
section
variable {D:DS}{N:Ns}{x y:Int}
theorem zU (h8:N.length=8) (x:Int):ak (gX N x)+(if aJ N x=true then 1 else 0)=ak N:=by
 unfold gX
 by_cases h:aJ N x=true
 ·rw [if_pos h,if_pos h]
  obtain ⟨i,rfl,hi,aG,h0⟩:=dX h h8
  have:=ow N i aG (0,false)
  rw [if_pos h0,if_neg (by simp)] at this
  rw [Int.toNat_natCast];omega
 ·rw [if_neg h,if_neg h];omega
theorem NJ (h8:N.length=8) (x:Int) (c:Bool):ak (kR N x c)=ak N:=by
 unfold kR
 by_cases h:aJ N x=true
 ·rw [if_pos h]
  obtain ⟨i,rfl,hi,aG,h0⟩:=dX h h8
  have:=ow N i aG ((N.getD i (0,false)).1,c)
  have e:N.getD i (0,false)=N[i]:=by rw [List.getD_eq_getElem?_getD,List.getElem?_eq_getElem aG];rfl
  rw [e,if_pos h0] at this
  rw [Int.toNat_natCast,e];omega
 ·rw [if_neg h]
theorem BX (all:Bool) (D:DS) (N:Ns):∀i,i≤N.length→ak (ah all D N i).2≤ak N
 |0,_=>Nat.le_refl _
 |i+1,hi=>by
  have ih:=BX all D N i (by omega)
  rw [ah]
  split
  ·have hl:=(iF all D N i).1
   have:=ow (ah all D N i).2 i (by omega) (0,false)
   rw [if_neg (show ¬(0:Int)<((0,false):Int×Bool).1 by simp)] at this
   simp only;omega
  ·exact ih
theorem Pn (_h8:N.length=8) (h:¬ai N<0):∃i:Nat,ai N=i∧∃hi:i<N.length,N[i].1=0:=by
 rcases mg (N:=N) with e|e
 ·rw [e] at h;exact absurd (by omega) h
 ·exact e
theorem qB (h8:N.length=8) (h:¬ai N<0) {d:Int}(hd:0<d) (c:Bool):ak (N.set (ai N).toNat (d,c))=ak N+1:=by
 obtain ⟨i,e,hi,h0⟩:=Pn h8 h
 have:=ow N i hi (d,c)
 rw [h0,if_neg (by omega),if_pos hd] at this
 rw [e,Int.toNat_natCast];omega
theorem NK {n s:Nat}{p:List UInt8}{pr:Int}{mk:Bool}{c:Int}{D':DS}{N':Ns}(h8:N.length=8) (hn:0≤D.nx) (h:iN D N n s p pr mk x c D' N'):(c=0→ak N'=ak N+1)∧(c≠0→x=0∧D'=D∧N'=N):=by
 cases h with
 |opened hp hr hE hh=>exact ⟨fun _=>qB h8 hr.1 (by omega) _,fun z=>absurd rfl z⟩
 |made hp hr hE hm hM k hk=>exact ⟨fun _=>qB h8 hr.1 (by omega) _,fun z=>absurd rfl z⟩
 |arg=>exact ⟨fun z=>by omega,fun _=>⟨rfl,rfl,rfl⟩⟩
 |full=>exact ⟨fun z=>by omega,fun _=>⟨rfl,rfl,rfl⟩⟩
 |no _ _ hE=>exact ⟨fun z=>absurd z hE,fun _=>⟨rfl,rfl,rfl⟩⟩
 |dir _ _ _ hh=>exact ⟨fun z=>absurd z hh,fun _=>⟨rfl,rfl,rfl⟩⟩
 |yQ _ _ _ _ hM=>exact ⟨fun z=>absurd z hM,fun _=>⟨rfl,rfl,rfl⟩⟩
theorem SA (h8:N.length=8) (x:Int):(jH N x=0→ak (lL N x)=ak N+1)∧(jH N x≠0→jv N x=0∧lM D N x=D∧lL N x=N):=by
 refine ⟨fun h=>?_,fun h=>⟨if_neg h,if_neg h,if_neg h⟩⟩
 unfold lL
 rw [if_pos h]
 unfold jH at h
 split at h
 ·rename_i hx
  split at h
  ·omega
  ·rename_i hl
   obtain ⟨i,rfl,hi,aG,h0⟩:=dX hx h8
   rw [getD_in aG]
   exact qB h8 hl h0 _
 ·omega
theorem NH {n:Nat}{c:Int}{D':DS}{N':Ns}(h8:N.length=8) (hnn:∀x∈N,0≤x.1) (hn:0≤D.nx) (h:rX D N n x y c D' N'):(c=0→ak N'=ak N+2)∧(c≠0→x=0∧y=0∧D'=D∧N'=N):=by
 rcases h with ⟨_,rfl,rfl,rfl,rfl,rfl⟩|⟨hf,rfl,rfl,rfl,rfl,rfl⟩
 ·exact ⟨fun z=>by omega,fun _=>⟨rfl,rfl,rfl,rfl⟩⟩
 ·refine ⟨fun _=>?_,fun z=>absurd rfl z⟩
  have hu:ak N+2≤8:=by unfold vV at hf;omega
  have e1:¬ai N<0:=fun z=>by
   have:=(jR hnn).1 z;omega
  have u1:ak (dK D N)=ak N+1:=qB h8 e1 (show 0<(lV D).nx+1 by unfold lV;simp only;omega) false
  have h8':(dK D N).length=8:=by unfold dK addN;rw [List.length_set];exact h8
  have h2:∀x∈dK D N,0≤x.1:=fun x hx=>by
   unfold dK addN at hx
   rcases List.mem_or_eq_of_mem_set hx with h1|h1
   ·exact hnn x h1
   ·rw [h1];show 0≤D.nx+1+1;omega
  have e2:¬ai (dK D N)<0:=fun z=>by
   have:=(jR h2).1 z;omega
  have:=qB h8' e2 (show 0<(qA D).nx+1 by unfold qA lV jL;simp only;omega) false
  unfold BH addN
  omega
theorem NL (h8:N.length=8) (x y:Int):ak (fC N x y)=ak N+(if fD N x y=0∧aJ N y=false then 1 else 0):=by
 unfold fC
 by_cases hE:fD N x y=0
 ·have hE':=hE
  unfold fD at hE
  split at hE
  ·rename_i hx
   split at hE
   ·rename_i hy
    obtain ⟨i,rfl,hi,aG,h0⟩:=dX hx h8
    obtain ⟨j,rfl⟩:∃j:Nat,y=j:=⟨y.toNat,by omega⟩
    have Lh:j<N.length:=by omega
    by_cases e:(i:Int)=j
    ·have:i=j:=by omega
     subst this
     rw [if_neg (fun z=>z.2 rfl),if_neg]
     ·rfl
     ·rintro ⟨_,z⟩;rw [hx] at z;cases z
    ·rw [if_pos ⟨hE',e⟩,getD_in aG,Int.toNat_natCast]
     have:=ow N j Lh (N[i].1,false)
     rw [if_pos h0] at this
     by_cases hj0:0<N[j].1
     ·have hh:aJ N j=true:=by
       unfold aJ;rw [getD_in Lh];simp;omega
      rw [if_pos hj0] at this
      rw [if_neg (by rw [hh];simp)];omega
     ·have hh:aJ N j=false:=by
       unfold aJ;rw [getD_in Lh];simp;omega
      rw [if_neg hj0] at this
      rw [if_pos ⟨hE',hh⟩];omega
   ·omega
  ·omega
 ·rw [if_neg (fun z=>hE z.1),if_neg (fun z=>hE z.1)];rfl
theorem SQ {N':Ns}(h8:N'.length=8) (hu:ak N'=0) (ht:∀x∈N',0≤x.1∧(x.1=0→x.2=false)):N'=bQ:=by
 have h1:∀x∈N',x=((0:Int),false):=fun x hx=>by
  have a:=ht x hx
  have b:¬0<x.1:=fun z=>by
   unfold ak at hu
   rw [List.length_eq_zero_iff,List.filter_eq_nil_iff] at hu
   exact hu x hx (by simpa using z)
  have c:x.1=0:=by omega
  exact Prod.ext c (a.2 c)
 exact List.eq_replicate_iff.2 ⟨h8,h1⟩
end
end Go.Proofs.YtippochapiolpaaGreatDoor
namespace Go.Proofs.YtippochapiolpaaGreatDoor
open Go.RowKit Go.Maps
section
variable {w w':World}{m:Int}{H:KH}{S:KS}{U:Nat→Nat→Int}{q:Nat}{A:Nat→Prop}{p:Int}{o:Ow}
theorem KX.kP (h:KX w m H S U q A) (ho:S.O p=some o):w.cell? ⟨H.kb,2,none⟩=some (wp H.f)∧w.cell? ⟨H.hs o.j,1,none⟩=some (wp (H.tb o.j)):=⟨h.c2,(h.hd ho).at 1⟩
theorem KN.T9 (h:KN w m H S q A) (ho:S.O p=some o) (x:Int) (c:Bool) :
 Calls Tryz.prog 107 #[wp H.kb,.int .i64 p,.int .i64 x,.bool c] w fun y w'=>y=.returned (aI (if aJ (au S o.j) x=true then 0 else 7))∧∃A',KN w' m H (S.files S.D o.j (kR (au S o.j) x c)) q A'∧Stp w w' A A':=by
 have hF:=h.1.ay ho
 have hj:=h.1.rR ho
 have c0:=h.1.kP ho
 have hU:Calls Tryz.prog 172 #[wp H.f,wp (H.tb o.j),.int .i64 x,.bool c] w.drew fun y w'=>y=.returned (aI (if aJ (au S o.j) x=true then 0 else 7))∧(w'.cell? ⟨H.kb,2,none⟩=some (wp H.f)∧w'.cell? ⟨H.hs o.j,1,none⟩=some (wp (H.tb o.j)))∧∃A',KN w' m H (S.files S.D o.j (kR (au S o.j) x c)) q A'∧Stp w w' A A':=by
  refine ((h.1.below (bH w)).markT hj x c).mono ?_
  rintro y w1 ⟨rfl,A1,h1,st1⟩
  exact ⟨rfl,h1.kP (p:=p) (o:=o) ho,A1,h1.ze h.2 ho hj (NJ (h.1.oW _) x c),Stp.base (V:=w.drew) rfl rfl rfl rfl st1⟩
 generalize S.files S.D o.j (kR (au S o.j) x c)=S2 at *
 generalize (if aJ (au S o.j) x=true then (0:Int) else 7)=E at *
 go_enter Tryz.func107,Tryz.ntmps107
 go_upto_region 4 with (go_at_call 127;refine hF.mono ?_;rintro e w1 ⟨rfl,hw⟩;subst w1)
 go_region_held3 (fun w'=>w'.cell? ⟨H.kb,2,none⟩=some (wp H.f)∧w'.cell? ⟨H.hs o.j,1,none⟩=some (wp (H.tb o.j))) (first|exact c0|exact c1) (first
  |(go_at_call 172;refine hU.mono ?_;rintro e w1 ⟨rfl,c1,hR⟩))
 all_goals
  go_wp2_with fail
  go_ret
  exact ⟨rfl,hR⟩
theorem KN.Tf (h:KN w m H S q A) (ho:S.O p=some o) (x a:Int) :
 Calls Tryz.prog 115 #[wp H.kb,.int .i64 p,.int .i64 x,.int .i64 a] w fun y w'=>y=.returned (aI (kg S.D (au S o.j) x a))∧∃A',KN w' m H (S.files (kr S.D (au S o.j) x a) o.j (au S o.j)) q A'∧Stp w w' A A':=by
 have hF:=h.1.ay ho
 have hj:=h.1.rR ho
 have c0:=h.1.kP ho
 have hU:Calls Tryz.prog 181 #[wp H.f,wp (H.tb o.j),.int .i64 x,.int .i64 a] w.drew fun y w'=>y=.returned (aI (kg S.D (au S o.j) x a))∧(w'.cell? ⟨H.kb,2,none⟩=some (wp H.f)∧w'.cell? ⟨H.hs o.j,1,none⟩=some (wp (H.tb o.j)))∧∃A',KN w' m H (S.files (kr S.D (au S o.j) x a) o.j (au S o.j)) q A'∧Stp w w' A A':=by
  refine ((h.1.below (bH w)).ac4 hj x a).mono ?_
  rintro y w1 ⟨rfl,A1,h1,st1⟩
  exact ⟨rfl,h1.kP (p:=p) (o:=o) ho,A1,h1.ze h.2 ho hj rfl,Stp.base (V:=w.drew) rfl rfl rfl rfl st1⟩
 generalize S.files (kr S.D (au S o.j) x a) o.j (au S o.j)=S2 at *
 generalize kg S.D (au S o.j) x a=E at *
 go_enter Tryz.func115,Tryz.ntmps115
 go_upto_region 4 with (go_at_call 127;refine hF.mono ?_;rintro e w1 ⟨rfl,hw⟩;subst w1)
 go_region_held3 (fun w'=>w'.cell? ⟨H.kb,2,none⟩=some (wp H.f)∧w'.cell? ⟨H.hs o.j,1,none⟩=some (wp (H.tb o.j))) (first|exact c0|exact c1) (first
  |(go_at_call 181;refine hU.mono ?_;rintro e w1 ⟨rfl,c1,hR⟩))
 all_goals
  go_wp2_with fail
  go_ret
  exact ⟨rfl,hR⟩
theorem KN.Tp (h:KN w m H S q A) (ho:S.O p=some o) (x a:Int) :
 Calls Tryz.prog 112 #[wp H.kb,.int .i64 p,.int .i64 x,.int .i64 a] w fun y w'=>y=.returned (.tuple #[tx (bR S.D (au S o.j) x a).1,aI (bR S.D (au S o.j) x a).2.1])∧∃A',KN w' m H (S.files (bR S.D (au S o.j) x a).2.2 o.j (au S o.j)) q A'∧Stp w w' A A':=by
 have hF:=h.1.ay ho
 have hj:=h.1.rR ho
 have c0:=h.1.kP ho
 have hU:Calls Tryz.prog 179 #[wp H.f,wp (H.tb o.j),.int .i64 x,.int .i64 a] w.drew fun y w'=>y=.returned (.tuple #[tx (bR S.D (au S o.j) x a).1,aI (bR S.D (au S o.j) x a).2.1])∧(w'.cell? ⟨H.kb,2,none⟩=some (wp H.f)∧w'.cell? ⟨H.hs o.j,1,none⟩=some (wp (H.tb o.j)))∧∃A',KN w' m H (S.files (bR S.D (au S o.j) x a).2.2 o.j (au S o.j)) q A'∧Stp w w' A A':=by
  refine ((h.1.below (bH w)).ac6 hj x a).mono ?_
  rintro y w1 ⟨rfl,A1,h1,st1⟩
  exact ⟨rfl,h1.kP (p:=p) (o:=o) ho,A1,h1.ze h.2 ho hj rfl,Stp.base (V:=w.drew) rfl rfl rfl rfl st1⟩
 generalize S.files (bR S.D (au S o.j) x a).2.2 o.j (au S o.j)=S2 at *
 generalize (bR S.D (au S o.j) x a).2.1=E at *
 generalize (bR S.D (au S o.j) x a).1=X at *
 go_enter Tryz.func112,Tryz.ntmps112
 go_upto_region 4 with (go_at_call 127;refine hF.mono ?_;rintro e w1 ⟨rfl,hw⟩;subst w1)
 go_region_held3 (fun w'=>w'.cell? ⟨H.kb,2,none⟩=some (wp H.f)∧w'.cell? ⟨H.hs o.j,1,none⟩=some (wp (H.tb o.j))) (first|exact c0|exact c1) (first
  |(go_at_call 179;refine hU.mono ?_;rintro e w1 ⟨rfl,c1,hR⟩))
 all_goals
  go_wp2_with fail
  go_ret2
  exact ⟨rfl,hR⟩
noncomputable def uR (S:KS) (o:Ow) (x:Int):KS:=S.files (iU S.D (au S o.j) x) o.j (gX (au S o.j) x)
theorem KX.Wq (h:KN w m H S q A) (ho:S.O p=some o) {V:World}{D':DS}{N':Ns}{q':Nat}{A1:Nat→Prop}(h1:KX V m H (S.files D' o.j N') (kZ S) q' A1) (st1:Stp w V A A1) (hu:ak N'≤ak (au S o.j)) :
 Calls Tryz.prog 149 #[wp (H.hs o.j)] V fun y w2=>y=.returned (.tuple #[])∧∃A',KN w2 m H (S.files D' o.j N') q' A'∧Stp w w2 A A':=by
 have hj:=h.1.rR ho
 refine (h1.settle (h.2.files ho _ _) (p:=p) (o:=o) ho (h.1.Ji o.j) ?_ ?_ rfl (fun p' o' ho' hne k hk=>?_)).mono ?_
 ·exact Int.le_refl _
 ·rw [gY hj,if_pos rfl]
  show _≤((ak (au S o.j):Nat):Int)
  omega
 ·unfold kZ
  rw [gY hj,if_neg hne,oD]
 ·rintro y w2 ⟨rfl,A2,h2,st2⟩
  exact ⟨rfl,A2,h2,st1.trans st2⟩
theorem KN.Qj (h:KN w m H S q A) (ho:S.O p=some o) (hq:q≤400) (x:Int) :
 Calls Tryz.prog 93 #[wp H.kb,.int .i64 p,.int .i64 x] w fun y w'=>y=.returned (aI (if aJ (au S o.j) x=true then 0 else 7))∧∃A',KN w' m H (uR S o x) q A'∧Stp w w' A A':=by
 have hF:=h.1.ay ho
 have hj:=h.1.rR ho
 have c0:=h.1.kP ho
 have hU:Calls Tryz.prog 148 #[wp H.f,wp (H.tb o.j),.int .i64 x] w.drew fun y w'=>y=.returned (aI (if aJ (au S o.j) x=true then 0 else 7))∧(w'.cell? ⟨H.kb,2,none⟩=some (wp H.f)∧w'.cell? ⟨H.hs o.j,1,none⟩=some (wp (H.tb o.j)))∧((if aJ (au S o.j) x=true then (0:Int) else 7)≠0→∃A',KN w' m H (uR S o x) q A'∧Stp w w' A A')∧((if aJ (au S o.j) x=true then (0:Int) else 7)=0→Calls Tryz.prog 149 #[wp (H.hs o.j)] w' fun y w2=>y=.returned (.tuple #[])∧∃A',KN w2 m H (uR S o x) q A'∧Stp w w2 A A'):=by
  refine ((h.1.below (bH w)).Sg hj hq x).mono ?_
  rintro y w1 ⟨rfl,A1,h1,st1⟩
  have st1':Stp w w1 A A1:=Stp.base (V:=w.drew) rfl rfl rfl rfl st1
  refine ⟨rfl,h1.kP (p:=p) (o:=o) ho,fun hc=>⟨A1,h1.ze h.2 ho hj ?_,st1'⟩,fun hc=>KX.Wq h ho h1 st1' ?_⟩
  ·have:=zU (h.1.oW o.j) x
   split at hc
   ·exact absurd rfl hc
   ·rename_i z;rw [if_neg z] at this;omega
  ·have:=zU (h.1.oW o.j) x
   omega
 generalize uR S o x=S2 at *
 generalize (if aJ (au S o.j) x=true then (0:Int) else 7)=E at *
 go_enter Tryz.func93,Tryz.ntmps93
 go_upto_region 4 with (go_at_call 127;refine hF.mono ?_;rintro e w1 ⟨rfl,hw⟩;subst w1)
 go_region_held3 (fun w'=>w'.cell? ⟨H.kb,2,none⟩=some (wp H.f)∧w'.cell? ⟨H.hs o.j,1,none⟩=some (wp (H.tb o.j))) (first|exact c0|exact c1) (first
  |(go_at_call 148;refine hU.mono ?_;rintro e w1 ⟨rfl,c1,hx1,hx0⟩;have X1:Aside _:=hx1;have X0:Aside _:=hx0;clear hx1 hx0))
 all_goals
  by_cases hE:E=0
  ·have hs:=X0.out hE
   subst hE
   rw [aB]
   go_wp2_with (go_at_call 149;refine hs.mono ?_;rintro e w2 ⟨rfl,hR⟩)
   go_ret
   exact ⟨rfl,hR⟩
  ·have hR:=X1.out hE
   have HE:Aside (E≠0):=hE
   rw [ax hE]
   go_wp2_with fail
   go_ret
   exact ⟨by rw [ax HE.out];rfl,hR⟩
noncomputable def sQ (S:KS) (o:Ow):KS:=(S.space o.j lG S.W).files (ah false S.D (au S o.j) 8).1 o.j (ah false S.D (au S o.j) 8).2
theorem KN.UG (h:KN w m H S q A) (ho:S.O p=some o) (hq:q≤400) :
 Calls Tryz.prog 96 #[wp H.kb,.int .i64 p] w fun y w'=>y=.returned .nilIface∧∃A',KN w' m H (sQ S o) q A'∧Stp w w' A A':=by
 have hF:=h.1.ay ho
 have hj:=h.1.rR ho
 have wY:=h.1.mlt ho
 have d0:w.cell? ⟨H.hs o.j,0,none⟩=some (wp (H.sp o.j)):=(h.1.hd ho).at 0
 have hC:Calls Tryz.prog 158 #[wp (H.sp o.j)] w fun y w'=>y=.returned (.tuple #[])∧(w'.cell? ⟨H.kb,2,none⟩=some (wp H.f)∧w'.cell? ⟨H.hs o.j,1,none⟩=some (wp (H.tb o.j)))∧
  Calls Tryz.prog 159 #[wp H.f,wp (H.tb o.j)] w'.drew fun y w2=>y=.returned (.tuple #[])∧(w2.cell? ⟨H.kb,2,none⟩=some (wp H.f)∧w2.cell? ⟨H.hs o.j,1,none⟩=some (wp (H.tb o.j)))∧Calls Tryz.prog 149 #[wp (H.hs o.j)] w2 fun y w3=>y=.returned (.tuple #[])∧∃A',KN w3 m H (sQ S o) q A'∧Stp w w3 A A':=by
  refine (h.1.Si hj).mono ?_
  rintro y w1 ⟨rfl,A1,h1,st1⟩
  refine ⟨rfl,h1.kP (p:=p) (o:=o) ho,((h1.below (bH w1)).adz (o:=o) hj hq).mono ?_⟩
  rintro y w2 ⟨rfl,A2,h2,st2⟩
  have st2':Stp w w2 A A2:=st1.trans (Stp.base (V:=w1.drew) rfl rfl rfl rfl st2)
  refine ⟨rfl,h2.kP (p:=p) (o:=o) ho,(h2.settle ((h.2.space ho h.1.len _ _).files (p:=p) (o:=o) ho _ _) (p:=p) (o:=o) ho (h.1.Ji o.j) ?_ ?_ rfl (fun p' o' ho' hne k hk=>?_)).mono ?_⟩
  ·rw [oD,gB wY,if_pos rfl]
   show ((bX lG:Nat):Int)≤_
   rw [show bX lG=0 from rG]
   exact (h.1.Ji o.j 0).1
  ·rw [gY (S:=S.space o.j lG S.W) hj,if_pos rfl]
   have:=BX false S.D (au S o.j) 8 (by rw [h.1.oW];exact Nat.le_refl _)
   show ((ak (ah false S.D (au S o.j) 8).2:Nat):Int)≤((ak (au S o.j):Nat):Int)
   omega
  ·unfold kZ
   rw [gY (S:=S.space o.j lG S.W) hj,if_neg hne,oD,gB wY,if_neg hne,qC]
  ·rintro y w3 ⟨rfl,A3,h3,wW⟩
   exact ⟨rfl,A3,h3,st2'.trans wW⟩
 generalize sQ S o=S2 at *
 go_enter Tryz.func96,Tryz.ntmps96
 go_upto_region 5 with (first
  |(go_at_call 127;refine hF.mono ?_;rintro e w1 ⟨rfl,hw⟩;subst w1)
  |(go_at_call 158;refine hC.mono ?_;rintro e w1 ⟨rfl,c0,hE⟩))
 go_region_held3 (fun w'=>w'.cell? ⟨H.kb,2,none⟩=some (wp H.f)∧w'.cell? ⟨H.hs o.j,1,none⟩=some (wp (H.tb o.j))) (first|exact c0|exact c1) (first
  |(go_at_call 159;refine hE.mono ?_;rintro e w2 ⟨rfl,c1,hs⟩))
 all_goals
  go_wp2_with (go_at_call 149;refine hs.mono ?_;rintro e w3 ⟨rfl,hR⟩)
  go_ret
  exact ⟨rfl,hR⟩
end
section
variable {w w':World}{m:Int}{H:KH}{S:KS}{U:Nat→Nat→Int}{q:Nat}{A:Nat→Prop}{p:Int}{o:Ow}
noncomputable def dD (S:KS) (p:Int) (o:Ow) (code:Int):KS:=((((S.procs (dI S.P p code)).space o.j lG S.W).files (ah true S.D (au S o.j) 8).1 o.j bQ)).drop p
theorem KX.drop (h:KX w m H S U q A) (hp:(Lit.int .i64 p).wf=true):∃w',(∀ty,(Builtin.delete_ #[64,3] ty #[.map (some H.gm),.int .i64 p]).run Tryz.prog w=.ok (.tuple #[]) w')∧∃A',KX w' m H (S.drop p) U q A'∧Stp w w' A A':=by
 obtain ⟨G,k,e⟩:=h
 obtain ⟨z,hm⟩:=k.map
 obtain ⟨w',hrun,hm',g⟩:=MS hm Tryz.underlying64 p hp
 obtain ⟨G',k',st⟩:=k.del hm' g
 exact ⟨w',hrun,_,.of k',qY e st⟩
theorem Ov (P:Ps) (code x:Int) (hr:aD P p=true):aD (dI P p code) x=if x=p then false else aD P x:=by
 obtain ⟨q,hq,_⟩:=dA.1 hr
 unfold aD
 rw [GY]
 by_cases e:x=p
 ·subst e
  rw [if_pos ⟨rfl,by rw [hq];rfl⟩,if_pos rfl];rfl
 ·rw [if_neg (fun z=>e z.1),if_neg e]
theorem uh.ends (k:uh S) (ho:S.O p=some o) (hj:o.j<S.Ts.length) (hl:S.Ms.length=S.Ts.length) (hinj:∀p' o',S.O p'=some o'→o'.j=o.j→p'=p) (code:Int):uh (dD S p o code):=by
 have hr:aD S.P p=true:=by rw [←k.run p,ho];rfl
 have hO:∀x o',jK S.O p x=some o'→x≠p∧S.O x=some o':=fun x o' e=>by
  unfold jK at e
  split at e
  ·cases e
  ·rename_i z;exact ⟨z,e⟩
 refine ⟨fun x=>?_,fun j hj' hn=>?_,fun x o' e=>k.fit x o' (hO x o' e).2⟩
 ·show (jK S.O p x).isSome=aD (dI S.P p code) x
  rw [Ov _ _ _ hr]
  unfold jK
  by_cases e:x=p
  ·rw [if_pos e,if_pos e];rfl
  ·rw [if_neg e,if_neg e];exact k.run x
 ·have hjl:j<S.Ts.length:=by
   have:j<(S.Ts.set o.j bQ).length:=hj'
   simpa using this
  have e1:au (dD S p o code) j=if j=o.j then bQ else au S j:=gY (S:=(S.procs (dI S.P p code)).space o.j lG S.W) hj (ah true S.D (au S o.j) 8).1 bQ j
  have e2:aC (dD S p o code) j=if j=o.j then lG else aC S j:=gB (S:=S.procs (dI S.P p code)) (by show o.j<S.Ms.length;omega) lG S.W j
  rw [e1,e2]
  by_cases ej:j=o.j
  ·rw [if_pos ej,if_pos ej];exact ⟨rfl,rfl⟩
  ·rw [if_neg ej,if_neg ej]
   refine k.gone j hjl (fun x o' e z=>?_)
   by_cases ex:x=p
   ·subst ex
    rw [ho] at e
    cases e
    exact ej z.symm
   ·exact hn x o' (by show jK S.O p x=some o';unfold jK;rw [if_neg ex];exact e) z
theorem KX.clear (h:KX w m H S U q A) (ho:S.O p=some o) (hq:q≤400) :
 Calls Tryz.prog 201 #[wp (H.hs o.j),wp H.f] w fun y w'=>y=.returned (.tuple #[])∧∃A',KX w' m H ((S.space o.j lG S.W).files (ah true S.D (au S o.j) 8).1 o.j (ah true S.D (au S o.j) 8).2) U q A'∧Stp w w' A A':=by
 have hj:=h.rR ho
 have d0:w.cell? ⟨H.hs o.j,0,none⟩=some (wp (H.sp o.j)):=(h.hd ho).at 0
 have hC:Calls Tryz.prog 158 #[wp (H.sp o.j)] w fun y w'=>y=.returned (.tuple #[])∧w'.cell? ⟨H.hs o.j,1,none⟩=some (wp (H.tb o.j))∧
  Calls Tryz.prog 283 #[wp H.f,wp (H.tb o.j)] w' fun y w2=>y=.returned (.tuple #[])∧∃A',KX w2 m H ((S.space o.j lG S.W).files (ah true S.D (au S o.j) 8).1 o.j (ah true S.D (au S o.j) 8).2) U q A'∧Stp w w2 A A':=by
  refine (h.Si hj).mono ?_
  rintro y w1 ⟨rfl,A1,h1,st1⟩
  refine ⟨rfl,(h1.hd (p:=p) (o:=o) ho).at 1,(h1.abA (o:=o) hj hq).mono ?_⟩
  rintro y w2 ⟨rfl,A2,h2,st2⟩
  exact ⟨rfl,A2,h2,st1.trans st2⟩
 generalize (S.space o.j lG S.W).files (ah true S.D (au S o.j) 8).1 o.j (ah true S.D (au S o.j) 8).2=S2 at *
 go_enter Tryz.func201,Tryz.ntmps201
 go_upto_region 1 with (go_at_call 158;refine hC.mono ?_;rintro e w1 ⟨rfl,c1,hE⟩)
 go_wp2_with (go_at_call 283;refine hE.mono ?_;rintro e w2 ⟨rfl,hR⟩)
 go_end0
 exact ⟨rfl,hR⟩
theorem KX.YG (h:KX w m H S U q A) (ho:S.O p=some o):(Lit.int .i64 p).wf=true:=Nj (h.key ho)
theorem KX.JG (h:KX w m H S U q A) (_ho:S.O p=some o):w.cell? ⟨H.kb,4,none⟩=some (.map (some H.gm))∧w.cell? ⟨H.kb,2,none⟩=some (wp H.f):=⟨h.c4,h.c2⟩
theorem KN.EA (h:KN w m H S q A) (ho:S.O p=some o) (hq:q≤400) (h1:p≠1) (code:Int) :
 Calls Tryz.prog 129 #[wp H.kb,.int .i64 p,.int .i64 code] w fun y w'=>y=.returned .nilIface∧∃A',KN w' m H (dD S p o code) q A'∧Stp w w' A A':=by
 have hj:=h.1.rR ho
 have wY:=h.1.mlt ho
 have c3:=h.1.c3
 have hr:aD S.P p=true:=by rw [←h.2.run p,ho];rfl
 have hE0:kV S.P p=0:=by unfold kV;rw [hr,if_neg (by simp),if_neg h1]
 have hX:Calls Tryz.prog 200 #[wp H.t,.int .i64 p,.int .i64 code] w fun y w'=>y=.returned .nilIface∧(w'.cell? ⟨H.kb,4,none⟩=some (.map (some H.gm))∧w'.cell? ⟨H.kb,2,none⟩=some (wp H.f))∧(Instr.lookup 64 (.map (some H.gm)) (.int .i64 p) false).run Tryz.prog w'.drew=.ok (wp (H.hs o.j)) w'.drew∧
  Calls Tryz.prog 201 #[wp (H.hs o.j),wp H.f] w'.drew fun y w2=>y=.returned (.tuple #[])∧(w2.cell? ⟨H.kb,4,none⟩=some (.map (some H.gm))∧w2.cell? ⟨H.kb,2,none⟩=some (wp H.f))∧∃w3,(∀ty,(Builtin.delete_ #[64,3] ty #[.map (some H.gm),.int .i64 p]).run Tryz.prog w2=.ok (.tuple #[]) w3)∧∃A',KN w3 m H (dD S p o code) q A'∧Stp w w3 A A':=by
  refine (h.1.Zm p code (h.1.YG ho)).mono ?_
  rintro y w1 ⟨rfl,A1,k1,st1⟩
  rw [if_pos hE0] at k1
  refine ⟨by rw [hE0];rfl,k1.JG (p:=p) (o:=o) ho,(k1.below (bH w1)).xu (p:=p) (o:=o) ho,((k1.below (bH w1)).clear (p:=p) (o:=o) ho hq).mono ?_⟩
  rintro y w2 ⟨rfl,A2,k2,st2⟩
  obtain ⟨w3,hrun,A3,k3,wW⟩:=k2.drop (p:=p) (h.1.YG ho)
  have st:Stp w w3 A A3:=(st1.trans (Stp.base (V:=w1.drew) rfl rfl rfl rfl st2)).trans wW
  have hz:(ah true S.D (au S o.j) 8).2=bQ:=by
   have hl8:(ah true S.D (au S o.j) 8).2.length=8:=by rw [(iF true S.D (au S o.j) 8).1];exact h.1.oW _
   refine SQ hl8 (PK _ (h.1.oW _)) (fun x hx=>(k2.inv.tab _ ?_).2 x hx)
   show _∈S.Ts.set o.j _
   exact List.mem_set hj _
  have e:((((S.procs (dI S.P p code)).space o.j lG S.W).files (ah true S.D (au S o.j) 8).1 o.j (ah true S.D (au S o.j) 8).2)).drop p=dD S p o code:=by rw [hz];rfl
  have k3':KX w3 m H (dD S p o code) (kZ S) q A3:=by rw [←e];exact k3
  refine ⟨rfl,k2.JG (p:=p) (o:=o) ho,w3,hrun,A3,k3'.toN (h.2.ends ho hj h.1.len (fun p' o' ho' ej=>h.1.inj ho' ho ej) code) (fun p' o' ho' k hk=>?_),st⟩
  have hO:p'≠p∧S.O p'=some o':=by
   have z:jK S.O p p'=some o':=ho'
   unfold jK at z
   split at z
   ·cases z
   ·rename_i y;exact ⟨y,z⟩
  have ej:o'.j≠o.j:=fun z=>hO.1 (h.1.inj hO.2 ho z)
  have e1:au (dD S p o code) o'.j=if o'.j=o.j then bQ else au S o'.j:=gY (S:=(S.procs (dI S.P p code)).space o.j lG S.W) hj (ah true S.D (au S o.j) 8).1 bQ o'.j
  have e2:aC (dD S p o code) o'.j=if o'.j=o.j then lG else aC S o'.j:=gB (S:=S.procs (dI S.P p code)) (by show o.j<S.Ms.length;omega) lG S.W o'.j
  unfold kZ
  rw [e1,e2,if_neg ej,if_neg ej]
 generalize dD S p o code=S2 at *
 go_enter Tryz.func129,Tryz.ntmps129
 go_upto_region 4 with (go_at_call 200;refine hX.mono ?_;rintro e w1 ⟨rfl,c0,l0,hC⟩)
 go_region_held3 (fun w'=>w'.cell? ⟨H.kb,4,none⟩=some (.map (some H.gm))∧w'.cell? ⟨H.kb,2,none⟩=some (wp H.f)) (first|exact c0|exact c1) (first
  |(go_at_call 201;refine hC.mono ?_;rintro e w2 ⟨rfl,c1,w3,hrun,hR⟩))
 all_goals
  obtain ⟨c4,c5⟩:=c1
  go_wp2_with (at_delete;refine nM rfl _ _ 64 3 rfl _ _ _ w3 rfl rfl hrun ?_)
  go_ret
  exact ⟨rfl,hR⟩
theorem KN.X3 (h:KN w m H S q A) (ho:S.O 1=some o) (code:Int) :
 Calls Tryz.prog 129 #[wp H.kb,.int .i64 1,.int .i64 code] w fun y w'=>y=.returned (eQ 6)∧∃A',KN w' m H S q A'∧Stp w w' A A':=by
 have c3:=h.1.c3
 have hr:aD S.P 1=true:=by rw [←h.2.run 1,ho];rfl
 have hE0:kV S.P 1=6:=by unfold kV;rw [hr,if_neg (by simp),if_pos rfl]
 have hX:Calls Tryz.prog 200 #[wp H.t,.int .i64 1,.int .i64 code] w fun y w'=>y=.returned (eQ 6)∧∃A',KN w' m H S q A'∧Stp w w' A A':=by
  refine (h.1.Zm 1 code (h.1.YG ho)).mono ?_
  rintro y w1 ⟨rfl,A1,k1,st1⟩
  rw [if_neg (by rw [hE0];omega)] at k1
  exact ⟨by rw [hE0,ax (by omega)],A1,⟨k1,h.2⟩,st1⟩
 go_enter Tryz.func129,Tryz.ntmps129
 go_wp2_with (go_at_call 200;refine hX.mono ?_;rintro e w1 ⟨rfl,hR⟩)
 go_ret
 exact ⟨rfl,hR⟩
def sP (p:Int):Int:=if p=1 then 6 else 0
noncomputable def sO (S:KS) (p:Int) (o:Ow) (code:Int):KS:=if p=1 then S else dD S p o code
theorem KN.X4 (h:KN w m H S q A) (ho:S.O p=some o) (hq:q≤400) (code:Int) :
 Calls Tryz.prog 129 #[wp H.kb,.int .i64 p,.int .i64 code] w fun y w'=>y=.returned (aI (sP p))∧∃A',KN w' m H (sO S p o code) q A'∧Stp w w' A A':=by
 unfold sP sO
 by_cases h1:p=1
 ·subst h1
  rw [if_pos rfl,if_pos rfl,ax (by omega)]
  exact h.X3 ho code
 ·rw [if_neg h1,if_neg h1,aB]
  exact h.EA ho hq h1 code
theorem KN.UE (h:KN w m H S q A) (ho:S.O p=some o) (hq:q≤400) (code:Int) :
 Calls Tryz.prog 97 #[wp H.kb,.int .i64 p,.int .i64 code] w fun y w'=>y=.returned (aI (sP p))∧∃A',KN w' m H (sO S p o code) q A'∧Stp w w' A A':=by
 have hF:=h.1.ay ho
 have hE:=h.X4 ho hq code
 generalize sO S p o code=S2 at *
 generalize sP p=E at *
 go_enter Tryz.func97,Tryz.ntmps97
 go_wp2_with (first
  |(go_at_call 127;refine hF.mono ?_;rintro e w1 ⟨rfl,hw⟩;subst w1)
  |(go_at_call 129;refine hE.mono ?_;rintro e w1 ⟨rfl,hR⟩))
 go_ret
 exact ⟨rfl,hR⟩
def kK (P:Ps) (n:Int) (f:Int→Bool):Ps:=vP P n (fun p=>{ p with wt:=f })
def iZ (P:Ps) (n:Int):Ps:=kK P n fI
theorem KN.take (h:KN w m H S q A) (hk:H.ok=true) (n:Int) (hn:(Lit.int .i64 n).wf=true):Calls Tryz.prog 128 #[wp H.t,.int .i64 n] w fun y w'=>y=.returned (.int .i64 (aO S.P n))∧∃A',KN w' m H (S.procs (dS S.P n)) q A'∧Stp w w' A A':=by
 refine (h.1.ac3 hk n hn).mono ?_
 rintro y w1 ⟨rfl,A1,k1,st1⟩
 exact ⟨rfl,A1,k1.yV h.2 (fun x=>Ot _ _ _),st1⟩
theorem KN.H5 (h:KN w m H S q A) (hk:H.ok=true) (ho:S.O p=some o) (hq:q≤400) (h1:p≠1) (hs:aO S.P p≠0) (hs8:aO S.P p≤8) :
 Calls Tryz.prog 76 #[wp H.kb,.int .i64 p] w fun y w'=>y=.returned (.tuple #[.bool true,.nilIface])∧∃A',KN w' m H (dD (S.procs (dS S.P p)) p o (100+aO S.P p)) q A'∧Stp w w' A A':=by
 have hF:=h.1.ay ho
 have c3:=h.1.c3
 have hT:Calls Tryz.prog 128 #[wp H.t,.int .i64 p] w fun y w'=>y=.returned (.int .i64 (aO S.P p))∧Calls Tryz.prog 129 #[wp H.kb,.int .i64 p,.int .i64 (100+aO S.P p)] w' fun y w2=>y=.returned .nilIface∧∃A',KN w2 m H (dD (S.procs (dS S.P p)) p o (100+aO S.P p)) q A'∧Stp w w2 A A':=by
  refine (h.take hk p (h.1.YG ho)).mono ?_
  rintro y w1 ⟨rfl,A1,k1,st1⟩
  refine ⟨rfl,(k1.EA (o:=o) ho hq h1 _).mono ?_⟩
  rintro y w2 ⟨rfl,A2,k2,st2⟩
  exact ⟨rfl,A2,k2,st1.trans st2⟩
 have hs0:0≤aO S.P p:=by
  unfold aO
  split
  ·omega
  ·cases hf:sigs.find? (Vo S.P p) with
   |none=>simp
   |some x=>have:=List.mem_of_find?_eq_some hf;simp [sigs] at this;simp;omega
 generalize dD (S.procs (dS S.P p)) p o (100+aO S.P p)=S2 at *
 have hw:IntKind.i64.wrap (100+aO S.P p)=100+aO S.P p:=by rw [IntKind.wrap_i64];omega
 have hw2:wrap64 (100+aO S.P p)=100+aO S.P p:=by unfold wrap64;omega
 generalize aO S.P p=X at *
 have hne:(X != 0)=true:=by simpa using hs
 have hn1:(p != 1)=true:=by simpa using h1
 go_enter Tryz.func76,Tryz.ntmps76
 go_wp2_with (first
  |(go_at_call 127;refine hF.mono ?_;rintro e w1 ⟨rfl,hw⟩;subst w1)
  |(go_at_call 128;refine hT.mono ?_;rintro e w1 ⟨rfl,hE⟩))
 go_loopg [8] 1 (fun _ s8 wr=>s8=.int .i64 X∧wr=w1)
 case atStart=>exact ⟨rfl,rfl⟩
 case round=>
  obtain ⟨rfl,rfl⟩:=hrel
  go_wp2_with (go_at_call 129;refine hE.mono ?_;rintro e w2 ⟨rfl,hR⟩)
  go_ret2
  exact ⟨rfl,hR⟩
theorem KN.H6 (h:KN w m H S q A) (hk:H.ok=true) (ho:S.O p=some o) (hs:aO S.P p=0) :
 Calls Tryz.prog 76 #[wp H.kb,.int .i64 p] w fun y w'=>y=.returned (.tuple #[.bool false,.nilIface])∧∃A',KN w' m H S q A'∧Stp w w' A A':=by
 have hF:=h.1.ay ho
 have c3:=h.1.c3
 have hT:=h.take hk p (h.1.YG ho)
 have e:dS S.P p=S.P:=by unfold dS;rw [if_pos hs]
 have e2:S.procs S.P=S:=rfl
 rw [hs,e,e2] at hT
 go_enter Tryz.func76,Tryz.ntmps76
 go_wp2_with (first
  |(go_at_call 127;refine hF.mono ?_;rintro e w1 ⟨rfl,hw⟩;subst w1)
  |(go_at_call 128;refine hT.mono ?_;rintro e w1 ⟨rfl,hR⟩))
 go_loopg [8] 1 (fun _ s8 wr=>s8=.int .i64 0∧wr=w1)
 case atStart=>exact ⟨rfl,rfl⟩
 case round=>
  obtain ⟨rfl,rfl⟩:=hrel
  go_wp2_with fail
  go_ret2
  exact ⟨rfl,hR⟩
def FE (f:Int→Bool):Nat:=(sigs.filter f).length
theorem Cg {P:Ps}{n:Int}{f:Int→Bool}(hr:aD P n=true):aO (kK P n f) n=(sigs.find? f).getD 0:=by
 unfold aO
 have h1:aD (kK P n f) n=true:=by rw [kK,yh (by intro q;rfl)];exact hr
 rw [h1,if_neg (by simp)]
 obtain ⟨q,hq,_⟩:=dA.1 hr
 have:Vo (kK P n f) n=f:=by unfold Vo kK;rw [RV hq];rfl
 rw [this]
theorem NZ {P:Ps}{n:Int}{f:Int→Bool}(hr:aD P n=true) (h0:(sigs.find? f).getD 0≠0):dS (kK P n f) n=kK P n (bY f ((sigs.find? f).getD 0) false):=by
 unfold dS
 rw [Cg hr,if_neg h0]
 unfold kK
 rw [aau]
theorem Qh {f:Int→Bool}{x:Int}(h:sigs.find? f=some x):FE (bY f x false)+1=FE f:=by
 have hx:x∈sigs:=List.mem_of_find?_eq_some h
 have hf:f x=true:=List.find?_some h
 have hnd:sigs.Nodup:=by decide
 unfold FE
 have:∀(l:List Int),l.Nodup→x∈l→(l.filter (bY f x false)).length+1=(l.filter f).length:=fun l=>by
  induction l with
  |nil=>intro _ h;cases h
  |cons y r ih=>
   intro hn hm
   have hy:=List.nodup_cons.1 hn
   by_cases e:y=x
   ·subst e
    have e1:bY f y false y=false:=by unfold bY;rw [if_pos rfl]
    rw [List.filter_cons_of_neg (by rw [e1];simp),List.filter_cons_of_pos hf,List.length_cons]
    congr 2
    refine List.filter_congr (fun z hz=>?_)
    unfold bY
    rw [if_neg (fun (c:z=y)=>hy.1 (c ▸ hz))]
   ·have e1:bY f x false y=f y:=by unfold bY;rw [if_neg e]
    have:=ih hy.2 (by rcases List.mem_cons.1 hm with z|z;exact absurd z.symm e;exact z)
    rw [List.filter_cons,List.filter_cons,e1]
    split
    ·simp only [List.length_cons];omega
    ·exact this
 exact this sigs hnd hx
theorem KN.JW (h:KN w m H S q A) (hk:H.ok=true) (ho:S.O 1=some o) :
 Calls Tryz.prog 76 #[wp H.kb,.int .i64 1] w fun y w'=>y=.returned (.tuple #[.bool false,.nilIface])∧∃A',KN w' m H (S.procs (iZ S.P 1)) q A'∧Stp w w' A A':=by
 have hF:=h.1.ay ho
 have hr:aD S.P 1=true:=by rw [←h.2.run 1,ho];rfl
 have hok:∀f,pX (kK S.P 1 f)→sigs.find? f=none→f=fI:=fun f jk hf=>by
  funext s
  show f s=false
  by_cases e:f s=true
  ·obtain ⟨q,hq,_⟩:=dA.1 hr
   have:=jk.wt 1 _ (by unfold kK;exact RV hq _) s e
   have hm:s∈sigs:=by simp [sigs];omega
   have:=List.find?_eq_none.1 hf s hm
   exact absurd e this
  ·simpa using e
 have hstep:∀(V:World) (f:Int→Bool) (A':Nat→Prop),KN V m H (S.procs (kK S.P 1 f)) q A'→Stp w V A A'→Calls Tryz.prog 128 #[wp H.t,.int .i64 1] V fun y w'=>∃x,y=.returned (.int .i64 x)∧((x=0∧(∃A',KN w' m H (S.procs (iZ S.P 1)) q A'∧Stp w w' A A'))∨(x≠0∧∃g,FE g+1=FE f∧∃A',KN w' m H (S.procs (kK S.P 1 g)) q A'∧Stp w w' A A')):=fun V f A' k st=>by
  refine (k.take hk 1 (by kernel_rfl)).mono ?_
  rintro y w1 ⟨rfl,A1,k1,st1⟩
  have e1:aO (S.procs (kK S.P 1 f)).P 1=(sigs.find? f).getD 0:=Cg hr
  refine ⟨_,rfl,?_⟩
  rw [e1]
  cases hf:sigs.find? f with
  |none=>
   left
   have e2:dS (S.procs (kK S.P 1 f)).P 1=kK S.P 1 f:=by
    unfold dS
    rw [e1,hf];rfl
   rw [e2] at k1
   obtain rfl:=hok f k1.1.Vi hf
   exact ⟨rfl,A1,k1,st.trans st1⟩
  |some x=>
   right
   have hx:x∈sigs:=List.mem_of_find?_eq_some hf
   have hx0:x≠0:=by simp [sigs] at hx;omega
   have e2:dS (S.procs (kK S.P 1 f)).P 1=kK S.P 1 (bY f x false):=by
    have:=NZ (P:=S.P) (n:=1) (f:=f) hr (by rw [hf];exact hx0)
    rw [hf] at this
    exact this
   rw [e2] at k1
   exact ⟨hx0,_,Qh hf,A1,k1,st.trans st1⟩
 obtain ⟨q1,hq1,_⟩:=dA.1 hr
 have e0:kK S.P 1 q1.wt=S.P:=by
  funext i
  unfold kK vP
  split
  ·rename_i z;subst z;rw [hq1];rfl
  ·rfl
 have h0:KN w m H (S.procs (kK S.P 1 q1.wt)) q A:=by rw [e0];exact h
 have hT:=hstep w q1.wt A h0 (Stp.refl _ _)
 have c3:=h.1.c3
 have HS:Aside _:=hstep
 have hc3:∀(V:World) (f:Int→Bool) (A':Nat→Prop),KN V m H (S.procs (kK S.P 1 f)) q A'→V.cell? ⟨H.kb,3,none⟩=some (wp H.t):=fun V f A' k=>k.1.c3
 have HC3:Aside _:=hc3
 generalize S.procs (iZ S.P 1)=S2 at *
 go_enter Tryz.func76,Tryz.ntmps76
 go_wp2_with (first
  |(go_at_call 127;refine hF.mono ?_;rintro e w1 ⟨rfl,hw⟩;subst w1)
  |(go_at_call 128;refine hT.mono ?_;rintro e w1 ⟨x,rfl,hR⟩))
 have HR:Aside _:=hR
 go_loopg [8] (FE q1.wt) (fun k s8 wr=>∃x:Int,s8=.int .i64 x∧Aside ((x=0∧(∃A',KN wr m H S2 q A'∧Stp w wr A A'))∨(x≠0∧∃g,FE g+1≤k∧∃A',KN wr m H (S.procs (kK S.P 1 g)) q A'∧Stp w wr A A')))
 case atStart=>
  refine ⟨x,rfl,?_⟩
  rcases HR.out with z|⟨z0,g,zg,z⟩
  ·exact .inl z
  ·exact .inr ⟨z0,g,by omega,z⟩
 case round=>
  obtain ⟨x9,rfl,hA⟩:=hrel
  by_cases hx:x9=0
  ·subst hx
   go_wp2_with fail
   go_ret2
   refine ⟨rfl,?_⟩
   rcases hA.out with z|z
   ·exact z.2
   ·exact absurd rfl z.1
  ·have hx':(x9 != 0)=true:=by simpa using hx
   obtain ⟨g,hg,A9,k9,st9⟩:∃g,FE g+1≤gk∧∃A',KN wr m H (S.procs (kK S.P 1 g)) q A'∧Stp w wr A A':=by
    rcases hA.out with z|z
    ·exact absurd z.1 hx
    ·exact z.2
   have c3:=HC3.out wr g A9 k9
   have hT:=HS.out wr g A9 k9 st9
   go_wp2_with (go_at_call 128;refine hT.mono ?_;rintro e w1 ⟨x,rfl,hR⟩)
   have HR:Aside _:=hR
   go_roundg (gk-1)
   case measure=>omega
   case rel=>
    refine ⟨x,by rfl,?_⟩
    rcases HR.out with z|⟨z0,g',zg,z⟩
    ·exact .inl z
    ·exact .inr ⟨z0,g',by omega,z⟩
end
def KH.add (H:KH) (j s t b:Nat):KH:={ H with hs:=fun i=>if i=j then b else H.hs i,sp:=fun i=>if i=j then s else H.sp i,tb:=fun i=>if i=j then t else H.tb i }
def KS.born (S:KS) (j:Nat):KS:={ S with D:=jg S.D (au S j),Ts:=S.Ts ++ [au S j],Ms:=S.Ms ++ [aC S j] }
section
variable {w w' w1 w2:World}{m:Int}{H:KH}{S:KS}{U:Nat→Nat→Int}{q:Nat}{G:KG}{A:Nat→Prop}{p:Int}{o:Ow}
theorem Xd (D:DS) (N:Ns):(jg D N).nx=D.nx:=by
 unfold jg
 have:∀(l:Ns) (D:DS),(l.foldl (fun D x=>if 0<x.1 then jr D x.1 else D) D).nx=D.nx:=fun l=>by
  induction l with
  |nil=>intro D;rfl
  |cons x r ih=>
   intro D
   rw [List.foldl_cons,ih]
   split<;>rfl
 exact this N D
theorem KM.y8 (h:KM w m H S U q G) (hq:q≤400) (ho:S.O p=some o) (hj:o.j<G.L.length) {c' gc':Nat}(t1:FW G.E w G.Av G.L w1 S.W (G.L ++ [(c',gc',G.L[o.j].2.2)])) (hc':w.heap.size≤c') (hc1:c'<w1.heap.size) :
 Calls Tryz.prog 230 #[wp H.f,wp (H.tb o.j)] w1 fun y w2=>∃t',y=.returned (wp t')∧Hd w2 (H.hs o.j) (H.sp o.j) (H.tb o.j) (U o.j) o.m o.fo∧
  ∃G',KM (w2.alloc (.cells (hcs c' t' (U o.j) o.m o.fo) 121)) m (H.add S.Ts.length c' t' w2.heap.size) (S.born o.j) U (q+1) G'∧G'.κ w2.heap.size=5∧(∀p' o',S.O p'=some o'→H.hs o'.j<w2.heap.size)∧Stp w (w2.alloc (.cells (hcs c' t' (U o.j) o.m o.fo) 121)) (fun i=>G.κ i≠0) (fun i=>G'.κ i≠0):=by
 obtain ⟨Av1,a1,f1,acr⟩:=t1
 have Fs:Wt (fun i=>G.κ i=1) w w1:=⟨f1.os,f1.tape,f1.output,f1.size,fun i hi hn=>f1.block i hi (fun ho=>hn (h.k1 i ho))⟩
 have k1:=h.kept (X:=1) ⟨by omega,by omega⟩ Fs
 have hjT:o.j<S.Ts.length:=by rw [←h.Ll];exact hj
 have hjb:o.j<G.bs.length:=by rw [h.Lb];exact hjT
 have Jf:=h.few
 have hF:=(k1.kd (by omega)).fork (by omega) hjb
 rw [h.tb _ hjb] at hF
 refine hF.mono ?_
 rintro y w2 ⟨Ad',rfl,kd2,st2⟩
 have hPj:G.L[o.j].2.2=aC S o.j:=by
  rw [pQ (by rw [h.len];exact hjT)]
  have:S.Ms=G.L.map (fun x=>x.2.2):=h.ms.symm
  simp only [this,List.getElem_map]
 have hAd:∀i,G.Ad i→i<w.heap.size:=fun i hi=>h.Bd i (by rw [h.k2 i hi];omega)
 -- what neither turned
 have hb:∀i c,G.κ i=c→c≠0→c≠1→c≠2→w2.heap[i]? = w.heap[i]? := fun i c e h0 h1 h2=>by
  have hi:i<w.heap.size:=h.Bd i (by omega)
  rw [st2.wt.block i (Nat.lt_of_lt_of_le hi f1.size) (fun z=>h2 (by rw [←e];exact h.k2 i z))]
  exact Fs.block i hi (fun z=>h1 (by rw [←e];exact z))
 have hz:∀i,G.κ i=0→i<w.heap.size→w2.heap[i]? = w.heap[i]? := fun i e hi=>by
  rw [st2.wt.block i (Nat.lt_of_lt_of_le hi f1.size) (fun z=>by have:=h.k2 i z;omega)]
  exact Fs.block i hi (fun z=>by omega)
 have hsz:w.heap.size≤w2.heap.size:=Nat.le_trans f1.size st2.wt.size
 have hd2:∀p' o',S.O p'=some o'→Hd w2 (H.hs o'.j) (H.sp o'.j) (H.tb o'.j) (U o'.j) o'.m o'.fo:=fun p' o' ho'=>(h.hold p' o' ho').keep (hb _ 5 (h.k5 p' o' ho') (by omega) (by omega) (by omega))
 have a2:Al G.E w2 S.W Av1 (G.L ++ [(c',gc',G.L[o.j].2.2)]):=by
  have hno:∀i,i<w1.heap.size→¬G.Ad i→w2.heap[i]? = w1.heap[i]? := fun i hi hn=>st2.wt.block i hi hn
  refine a1.keep (fun i hi=>hno i (a1.Dm hi) (fun z=>?_)) (hno _ a1.st.blt (fun z=>?_)) (hno _ a1.st.mlt (fun z=>?_)) (fun i hi=>hno _ (a1.sp i hi).sp.lt (fun z=>?_))
  ·have:=h.k1 i (acr i (hAd i z) hi)
   have:=h.k2 i z;omega
  ·have:=h.k2 _ z;have:=h.kE;omega
  ·have:=h.k2 _ z;have:=h.kB;omega
  ·by_cases e:i<G.L.length
   ·rw [List.getElem_append_left e] at z
    rw [h.sp i e] at z
    have:=h.k2 _ z;have:=h.ks i (by rw [←h.Ll];exact e);omega
   ·have e2:i=G.L.length:=by simp at hi;omega
    subst e2
    simp only [List.getElem_concat_length] at z
    have:=hAd _ z;omega
 let κ':Nat→Nat:=fun i=>if i<w.heap.size then G.κ i else if i=c' then 6 else if i=w2.heap.size then 5 else if i<w1.heap.size then 1 else if i<w2.heap.size then 2 else 0
 have ko:∀ {i c},c≠0→G.κ i=c→κ' i=c:=fun {i c} hc e=>by
  show (if i<w.heap.size then G.κ i else _)=c
  rw [if_pos (h.Bd i (by omega))];exact e
 have kz:∀ {i},i<w.heap.size→G.κ i=0→κ' i=0:=fun {i} hi e=>by
  show (if i<w.heap.size then G.κ i else _)=0
  rw [if_pos hi];exact e
 have hw2:w1.heap.size≤w2.heap.size:=st2.wt.size
 have ajO:c'≠w2.heap.size:=by omega
 have bA:Below w2.heap.size w2 (w2.alloc (.cells (hcs c' w1.heap.size (U o.j) o.m o.fo) 121)):=(Below.refl _ w2).alloc (Nat.le_refl _) _
 have hA3:(w2.alloc (.cells (hcs c' w1.heap.size (U o.j) o.m o.fo) 121)).heap.size=w2.heap.size+1:=by show (w2.heap.push _).size=_;rw [Array.size_push]
 obtain ⟨c,qj⟩:=h.qj
 obtain ⟨z,hm⟩:=h.map
 have hlen:S.Ts.length=G.L.length:=h.Ll.symm
 have hLc:(G.L ++ [(c',gc',G.L[o.j].2.2)]).length=S.Ts.length+1:=by simp [hlen]
 have kc':κ' c'=6:=by
  show (if c'<w.heap.size then _ else if c'=c' then 6 else _)=6
  rw [if_neg (by omega),if_pos rfl]
 have kb':κ' w2.heap.size=5:=by
  show (if w2.heap.size<w.heap.size then _ else if w2.heap.size=c' then _ else if w2.heap.size=w2.heap.size then 5 else _)=5
  rw [if_neg (by omega),if_neg (by omega),if_pos rfl]
 have kO:∀p' o',S.O p'=some o'→o'.j≠S.Ts.length:=fun p' o' ho'=>by have:=h.lt p' o' ho';omega
 have hsO:∀p' o',S.O p'=some o'→(H.add S.Ts.length c' w1.heap.size w2.heap.size).hs o'.j=H.hs o'.j:=fun p' o' ho'=>if_neg (kO p' o' ho')
 refine ⟨w1.heap.size,rfl,hd2 p o ho,⟨G.E,Av1,G.L ++ [(c',gc',G.L[o.j].2.2)],G.bs ++ [w1.heap.size],Ad',κ'⟩,?_,kb',fun p' o' ho'=>(hd2 p' o' ho').lt,?_⟩
 ·refine
   { head:=(bA.block _ (lt_of_heap ((hb _ 6 h.kk (by omega) (by omega) (by omega)).trans h.head))).trans ((hb _ 6 h.kk (by omega) (by omega) (by omega)).trans h.head)
     eb:=h.eb
     en:=h.en
     al:=a2.below bA
     ms:=?_
     sp:=fun x hx=>?_
     kd:=?_
     tb:=fun x hx=>?_
     qj:=⟨c,⟨(qj.toQM.keep (hb _ 6 h.kt (by omega) (by omega) (by omega)) (hb _ 3 h.k3 (by omega) (by omega) (by omega))).below bA,qj.ok,qj.dj⟩⟩
     map:=⟨z,?_⟩
     hold:=fun p' o' ho'=>?_
     hinj:=fun p1 o1 p2 o2 e1 e2 e3=>?_
     len:=?_
     lt:=fun p' o' ho'=>?_
     key:=h.key
     tab:=(h.tab.keep (hz _ h.Qz h.tab.lt)).keep (bA.block _ (h.tab.keep (hz _ h.Qz h.tab.lt)).lt)
     nx:=?_
     few:=?_
     k1:=fun i hi=>?_
     k2:=fun i hi=>?_
     k3:=ko (by omega) h.k3
     k4:=ko (by omega) h.k4
     k5:=fun p' o' ho'=>?_
     kk:=ko (by omega) h.kk
     kE:=ko (by omega) h.kE
     kB:=ko (by omega) h.kB
     kt:=ko (by omega) h.kt
     ks:=fun x hx=>?_
     km:=kz h.qi h.km
     ke:=kz h.qm h.ke
     Qz:=kz h.jX h.Qz
     Bd:=fun i hi=>?_ }
  ·show (G.L ++ [(c',gc',G.L[o.j].2.2)]).map _=S.Ms ++ [aC S o.j]
   rw [List.map_append,h.ms,List.map_cons,List.map_nil,hPj]
  ·by_cases e:x<G.L.length
   ·have:(G.L ++ [(c',gc',G.L[o.j].2.2)])[x]=G.L[x]:=List.getElem_append_left e
    simp only [this]
    rw [h.sp x e]
    show _=if x=S.Ts.length then c' else H.sp x
    rw [if_neg (by omega)]
   ·have e2:x=G.L.length:=by simp at hx;omega
    subst e2
    simp only [List.getElem_concat_length]
    show _=if G.L.length=S.Ts.length then c' else _
    rw [if_pos hlen.symm]
  ·have k3:=(kd2.below bA).more (k':=2*(q+1)) (by omega)
   have e:jg S.D (S.Ts[o.j]'hjT)=(S.born o.j).D:=by show _=jg S.D (au S o.j);rw [jc hjT]
   have e2:S.Ts ++ [S.Ts[o.j]'hjT]=(S.born o.j).Ts:=by show _=S.Ts ++ [au S o.j];rw [jc hjT]
   rw [←e,←e2]
   exact k3
  ·by_cases e:x<G.bs.length
   ·have:(G.bs ++ [w1.heap.size])[x]=G.bs[x]:=List.getElem_append_left e
    simp only [this]
    rw [h.tb x e]
    show _=if x=S.Ts.length then _ else H.tb x
    rw [if_neg (by have:=h.Lb;omega)]
   ·have e2:x=G.bs.length:=by simp at hx;omega
    subst e2
    simp only [List.getElem_concat_length]
    show _=if G.bs.length=S.Ts.length then w1.heap.size else _
    rw [if_pos h.Lb]
  ·have e:(fun x=>(S.O x).map (fun o=>wp ((H.add S.Ts.length c' w1.heap.size w2.heap.size).hs o.j)))=fun x=>(S.O x).map (fun o=>wp (H.hs o.j)):=by
    funext x
    cases hx:S.O x with
    |none=>rfl
    |some o'=>show some (wp ((H.add S.Ts.length c' w1.heap.size w2.heap.size).hs o'.j))=some (wp (H.hs o'.j));rw [hsO x o' hx]
   show aK _ H.gm z (fun x=>(S.O x).map (fun o=>wp ((H.add S.Ts.length c' w1.heap.size w2.heap.size).hs o.j)))
   rw [e]
   have h4:=hm.keep (hb _ 4 h.k4 (by omega) (by omega) (by omega))
   exact h4.keep (bA.block _ h4.lt)
  ·have e1:=hsO p' o' ho'
   have e2:(H.add S.Ts.length c' w1.heap.size w2.heap.size).sp o'.j=H.sp o'.j:=if_neg (kO p' o' ho')
   have e3:(H.add S.Ts.length c' w1.heap.size w2.heap.size).tb o'.j=H.tb o'.j:=if_neg (kO p' o' ho')
   rw [e1,e2,e3]
   exact (hd2 p' o' ho').below bA
  ·rw [hsO p1 o1 e1,hsO p2 o2 e2] at e3
   exact h.hinj p1 o1 p2 o2 e1 e2 e3
  ·show (S.Ms ++ [_]).length=(S.Ts ++ [_]).length
   rw [List.length_append,List.length_append,h.len];rfl
  ·show o'.j<(S.Ts ++ [_]).length
   rw [List.length_append];have:=h.lt p' o' ho';omega
  ·show (jg S.D (au S o.j)).nx≤_
   rw [Xd];have:=h.nx;omega
  ·show (S.Ts ++ [_]).length≤_
   rw [List.length_append];show S.Ts.length+1≤_;omega
  ·have hi':=a1.Dm hi
   by_cases e:i<w.heap.size
   ·exact ko (by omega) (h.k1 i (acr i e hi))
   ·have hne:i≠c':=fun ec=>by
     subst ec
     have hLl:G.L.length<(G.L ++ [(i,gc',G.L[o.j].2.2)]).length:=by simp
     have hs:=(a1.sp G.L.length hLl)
     have e9:(G.L ++ [(i,gc',G.L[o.j].2.2)])[G.L.length]=(i,gc',G.L[o.j].2.2):=by simp
     rcases hi with hi|⟨x,hx,hxe⟩
     ·have:=hs.mR
      rw [e9] at this
      exact this hi
     ·obtain ⟨j9,hj9,rfl⟩:=List.mem_iff_getElem.1 hx
      have h1:=hs.sp.head
      rw [e9] at h1
      obtain ⟨es,cl,hm9⟩:=(a1.sp j9 hj9).sp.map.isMap
      have:w1.heap[i]? = some (.map es cl):=by rw [hxe];exact hm9
      simp only at h1
      rw [this] at h1;cases h1
    show (if i<w.heap.size then _ else if i=c' then _ else if i=w2.heap.size then _ else if i<w1.heap.size then 1 else _)=1
    rw [if_neg e,if_neg hne,if_neg (by omega),if_pos hi']
  ·have hi':=kd2.lt i hi
   rcases st2.own i hi with z|z
   ·exact ko (by omega) (h.k2 i z)
   ·show (if i<w.heap.size then _ else if i=c' then _ else if i=w2.heap.size then _ else if i<w1.heap.size then _ else if i<w2.heap.size then 2 else _)=2
    rw [if_neg (by have:=f1.size;omega),if_neg (by omega),if_neg (by omega),if_neg (by omega),if_pos hi']
  ·rw [hsO p' o' ho']
   exact ko (by omega) (h.k5 p' o' ho')
  ·have hx':x<S.Ts.length+1:=by
    have:x<(S.Ts ++ [au S o.j]).length:=hx
    simpa using this
   show κ' (if x=S.Ts.length then c' else H.sp x)=6
   by_cases e:x=S.Ts.length
   ·rw [if_pos e];exact kc'
   ·rw [if_neg e];exact ko (by omega) (h.ks x (by omega))
  ·rw [hA3]
   have hi:κ' i≠0:=hi
   by_cases e:i<w.heap.size
   ·omega
   ·by_cases e1:i=c'
    ·omega
    ·by_cases e2:i=w2.heap.size
     ·omega
     ·have:κ' i=if i<w1.heap.size then 1 else if i<w2.heap.size then 2 else 0:=by
       show (if i<w.heap.size then _ else if i=c' then _ else if i=w2.heap.size then _ else if i<w1.heap.size then 1 else if i<w2.heap.size then 2 else 0)=_
       rw [if_neg e,if_neg e1,if_neg e2]
      rw [this] at hi
      split at hi
      ·omega
      ·split at hi
       ·omega
       ·exact absurd rfl hi
 ·refine ⟨⟨bA.os.trans (st2.wt.os.trans f1.os),bA.tape.trans (st2.wt.tape.trans f1.tape),bA.output.trans (st2.wt.output.trans f1.output),by rw [hA3];omega,fun i hi hn=>?_⟩,fun i hi=>?_⟩
  ·rw [bA.block i (by omega)]
   exact hz i (by simpa using hn) hi
  ·by_cases e:i<w.heap.size
   ·left
    have hi:κ' i≠0:=hi
    have:κ' i=G.κ i:=if_pos e
    rw [this] at hi;exact hi
   ·exact .inr (by omega)
theorem KM.put (h:KM w m H S U q G) {k:Int}(hk:S.O k=none) (QW:1≤k∧k≤24) {o':Ow}(hj:o'.j<S.Ts.length) (h5:G.κ (H.hs o'.j)=5) (hfree:∀p o,S.O p=some o→H.hs o.j≠H.hs o'.j) {U':Nat→Int}(hd:Hd w (H.hs o'.j) (H.sp o'.j) (H.tb o'.j) U' o'.m o'.fo) :
 ∃w',(Instr.mapUpdate 64 (.map (some H.gm)) (.int .i64 k) (wp (H.hs o'.j))).run Tryz.prog w=.ok () w'∧∃G',KM w' m H (S.own k o') (fun i=>if i=o'.j then U' else U i) q G'∧Stp w w' (fun i=>G.κ i≠0) (fun i=>G'.κ i≠0):=by
 obtain ⟨z,hm⟩:=h.map
 have hzl:z<maxLen:=by
  have:=(hm.isN).few (B:=24) (by omega) (fun x hx=>by
   rw [Option.isSome_map] at hx
   obtain ⟨o9,h9⟩:=Option.isSome_iff_exists.1 hx
   have:=h.key x o9 h9;omega)
  unfold maxLen;omega
 obtain ⟨w',hrun,hm',g⟩:=hm.put Tryz.underlying64 hzl k (Nj QW) (wp (H.hs o'.j))
 have wt:Wt (fun i=>G.κ i=4) w w':=⟨g.os,g.tape,g.output,g.size,fun i hi hn=>g.block i hi (fun e=>hn (by cases e;exact h.k4))⟩
 have kp:=h.kept (X:=4) ⟨by omega,by omega⟩ wt
 have acI:=h.Bd
 have keep:∀ {i c},c≠0→G.κ i=c→tg G.κ 4 w w' i=c:=fun hc e=>uF acI hc e
 have hO:∀x o9,kL S.O k o' x=some o9→(x=k∧o9=o')∨(x≠k∧S.O x=some o9):=fun x o9 e=>by
  by_cases ex:x=k
  ·rw [ex,eH] at e;exact .inl ⟨ex,(Option.some.inj e).symm⟩
  ·rw [iX ex] at e;exact .inr ⟨ex,e⟩
 refine ⟨w',hrun,⟨G.E,G.Av,G.L,G.bs,G.Ad,tg G.κ 4 w w'⟩,⟨kp.head,h.eb,h.en,kp.al (by omega),h.ms,h.sp,kp.kd (by omega),h.tb,kp.qj (by omega),?_,fun x o9 e=>?_,fun x o1 y o2 e1 e2 e3=>?_,h.len,fun x o9 e=>?_,fun x o9 e=>?_,kp.tab,h.nx,h.few,fun i hi=>keep (by omega) (h.k1 i hi),fun i hi=>keep (by omega) (h.k2 i hi),keep (by omega) h.k3,keep (by omega) h.k4,fun x o9 e=>?_,keep (by omega) h.kk,keep (by omega) h.kE,keep (by omega) h.kB,keep (by omega) h.kt,fun x hx=>keep (by omega) (h.ks x hx),gu h.qi h.km,gu h.qm h.ke,gu h.jX h.Qz,FJ acI wt.size⟩,yR wt (by omega)⟩
 ·refine ⟨if ((S.O k).map (fun o=>wp (H.hs o.j))).isSome then z else z+1,?_⟩
  have e:(fun x=>(kL S.O k o' x).map (fun o=>wp (H.hs o.j)))=fun x=>if x=k then some (wp (H.hs o'.j)) else (S.O x).map (fun o=>wp (H.hs o.j)):=by
   funext x
   by_cases ex:x=k
   ·rw [ex,eH,if_pos rfl];rfl
   ·rw [iX ex,if_neg ex]
  show aK w' H.gm (if ((S.O k).map (fun o=>wp (H.hs o.j))).isSome then z else z+1) (fun x=>(kL S.O k o' x).map (fun o=>wp (H.hs o.j)))
  rw [e];exact hm'
 ·rcases hO x o9 e with ⟨rfl,rfl⟩|⟨hne,z9⟩
  ·simp only [if_true]
   exact hd.keep (g.block _ hd.lt (fun e=>by
    have:=h.k4;rw [←Option.some.inj e] at this;omega))
  ·have hne2:o9.j≠o'.j:=fun ej=>hfree x o9 z9 (by rw [ej])
   simp only [if_neg hne2]
   exact kp.hold (by omega) x o9 z9
 ·rcases hO x o1 e1 with ⟨rfl,rfl⟩|⟨hne,z9⟩<;>rcases hO y o2 e2 with ⟨rfl,rfl⟩|⟨hne2,z8⟩
  ·rfl
  ·exact absurd e3.symm (hfree y o2 z8)
  ·exact absurd e3 (hfree x o1 z9)
  ·exact h.hinj x o1 y o2 z9 z8 e3
 ·rcases hO x o9 e with ⟨rfl,rfl⟩|⟨hne,z9⟩
  ·exact hj
  ·exact h.lt x o9 z9
 ·rcases hO x o9 e with ⟨rfl,rfl⟩|⟨hne,z9⟩
  ·exact QW
  ·exact h.key x o9 z9
 ·rcases hO x o9 e with ⟨rfl,rfl⟩|⟨hne,z9⟩
  ·exact keep (by omega) h5
  ·exact keep (by omega) (h.k5 x o9 z9)
end
end Go.Proofs.YtippochapiolpaaGreatDoor

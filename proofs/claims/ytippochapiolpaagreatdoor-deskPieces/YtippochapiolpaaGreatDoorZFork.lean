/- Ours. -/
import Derived.Test.YtippochapiolpaaGreatDoorDFlat2
import Derived.Test.YtippochapiolpaaGreatDoorVPg
import Derived.Test.YtippochapiolpaaGreatDoorZPay
import Derived.Test.YtippochapiolpaaGreatDoorJProg8
set_option maxHeartbeats 4000000
set_option maxRecDepth 100000
namespace Go.Proofs.YtippochapiolpaaGreatDoor
open Go.Proofs.Tryz(func76 func92 ntmps76 ntmps92 prog underlying64)
open List(filter_cons getD_eq_getElem?_getD getElem_append_left getElem_concat_length getElem_map length_append length_cons length_set map_cons map_nil mem_append mem_cons mem_singleton set_set)
open Nat(le_refl lt_of_lt_of_le)
open Go.World(block_lt_of_cell?)
section
open Go.RowKit Go.Maps
section
variable {w w' w2 w0 w1:World}{f r b n k k' j:Nat}{D D':DS}{g g':QG}{bs:List Nat}{Ts:List Ns}{M N N':Ns}{d m:Int}{A:Nat→Prop}
theorem KD.close(h:KD w m f r D bs Ts k A)(hk:k<=900)(hj:j<bs.length)(x:Int):Calls prog 148 #[wp f,wp bs[j],.int .i64 x] w fun y w'=>∃D' N' A',(y=.returned (aI (if aJ (Ts[j]'(h.jT hj)) x=true then 0 else 7))/\D'=iT D (Ts[j]'(h.jT hj)) x/\N'=gW (Ts[j]'(h.jT hj)) x)/\KD w' m f r D' bs (Ts.set j N') k A'/\Stp w w' A A':=by
 have hI:=h.inv.abk hk (h.jT hj) x;refine h.call hj (Q:=fun y D' N'=>y=.returned (aI (if aJ (Ts[j]'(h.jT hj)) x=true then 0 else 7))/\D'=iT D (Ts[j]'(h.jT hj)) x/\N'=gW (Ts[j]'(h.jT hj)) x) (fun g n9 M hj' q t _=>?_) (fun y D' N' hq=>?_)
 ·by_cases hx:aJ (Ts[j]'hj') x=true
  ·obtain⟨i,rfl,hi,aG,h0⟩:=dU hx t.len;obtain⟨e,cl⟩:=h.inv.cl hj' aG h0;have e1:iT D (Ts[j]'hj') i=aT D (Ts[j]'hj')[i].1:=by unfold iT;rw[if_pos hx,getD_in aG]
   have e2:gW (Ts[j]'hj') i=(Ts[j]'hj').set i (0,false):=by unfold gW;rw[if_pos hx,show (i:Int).toNat=i by omega]
   have hjs:j<(Ts.set j (gW (Ts[j]'hj') i)).length:=by rw[length_set];exact hj'
   have hl:=hI.live hjs;rw[oF hj' _ hjs,e1,e2] at hl;refine(q.zM t hi aG h0 cl hl).mono ?_;rintro y w' ⟨rfl,hG⟩;exact⟨_,_,⟨by rw[if_pos hx];rfl,rfl,rfl⟩,by rw[e1,e2];exact hG⟩
  ·have hx':aJ (Ts[j]'hj') x=false:=by simpa using hx
   refine(q.UW t x hx').mono ?_;rintro y w' ⟨rfl,hG⟩;exact⟨_,_,⟨by rw[if_neg hx];rfl,(if_neg hx).symm,(if_neg hx).symm⟩,hG⟩
 ·obtain⟨_,rfl,rfl⟩:=hq;exact hI
theorem KD.dup2(h:KD w m f r D bs Ts k A)(hk:k<=900)(hj:j<bs.length)(x y9:Int):Calls prog 156 #[wp f,wp bs[j],.int .i64 x,.int .i64 y9] w fun y w'=>∃D' N' A',(y=.returned (aI (fu (Ts[j]'(h.jT hj)) x y9))/\D'=fQ D (Ts[j]'(h.jT hj)) x y9/\N'=fq (Ts[j]'(h.jT hj)) x y9)/\KD w' m f r D' bs (Ts.set j N') k A'/\Stp w w' A A':=by
 have hI:=h.inv.adu hk (h.jT hj) x y9;refine h.call hj (Q:=fun y D' N'=>y=.returned (aI (fu (Ts[j]'(h.jT hj)) x y9))/\D'=fQ D (Ts[j]'(h.jT hj)) x y9/\N'=fq (Ts[j]'(h.jT hj)) x y9) (fun g n9 M hj' q t _=>?_) (fun y D' N' hq=>?_)
 ·by_cases hx:aJ (Ts[j]'hj') x=true
  ·by_cases hy:0<=y9/\y9<=7
   ·have e0:fu (Ts[j]'hj') x y9=0:=by unfold fu;rw[if_pos hx,if_pos hy]
    by_cases hne:x=y9
    ·subst hne;have e1:fQ D (Ts[j]'hj') x x=D:=if_neg (fun z=>z.2 rfl);have e2:fq (Ts[j]'hj') x x=Ts[j]'hj':=if_neg (fun z=>z.2 rfl);refine(q.P8 t x hx).mono ?_;rintro y w' ⟨rfl,hG⟩;exact⟨_,_,⟨by rw[e0];rfl,rfl,rfl⟩,by rw[e1,e2];exact hG⟩
    ·obtain⟨i,rfl,hi,aG,h0⟩:=dU hx t.len;obtain⟨i2,rfl⟩:∃i2:Nat,y9=i2:=⟨y9.toNat,by omega⟩;have Dy:i2<(Ts[j]'hj').length:=by rw[t.len];omega
     have e1:fQ D (Ts[j]'hj') i i2=if (Ts[j]'hj')[i2].1=0 then jq D (Ts[j]'hj')[i].1 else aT (jq D (Ts[j]'hj')[i].1) (Ts[j]'hj')[i2].1:=by
      unfold fQ;rw[if_pos ⟨e0,hne⟩,getD_in aG,getD_in Dy]
     have e2:fq (Ts[j]'hj') i i2=(Ts[j]'hj').set i2 ((Ts[j]'hj')[i].1,false):=by
      unfold fq;rw[if_pos ⟨e0,hne⟩,getD_in aG,show (i2:Int).toNat=i2 by omega]
     have hjs:j<(Ts.set j (fq (Ts[j]'hj') i i2)).length:=by rw[length_set];exact hj'
     have hl:=hI.live hjs;rw[oF hj' _ hjs,e2] at hl;have hnn:=h.inv.nn hj' _ (List.getElem_mem Dy);refine(q.X3 t hi (j:=i2) (by omega) aG Dy (fun z=>hne (by rw[z])) h0 (h.inv.LC hj') (D2:=fQ D (Ts[j]'hj') i i2) ?_ hl).mono ?_
     ·by_cases z0:(Ts[j]'hj')[i2].1=0
      ·exact .inl ⟨z0,by rw[e1,if_pos z0]⟩
      ·refine .inr ⟨by omega,by rw[e1,if_neg z0],?_⟩;exact(h.inv.dup2 hk hj' Dy (by omega) h0 (fK hj' aG)).2
     ·rintro y w' ⟨rfl,hG⟩;exact⟨_,_,⟨by rw[e0];rfl,rfl,rfl⟩,by rw[e2];exact hG⟩
   ·have e0:fu (Ts[j]'hj') x y9=2:=by unfold fu;rw[if_pos hx,if_neg hy]
    refine(q.KT t x y9 hx hy).mono ?_;rintro y w' ⟨rfl,hG⟩;exact⟨_,_,⟨by rw[e0];rfl,(if_neg (fun z=>by rw[e0] at z;omega)).symm,(if_neg (fun z=>by rw[e0] at z;omega)).symm⟩,hG⟩
  ·have hx':aJ (Ts[j]'hj') x=false:=by simpa using hx
   have e0:fu (Ts[j]'hj') x y9=7:=if_neg hx;refine(q.EB t x y9 hx').mono ?_;rintro y w' ⟨rfl,hG⟩;exact⟨_,_,⟨by rw[e0];rfl,(if_neg (fun z=>by rw[e0] at z;omega)).symm,(if_neg (fun z=>by rw[e0] at z;omega)).symm⟩,hG⟩
 ·obtain⟨_,rfl,rfl⟩:=hq;exact hI
theorem KD.pipe(h:KD w m f r D bs Ts k A)(hn:D.nx<4990)(hj:j<bs.length){n:Nat}(hN:p9 D.E n):Calls prog 177 #[wp f,wp bs[j]] w fun z w'=>∃D' N' A',(∃x y c,z=.returned (.tuple #[.int .i64 x,.int .i64 y,aI c])/\rX D (Ts[j]'(h.jT hj)) n x y c D' N')/\KD w' m f r D' bs (Ts.set j N') k A'/\Stp w w' A A':=by
 refine h.call hj (Q:=fun z D' N'=>∃x y c,z=.returned (.tuple #[.int .i64 x,.int .i64 y,aI c])/\rX D (Ts[j]'(h.jT hj)) n x y c D' N') (fun g n9 M hj' q t _=>?_) (fun y D' N' hq=>?_)
 ·obtain rfl:=hN.one q.yF;by_cases hf:vV (Ts[j]'hj') n
  ·refine(q.WG t hf (q.few h.inv.core.jW)).mono ?_;rintro y w' ⟨rfl,hG⟩;exact⟨_,_,⟨0,0,12,rfl,.inl ⟨hf,rfl,rfl,rfl,rfl,rfl⟩⟩,hG⟩
  ·obtain⟨l1,l2⟩:=h.inv.Ct hj' hf;have g:=h.inv.core.jW;refine(q.zA t g hn (fun d e he=>?_) hf l1 l2 (h.inv.live hj')).mono ?_
   ·by_cases hk:e.kind=1
    ·exact .inr hk
    ·have:=((h.inv.core.gz d e he).pipe hk).2.1;exact .inl (by omega)
   ·rintro y w' ⟨rfl,hG⟩;exact⟨_,_,⟨_,_,0,rfl,.inr ⟨hf,rfl,rfl,rfl,rfl,rfl⟩⟩,hG⟩
 ·obtain⟨x,y,c,_,hP⟩:=hq;rcases hP with⟨_,_,_,_,rfl,rfl⟩|⟨hf,_,_,_,rfl,rfl⟩
  ·exact h.inv.lu (h.jT hj)
  ·obtain⟨l1,l2⟩:=h.inv.Ct (h.jT hj) hf;exact h.inv.pipe hn (h.jT hj) l1 l2
theorem KD.read(h:KD w m f r D bs Ts k A)(hj:j<bs.length)(x a:Int):Calls prog 179 #[wp f,wp bs[j],.int .i64 x,.int .i64 a] w fun y w'=>∃D' N' A',(y=.returned (.tuple #[tx (bR D (Ts[j]'(h.jT hj)) x a).1,aI (bR D (Ts[j]'(h.jT hj)) x a).2.1])/\D'=(bR D (Ts[j]'(h.jT hj)) x a).2.2/\N'=Ts[j]'(h.jT hj))/\KD w' m f r D' bs (Ts.set j N') k A'/\Stp w w' A A':=by
 refine h.call hj (Q:=fun y D' N'=>y=.returned (.tuple #[tx (bR D (Ts[j]'(h.jT hj)) x a).1,aI (bR D (Ts[j]'(h.jT hj)) x a).2.1])/\D'=(bR D (Ts[j]'(h.jT hj)) x a).2.2/\N'=Ts[j]'(h.jT hj)) (fun g n9 M hj' q t _=>?_) (fun y D' N' hq=>?_)
 ·by_cases hx:aJ (Ts[j]'hj') x=true
  ·obtain⟨i,rfl,hi,aG,h0⟩:=dU hx t.len;obtain⟨e,he⟩:=Option.isSome_iff_exists.1 (h.inv.live hj' i aG h0);have ok:=h.inv.core.gz _ e he;by_cases hp2:e.af=2
   ·rw[Ic hi aG h0 he hp2];refine(q.Mf t i a 13 (by omega) (q.vv t hi aG h0 he 1 (.inl ⟨rfl,hp2⟩))).mono ?_;rintro y w' ⟨rfl,hG⟩;exact⟨_,_,⟨rfl,rfl,rfl⟩,hG⟩
   ·by_cases hk:e.kind=1
    ·obtain⟨a1,a2,a3,a4,a5,a6⟩:=ok.file hk;rw[J5 hi aG h0 he hk hp2];have hl:=Co (x:=e.node) (c:=a) h.inv.core.sm a5 a6;refine(q.OA t hi aG h0 he a hk (by omega) ⟨a3,a4⟩ ⟨a5,a6⟩ (by omega)).mono ?_;rintro y w' ⟨rfl,hG⟩;exact⟨_,_,⟨rfl,rfl,rfl⟩,hG⟩
    ·obtain⟨a1,a2,p,a3,a4,a5,a6,a7,a8⟩:=ok.pipe hk;have hpr:e.af=1:=by
      rcases ok.kind with z|z|z
      ·exact absurd z hk
      ·exact ok.aR z
      ·exact absurd (ok.into z) hp2
     rw[OC hi aG h0 he hk hp2 a3];refine(q.Tq t hi aG h0 he a hk (.inl hpr) a3 a7).mono ?_;rintro y w' ⟨rfl,hG⟩;exact⟨_,_,⟨rfl,rfl,rfl⟩,hG⟩
  ·have hx':aJ (Ts[j]'hj') x=false:=by simpa using hx
   rw[Tu hx'];refine(q.Mf t x a 7 (by omega) (q.Ca t x 1 hx')).mono ?_;rintro y w' ⟨rfl,hG⟩;exact⟨_,_,⟨rfl,rfl,rfl⟩,hG⟩
 ·obtain⟨_,rfl,rfl⟩:=hq;exact(h.inv.read (h.jT hj) x a).lu (h.jT hj)
theorem KD.write(h:KD w m f r D bs Ts k A)(hj:j<bs.length)(x:Int)(s:List UInt8)(hs:s.length<100000)(a:Int):Calls prog 187 #[wp f,wp bs[j],.int .i64 x,tx s,.int .i64 a] w fun y w'=>∃D' N' A',(y=.returned (.tuple #[.int .i64 (bZ D (Ts[j]'(h.jT hj)) x s a).1,aI (bZ D (Ts[j]'(h.jT hj)) x s a).2.1])/\D'=(bZ D (Ts[j]'(h.jT hj)) x s a).2.2/\N'=Ts[j]'(h.jT hj))/\KD w' m f r D' bs (Ts.set j N') (k+1) A'/\Stp w w' A A':=by
 refine h.call hj (Q:=fun y D' N'=>y=.returned (.tuple #[.int .i64 (bZ D (Ts[j]'(h.jT hj)) x s a).1,aI (bZ D (Ts[j]'(h.jT hj)) x s a).2.1])/\D'=(bZ D (Ts[j]'(h.jT hj)) x s a).2.2/\N'=Ts[j]'(h.jT hj)) (fun g n9 M hj' q t _=>?_) (fun y D' N' hq=>?_)
 ·by_cases hx:aJ (Ts[j]'hj') x=true
  ·obtain⟨i,rfl,hi,aG,h0⟩:=dU hx t.len;obtain⟨e,he⟩:=Option.isSome_iff_exists.1 (h.inv.live hj' i aG h0);have ok:=h.inv.core.gz _ e he;by_cases hp1:e.af=1
   ·rw[EM hi aG h0 he hp1];refine(q.FZ t i s a 13 (by omega) (q.vv t hi aG h0 he 2 (.inr ⟨rfl,hp1⟩))).mono ?_;rintro y w' ⟨rfl,hG⟩;exact⟨_,_,⟨rfl,rfl,rfl⟩,hG⟩
   ·by_cases hk:e.kind=1
    ·obtain⟨a1,a2,a3,a4,a5,a6⟩:=ok.file hk;by_cases hl:o5 s a e.pos
     ·rw[EL hi aG h0 he hk hp1 hl];refine(q.Hm t hi aG h0 he s a hk (by omega) ⟨a5,a6⟩ hs hl).mono ?_;rintro y w' ⟨rfl,hG⟩;exact⟨_,_,⟨rfl,rfl,rfl⟩,hG⟩
     ·refine(q.JL t hi aG h0 he s a hk (by omega) ⟨a3,a4⟩ ⟨a5,a6⟩ hs h.inv.core.lv hl).mono ?_;rintro y w' (⟨hE,rfl,hG⟩|⟨hE,rfl,hG⟩)
      ·rw[JN hi aG h0 he hk hp1 hl hE];exact⟨_,_,⟨by rw[ax hE],rfl,rfl⟩,hG⟩
      ·rw[Hq hi aG h0 he hk hp1 hl hE];exact⟨_,_,⟨rfl,rfl,rfl⟩,hG⟩
    ·obtain⟨a1,a2,p,a3,a4,a5,a6,a7,a8⟩:=ok.pipe hk;have hpr:e.af=2:=by
      rcases ok.kind with z|z|z
      ·exact absurd z hk
      ·exact absurd (ok.aR z) hp1
      ·exact ok.into z
     rw[JM hi aG h0 he hk hp1 a3];refine(q.Ny t hi aG h0 he s a hk (.inl hpr) a3).mono ?_;rintro y w' ⟨rfl,hG⟩;exact⟨_,_,⟨rfl,rfl,rfl⟩,hG⟩
  ·have hx':aJ (Ts[j]'hj') x=false:=by simpa using hx
   rw[NA hx'];refine(q.FZ t x s a 7 (by omega) (q.Ca t x 2 hx')).mono ?_;rintro y w' ⟨rfl,hG⟩;exact⟨_,_,⟨rfl,rfl,rfl⟩,hG⟩
 ·obtain⟨_,rfl,rfl⟩:=hq;exact(h.inv.write (h.jT hj) x s a).lu (h.jT hj)
theorem KD.clear(h:KD w m f r D bs Ts k A)(d:k<=900)(a:j<bs.length):Calls prog 283 #[wp f,wp bs[j]] w fun y b=>∃D' N' e,(y=.returned (.tuple #[])/\D'=(ah true D (Ts[j]'(h.jT a)) 8).1/\N'=(ah true D (Ts[j]'(h.jT a)) 8).2)/\KD b m f r D' bs (Ts.set j N') k e/\Stp w b A e:=by
 refine h.call a (Q:=fun y D' N'=>y=.returned (.tuple #[])/\D'=(ah true D (Ts[j]'(h.jT a)) 8).1/\N'=(ah true D (Ts[j]'(h.jT a)) 8).2) (fun g n M c q t _=>?_) (fun y D' N' i=>?_)
 ·refine(q.zN t h.inv d c rfl).mono ?_;rintro y b ⟨rfl,l⟩;exact⟨_,_,⟨rfl,rfl,rfl⟩,l⟩
 ·obtain⟨_,rfl,rfl⟩:=i;exact h.inv.free d (h.jT a) true 8 (by omega)
theorem KD.exec(h:KD w m f r D bs Ts k A)(d:k<=900)(a:j<bs.length):Calls prog 159 #[wp f,wp bs[j]] w fun y b=>∃D' N' e,(y=.returned (.tuple #[])/\D'=(ah false D (Ts[j]'(h.jT a)) 8).1/\N'=(ah false D (Ts[j]'(h.jT a)) 8).2)/\KD b m f r D' bs (Ts.set j N') k e/\Stp w b A e:=by
 refine h.call a (Q:=fun y D' N'=>y=.returned (.tuple #[])/\D'=(ah false D (Ts[j]'(h.jT a)) 8).1/\N'=(ah false D (Ts[j]'(h.jT a)) 8).2) (fun g n M c q t _=>?_) (fun y D' N' i=>?_)
 ·refine(q.XU t h.inv d c rfl).mono ?_;rintro y b ⟨rfl,l⟩;exact⟨_,_,⟨rfl,rfl,rfl⟩,l⟩
 ·obtain⟨_,rfl,rfl⟩:=i;exact h.inv.free d (h.jT a) false 8 (by omega)
theorem KD.fork(h:KD w m f r D bs Ts k A)(hf:Ts.length<500)(hj:j<bs.length):Calls prog 230 #[wp f,wp bs[j]] w fun y w'=>∃A',y=.returned (wp w.heap.size)/\KD w' m f r (jf D (Ts[j]'(h.jT hj))) (bs++[w.heap.size]) (Ts++[Ts[j]'(h.jT hj)]) k A'/\Stp w w' A A':=by
 obtain⟨g,n,h1,hr,ht,hA⟩:=h.st;have hj':=h.jT hj;obtain⟨M,tj⟩:=ht j hj hj';refine(h1.uP tj h.inv hj' rfl).mono ?_;rintro y w' ⟨rfl,a1,a2,a3,wt⟩;have hst:Stp w w' A (fun i=>A i\/(w.heap.size<=i/\i<w'.heap.size)):=⟨wt.mono hA,fun i hi=>by
  rcases hi with hi|hi
  ·exact .inl hi
  ·exact .inr hi.1⟩
 have hbl:∀x∈bs,x<w.heap.size:=fun x hx=>h.lt x (h.Vf x hx);refine⟨_,rfl,⟨⟨g,n,a1,hr,fun x hx hx'=>?_,fun i hi=>.inl (hA i hi)⟩,by rw[length_append,length_append,h.len];rfl,?_,fun b hb=>?_,h.inv.fork hf hj',fun i hi=>?_,(hst.cO h.ml h.mn).1,(hst.cO h.ml h.mn).2,(hst.cO h.er h.en).1,(hst.cO h.er h.en).2⟩,hst⟩
 ·by_cases e1:x<bs.length
  ·have e2:x<Ts.length:=by rw[<-h.len];exact e1
   rw[getElem_append_left e1,getElem_append_left e2];obtain⟨Mx,tx⟩:=ht x e1 e2;exact⟨Mx,tx.keep (wt.block _ tx.tab.lt (by rw[tx.off];simp))⟩
  ·have e3:x=bs.length:=by rw[length_append] at hx;simp at hx;omega
   have e4:x=Ts.length:=by rw[<-h.len];exact e3
   subst e3;rw[getElem_concat_length rfl];have:(Ts++[Ts[j]])[bs.length]'hx'=Ts[j]:=by
    rw[List.getElem_append_right (by omega)];simp
   rw[this];exact⟨M,a3⟩
 ·rw[List.nodup_append];exact⟨h.nd,by simp,fun a ha b hb e=>by rw[mem_singleton.1 hb] at e;have:=hbl a ha;omega⟩
 ·rcases mem_append.1 hb with z|z
  ·exact .inl (h.Vf b z)
  ·rw[mem_singleton.1 z];exact .inr ⟨le_refl _,a3.tab.lt⟩
 ·rcases hi with hi|hi
  ·exact lt_of_lt_of_le (h.lt i hi) wt.size
  ·exact hi.2
end
abbrev bQ:Ns:=List.replicate 8 (0,false)
def KW(w0 w:World)(m:Int)(f r:Nat)(D:DS)(bs:List Nat)(Ts:List Ns)(k:Nat):Prop:=∃A,KD w m f r D bs Ts k A/\(∀i,A i->w0.heap.size<=i)/\Below w0.heap.size w0 w
section
variable {w w' w2 w0 w1:World}{f r b n k k' j:Nat}{D D':DS}{g g':QG}{bs:List Nat}{Ts Ts':List Ns}{M N N':Ns}{d m:Int}{A A':Nat→Prop}
theorem Inv.none{T:Wd}{k:Nat}(b:bu T)(a:Sm k T):Inv (qh T) [] k:=
 ⟨⟨Il T,b,a,fun d e h=>(by cases h),fun d _=>by simp[qh,jv],fun d _=>by simp[qh,jv]⟩,fun N c=>(by cases c),by simp⟩
theorem We:Sm 0 jc:=⟨fun i C e=>by
 obtain⟨_,a⟩:=bE e;cases a;simp,fun i b x e=>by
 obtain⟨_,a⟩:=bE e;cases a⟩
theorem KW.first(w:World)(o:w.cell? ⟨4,0,none⟩=some (.int .i64 m))(p:w.cell? ⟨0,0,none⟩=some iA):Calls prog 17 #[] w fun y n=>∃r,y=.returned (wp r)/\Below w.heap.size w n/\Calls prog 18 #[wp r] n fun y l=>∃f,y=.returned (.tuple #[wp f,.nilIface])/\KW w l m f r (qh jc) [] [] 0:=by
 refine(aaC w).mono ?_;rintro y t ⟨r,O,rfl,u,c,B⟩;refine⟨r,rfl,c,(afS.ok u).mono ?_⟩;rintro y l ⟨f,g,rfl,q,x,v,D⟩;have k:=c.trans (D.mono c.size);have e:∀i,(g.dA i).isSome=true->w.heap.size<=i:=fun i a=>by
  by_cases C:i<t.heap.size
  ·exact B i ((x i C).1 a)
  ·have:=c.size;omega
 have s:=block_lt_of_cell? w _ o;have d:=block_lt_of_cell? w _ p;refine⟨f,rfl,fun i=>(g.dA i).isSome=true,⟨⟨g,0,q,v,fun j h=>(by simp at h),fun i a=>a⟩,rfl,List.nodup_nil,fun b A=>(by cases A),Inv.none TP We,fun i a=>q.lt i a,cell_below o k,fun z=>?_,cell_below p k,fun z=>?_⟩,e,k⟩
 ·have:=e _ z;simp only at s;omega
 ·have:=e _ z;simp only at d;omega
theorem Qg{d:Int}(b:0<d):sF d bQ=0:=by
 unfold sF;rw[List.length_eq_zero_iff,List.filter_eq_nil_iff];intro x a;rw[List.eq_of_mem_replicate a];simp;omega
theorem KD.table(h1:KD w m f r D bs Ts k A)(hf:Ts.length<8):KD (w.alloc (.cells (nv bQ).toArray 116)) m f r D (bs++[w.heap.size]) (Ts++[bQ]) k (fun i=>A i\/i=w.heap.size):=by
 have bA:Below w.heap.size w (w.alloc (.cells (nv bQ).toArray 116)):=(Below.refl _ w).alloc (le_refl _) _;have hsz:(w.alloc (.cells (nv bQ).toArray 116)).heap.size=w.heap.size+1:=by show (w.heap.push _).size=_;rw[Array.size_push]
 have hn:(w.alloc (.cells (nv bQ).toArray 116)).heap[w.heap.size]? = some (.cells (nv bQ).toArray 116):=by
  show (w.heap.push _)[w.heap.size]? = _;rw[Array.getElem?_push,if_pos rfl]
 obtain⟨g,n,q,hr,ht,hk⟩:=h1.st;have h2:=h1.below bA;have wY:=block_lt_of_cell? _ _ h1.ml;have hel:=block_lt_of_cell? _ _ h1.er;simp only at wY hel;have hz:dK (w.alloc (.cells (nv bQ).toArray 116)) w.heap.size g bQ bQ:=by
  refine⟨⟨hn,rfl,fun x hx=>?_⟩,MI q,rfl,fun i h1 h2=>?_⟩
  ·rw[List.eq_of_mem_replicate hx];simp
  ·have e1:(bQ)[i]=(0,false):=List.eq_of_mem_replicate (List.getElem_mem h1);exact⟨rfl,.inl ⟨congrArg Prod.fst e1,congrArg Prod.fst e1⟩⟩
 refine⟨⟨g,n,q.below bA,hr,fun x hx hx'=>?_,fun i hi=>.inl (hk i hi)⟩,by rw[length_append,length_append,h1.len];rfl,?_,fun b hb=>?_,⟨h1.inv.core.congr (fun d hd=>?_),fun N hN=>?_,by rw[length_append];simp;omega⟩,fun i hi=>?_,h2.ml,fun z=>?_,h2.er,fun z=>?_⟩
 ·by_cases e1:x<bs.length
  ·have e2:x<Ts.length:=by rw[<-h1.len];exact e1
   rw[getElem_append_left e1,getElem_append_left e2];obtain⟨Mx,tx⟩:=ht x e1 e2;exact⟨Mx,tx.below bA⟩
  ·have e3:x=bs.length:=by rw[length_append] at hx;simp at hx;omega
   have e4:=h1.len;subst e3;rw[getElem_concat_length rfl];have:(Ts++[bQ])[bs.length]'hx'=bQ:=by
    rw[List.getElem_append_right (by omega)];simp
   rw[this];exact⟨bQ,hz⟩
 ·rw[List.nodup_append];exact⟨h1.nd,by simp,fun a ha b hb e=>by rw[mem_singleton.1 hb] at e;have:=h1.lt a (h1.Vf a ha);omega⟩
 ·rcases mem_append.1 hb with z|z
  ·exact .inl (h1.Vf b z)
  ·exact .inr (mem_singleton.1 z)
 ·have:=Qg hd;simp only[jv,List.map_append,List.sum_append,map_cons,map_nil,List.sum_cons,List.sum_nil];omega
 ·rcases mem_append.1 hN with z|z
  ·exact h1.inv.tab N z
  ·rw[mem_singleton.1 z];exact⟨rfl,fun x hx=>by rw[List.eq_of_mem_replicate hx];simp⟩
 ·rw[hsz];rcases hi with z|z
  ·have:=h1.lt i z;omega
  ·omega
 ·rcases z with z|z
  ·exact h1.mn z
  ·omega
 ·rcases z with z|z
  ·exact h1.en z
  ·omega
end
end
section
structure Ow where
 j:Nat
 m:Nat->Int
 eX:Int
structure KS where
 n:Nat
 P:Ps
 D:DS
 Ts:List Ns
 Ms:List PM
 W:Nat->Nat->Int
 O:Int->Option Ow
def lG:PM:=fun _=>none
def aC(S:KS)(j:Nat):PM:=S.Ms.getD j lG
def au(S:KS)(j:Nat):Ns:=S.Ts.getD j bQ
def kZ(S:KS)(j:Nat):Nat->Int:=fun k=>if k=0 then ((bX (aC S j):Nat):Int) else if k=1 then ((ak (au S j):Nat):Int) else 0
theorem pQ{S:KS}{j:Nat}(h:j<S.Ms.length):aC S j=S.Ms[j]:=by unfold aC;rw[getD_eq_getElem?_getD,List.getElem?_eq_getElem h];rfl
theorem jb{S:KS}{j:Nat}(h:j<S.Ts.length):au S j=S.Ts[j]:=by unfold au;rw[getD_eq_getElem?_getD,List.getElem?_eq_getElem h];rfl
structure uh (S:KS):Prop where
 run:∀p,(S.O p).isSome=aD S.P p
 gone:∀j,j<S.Ts.length->(∀p o,S.O p=some o->o.j≠j)->au S j=bQ/\aC S j=lG
 fit:∀p o,S.O p=some o->Fit o.m/\-100<=o.eX/\o.eX<=100
theorem wo{N:Ns}(h:N.length=8):ak N<=8:=by have:=yc N;omega
def kL(O:Int->Option Ow)(p:Int)(o:Ow):Int->Option Ow:=fun x=>if x=p then some o else O x
def jK(O:Int->Option Ow)(p:Int):Int->Option Ow:=fun x=>if x=p then none else O x
theorem eB(O:Int->Option Ow)(p:Int)(o:Ow):kL O p o p=some o:=if_pos rfl
theorem iW{O:Int->Option Ow}{p x:Int}{o:Ow}(h:x≠p):kL O p o x=O x:=if_neg h
end
section
open Go.RowKit Go.Maps
structure KH where
 kb:Nat
 eb:Nat
 f:Nat
 r:Nat
 t:Nat
 g:Nat
 gm:Nat
 hs:Nat->Nat
 sp:Nat->Nat
 tb:Nat->Nat
 ok:Bool
def Bn(ok:Bool)(w:World):Prop:=8<w.heap.size/\(ok=true->ni w)
theorem Bn.lt{ok:Bool}{w:World}(h:Bn ok w):8<w.heap.size:=h.1
theorem Bn.keep{ok:Bool}{w w':World}(h:Bn ok w)(a:w'.heap[8]? = w.heap[8]?):Bn ok w':=
 ⟨by
  have b:=h.1;rw[Array.getElem?_eq_getElem b] at a;exact(Array.getElem?_eq_some_iff.1 a).1,fun e=>(h.2 e).keep a⟩
structure KG where
 E:St
 Av:Nat->Prop
 L:List Sq
 bs:List Nat
 Ad:Nat->Prop
 κ:Nat->Nat
abbrev kcs(H:KH):Array Value:=#[wp H.eb,wp H.r,wp H.f,wp H.t,.map (some H.gm)]
structure KM (w:World) (m:Int) (H:KH) (S:KS) (U:Nat->Nat->Int) (q:Nat) (G:KG):Prop where
 head:w.heap[H.kb]? = some (.cells (kcs H) 66)
 eb:G.E.b=H.eb
 en:G.E.n=S.n
 al:Al G.E w S.W G.Av G.L
 ms:G.L.map (fun x=>x.2.2)=S.Ms
 sp:∀j (h:j<G.L.length),G.L[j].1=H.sp j
 kd:KD w m H.f H.r S.D G.bs S.Ts (2*q) G.Ad
 tb:∀j (h:j<G.bs.length),G.bs[j]=H.tb j
 qj:∃c,QJ w H.t H.g S.P c
 map:∃z,aK w H.gm z (fun p=>(S.O p).map (fun o=>wp (H.hs o.j)))
 hold:∀p o,S.O p=some o->Hd w (H.hs o.j) (H.sp o.j) (H.tb o.j) (U o.j) o.m o.eX
 hinj:∀p o p' o',S.O p=some o->S.O p'=some o'->H.hs o.j=H.hs o'.j->p=p'
 len:S.Ms.length=S.Ts.length
 lt:∀p o,S.O p=some o->o.j<S.Ts.length
 key:∀p o,S.O p=some o->1<=p/\p<=24
 tab:Bn H.ok w
 nx:S.D.nx<=3*(q:Int)
 few:S.Ts.length<=q+1
 k1:∀i,Nq G.E G.Av G.L i->G.κ i=1
 k2:∀i,G.Ad i->G.κ i=2
 k3:G.κ H.g=3
 k4:G.κ H.gm=4
 k5:∀p o,S.O p=some o->G.κ (H.hs o.j)=5
 kk:G.κ H.kb=6
 kE:G.κ G.E.b=6
 kB:G.κ G.E.bm=6
 kt:G.κ H.t=6
 ks:∀j,j<S.Ts.length->G.κ (H.sp j)=6
 km:G.κ 4=0
 ke:G.κ 0=0
 Qx:G.κ 8=0
 Bd:∀i,G.κ i≠0->i<w.heap.size
def tg(κ:Nat->Nat)(X:Nat)(w w':World):Nat->Nat:=fun i=>if i<w.heap.size then κ i else if i<w'.heap.size then X else 0
section
variable {w w':World}{m:Int}{H:KH}{S:KS}{U:Nat→Nat→Int}{q X:Nat}{G:KG}{κ:Nat→Nat}
theorem yS{i:Nat}(a:i<w.heap.size):tg κ X w w' i=κ i:=if_pos a
theorem RD{i:Nat}(b:w.heap.size<=i)(a:i<w'.heap.size):tg κ X w w' i=X:=by unfold tg;rw[if_neg (by omega),if_pos a]
theorem uF{i c:Nat}(a:∀i,κ i≠0->i<w.heap.size)(b:c≠0)(h:κ i=c):tg κ X w w' i=c:=by
 rw[yS (a i (by omega))];exact h
theorem fZ{i:Nat}(a:i<w.heap.size)(h:κ i=0):tg κ X w w' i=0:=by rw[yS a];exact h
theorem FJ(_hk:∀i,κ i≠0->i<w.heap.size)(b:w.heap.size<=w'.heap.size):∀i,tg κ X w w' i≠0->i<w'.heap.size:=fun i a=>by
 unfold tg at a;split at a
 ·omega
 ·split at a
  ·assumption
  ·exact absurd rfl a
theorem yR(a:Wt (fun i=>κ i=X) w w')(d:X≠0):Stp w w' (fun i=>κ i≠0) (fun i=>tg κ X w w' i≠0):=
 ⟨⟨a.os,a.tape,a.output,a.size,fun i b c=>a.block i b (fun e=>by rw[e] at c;exact c d)⟩,fun i b=>by
  by_cases e:i<w.heap.size
  ·rw[yS e] at b;exact .inl b
  ·exact .inr (by omega)⟩
theorem KM.qi(h:KM w m H S U q G):4<w.heap.size:=block_lt_of_cell? w _ h.kd.ml
theorem KM.qm(h:KM w m H S U q G):0<w.heap.size:=block_lt_of_cell? w _ h.kd.er
theorem KM.Ll(h:KM w m H S U q G):G.L.length=S.Ts.length:=by rw[<-h.len,<-h.ms,List.length_map]
theorem KM.Lb(h:KM w m H S U q G):G.bs.length=S.Ts.length:=h.kd.len
structure Kept (w w':World) (m:Int) (H:KH) (S:KS) (U:Nat->Nat->Int) (q X:Nat) (G:KG):Prop where
 head:w'.heap[H.kb]? = some (.cells (kcs H) 66)
 al:X≠1->Al G.E w' S.W G.Av G.L
 kd:X≠2->KD w' m H.f H.r S.D G.bs S.Ts (2*q) G.Ad
 qj:X≠3->∃c,QJ w' H.t H.g S.P c
 map:X≠4->∃z,aK w' H.gm z (fun p=>(S.O p).map (fun o=>wp (H.hs o.j)))
 hold:X≠5->∀p o,S.O p=some o->Hd w' (H.hs o.j) (H.sp o.j) (H.tb o.j) (U o.j) o.m o.eX
 tab:Bn H.ok w'
 ml:w'.cell? ⟨4,0,none⟩=some (.int .i64 m)
 er:w'.cell? ⟨0,0,none⟩=some iA
theorem KM.kept(h:KM w m H S U q G)(t:1<=X/\X<=5)(j:Wt (fun i=>G.κ i=X) w w'):Kept w w' m H S U q X G:=by
 have b:∀i c,G.κ i=c->c≠0->c≠X->w'.heap[i]? = w.heap[i]? := fun i c e u f=>j.block i (h.Bd i (by omega)) (fun z=>f (by omega));have k:∀i,G.κ i=0->i<w.heap.size->w'.heap[i]? = w.heap[i]? := fun i e d=>j.block i d (fun z=>by omega);have n:w'.cell? ⟨4,0,none⟩=some (.int .i64 m):=by
  rw[World.cell?_of_block (w:=w) (a:=⟨4,0,none⟩) (k _ h.km h.qi)];exact h.kd.ml
 have l:w'.cell? ⟨0,0,none⟩=some iA:=by
  rw[World.cell?_of_block (w:=w) (a:=⟨0,0,none⟩) (k _ h.ke h.qm)];exact h.kd.er
 refine⟨(b _ 6 h.kk (by omega) (by omega)).trans h.head,fun g=>?_,fun g=>?_,fun g=>?_,fun g=>?_,fun g p o r=>?_,h.tab.keep (k _ h.Qx h.tab.lt),n,l⟩
 ·refine h.al.keep (fun i d=>b i 1 (h.k1 i d) (by omega) (by omega)) (b _ 6 h.kE (by omega) (by omega)) (b _ 6 h.kB (by omega) (by omega)) (fun i d=>?_);rw[h.sp i d];exact b _ 6 (h.ks i (by rw[<-h.Ll];exact d)) (by omega) (by omega)
 ·exact h.kd.keep (fun i d=>b i 2 (h.k2 i d) (by omega) (by omega)) j.size n l
 ·obtain⟨c,f⟩:=h.qj;exact⟨c,⟨f.toQM.keep (b _ 6 h.kt (by omega) (by omega)) (b _ 3 h.k3 (by omega) (by omega)),f.ok,f.dj⟩⟩
 ·obtain⟨z,s⟩:=h.map;exact⟨z,s.keep (b _ 4 h.k4 (by omega) (by omega))⟩
 ·exact(h.hold p o r).keep (b _ 5 (h.k5 p o r) (by omega) (by omega))
theorem KM.jX(h:KM w m H S U q G):8<w.heap.size:=h.tab.lt
theorem KM.below(h:KM w m H S U q G)(a:Below w.heap.size w w'):KM w' m H S U q G:=by
 have b:Wt (fun i=>G.κ i=1) w w':=.below _ a;have k:=h.kept (X:=1) ⟨by omega,by omega⟩ b;exact { h with head:=k.head,al:=h.al.below a,kd:=k.kd (by omega),qj:=k.qj (by omega),map:=k.map (by omega),hold:=k.hold (by omega),tab:=k.tab,Bd:=fun i c=>lt_of_lt_of_le (h.Bd i c) a.size }
theorem KM.vm(h:KM w m H S U q G){j:Nat}(z:j<G.L.length){D':Nat->Nat->Int}{d:PM}(t:FW G.E w G.Av G.L w' D' (G.L.set j (G.L[j].1,G.L[j].2.1,d))):∃v,KM w' m H { S with W:=D',Ms:=S.Ms.set j d } U q v/\Stp w w' (fun i=>G.κ i≠0) (fun i=>v.κ i≠0):=by
 obtain⟨B,u,f,l⟩:=t;have g:Wt (fun i=>G.κ i=1) w w':=⟨f.os,f.tape,f.output,f.size,fun i b y=>f.block i b (fun r=>y (h.k1 i r))⟩;have k:=h.kept (X:=1) ⟨by omega,by omega⟩ g;have s:=h.Bd;have a:∀ {i c},c≠0->G.κ i=c->tg G.κ 1 w w' i=c:=fun A e=>uF s A e;refine⟨⟨G.E,B,G.L.set j (G.L[j].1,G.L[j].2.1,d),G.bs,G.Ad,tg G.κ 1 w w'⟩,⟨k.head,h.eb,h.en,u,?_,?_,k.kd (by omega),h.tb,k.qj (by omega),k.map (by omega),k.hold (by omega),h.hinj,?_,h.lt,h.key,k.tab,h.nx,h.few,?_,fun i b=>a (by omega) (h.k2 i b),a (by omega) h.k3,a (by omega) h.k4,fun p o r=>a (by omega) (h.k5 p o r),a (by omega) h.kk,a (by omega) h.kE,a (by omega) h.kB,a (by omega) h.kt,fun x n=>a (by omega) (h.ks x n),fZ h.qi h.km,fZ h.qm h.ke,fZ h.jX h.Qx,FJ s g.size⟩,yR g (by omega)⟩
 ·rw[List.map_set,h.ms]
 ·intro x n;by_cases e:x=j
  ·subst e;simp only[List.getElem_set_self];exact h.sp x z
  ·simp only[List.getElem_set_ne (Ne.symm e)];exact h.sp x (by simpa using n)
 ·show (S.Ms.set j d).length=_;rw[length_set];exact h.len
 ·intro i b;by_cases e:i<w.heap.size
  ·show tg G.κ 1 w w' i=1;rw[yS e];exact h.k1 i (l i e b)
  ·exact RD (by omega) (u.Dm b)
theorem KM.desc(h:KM w m H S U q G){q':Nat}{D':DS}{b:List Ns}{n:Nat->Prop}(s:KD w' m H.f H.r D' G.bs b (2*q') n)(st:Stp w w' G.Ad n)(l:b.length=S.Ts.length)(j:D'.nx<=3*(q':Int))(y:q<=q'):∃t,KM w' m H { S with D:=D',Ts:=b } U q' t/\Stp w w' (fun i=>G.κ i≠0) (fun i=>t.κ i≠0):=by
 have g:Wt (fun i=>G.κ i=2) w w':=⟨st.wt.os,st.wt.tape,st.wt.output,st.wt.size,fun i d u=>st.wt.block i d (fun f=>u (h.k2 i f))⟩;have k:=h.kept (X:=2) ⟨by omega,by omega⟩ g;have r:=h.Bd;have a:∀ {i c},c≠0->G.κ i=c->tg G.κ 2 w w' i=c:=fun v e=>uF r v e;refine⟨⟨G.E,G.Av,G.L,G.bs,n,tg G.κ 2 w w'⟩,⟨k.head,h.eb,h.en,k.al (by omega),h.ms,h.sp,s,h.tb,k.qj (by omega),k.map (by omega),k.hold (by omega),h.hinj,h.len.trans l.symm,fun p o f=>by show o.j<b.length;rw[l];exact h.lt p o f,h.key,k.tab,j,?_,fun i d=>a (by omega) (h.k1 i d),?_,a (by omega) h.k3,a (by omega) h.k4,fun p o f=>a (by omega) (h.k5 p o f),a (by omega) h.kk,a (by omega) h.kE,a (by omega) h.kB,a (by omega) h.kt,fun x j=>a (by omega) (h.ks x (by rw[<-l];exact j)),fZ h.qi h.km,fZ h.qm h.ke,fZ h.jX h.Qx,FJ r g.size⟩,yR g (by omega)⟩
 ·show b.length<=_;have:=h.few;omega
 ·intro i d;by_cases e:i<w.heap.size
  ·show tg G.κ 2 w w' i=2;rw[yS e];rcases st.own i d with z|z
   ·exact h.k2 i z
   ·omega
  ·exact RD (by omega) (s.lt i d)
theorem KM.proc(h:KM w m H S U q G){j:Ps}(t:Fw w H.t H.g j w'):∃l,KM w' m H { S with P:=j } U q l/\Stp w w' (fun i=>G.κ i≠0) (fun i=>l.κ i≠0):=by
 obtain⟨y,n,b⟩:=t;have f:Wt (fun i=>G.κ i=3) w w':=⟨b.os,b.tape,b.output,b.size,fun i d u=>b.block i d (fun e=>u (by rw[e];exact h.k3))⟩;have k:=h.kept (X:=3) ⟨by omega,by omega⟩ f;have g:=h.Bd;have a:∀ {i c},c≠0->G.κ i=c->tg G.κ 3 w w' i=c:=fun v e=>uF g v e;exact⟨⟨G.E,G.Av,G.L,G.bs,G.Ad,tg G.κ 3 w w'⟩,⟨k.head,h.eb,h.en,k.al (by omega),h.ms,h.sp,k.kd (by omega),h.tb,⟨y,n⟩,k.map (by omega),k.hold (by omega),h.hinj,h.len,h.lt,h.key,k.tab,h.nx,h.few,fun i d=>a (by omega) (h.k1 i d),fun i d=>a (by omega) (h.k2 i d),a (by omega) h.k3,a (by omega) h.k4,fun p o s=>a (by omega) (h.k5 p o s),a (by omega) h.kk,a (by omega) h.kE,a (by omega) h.kB,a (by omega) h.kt,fun x r=>a (by omega) (h.ks x r),fZ h.qi h.km,fZ h.qm h.ke,fZ h.jX h.Qx,FJ g f.size⟩,yR f (by omega)⟩
theorem KM.hd(h:KM w m H S U q G){p:Int}{o:Ow}(s:S.O p=some o){U':Nat->Int}{n:Nat->Int}{l:Int}(K:Hd w' (H.hs o.j) (H.sp o.j) (H.tb o.j) U' n l)(g:w.grownBy w' (some (H.hs o.j))):KM w' m H { S with O:=kL S.O p ⟨o.j,n,l⟩ } (fun i=>if i=o.j then U' else U i) q G/\Stp w w' (fun i=>G.κ i≠0) (fun i=>G.κ i≠0):=by
 have c:Wt (fun i=>G.κ i=5) w w':=⟨g.os,g.tape,g.output,g.size,fun i d A=>g.block i d (fun e=>A (by cases e;exact h.k5 p o s))⟩;have k:=h.kept (X:=5) ⟨by omega,by omega⟩ c;have I:=h.Bd;have B:∀x a,kL S.O p ⟨o.j,n,l⟩ x=some a->(x=p/\a=⟨o.j,n,l⟩)\/(x≠p/\S.O x=some a):=fun x a e=>by
  by_cases f:x=p
  ·rw[f,eB] at e;exact .inl ⟨f,(Option.some.inj e).symm⟩
  ·rw[iW f] at e;exact .inr ⟨f,e⟩
 have u:∀x a,kL S.O p ⟨o.j,n,l⟩ x=some a->∃v,S.O x=some v/\v.j=a.j:=fun x a e=>by
  rcases B x a e with⟨rfl,rfl⟩|⟨_,z⟩
  ·exact⟨o,s,rfl⟩
  ·exact⟨a,z,rfl⟩
 refine⟨⟨k.head,h.eb,h.en,k.al (by omega),h.ms,h.sp,k.kd (by omega),h.tb,k.qj (by omega),?_,?_,?_,h.len,?_,?_,k.tab,h.nx,h.few,h.k1,h.k2,h.k3,h.k4,?_,h.kk,h.kE,h.kB,h.kt,h.ks,h.km,h.ke,h.Qx,fun i d=>lt_of_lt_of_le (I i d) c.size⟩,⟨⟨c.os,c.tape,c.output,c.size,fun i d A=>c.block i d (fun e=>A (by rw[e];omega))⟩,fun i d=>.inl d⟩⟩
 ·obtain⟨z,F⟩:=k.map (by omega);refine⟨z,?_⟩;have e:(fun x=>(kL S.O p ⟨o.j,n,l⟩ x).map (fun o=>wp (H.hs o.j)))=fun x=>(S.O x).map (fun o=>wp (H.hs o.j)):=by
   funext x;by_cases f:x=p
   ·rw[f,eB,s];rfl
   ·rw[iW f]
  show aK w' H.gm z (fun x=>(kL S.O p ⟨o.j,n,l⟩ x).map (fun o=>wp (H.hs o.j)));rw[e];exact F
 ·intro x a e;rcases B x a e with⟨rfl,rfl⟩|⟨t,z⟩
  ·simp only[if_true];exact K
  ·have J:a.j≠o.j:=fun L=>t (h.hinj x a p o z s (by rw[L]));simp only[if_neg J];refine(h.hold x a z).keep (g.block _ (h.Bd _ (by rw[h.k5 x a z];omega)) (fun e=>t (h.hinj x a p o z s (Option.some.inj e))))
 ·intro x D y v P N M;obtain⟨j,b,r⟩:=u x D P;obtain⟨Q,C,E⟩:=u y v N;exact h.hinj x j y Q b C (by rw[r,E];exact M)
 ·intro x a e;obtain⟨j,b,r⟩:=u x a e;rw[<-r];exact h.lt x j b
 ·intro x a e;obtain⟨j,b,r⟩:=u x a e;exact h.key x j b
 ·intro x a e;obtain⟨j,b,r⟩:=u x a e;rw[<-r];exact h.k5 x j b
theorem KM.del(h:KM w m H S U q G){p:Int}{z:Nat}(A:aK w' H.gm z (fun x=>if x=p then none else (S.O x).map (fun o=>wp (H.hs o.j))))(g:w.grownBy w' (some H.gm)):∃r,KM w' m H { S with O:=jK S.O p } U q r/\Stp w w' (fun i=>G.κ i≠0) (fun i=>r.κ i≠0):=by
 have j:Wt (fun i=>G.κ i=4) w w':=⟨g.os,g.tape,g.output,g.size,fun i d v=>g.block i d (fun e=>v (by cases e;exact h.k4))⟩;have k:=h.kept (X:=4) ⟨by omega,by omega⟩ j;have n:=h.Bd;have a:∀ {i c},c≠0->G.κ i=c->tg G.κ 4 w w' i=c:=fun B e=>uF n B e;have b:∀x l,jK S.O p x=some l->S.O x=some l:=fun x l e=>by
  unfold jK at e;split at e
  ·cases e
  ·exact e
 refine⟨⟨G.E,G.Av,G.L,G.bs,G.Ad,tg G.κ 4 w w'⟩,⟨k.head,h.eb,h.en,k.al (by omega),h.ms,h.sp,k.kd (by omega),h.tb,k.qj (by omega),?_,fun x o e=>k.hold (by omega) x o (b x o e),fun x t y s E D C=>h.hinj x t y s (b _ _ E) (b _ _ D) C,h.len,fun x o e=>h.lt x o (b x o e),fun x o e=>h.key x o (b x o e),k.tab,h.nx,h.few,fun i d=>a (by omega) (h.k1 i d),fun i d=>a (by omega) (h.k2 i d),a (by omega) h.k3,a (by omega) h.k4,fun x o e=>a (by omega) (h.k5 x o (b x o e)),a (by omega) h.kk,a (by omega) h.kE,a (by omega) h.kB,a (by omega) h.kt,fun x u=>a (by omega) (h.ks x u),fZ h.qi h.km,fZ h.qm h.ke,fZ h.jX h.Qx,FJ n j.size⟩,yR j (by omega)⟩;refine⟨z,?_⟩;have e:(fun x=>(jK S.O p x).map (fun o=>wp (H.hs o.j)))=fun x=>if x=p then none else (S.O x).map (fun o=>wp (H.hs o.j)):=by
  funext x;unfold jK;by_cases f:x=p
  ·rw[if_pos f,if_pos f];rfl
  ·rw[if_neg f,if_neg f]
 show aK w' H.gm z (fun x=>(jK S.O p x).map (fun o=>wp (H.hs o.j)));rw[e];exact A
end
def KX(w:World)(m:Int)(H:KH)(S:KS)(U:Nat->Nat->Int)(q:Nat)(A:Nat->Prop):Prop:=∃G,KM w m H S U q G/\∀i,A i↔G.κ i≠0
def KS.space(S:KS)(j:Nat)(P':PM)(D':Nat->Nat->Int):KS:={ S with W:=D',Ms:=S.Ms.set j P' }
def KS.files(S:KS)(D':DS)(j:Nat)(N':Ns):KS:={ S with D:=D',Ts:=S.Ts.set j N' }
def KS.tree(S:KS)(T':Wd):KS:={ S with D:={ S.D with T:=T' } }
def KS.procs(S:KS)(P':Ps):KS:={ S with P:=P' }
def KS.own(S:KS)(p:Int)(o:Ow):KS:={ S with O:=kL S.O p o }
def KS.drop(S:KS)(p:Int):KS:={ S with O:=jK S.O p }
def bI(Ms:List PM)(f:Int):Nat:=(Ms.map fun P=>sh P f).sum
def iX(S:KS)(j:Nat)(f:Int):Nat:=bI S.Ms f-sh (aC S j) f
section
variable {w w':World}{m:Int}{H:KH}{S:KS}{U:Nat→Nat→Int}{q:Nat}{A:Nat→Prop}{p:Int}{o:Ow}
theorem KX.below(h:KX w m H S U q A)(a:Below w.heap.size w w'):KX w' m H S U q A:=by
 obtain⟨G,k,e⟩:=h;exact⟨G,k.below a,e⟩
theorem KX.lt(h:KX w m H S U q A):∀i,A i->i<w.heap.size:=fun i a=>by
 obtain⟨G,k,e⟩:=h;exact k.Bd i ((e i).1 a)
theorem KX.of{G:KG}(k:KM w m H S U q G):KX w m H S U q (fun i=>G.κ i≠0):=⟨G,k,fun _=>Iff.rfl⟩
theorem qY{A B a:Nat->Prop}(e:∀i,A i↔B i)(st:Stp w w' B a):Stp w w' A a:=by
 have:A=B:=funext fun i=>propext (e i);rw[this];exact st
theorem KX.head(h:KX w m H S U q A):w.heap[H.kb]? = some (.cells (kcs H) 66):=by
 obtain⟨G,k,e⟩:=h;exact k.head
theorem KX.c0(h:KX w m H S U q A):w.cell? ⟨H.kb,0,none⟩=some (wp H.eb):=by rw[cell_of_row w H.kb 0 _ _ _ h.head];rfl
theorem KX.c1(h:KX w m H S U q A):w.cell? ⟨H.kb,1,none⟩=some (wp H.r):=by rw[cell_of_row w H.kb 1 _ _ _ h.head];rfl
theorem KX.c2(h:KX w m H S U q A):w.cell? ⟨H.kb,2,none⟩=some (wp H.f):=by rw[cell_of_row w H.kb 2 _ _ _ h.head];rfl
theorem KX.c3(h:KX w m H S U q A):w.cell? ⟨H.kb,3,none⟩=some (wp H.t):=by rw[cell_of_row w H.kb 3 _ _ _ h.head];rfl
theorem KX.c4(h:KX w m H S U q A):w.cell? ⟨H.kb,4,none⟩=some (.map (some H.gm)):=by rw[cell_of_row w H.kb 4 _ _ _ h.head];rfl
theorem KX.hd(h:KX w m H S U q A)(a:S.O p=some o):Hd w (H.hs o.j) (H.sp o.j) (H.tb o.j) (U o.j) o.m o.eX:=by
 obtain⟨G,k,e⟩:=h;exact k.hold p o a
theorem KX.er(h:KX w m H S U q A):w.cell? ⟨0,0,none⟩=some iA:=by
 obtain⟨G,k,e⟩:=h;exact k.kd.er
theorem KX.ml(h:KX w m H S U q A):w.cell? ⟨4,0,none⟩=some (.int .i64 m):=by
 obtain⟨G,k,e⟩:=h;exact k.kd.ml
theorem KX.tab(h:KX w m H S U q A):Bn H.ok w:=by
 obtain⟨G,k,e⟩:=h;exact k.tab
theorem KX.hne(h:KX w m H S U q A)(a:S.O p=some o):0≠H.hs o.j:=by
 obtain⟨G,k,e⟩:=h;intro z;have:=k.k5 p o a;rw[<-z,k.ke] at this;omega
theorem KX.inv(h:KX w m H S U q A):Inv S.D S.Ts (2*q):=by
 obtain⟨G,k,e⟩:=h;exact k.kd.inv
theorem KX.Vd(h:KX w m H S U q A):pX S.P:=by
 obtain⟨G,k,e⟩:=h;obtain⟨c,a⟩:=k.qj;exact a.ok
theorem KX.rR(h:KX w m H S U q A)(a:S.O p=some o):o.j<S.Ts.length:=by
 obtain⟨G,k,e⟩:=h;exact k.lt p o a
theorem KX.mlt(h:KX w m H S U q A)(a:S.O p=some o):o.j<S.Ms.length:=by
 obtain⟨G,k,e⟩:=h;rw[k.len];exact k.lt p o a
theorem KX.len(h:KX w m H S U q A):S.Ms.length=S.Ts.length:=by
 obtain⟨G,k,e⟩:=h;exact k.len
theorem KX.nx(h:KX w m H S U q A):S.D.nx<=3*(q:Int):=by
 obtain⟨G,k,e⟩:=h;exact k.nx
theorem KX.key(h:KX w m H S U q A)(a:S.O p=some o):1<=p/\p<=24:=by
 obtain⟨G,k,e⟩:=h;exact k.key p o a
theorem KX.inj(h:KX w m H S U q A){a:Int}{o':Ow}(c:S.O p=some o)(b:S.O a=some o')(e:o.j=o'.j):p=a:=by
 obtain⟨G,k,_⟩:=h;exact k.hinj p o a o' c b (by rw[e])
theorem KX.more(h:KX w m H S U q A){q':Nat}(a:q<=q'):KX w m H S U q' A:=by
 obtain⟨G,k,e⟩:=h;refine⟨G,{ k with kd:=?_,nx:=?_,few:=?_ },e⟩
 ·exact { k.kd with inv:=k.kd.inv.more (by omega) }
 ·have:=k.nx;omega
 ·have:=k.few;omega
theorem zu(L:List Sq)(f:Int):bI (L.map (fun x=>x.2.2)) f=lh L f:=by unfold bI lh;rw[List.map_map];rfl
theorem KX.vm(h:KX w m H S U q A)(i:o.j<S.Ts.length){fn:FuncId}{args:Array Value}{Q:Ending->PM->(Nat->Nat->Int)->Prop}
 (v:∀E p n,E.n=S.n->VS E w (H.sp o.j) n S.W p (aC S o.j) (iX S o.j)->Calls prog fn args w fun y d=>∃a b,Q y a b/\aW E w (H.sp o.j) n p d b a (iX S o.j)) :
 Calls prog fn args w fun y d=>∃a b,Q y a b/\∃r,KX d m H (S.space o.j a b) U q r/\Stp w d A r:=by
 obtain⟨G,k,e⟩:=h;have c:o.j<G.L.length:=by rw[k.Ll];exact i
 have j:G.L[o.j].2.2=aC S o.j:=by
  rw[pQ (by rw[k.len];exact i)];have:S.Ms=G.L.map (fun x=>x.2.2):=k.ms.symm;simp only[this,getElem_map]
 have l:xQ G.L o.j c=iX S o.j:=by
  funext f;unfold xQ iX;rw[<-k.ms,zu,j]
 have g:=k.al.sp o.j c;rw[k.sp o.j c,j,l] at g;refine(v G.E G.Av G.L[o.j].2.1 k.en g).mono ?_;rintro y d ⟨a,b,z,t⟩;rw[<-k.sp o.j c,<-l] at t;obtain⟨B,u,s⟩:=k.vm c (k.al.turn c t);exact⟨a,b,z,_,.of u,qY e s⟩
theorem KX.vmr(h:KX w m H S U q A)(c:o.j<S.Ts.length){C:Prop}(g:∀E l j,E.n=S.n->VS E w (H.sp o.j) j S.W l (aC S o.j) (iX S o.j)->C):C:=by
 obtain⟨G,k,e⟩:=h;have a:o.j<G.L.length:=by rw[k.Ll];exact c
 have d:G.L[o.j].2.2=aC S o.j:=by
  rw[pQ (by rw[k.len];exact c)];have:S.Ms=G.L.map (fun x=>x.2.2):=k.ms.symm;simp only[this,getElem_map]
 have i:xQ G.L o.j a=iX S o.j:=by
  funext f;unfold xQ iX;rw[<-k.ms,zu,d]
 have b:=k.al.sp o.j a;rw[k.sp o.j a,d,i] at b;exact g G.E G.Av G.L[o.j].2.1 k.en b
theorem KX.map(h:KX w m H S U q A)(i:o.j<S.Ts.length)(a n b:Int)(g:n<=9223372036854775807):Calls prog 169 #[wp (H.sp o.j),.int .i64 a,.int .i64 n,.int .i64 b] w fun y c=>y=.returned (aI (iV (aC S o.j) a n b))/\∃f,KX c m H (S.space o.j (jJ (aC S o.j) a n b) S.W) U q f/\Stp w c A f:=by
 refine(h.vm i (Q:=fun y d e=>y=.returned (aI (iV (aC S o.j) a n b))/\d=jJ (aC S o.j) a n b/\e=S.W) (fun E k j _ v=>?_)).mono ?_
 ·refine(v.map_ok a n b g).mono ?_;rintro y c ⟨rfl,t⟩;exact⟨_,_,⟨rfl,rfl,rfl⟩,t⟩
 ·rintro y c ⟨d,e,⟨rfl,rfl,rfl⟩,r⟩;exact⟨rfl,r⟩
theorem KX.YH(h:KX w m H S U q A)(g:o.j<S.Ts.length)(a n:Int)(f:n<=9223372036854775807):Calls prog 171 #[wp (H.sp o.j),.int .i64 a,.int .i64 n] w fun y b=>y=.returned (aI (ui (aC S o.j) a n))/\∃e,KX b m H (S.space o.j (Bc (aC S o.j) a n) S.W) U q e/\Stp w b A e:=by
 refine(h.vm g (Q:=fun y c d=>y=.returned (aI (ui (aC S o.j) a n))/\c=Bc (aC S o.j) a n/\d=S.W) (fun E j i _ v=>?_)).mono ?_
 ·refine(v.SB a n f).mono ?_;rintro y b ⟨rfl,t⟩;exact⟨_,_,⟨rfl,rfl,rfl⟩,t⟩
 ·rintro y b ⟨c,d,⟨rfl,rfl,rfl⟩,r⟩;exact⟨rfl,r⟩
theorem KX.WB(h:KX w m H S U q A)(i:o.j<S.Ts.length)(a n b:Int)(g:n<=9223372036854775807):Calls prog 178 #[wp (H.sp o.j),.int .i64 a,.int .i64 n,.int .i64 b] w fun y c=>y=.returned (aI (mQ (aC S o.j) a n b))/\∃f,KX c m H (S.space o.j (nR (aC S o.j) a n b) S.W) U q f/\Stp w c A f:=by
 refine(h.vm i (Q:=fun y d e=>y=.returned (aI (mQ (aC S o.j) a n b))/\d=nR (aC S o.j) a n b/\e=S.W) (fun E k j _ v=>?_)).mono ?_
 ·refine(v.J7 a n b g).mono ?_;rintro y c ⟨rfl,t⟩;exact⟨_,_,⟨rfl,rfl,rfl⟩,t⟩
 ·rintro y c ⟨d,e,⟨rfl,rfl,rfl⟩,r⟩;exact⟨rfl,r⟩
theorem KX.Sg(h:KX w m H S U q A)(e:o.j<S.Ts.length):Calls prog 158 #[wp (H.sp o.j)] w fun y a=>y=.returned (.tuple #[])/\∃d,KX a m H (S.space o.j lG S.W) U q d/\Stp w a A d:=by
 refine(h.vm e (Q:=fun y b c=>y=.returned (.tuple #[])/\b=lG/\c=S.W) (fun E g f _ v=>?_)).mono ?_
 ·refine v.zN.mono ?_;rintro y a ⟨rfl,t⟩;exact⟨_,_,⟨rfl,rfl,rfl⟩,t⟩
 ·rintro y a ⟨b,c,⟨rfl,rfl,rfl⟩,r⟩;exact⟨rfl,r⟩
theorem KX.Z8(h:KX w m H S U q A)(i:o.j<S.Ts.length)(a k v:Int)(j:(Lit.int .i64 a).wf=true):Calls prog 182 #[wp (H.sp o.j),.int .i64 a,.int .i64 k,.int .i64 v] w fun y d=>∃b c er,uo S.n (aC S o.j) (iX S o.j) S.W a k v er b c/\y=.returned (aI er)/\∃f,KX d m H (S.space o.j b c) U q f/\Stp w d A f:=by
 refine(h.vm i (Q:=fun y b c=>∃er,uo S.n (aC S o.j) (iX S o.j) S.W a k v er b c/\y=.returned (aI er)) (fun E p n l g=>?_)).mono ?_
 ·refine(g.SS a k v j).mono ?_;rintro y d ⟨er,b,c,e,rfl,t⟩;rw[l] at e;exact⟨_,_,⟨er,e,rfl⟩,t⟩
 ·rintro y d ⟨b,c,⟨er,e,rfl⟩,r⟩;exact⟨b,c,er,e,rfl,r⟩
theorem KX.ade(h:KX w m H S U q A)(c:o.j<S.Ts.length)(a k:Int)(d:(Lit.int .i64 a).wf=true):Calls prog 167 #[wp (H.sp o.j),.int .i64 a,.int .i64 k] w fun y b=>y=.returned (.tuple #[.int .i64 (je (aC S o.j) S.W a k),aI (dL (aC S o.j) a k 1)])/\Below w.heap.size w b:=
 h.vmr c (fun _ _ _ _ v=>v.load a k d)
theorem KX.afj(h:KX w m H S U q A)(b:o.j<S.Ts.length):Calls prog 143 #[wp (H.sp o.j)] w fun y a=>y=.returned (.int .i64 (bX (aC S o.j):Nat))/\a=w:=
 h.vmr b (fun _ _ _ _ v=>v.sp.len)
theorem KX.Fy(h:KX w m H S U q A)(b:o.j<S.Ts.length):Calls prog 144 #[wp (H.sp o.j)] w fun y a=>y=.returned (.int .i64 (gL (aC S o.j):Nat))/\Below w.heap.size w a:=
 h.vmr b (fun _ _ _ _ v=>v.sp.resident)
theorem KX.adg(h:KX w m H S U q A):Calls prog 140 #[wp H.eb] w fun y a=>y=.returned (.int .i64 ((S.n-used (bI S.Ms) S.n:Nat):Int))/\a=w:=by
 obtain⟨G,k,e⟩:=h;have:=k.al.left;rw[k.eb,k.en,show lh G.L=bI S.Ms by funext f;rw[<-k.ms,zu]] at this;exact this
theorem KX.pages(h:KX w m H S U q A)(a:o.j<S.Ts.length):lN S.n (aC S o.j)/\QO (aC S o.j):=
 h.vmr a (fun E _ _ b v=>by rw[<-b];exact⟨v.ok,v.Bh⟩)
end
end
section
open Go.RowKit Go.Maps Go.Sort
theorem vz{fn:Func}{t u v x:Tmp}(h:fn.results=#[.tmp t,.tmp u,.tmp v,.tmp x])(a:Array Value)(P:Program)(w:World):(results fn a).run P w=.ok (.tuple #[a.getD t undef,a.getD u undef,a.getD v undef,a.getD x undef]) w:=by
 simp[results,h]
section
variable {w w':World}{m:Int}{H:KH}{S:KS}{U:Nat→Nat→Int}{q:Nat}{A:Nat→Prop}{p:Int}{o:Ow}
theorem Nu(w:World):(zeroValue 59).run prog w=.ok (.pointer none) w:=by kernel_rfl
theorem KX.look(h:KX w m H S U q A)(p:Int)(a:(Lit.int .i64 p).wf=true):(Instr.lookup 64 (.map (some H.gm)) (.int .i64 p) false).run prog w=.ok (match S.O p with|some o=>wp (H.hs o.j) | none=>.pointer none) w:=by
 obtain⟨G,k,e⟩:=h;obtain⟨z,b⟩:=k.map;rw[b.look underlying64 (Nu w) p a];cases S.O p<;>rfl
theorem Ni{p:Int}(h:1<=p/\p<=24):(Lit.int .i64 p).wf=true:=uq (by omega)
theorem KX.xu(h:KX w m H S U q A)(a:S.O p=some o):(Instr.lookup 64 (.map (some H.gm)) (.int .i64 p) false).run prog w=.ok (wp (H.hs o.j)) w:=by
 rw[h.look p (Ni (h.key a)),a]
theorem KX.ada(h:KX w m H S U q A)(b:S.O p=none)(a:(Lit.int .i64 p).wf=true):(Instr.lookup 64 (.map (some H.gm)) (.int .i64 p) false).run prog w=.ok (.pointer none) w:=by
 rw[h.look p a,b]
theorem KX.ay(h:KX w m H S U q A)(b:S.O p=some o):Calls prog 127 #[wp H.kb,.int .i64 p] w fun e a=>e=.returned (.tuple #[wp (H.hs o.j),.nilIface])/\a=w:=by
 have d:=h.c4;have c:=h.xu b;go_enter Tryz.func127,Tryz.ntmps127
 go_wp2_with fail
 go_ret2;exact⟨rfl,rfl⟩
theorem KX.j4(h:KX w m H S U q A)(c:S.O p=none)(b:(Lit.int .i64 p).wf=true):Calls prog 127 #[wp H.kb,.int .i64 p] w fun e a=>e=.returned (.tuple #[.pointer none,eF 7])/\a=w:=by
 have f:=h.c4;have d:=h.ada c b;go_enter Tryz.func127,Tryz.ntmps127
 go_wp2_with fail
 go_ret2;exact⟨rfl,rfl⟩
theorem KX.left(h:KX w m H S U q A):Calls prog 86 #[wp H.kb] w fun e b=>e=.returned (.int .i64 ((S.n-used (bI S.Ms) S.n:Nat):Int))/\b=w:=by
 have f:=h.c0;have c:=h.adg;generalize S.n-used (bI S.Ms) S.n=x at *;go_enter Tryz.func86,Tryz.ntmps86
 go_wp2_with (go_at_call 140;refine c.mono ?_;rintro e a ⟨rfl,d⟩;subst a)
 go_ret;exact⟨rfl,rfl⟩
theorem KX.rf(h:KX w m H S U q A){n:Nat}(c:p9 S.D.E n):Calls prog 87 #[wp H.kb] w fun e b=>e=.returned (.int .i64 (n:Int))/\b=w:=by
 have g:=h.c2;obtain⟨G,k,e⟩:=h;have d:=k.kd.aak c;go_enter Tryz.func87,Tryz.ntmps87
 go_wp2_with (go_at_call 141;refine d.mono ?_;rintro e a ⟨rfl,f⟩;subst a)
 go_ret;exact⟨rfl,rfl⟩
theorem KX.oC(h:KX w m H S U q A){s:Nat}(c:dD S.D.T s):Calls prog 88 #[wp H.kb] w fun e b=>e=.returned (.int .i64 (s:Int))/\b=w:=by
 have g:=h.c1;obtain⟨G,k,e⟩:=h;have d:=k.kd.nodes c;go_enter Tryz.func88,Tryz.ntmps88
 go_wp2_with (go_at_call 142;refine d.mono ?_;rintro e a ⟨rfl,f⟩;subst a)
 go_ret;exact⟨rfl,rfl⟩
theorem KX.yF(h:KX w m H S U q A):∃n,p9 S.D.E n:=by
 obtain⟨G,k,e⟩:=h;exact k.kd.yF
theorem KX.gP(h:KX w m H S U q A):∃n,dD S.D.T n:=by
 obtain⟨G,k,e⟩:=h;exact k.kd.gP
theorem KX.one(h:KX w m H S U q A):(S.P 1).isSome=true:=by
 obtain⟨p,a,_⟩:=h.Vd.one;rw[a];rfl
theorem KX.si(h:KX w m H S U q A):Calls prog 90 #[wp H.kb] w fun e d=>∃b a,e=.returned (.slice (some ⟨b,0,none⟩) (aH S.P).length a)/\(aH S.P).length<=a/\w.heap.size<=b/\b<d.heap.size/\Holds encZ d b 0 (aH S.P).toArray/\Below w.heap.size w d:=by
 have n:=h.c3;have j:=h.one;obtain⟨G,k,e⟩:=h;obtain⟨c,f⟩:=k.qj;have i:=f.toQM.si j;go_enter Tryz.func90,Tryz.ntmps90
 go_wp2_with (go_at_call 146;refine i.mono ?_;rintro e l ⟨b,a,rfl,g⟩)
 go_ret;exact⟨b,a,rfl,g⟩
theorem KX.state(h:KX w m H S U q A)(n:Int)(d:(Lit.int .i64 n).wf=true):Calls prog 91 #[wp H.kb,.int .i64 n] w fun e a=>e=.returned (.int .i64 (nN S.P n))/\Below w.heap.size w a:=by
 have j:=h.c3;obtain⟨G,k,e⟩:=h;obtain⟨c,b⟩:=k.qj;have g:=b.toQM.state n d;go_enter Tryz.func91,Tryz.ntmps91
 go_wp2_with (go_at_call 147;refine g.mono ?_;rintro e i ⟨rfl,f⟩)
 go_ret;exact⟨rfl,f⟩
theorem KX.acR(h:KX w m H S U q A)(a:o.j<S.Ts.length):Calls prog 145 #[wp (H.tb o.j)] w fun y c=>y=.returned (.int .i64 (ak (au S o.j):Int))/\Below w.heap.size w c:=by
 obtain⟨G,k,e⟩:=h;have b:o.j<G.bs.length:=by rw[k.Lb];exact a
 have:=k.kd.used b;rw[k.tb _ b,<-jb a] at this;exact this
theorem KX.nz(h:KX w m H S U q A)(g:S.O p=some o):Calls prog 89 #[wp H.kb,.int .i64 p] w fun e c=>e=.returned (.tuple #[.int .i64 (bX (aC S o.j):Nat),.int .i64 (gL (aC S o.j):Nat),.int .i64 (ak (au S o.j):Nat),.nilIface])/\Below w.heap.size w c:=by
 have hF:=h.ay g;have i:=h.rR g;have n:=fun V (a:Below w.heap.size w V)=>(h.below a).afj i;have l:∀V,Below w.heap.size w V->Calls prog 144 #[wp (H.sp o.j)] V fun y c=>y=.returned (.int .i64 (gL (aC S o.j):Nat))/\Below w.heap.size w c:=fun V a=>by
  refine((h.below a).Fy i).mono ?_;rintro y c ⟨rfl,b⟩;exact⟨rfl,a.trans (b.mono a.size)⟩
 have k:∀V,Below w.heap.size w V->Calls prog 145 #[wp (H.tb o.j)] V fun y c=>y=.returned (.int .i64 (ak (au S o.j):Int))/\Below w.heap.size w c:=fun V a=>by
  refine((h.below a).acR i).mono ?_;rintro y c ⟨rfl,b⟩;exact⟨rfl,a.trans (b.mono a.size)⟩
 have j:∀V,Below w.heap.size w V->V.cell? ⟨H.hs o.j,0,none⟩=some (wp (H.sp o.j))/\V.cell? ⟨H.hs o.j,1,none⟩=some (wp (H.tb o.j)):=fun V a=>⟨((h.below a).hd g).at 0,((h.below a).hd g).at 1⟩;have s:=j w (Below.refl _ _);generalize bX (aC S o.j)=X at *;generalize gL (aC S o.j)=Y at *;generalize ak (au S o.j)=Z at *;have t:Aside _:=j;go_enter Tryz.func89,Tryz.ntmps89
 go_upto_region 4 with (go_at_call 127;refine hF.mono ?_;rintro e f ⟨rfl,u⟩;subst f)
 have d:Below w.heap.size w w.drew:=⟨rfl,rfl,rfl,le_refl _,fun _ _=>rfl⟩;go_region_held3 (fun c=>c.cell? ⟨H.hs o.j,0,none⟩=some (wp (H.sp o.j))/\c.cell? ⟨H.hs o.j,1,none⟩=some (wp (H.tb o.j))) (first|exact s|exact t.out _ d) (first
  |(go_at_call 143;refine(n _ d).mono ?_;rintro e f ⟨rfl,r⟩;subst f)
  |(go_at_call 144;refine(l _ d).mono ?_;rintro e f ⟨rfl,d⟩)
  |(go_at_call 145;refine(k _ d).mono ?_;rintro e f ⟨rfl,d⟩))
 all_goals
  go_wp2_with fail
  (try simp only[Exit.inBlock,Exit.then])
  refine bodyPost_ret (vz rfl _ _ _) rfl ?_;exact⟨rfl,d⟩
theorem KX.aaV(h:KX w m H S U q A)(d:S.O p=none)(c:(Lit.int .i64 p).wf=true):Calls prog 89 #[wp H.kb,.int .i64 p] w fun e b=>e=.returned (.tuple #[.int .i64 0,.int .i64 0,.int .i64 0,eF 7])/\b=w:=by
 have hF:=h.j4 d c;go_enter Tryz.func89,Tryz.ntmps89
 go_wp2_with (go_at_call 127;refine hF.mono ?_;rintro e a ⟨rfl,f⟩;subst a)
 (try simp only[Exit.inBlock,Exit.then])
 refine bodyPost_ret (vz rfl _ _ _) rfl ?_;exact⟨rfl,rfl⟩
end
end
section
open Go.RowKit Go.Maps
section
variable {w w' V:World}{A A':Nat→Prop}
theorem Stp.base(e:V.heap=w.heap)(f:V.os=w.os)(d:V.tape=w.tape)(c:V.output=w.output)(h:Stp V w' A A'):Stp w w' A A':=
 ⟨⟨h.wt.os.trans f,h.wt.tape.trans d,h.wt.output.trans c,by rw[<-e];exact h.wt.size,fun i a b=>by rw[<-e];exact h.wt.block i (by rw[e];exact a) b⟩,fun i a=>by rw[<-e];exact h.own i a⟩
theorem Stp.up(h:Stp w w' A A')(e:V.heap=w'.heap)(f:V.os=w'.os)(d:V.tape=w'.tape)(c:V.output=w'.output):Stp w V A A':=
 ⟨⟨f.trans h.wt.os,d.trans h.wt.tape,c.trans h.wt.output,by rw[e];exact h.wt.size,fun i b a=>by rw[e];exact h.wt.block i b a⟩,h.own⟩
theorem bH(w:World):Below w.heap.size w w.drew:=⟨rfl,rfl,rfl,le_refl _,fun _ _=>rfl⟩
theorem Stp.after{w0:World}(a:Below w0.heap.size w0 w)(h:Stp w w' A A'):Stp w0 w' A A':=(Stp.below a).trans h
end
def KN(w:World)(m:Int)(H:KH)(S:KS)(q:Nat)(A:Nat->Prop):Prop:=KX w m H S (kZ S) q A/\uh S
section
variable {w w':World}{m:Int}{H:KH}{S:KS}{U U':Nat→Nat→Int}{q:Nat}{A:Nat→Prop}{p:Int}{o:Ow}
theorem Hd.congr{b s t:Nat}{U U' M:Nat->Int}{a:Int}(h:Hd w b s t U M a)(e:∀k,k<3->U k=U' k):Hd w b s t U' M a:=by
 unfold Hd at h ⊢;rw[h,hcs,hcs,e 0 (by omega),e 1 (by omega),e 2 (by omega)]
theorem KX.JC(h:KX w m H S U q A)(e:∀p o,S.O p=some o->∀k,k<3->U o.j k=U' o.j k):KX w m H S U' q A:=by
 obtain⟨G,k,b⟩:=h;exact⟨G,{ k with hold:=fun p o a=>(k.hold p o a).congr (e p o a) },b⟩
theorem Cr(a:S.O p=some o):kL S.O p ⟨o.j,o.m,o.eX⟩=S.O:=by
 funext x;by_cases e:x=p
 ·rw[e,eB,a]
 ·rw[iW e]
theorem KX.Y6(h:KX w m H S U q A)(f:S.O p=some o){U' b:Nat->Int}{a:Int}(j:Hd w' (H.hs o.j) (H.sp o.j) (H.tb o.j) U' b a)(g:w.grownBy w' (some (H.hs o.j))):KX w' m H (S.own p ⟨o.j,b,a⟩) (fun i=>if i=o.j then U' else U i) q A/\Stp w w' A A:=by
 obtain⟨G,k,e⟩:=h;obtain⟨d,c⟩:=k.hd f j g;have l:A=fun i=>G.κ i≠0:=funext fun i=>propext (e i);subst l;exact⟨⟨G,d,fun _=>Iff.rfl⟩,c⟩
theorem KX.hold(h:KX w m H S U q A)(e:S.O p=some o){U' c:Nat->Int}{b:Int}(f:Hd w' (H.hs o.j) (H.sp o.j) (H.tb o.j) U' c b)(g:w.grownBy w' (some (H.hs o.j))):∃a,KX w' m H (S.own p ⟨o.j,c,b⟩) (fun i=>if i=o.j then U' else U i) q a/\Stp w w' A a:=by
 obtain⟨a,j,d⟩:=(⟨A,h.Y6 e f g⟩:∃a,KX w' m H (S.own p ⟨o.j,c,b⟩) (fun i=>if i=o.j then U' else U i) q a/\Stp w w' A a);exact⟨a,j,d⟩
theorem KX.ZH(h:KX w m H S U q A)(b:S.O p=some o){U':Nat->Int}(d:Hd w' (H.hs o.j) (H.sp o.j) (H.tb o.j) U' o.m o.eX)(g:w.grownBy w' (some (H.hs o.j))):KX w' m H S (fun i=>if i=o.j then U' else U i) q A/\Stp w w' A A:=by
 obtain⟨a,c⟩:=h.Y6 b d g;unfold KS.own at a;rw[Cr b] at a;exact⟨a,c⟩
theorem KX.led(h:KX w m H S U q A)(c:S.O p=some o){U':Nat->Int}(e:Hd w' (H.hs o.j) (H.sp o.j) (H.tb o.j) U' o.m o.eX)(g:w.grownBy w' (some (H.hs o.j))):∃a,KX w' m H S (fun i=>if i=o.j then U' else U i) q a/\Stp w w' A a:=by
 obtain⟨a,b,d⟩:=h.hold c e g;unfold KS.own at b;rw[Cr c] at b;exact⟨a,b,d⟩
theorem KX.oW(h:KX w m H S U q A)(j:Nat):(au S j).length=8:=by
 by_cases a:j<S.Ts.length
 ·rw[jb a];exact h.inv.len a
 ·unfold au;rw[getD_eq_getElem?_getD,List.getElem?_eq_none (by omega)];rfl
theorem KX.Ji(h:KX w m H S U q A)(j:Nat):Fit (kZ S j):=fun k=>by
 have b:=ry (aC S j);have a:=wo (h.oW j);unfold kZ;split
 ·omega
 ·split<;>omega
theorem gu{S:KS}{j:Nat}(b:j<S.Ms.length)(a:PM)(D':Nat->Nat->Int)(i:Nat):aC (S.space j a D') i=if i=j then a else aC S i:=by
 unfold aC KS.space;simp only[getD_eq_getElem?_getD,List.getElem?_set];by_cases e:i=j
 ·subst e;simp[b]
 ·rw[if_neg (Ne.symm e),if_neg e]
theorem qC{S:KS}{j:Nat}(a:PM)(D':Nat->Nat->Int)(i:Nat):au (S.space j a D') i=au S i:=rfl
theorem gX{S:KS}{j:Nat}(b:j<S.Ts.length)(D':DS)(a:Ns)(i:Nat):au (S.files D' j a) i=if i=j then a else au S i:=by
 unfold au KS.files;simp only[getD_eq_getElem?_getD,List.getElem?_set];by_cases e:i=j
 ·subst e;simp[b]
 ·rw[if_neg (Ne.symm e),if_neg e]
theorem oD{S:KS}{j:Nat}(D':DS)(a:Ns)(i:Nat):aC (S.files D' j a) i=aC S i:=rfl
theorem jS{S:KS}{j:Nat}(a:j<S.Ms.length):S.space j (aC S j) S.W=S:=by
 unfold KS.space;rw[pQ a,List.set_getElem_self]
theorem pJ{S:KS}{j:Nat}(a:j<S.Ts.length):S.files S.D j (au S j)=S:=by
 unfold KS.files;rw[jb a,List.set_getElem_self]
theorem Hy{S:KS}{j:Nat}(b a:PM)(c D2:Nat->Nat->Int):(S.space j b c).space j a D2=S.space j a D2:=by
 unfold KS.space;simp only[set_set]
theorem Iy{S:KS}{j:Nat}(c D2:DS)(b a:Ns):(S.files c j b).files D2 j a=S.files D2 j a:=by
 unfold KS.files;simp only[set_set]
theorem uh.space(k:uh S)(f:S.O p=some o)(l:S.Ms.length=S.Ts.length)(i:PM)(D':Nat->Nat->Int):uh (S.space o.j i D'):=by
 refine⟨k.run,fun j g c=>?_,k.fit⟩;obtain⟨h,d⟩:=k.gone j g c;refine⟨h,?_⟩;have a:j≠o.j:=fun e=>c p o f e.symm;by_cases b:o.j<S.Ms.length
 ·rw[gu b,if_neg a];exact d
 ·unfold KS.space aC;rw[List.set_eq_of_length_le (by omega)];exact d
theorem uh.files(k:uh S)(h:S.O p=some o)(D':DS)(l:Ns):uh (S.files D' o.j l):=by
 refine⟨k.run,fun j f d=>?_,k.fit⟩;have c:j<S.Ts.length:=by unfold KS.files at f;simpa using f
 obtain⟨g,i⟩:=k.gone j c d;refine⟨?_,i⟩;have a:j≠o.j:=fun e=>d p o h e.symm;by_cases b:o.j<S.Ts.length
 ·rw[gX b,if_neg a];exact g
 ·unfold KS.files au;rw[List.set_eq_of_length_le (by omega)];exact g
theorem uh.tree(k:uh S)(T':Wd):uh (S.tree T'):=⟨k.run,k.gone,k.fit⟩
theorem uh.own(k:uh S)(f:S.O p=some o){d:Nat->Int}{a:Int}(l:Fit d)(i:-100<=a/\a<=100):uh (S.own p ⟨o.j,d,a⟩):=by
 refine⟨fun x=>?_,fun j h g=>k.gone j h (fun x b e=>?_),fun x b e=>?_⟩
 ·by_cases e:x=p
  ·have:=k.run x;rw[e] at this ⊢;rw[f] at this;show (kL S.O p _ p).isSome=_;rw[eB];exact this
  ·show (kL S.O p _ x).isSome=_;rw[iW e];exact k.run x
 ·by_cases c:x=p
  ·subst c;rw[f] at e;obtain rfl:=Option.some.inj e;exact g x ⟨o.j,d,a⟩ (eB _ _ _)
  ·exact g x b (by show kL S.O p _ x=_;rw[iW c];exact e)
 ·by_cases c:x=p
  ·subst c;have e:kL S.O x ⟨o.j,d,a⟩ x=some b:=e;rw[eB] at e;obtain rfl:=Option.some.inj e;exact⟨l,i⟩
  ·have e:kL S.O p ⟨o.j,d,a⟩ x=some b:=e;rw[iW c] at e;exact k.fit x b e
theorem uh.procs(k:uh S){a:Ps}(h:∀x,aD a x=aD S.P x):uh (S.procs a):=⟨fun x=>(k.run x).trans (h x).symm,k.gone,k.fit⟩
theorem KX.toN(h:KX w m H S U q A)(ok:uh S)(e:∀p o,S.O p=some o->∀k,k<3->U o.j k=kZ S o.j k):KN w m H S q A:=⟨h.JC e,ok⟩
theorem KN.below(h:KN w m H S q A)(a:Below w.heap.size w w'):KN w' m H S q A:=⟨h.1.below a,h.2⟩
theorem KN.more(h:KN w m H S q A){q':Nat}(a:q<=q'):KN w m H S q' A:=⟨h.1.more a,h.2⟩
theorem KN.ac5(h:KN w m H S q A):S.O p=none↔aD S.P p=false:=by
 rw[<-h.2.run p];cases S.O p<;>simp
def rP(w:World)(A:Nat->Prop)(l:List (Nat×Value)):Prop:=∀y∈l,w.cell? ⟨y.1,0,none⟩=some y.2/\¬A y.1
theorem rP.p8{b:Nat->Prop}{l:List (Nat×Value)}(h:rP w A l)(st:Stp w w' A b):rP w' b l:=fun y a=>st.cO (h y a).1 (h y a).2
theorem rP.below{l:List (Nat×Value)}(h:rP w A l)(a:Below w.heap.size w w'):rP w' A l:=h.p8 (.below a)
theorem sG(w:World)(a:Value)(b:TypeId):Below w.heap.size w (w.alloc (.cells #[a] b))/\(w.alloc (.cells #[a] b)).heap.size=w.heap.size+1/\(w.alloc (.cells #[a] b)).cell? ⟨w.heap.size,0,none⟩=some a/\(w.alloc (.cells #[a] b)).frozen? ⟨w.heap.size,0,none⟩=false:=by
 have h:(w.alloc (.cells #[a] b)).heap[w.heap.size]? = some (.cells #[a] b):=by
  show (w.heap.push _)[w.heap.size]? = _;rw[Array.getElem?_push,if_pos rfl]
 exact⟨(Below.refl _ w).alloc (le_refl _) _,by show (w.heap.push _).size=_;rw[Array.size_push],by rw[cell_of_row _ _ _ _ _ _ h];rfl,by unfold World.frozen?;simp only[h];rfl⟩
theorem dm{V:World}(a:Below w.heap.size w V){x:Nat}{v:Value}(h:w.cell? ⟨x,0,none⟩=some v):V.cell? ⟨x,0,none⟩=some v:=by
 rw[a.cell (p:=⟨x,0,none⟩) (block_lt_of_cell? w _ h)];exact h
theorem Q4(w:World)(a b:Value)(c d:TypeId):Below w.heap.size w ((w.alloc (.cells #[a] c)).alloc (.cells #[b] d))/\((w.alloc (.cells #[a] c)).alloc (.cells #[b] d)).heap.size=w.heap.size+1+1/\((w.alloc (.cells #[a] c)).alloc (.cells #[b] d)).cell? ⟨w.heap.size,0,none⟩=some a/\((w.alloc (.cells #[a] c)).alloc (.cells #[b] d)).cell? ⟨w.heap.size+1,0,none⟩=some b:=by
 obtain⟨h,s1,g,_⟩:=sG w a c;obtain⟨f,s2,e,_⟩:=sG (w.alloc (.cells #[a] c)) b d;rw[s1] at s2 e;exact⟨h.trans (f.mono (by omega)),s2,(dm f g),e⟩
theorem Q3(w:World)(a b c:Value)(e d f:TypeId):Below w.heap.size w (((w.alloc (.cells #[a] e)).alloc (.cells #[b] d)).alloc (.cells #[c] f))/\(((w.alloc (.cells #[a] e)).alloc (.cells #[b] d)).alloc (.cells #[c] f)).heap.size=w.heap.size+1+1+1/\(((w.alloc (.cells #[a] e)).alloc (.cells #[b] d)).alloc (.cells #[c] f)).cell? ⟨w.heap.size,0,none⟩=some a/\(((w.alloc (.cells #[a] e)).alloc (.cells #[b] d)).alloc (.cells #[c] f)).cell? ⟨w.heap.size+1,0,none⟩=some b/\(((w.alloc (.cells #[a] e)).alloc (.cells #[b] d)).alloc (.cells #[c] f)).cell? ⟨w.heap.size+1+1,0,none⟩=some c:=by
 obtain⟨k,s1,j,i⟩:=Q4 w a b e d;obtain⟨g,s2,h,_⟩:=sG ((w.alloc (.cells #[a] e)).alloc (.cells #[b] d)) c f;rw[s1] at s2 h;exact⟨k.trans (g.mono (by omega)),s2,(dm g j),(dm g i),h⟩
end
section
variable {w w':World}{m:Int}{H:KH}{S:KS}{U:Nat→Nat→Int}{q:Nat}{A:Nat→Prop}{p:Int}{o:Ow}
theorem KX.desc(h:KX w m H S U q A)(u:o.j<S.Ts.length){q':Nat}(t:q<=q'){fn:FuncId}{args:Array Value}{Q:Ending->DS->Ns->Prop}
 (v:∀f n (j:o.j<f.length),f[o.j]=H.tb o.j->KD w m H.f H.r S.D f S.Ts (2*q) n->Calls prog fn args w fun y c=>∃a b d,Q y a b/\KD c m H.f H.r a f (S.Ts.set o.j b) (2*q') d/\Stp w c n d)
 (s:∀y a b,Q y a b->a.nx<=3*(q':Int)) :
 Calls prog fn args w fun y c=>∃a b,Q y a b/\∃d,KX c m H (S.files a o.j b) U q' d/\Stp w c A d:=by
 obtain⟨G,k,e⟩:=h;have j:o.j<G.bs.length:=by rw[k.Lb];exact u
 refine(v G.bs G.Ad j (k.tb _ j) k.kd).mono ?_;rintro y c ⟨a,b,d,l,i,p⟩;obtain⟨x,r,g⟩:=k.desc i p (by rw[length_set]) (s y a b l) t;exact⟨a,b,l,_,.of r,qY e g⟩
theorem KD.more{f r k:Nat}{D:DS}{b:List Nat}{Ts:List Ns}{c:Nat->Prop}(a:KD w m f r D b Ts k c){k':Nat}(d:k<=k'):KD w m f r D b Ts k' c:={ a with inv:=a.inv.more d }
theorem KX.og(h:KX w m H S U q A)(a:o.j<S.Ts.length)(x:Int):Calls prog 153 #[wp H.f,wp (H.tb o.j),.int .i64 x] w fun y c=>y=.returned (.bool (aJ (au S o.j) x))/\Below w.heap.size w c:=by
 obtain⟨G,k,e⟩:=h;have b:o.j<G.bs.length:=by rw[k.Lb];exact a
 have:=k.kd.has b x;rw[k.tb _ b,<-jb a] at this;exact this
theorem KX.Sd(h:KX w m H S U q A)(f:o.j<S.Ts.length)(d:q<=400)(x:Int):Calls prog 148 #[wp H.f,wp (H.tb o.j),.int .i64 x] w fun y a=>y=.returned (aI (if aJ (au S o.j) x=true then 0 else 7))/\∃g,KX a m H (S.files (iT S.D (au S o.j) x) o.j (gW (au S o.j) x)) U q g/\Stp w a A g:=by
 refine(h.desc f (q':=q) (by omega) (Q:=fun y c b=>y=.returned (aI (if aJ (au S o.j) x=true then 0 else 7))/\c=iT S.D (au S o.j) x/\b=gW (au S o.j) x) (fun k l j e i=>?_) (fun y c b d=>?_)).mono ?_
 ·have:=i.close (by omega) j x;rw[<-jb f,e] at this;exact this
 ·obtain⟨_,rfl,rfl⟩:=d;have:=h.nx;rw[OU];exact this
 ·rintro y a ⟨c,b,⟨rfl,rfl,rfl⟩,r⟩;exact⟨rfl,r⟩
theorem KX.afJ(h:KX w m H S U q A)(d:o.j<S.Ts.length)(x:Int):Calls prog 152 #[wp H.f,wp (H.tb o.j),.int .i64 x] w fun y a=>y=.returned (.tuple #[.int .i64 (jr (au S o.j) x),aI (jH (au S o.j) x)])/\∃f,KX a m H (S.files (lM S.D (au S o.j) x) o.j (lL (au S o.j) x)) U q f/\Stp w a A f:=by
 refine(h.desc d (q':=q) (by omega) (Q:=fun y c b=>y=.returned (.tuple #[.int .i64 (jr (au S o.j) x),aI (jH (au S o.j) x)])/\c=lM S.D (au S o.j) x/\b=lL (au S o.j) x) (fun k l j e g=>?_) (fun y c b i=>?_)).mono ?_
 ·have:=g.dup j x;rw[<-jb d,e] at this;exact this
 ·obtain⟨_,rfl,rfl⟩:=i;have:=h.nx;rw[aaA];exact this
 ·rintro y a ⟨c,b,⟨rfl,rfl,rfl⟩,r⟩;exact⟨rfl,r⟩
theorem KX.adt(h:KX w m H S U q A)(g:o.j<S.Ts.length)(f:q<=400)(x a:Int):Calls prog 156 #[wp H.f,wp (H.tb o.j),.int .i64 x,.int .i64 a] w fun y b=>y=.returned (aI (fu (au S o.j) x a))/\∃i,KX b m H (S.files (fQ S.D (au S o.j) x a) o.j (fq (au S o.j) x a)) U q i/\Stp w b A i:=by
 refine(h.desc g (q':=q) (by omega) (Q:=fun y d c=>y=.returned (aI (fu (au S o.j) x a))/\d=fQ S.D (au S o.j) x a/\c=fq (au S o.j) x a) (fun l n k e j=>?_) (fun y d c f=>?_)).mono ?_
 ·have:=j.dup2 (by omega) k x a;rw[<-jb g,e] at this;exact this
 ·obtain⟨_,rfl,rfl⟩:=f;have:=h.nx;rw[Xa];exact this
 ·rintro y b ⟨d,c,⟨rfl,rfl,rfl⟩,r⟩;exact⟨rfl,r⟩
theorem KX.markT(h:KX w m H S U q A)(f:o.j<S.Ts.length)(x:Int)(c:Bool):Calls prog 172 #[wp H.f,wp (H.tb o.j),.int .i64 x,.bool c] w fun y a=>y=.returned (aI (if aJ (au S o.j) x=true then 0 else 7))/\∃g,KX a m H (S.files (S.D) o.j (kR (au S o.j) x c)) U q g/\Stp w a A g:=by
 refine(h.desc f (q':=q) (by omega) (Q:=fun y d b=>y=.returned (aI (if aJ (au S o.j) x=true then 0 else 7))/\d=S.D/\b=kR (au S o.j) x c) (fun l n k e i=>?_) (fun y d b j=>?_)).mono ?_
 ·have:=i.mark k x c;rw[<-jb f,e] at this;exact this
 ·obtain⟨_,rfl,rfl⟩:=j;have:=h.nx;exact this
 ·rintro y a ⟨d,b,⟨rfl,rfl,rfl⟩,r⟩;exact⟨rfl,r⟩
theorem KX.acU(h:KX w m H S U q A)(f:o.j<S.Ts.length)(x a:Int):Calls prog 181 #[wp H.f,wp (H.tb o.j),.int .i64 x,.int .i64 a] w fun y b=>y=.returned (aI (kg S.D (au S o.j) x a))/\∃g,KX b m H (S.files (kr S.D (au S o.j) x a) o.j ((au S o.j))) U q g/\Stp w b A g:=by
 refine(h.desc f (q':=q) (by omega) (Q:=fun y d c=>y=.returned (aI (kg S.D (au S o.j) x a))/\d=kr S.D (au S o.j) x a/\c=(au S o.j)) (fun l n k e i=>?_) (fun y d c j=>?_)).mono ?_
 ·have:=i.ZB k x a;rw[<-jb f,e] at this;exact this
 ·obtain⟨_,rfl,rfl⟩:=j;have:=h.nx;rw[WW];exact this
 ·rintro y b ⟨d,c,⟨rfl,rfl,rfl⟩,r⟩;exact⟨rfl,r⟩
theorem KX.acW(h:KX w m H S U q A)(f:o.j<S.Ts.length)(x a:Int):Calls prog 179 #[wp H.f,wp (H.tb o.j),.int .i64 x,.int .i64 a] w fun y b=>y=.returned (.tuple #[tx (bR S.D (au S o.j) x a).1,aI (bR S.D (au S o.j) x a).2.1])/\∃g,KX b m H (S.files ((bR S.D (au S o.j) x a).2.2) o.j ((au S o.j))) U q g/\Stp w b A g:=by
 refine(h.desc f (q':=q) (by omega) (Q:=fun y d c=>y=.returned (.tuple #[tx (bR S.D (au S o.j) x a).1,aI (bR S.D (au S o.j) x a).2.1])/\d=(bR S.D (au S o.j) x a).2.2/\c=(au S o.j)) (fun l n k e i=>?_) (fun y d c j=>?_)).mono ?_
 ·have:=i.read k x a;rw[<-jb f,e] at this;exact this
 ·obtain⟨_,rfl,rfl⟩:=j;have:=h.nx;rw[WX];exact this
 ·rintro y b ⟨d,c,⟨rfl,rfl,rfl⟩,r⟩;exact⟨rfl,r⟩
theorem KX.ZX(h:KX w m H S U q A)(i:o.j<S.Ts.length)(x:Int)(s:List UInt8)(l:s.length<100000)(a:Int):Calls prog 187 #[wp H.f,wp (H.tb o.j),.int .i64 x,tx s,.int .i64 a] w fun y d=>y=.returned (.tuple #[.int .i64 (bZ S.D (au S o.j) x s a).1,aI (bZ S.D (au S o.j) x s a).2.1])/\∃f,KX d m H (S.files ((bZ S.D (au S o.j) x s a).2.2) o.j ((au S o.j))) U (q+1) f/\Stp w d A f:=by
 refine(h.desc i (q':=(q+1)) (by omega) (Q:=fun y c b=>y=.returned (.tuple #[.int .i64 (bZ S.D (au S o.j) x s a).1,aI (bZ S.D (au S o.j) x s a).2.1])/\c=(bZ S.D (au S o.j) x s a).2.2/\b=(au S o.j)) (fun u v p e k=>?_) (fun y c b n=>?_)).mono ?_
 ·have:=k.write p x s l a;rw[<-jb i,e] at this;refine this.mono ?_;rintro y d ⟨c,b,f,t,g,j⟩;exact⟨c,b,f,t,g.more (by omega),j⟩
 ·obtain⟨_,rfl,rfl⟩:=n;have:=h.nx;rw[TL];omega
 ·rintro y d ⟨c,b,⟨rfl,rfl,rfl⟩,r⟩;exact⟨rfl,r⟩
theorem KX.abl(h:KX w m H S U q A)(f:o.j<S.Ts.length)(d:q<=400):Calls prog 283 #[wp H.f,wp (H.tb o.j)] w fun y a=>y=.returned (.tuple #[])/\∃g,KX a m H (S.files ((ah true S.D (au S o.j) 8).1) o.j ((ah true S.D (au S o.j) 8).2)) U q g/\Stp w a A g:=by
 refine(h.desc f (q':=q) (by omega) (Q:=fun y c b=>y=.returned (.tuple #[])/\c=(ah true S.D (au S o.j) 8).1/\b=(ah true S.D (au S o.j) 8).2) (fun k l j e i=>?_) (fun y c b d=>?_)).mono ?_
 ·have:=i.clear (by omega) j;rw[<-jb f,e] at this;exact this
 ·obtain⟨_,rfl,rfl⟩:=d;have:=h.nx;rw[yl];exact this
 ·rintro y a ⟨c,b,⟨rfl,rfl,rfl⟩,r⟩;exact⟨rfl,r⟩
theorem KX.adp(h:KX w m H S U q A)(f:o.j<S.Ts.length)(d:q<=400):Calls prog 159 #[wp H.f,wp (H.tb o.j)] w fun y a=>y=.returned (.tuple #[])/\∃g,KX a m H (S.files ((ah false S.D (au S o.j) 8).1) o.j ((ah false S.D (au S o.j) 8).2)) U q g/\Stp w a A g:=by
 refine(h.desc f (q':=q) (by omega) (Q:=fun y c b=>y=.returned (.tuple #[])/\c=(ah false S.D (au S o.j) 8).1/\b=(ah false S.D (au S o.j) 8).2) (fun k l j e i=>?_) (fun y c b d=>?_)).mono ?_
 ·have:=i.exec (by omega) j;rw[<-jb f,e] at this;exact this
 ·obtain⟨_,rfl,rfl⟩:=d;have:=h.nx;rw[yl];exact this
 ·rintro y a ⟨c,b,⟨rfl,rfl,rfl⟩,r⟩;exact⟨rfl,r⟩
theorem KX.ac0(h:KX w m H S U q A)(j:o.j<S.Ts.length)(i:q<=400){n:Nat}(t:p9 S.D.E n):Calls prog 177 #[wp H.f,wp (H.tb o.j)] w fun z f=>∃b a,(∃x y c,z=.returned (.tuple #[.int .i64 x,.int .i64 y,aI c])/\rX S.D (au S o.j) n x y c b a)/\∃d,KX f m H (S.files b o.j a) U (q+1) d/\Stp w f A d:=by
 have u:=h.nx;refine h.desc j (q':=q+1) (by omega) (Q:=fun z b a=>∃x y c,z=.returned (.tuple #[.int .i64 x,.int .i64 y,aI c])/\rX S.D (au S o.j) n x y c b a) (fun v B p e l=>?_) (fun y b a i=>?_)
 ·have:=l.pipe (by omega) p t;rw[<-jb j,e] at this;refine this.mono ?_;rintro y f ⟨b,a,d,r,g,k⟩;exact⟨b,a,d,r,g.more (by omega),k⟩
 ·obtain⟨x,y,c,_,s⟩:=i;have:=WY s;omega
theorem KX.bF(h:KX w m H S U q A)(l:o.j<S.Ts.length)(k:q<=400){n s:Nat}(D:p9 S.D.E n)(t:dD S.D.T s)(a:List UInt8)(u:a.length<100000)(f:Int)(mk:Bool):Calls prog 175 #[wp H.f,wp (H.tb o.j),tx a,.int .i64 f,.bool mk] w fun z i=>∃d b,(∃x c,z=.returned (.tuple #[.int .i64 x,aI c])/\iM S.D (au S o.j) n s a f mk x c d b)/\∃g,KX i m H (S.files d o.j b) U (q+1) g/\Stp w i A g:=by
 have E:=h.nx;refine h.desc l (q':=q+1) (by omega) (Q:=fun z d b=>∃x c,z=.returned (.tuple #[.int .i64 x,aI c])/\iM S.D (au S o.j) n s a f mk x c d b) (fun F G v e r=>?_) (fun y d b k=>?_)
 ·have:=r.file (by omega) (by omega) v D t a u f mk;rw[<-jb l,e] at this;refine this.mono ?_;rintro y i ⟨d,b,g,B,j,p⟩;exact⟨d,b,g,B,j.more (by omega),p⟩
 ·obtain⟨x,c,_,C⟩:=k;have:=W9 C;omega
theorem KX.Lr(h:KX w m H S U q A){fn:FuncId}{args:Array Value}{Q:Ending->Wd->Prop}
 (n:∀g i,KD w m H.f H.r S.D g S.Ts (2*q) i->Calls prog fn args w fun y b=>∃a c,Q y a/\KD b m H.f H.r { S.D with T:=a } g S.Ts (2*q+1) c/\Stp w b i c) :
 Calls prog fn args w fun y b=>∃a,Q y a/\∃c,KX b m H (S.tree a) U (q+1) c/\Stp w b A c:=by
 have p:=h.nx;obtain⟨G,k,e⟩:=h;refine(n G.bs G.Ad k.kd).mono ?_;rintro y b ⟨a,c,o,f,j⟩;obtain⟨r,l,d⟩:=k.desc (q':=q+1) (f.more (by omega)) j rfl (by show S.D.nx<=_;omega) (by omega);exact⟨a,o,_,.of l,qY e d⟩
theorem KX.proc(h:KX w m H S U q A){fn:FuncId}{args:Array Value}{Q:Ending->Ps->Prop}
 (j:∀c,QJ w H.t H.g S.P c->Calls prog fn args w fun y b=>∃a,Q y a/\Fw w H.t H.g a b) :
 Calls prog fn args w fun y b=>∃a,Q y a/\∃f,KX b m H (S.procs a) U q f/\Stp w b A f:=by
 obtain⟨G,k,e⟩:=h;obtain⟨c,g⟩:=k.qj;refine(j c g).mono ?_;rintro y b ⟨a,l,t⟩;obtain⟨n,i,d⟩:=k.proc t;exact⟨a,l,_,.of i,qY e d⟩
theorem KX.acT(h:KX w m H S U q A)(g:H.ok=true)(n:Int)(f:(Lit.int .i64 n).wf=true):Calls prog 128 #[wp H.t,.int .i64 n] w fun y a=>y=.returned (.int .i64 (aO S.P n))/\∃d,KX a m H (S.procs (dP S.P n)) U q d/\Stp w a A d:=by
 refine(h.proc (Q:=fun y b=>y=.returned (.int .i64 (aO S.P n))/\b=dP S.P n) (fun c e=>(e.take (h.tab.2 g) n f).mono ?_)).mono ?_
 ·rintro y a ⟨rfl,t⟩;exact⟨_,⟨rfl,rfl⟩,t⟩
 ·rintro y a ⟨b,⟨rfl,rfl⟩,r⟩;exact⟨rfl,r⟩
theorem KX.Zd(h:KX w m H S U q A)(n code:Int)(f:(Lit.int .i64 n).wf=true):Calls prog 200 #[wp H.t,.int .i64 n,.int .i64 code] w fun y a=>y=.returned (aI (kV S.P n))/\∃d,KX a m H (S.procs (if kV S.P n=0 then dG S.P n code else S.P)) U q d/\Stp w a A d:=by
 refine(h.proc (Q:=fun y b=>y=.returned (aI (kV S.P n))/\b=if kV S.P n=0 then dG S.P n code else S.P) (fun c e=>(e.exit n code f).mono ?_)).mono ?_
 ·rintro y a ⟨rfl,t⟩;exact⟨_,⟨rfl,rfl⟩,t⟩
 ·rintro y a ⟨b,⟨rfl,rfl⟩,r⟩;exact⟨rfl,r⟩
theorem KX.acQ(h:KX w m H S U q A)(n:Int)(f:(Lit.int .i64 n).wf=true):Calls prog 186 #[wp H.t,.int .i64 n] w fun y a=>y=.returned (.tuple #[.int .i64 (bC S.P n).1,.int .i64 (bC S.P n).2.1,aI (bC S.P n).2.2.1])/\∃d,KX a m H (S.procs (bC S.P n).2.2.2) U q d/\Stp w a A d:=by
 refine(h.proc (Q:=fun y b=>y=.returned (.tuple #[.int .i64 (bC S.P n).1,.int .i64 (bC S.P n).2.1,aI (bC S.P n).2.2.1])/\b=(bC S.P n).2.2.2) (fun c e=>(e.wait n f).mono ?_)).mono ?_
 ·rintro y a ⟨rfl,t⟩;exact⟨_,⟨rfl,rfl⟩,t⟩
 ·rintro y a ⟨b,⟨rfl,rfl⟩,r⟩;exact⟨rfl,r⟩
theorem KX.Y1(h:KX w m H S U q A)(n a:Int)(g:(Lit.int .i64 n).wf=true):Calls prog 163 #[wp H.t,.int .i64 n,.int .i64 a] w fun y b=>y=.returned (aI (eH S.P n a))/\∃e,KX b m H (S.procs (if eH S.P n a=0 then kC S.P n a else S.P)) U q e/\Stp w b A e:=by
 refine(h.proc (Q:=fun y d=>y=.returned (aI (eH S.P n a))/\d=if eH S.P n a=0 then kC S.P n a else S.P) (fun c f=>(f.kill n a g).mono ?_)).mono ?_
 ·rintro y b ⟨rfl,t⟩;exact⟨_,⟨rfl,rfl⟩,t⟩
 ·rintro y b ⟨d,⟨rfl,rfl⟩,r⟩;exact⟨rfl,r⟩
theorem KX.XF(h:KX w m H S U q A)(n a:Int)(on:Bool)(g:(Lit.int .i64 n).wf=true):Calls prog 162 #[wp H.t,.int .i64 n,.int .i64 a,.bool on] w fun y b=>y=.returned (aI (bN S.P n a))/\∃e,KX b m H (S.procs (if bN S.P n a=0 then fE S.P n a on else S.P)) U q e/\Stp w b A e:=by
 refine(h.proc (Q:=fun y d=>y=.returned (aI (bN S.P n a))/\d=if bN S.P n a=0 then fE S.P n a on else S.P) (fun c f=>(f.ignore n a on g).mono ?_)).mono ?_
 ·rintro y b ⟨rfl,t⟩;exact⟨_,⟨rfl,rfl⟩,t⟩
 ·rintro y b ⟨d,⟨rfl,rfl⟩,r⟩;exact⟨rfl,r⟩
end
section
variable {w w':World}{m:Int}{H:KH}{S:KS}{U U':Nat→Nat→Int}{q:Nat}{A:Nat→Prop}{p:Int}{o:Ow}
theorem Aw{P:PM}{a c:Int}(b:0<=a):∀(n:Nat),a+n<=64->(∀i:Nat,i<n->P (a+i)=none)->bX (fo P a n c)=bX P+n
 |0,_,_=>by rw[Aq,Nat.add_zero]
 |n+1,h1,hn=>by
  rw[Ar,vG (by omega) (by omega) (by rw[Gz];exact hn n (by omega)),Aw b n (by omega) (fun i d=>hn i (by omega))];omega
theorem CO{P:PM}{a:Int}(b:0<=a):∀(n:Nat),a+n<=64->(∀i:Nat,i<n->(P (a+i)).isSome=true)->bX (jI P a n)+n=bX P
 |0,_,_=>by rw[wu,Nat.add_zero]
 |n+1,h1,hn=>by
  have:=CO b n (by omega) (fun i c=>hn i (by omega));have d:=zH (P:=jI P a n) (a:=a+n) (by omega) (by omega) (by rw[LP];exact hn n (by omega));rw[wy];omega
theorem Z5{P:PM}{a c:Int}{n:Nat}(b:∀i:Nat,i<n->P (a+i)=none):jI (fo P a n c) a n=P:=by
 funext x;unfold jI fo;by_cases e:a<=x/\x<a+n
 ·rw[if_pos e];have:=b (x-a).toNat (by omega);rw[show a+((x-a).toNat:Int)=x by omega] at this;exact this.symm
 ·rw[if_neg e,if_neg e]
theorem wK{P:PM}{a n b:Int}(h:iV P a n b=0):1<=n/\0<=a/\a+n<=64/\Vp b=true/\iO P a n.toNat=0:=by
 unfold iV at h;split at h
 ·omega
 ·rename_i e
  split at h
  ·omega
  ·rename_i d
   split at h
   ·rename_i c
    obtain⟨i,g,f⟩:=lK.1 (by simpa using e);exact⟨i,g,f,by simpa using d,c⟩
   ·omega
theorem Ua{P:PM}{a n b:Int}(h:iV P a n b=0):((bX (jJ P a n b):Nat):Int)=bX P+n:=by
 obtain⟨j,e,g,f,d⟩:=wK h;unfold jJ;rw[if_pos h,Aw e n.toNat (by omega) (fun i c=>rJ d i c)];omega
theorem NP{P:PM}{a n b:Int}(h:iV P a n b=0):Bc (jJ P a n b) a n=P:=by
 obtain⟨m,l,j,q,g⟩:=wK h;have c:jJ P a n b=fo P a n.toNat b:=if_pos h;have f:ui (fo P a n.toNat b) a n=0:=by
  unfold ui;rw[lK.2 ⟨m,l,j⟩,if_neg (by simp),if_neg];intro d;have o:iO (fo P a n.toNat b) a n.toNat=n.toNat:=by
   unfold iO;have:∀k:Nat,k<=n.toNat->sumTo (fun i=>if (fo P a n.toNat b (a+i)).isSome then 1 else 0) 0 k=k:=fun k=>by
    induction k with
    |zero=>intro _;rfl
    |succ k ih=>
     intro p;rw[pE,ih (by omega),Nat.zero_add];have:(fo P a n.toNat b (a+k)).isSome=true:=by unfold fo;rw[if_pos (by omega)];rfl
     rw[if_pos this]
   exact this _ (le_refl _)
  omega
 unfold Bc;rw[c,if_pos f];exact Z5 (fun i e=>rJ g i e)
theorem Xp{P:PM}{a n b:Int}(h:iV P a n b≠0):jJ P a n b=P:=if_neg h
def kv(S:KS)(o:Ow)(a n af:Int):Int:=if iV (aC S o.j) a n af≠0 then iV (aC S o.j) a n af else if ((bX (aC S o.j):Nat):Int)+n<=o.m 0 then 0 else 4
def ku(S:KS)(o:Ow)(a n af:Int):KS:=if kv S o a n af=0 then S.space o.j (jJ (aC S o.j) a n af) S.W else S
theorem VM{S:KS}{o:Ow}{a n c:Int}(h:iV (aC S o.j) a n c=0):why (kZ S o.j) o.m 0 n=kv S o a n c:=by
 obtain⟨l,k,j,i,g⟩:=wK h;unfold kv why;rw[if_neg (not_not_intro h)];have e:kZ S o.j (0:Int).toNat=((bX (aC S o.j):Nat):Int):=rfl;have d:o.m (0:Int).toNat=o.m 0:=rfl;rw[e,d];have f:=ry (aC S o.j);by_cases b:((bX (aC S o.j):Nat):Int)+n<=o.m 0
 ·rw[if_pos b,if_neg (by omega),if_neg (by omega),if_neg (by omega),if_neg (by omega)]
 ·rw[if_neg b,if_neg (by omega),if_neg (by omega),if_pos (by omega)]
theorem KX.afi(h:KX w m H S U q A)(u:S.O p=some o)(a n c:Int)(C:n<=9223372036854775807){k j i g:Nat}(v:rP w A [(k,wp (H.hs o.j)),(j,.int .i64 a),(i,.int .i64 n),(g,.int .i64 c)]):Calls prog 168 #[wp k,wp j,wp i,wp g] w fun y b=>y=.returned (aI (iV (aC S o.j) a n c))/\∃f,KX b m H (S.space o.j (jJ (aC S o.j) a n c) S.W) U q f/\Stp w b A f:=by
 have d:∀ {b:World}{f:Nat->Prop}{x:KS},KX b m H x U q f->x.O p=some o->rP b f [(k,wp (H.hs o.j)),(j,.int .i64 a),(i,.int .i64 n),(g,.int .i64 c)]->b.cell? ⟨k,0,none⟩=some (wp (H.hs o.j))/\b.cell? ⟨j,0,none⟩=some (.int .i64 a)/\b.cell? ⟨i,0,none⟩=some (.int .i64 n)/\b.cell? ⟨g,0,none⟩=some (.int .i64 c)/\b.cell? ⟨H.hs o.j,0,none⟩=some (wp (H.sp o.j)):=fun r t s=>
  ⟨(s (k,_) (by simp)).1,(s (j,_) (by simp)).1,(s (i,_) (by simp)).1,(s (g,_) (by simp)).1,(r.hd t).at 0⟩
 have G:=d h u v;have D:Calls prog 169 #[wp (H.sp o.j),.int .i64 a,.int .i64 n,.int .i64 c] w.drew fun y b=>y=.returned (aI (iV (aC S o.j) a n c))/\(b.cell? ⟨k,0,none⟩=some (wp (H.hs o.j))/\b.cell? ⟨j,0,none⟩=some (.int .i64 a)/\b.cell? ⟨i,0,none⟩=some (.int .i64 n)/\b.cell? ⟨g,0,none⟩=some (.int .i64 c)/\b.cell? ⟨H.hs o.j,0,none⟩=some (wp (H.sp o.j)))/\∃f,KX b m H (S.space o.j (jJ (aC S o.j) a n c) S.W) U q f/\Stp w b A f:=by
  refine((h.below (bH w)).map (h.rR u) a n c C).mono ?_;rintro y b ⟨rfl,f,r,z⟩;have l:Stp w b A f:=Stp.base (V:=w.drew) rfl rfl rfl rfl z;exact⟨rfl,d r u (v.p8 l),f,r,l⟩
 generalize iV (aC S o.j) a n c=E at *;generalize S.space o.j (jJ (aC S o.j) a n c) S.W=S2 at *;go_enter Tryz.func168,Tryz.ntmps168
 go_upto_region 1 with fail
 go_region_held3 (fun b=>b.cell? ⟨k,0,none⟩=some (wp (H.hs o.j))/\b.cell? ⟨j,0,none⟩=some (.int .i64 a)/\b.cell? ⟨i,0,none⟩=some (.int .i64 n)/\b.cell? ⟨g,0,none⟩=some (.int .i64 c)/\b.cell? ⟨H.hs o.j,0,none⟩=some (wp (H.sp o.j))) (first|exact G|exact F) (first
  |(go_at_call 169;refine D.mono ?_;rintro e I ⟨rfl,F,B⟩))
 all_goals
  go_wp2_with fail
  go_ret;exact⟨rfl,B⟩
theorem KX.afh(h:KX w m H S U q A)(r:S.O p=some o)(a n:Int)(z:n<=9223372036854775807){i g f:Nat}(t:rP w A [(i,wp (H.hs o.j)),(g,.int .i64 a),(f,.int .i64 n)]):Calls prog 170 #[wp i,wp g,wp f] w fun y b=>y=.returned (aI (ui (aC S o.j) a n))/\∃d,KX b m H (S.space o.j (Bc (aC S o.j) a n) S.W) U q d/\Stp w b A d:=by
 have c:∀ {b:World}{d:Nat->Prop}{u:KS},KX b m H u U q d->u.O p=some o->rP b d [(i,wp (H.hs o.j)),(g,.int .i64 a),(f,.int .i64 n)]->b.cell? ⟨i,0,none⟩=some (wp (H.hs o.j))/\b.cell? ⟨g,0,none⟩=some (.int .i64 a)/\b.cell? ⟨f,0,none⟩=some (.int .i64 n)/\b.cell? ⟨H.hs o.j,0,none⟩=some (wp (H.sp o.j)):=fun k l s=>
  ⟨(s (i,_) (by simp)).1,(s (g,_) (by simp)).1,(s (f,_) (by simp)).1,(k.hd l).at 0⟩
 have D:=c h r t;have B:Calls prog 171 #[wp (H.sp o.j),.int .i64 a,.int .i64 n] w.drew fun y b=>y=.returned (aI (ui (aC S o.j) a n))/\(b.cell? ⟨i,0,none⟩=some (wp (H.hs o.j))/\b.cell? ⟨g,0,none⟩=some (.int .i64 a)/\b.cell? ⟨f,0,none⟩=some (.int .i64 n)/\b.cell? ⟨H.hs o.j,0,none⟩=some (wp (H.sp o.j)))/\∃d,KX b m H (S.space o.j (Bc (aC S o.j) a n) S.W) U q d/\Stp w b A d:=by
  refine((h.below (bH w)).YH (h.rR r) a n z).mono ?_;rintro y b ⟨rfl,d,k,v⟩;have j:Stp w b A d:=Stp.base (V:=w.drew) rfl rfl rfl rfl v;exact⟨rfl,c k r (t.p8 j),d,k,j⟩
 generalize ui (aC S o.j) a n=E at *;generalize S.space o.j (Bc (aC S o.j) a n) S.W=S2 at *;go_enter Tryz.func170,Tryz.ntmps170
 go_upto_region 1 with fail
 go_region_held3 (fun b=>b.cell? ⟨i,0,none⟩=some (wp (H.hs o.j))/\b.cell? ⟨g,0,none⟩=some (.int .i64 a)/\b.cell? ⟨f,0,none⟩=some (.int .i64 n)/\b.cell? ⟨H.hs o.j,0,none⟩=some (wp (H.sp o.j))) (first|exact D|exact C) (first
  |(go_at_call 171;refine B.mono ?_;rintro e F ⟨rfl,C,x⟩))
 all_goals
  go_wp2_with fail
  go_ret;exact⟨rfl,x⟩
theorem KN.Xn(h:KN w m H S q A)(d:S.O p=some o)(a n b:Int)(s:n<=9223372036854775807):Calls prog 106 #[wp H.kb,.int .i64 p,.int .i64 a,.int .i64 n,.int .i64 b] w fun y g=>y=.returned (aI (kv S o a n b))/\∃l,KN g m H (ku S o a n b) q l/\Stp w g A l:=by
 have G:∀(W:World) (B x v N:Nat),Below w.heap.size w W->rP W A [(B,wp (H.hs o.j)),(x,.int .i64 a),(v,.int .i64 n),(N,.int .i64 b)]->
  Calls prog 154 #[wp (H.hs o.j),.int .i64 0,.int .i64 n,.func (.func 168) #[] #[wp B,wp x,wp v,wp N],.func (.func 170) #[] #[wp B,wp x,wp v]] W fun y g=>∃c,y=.returned (aI c)/\c=kv S o a n b/\∃l,KN g m H (ku S o a n b) q l/\Stp w g A l:=fun W B x v N bW bx=>by
  have hW:=h.1.below bW;have C:=h.1.mlt d;refine Aj (H.hs o.j) 0 n (fun J w=>by kernel_rfl) (fun J w=>by kernel_rfl) (R:=fun c g=>c=kv S o a n b/\∃l,KN g m H (ku S o a n b) q l/\Stp w g A l) ((hW.afi d a n b s bx).mono ?_);rintro y P ⟨rfl,A1,u,r⟩;refine⟨_,rfl,fun f=>?_,fun f=>?_⟩
  ·have e1:kv S o a n b=iV (aC S o.j) a n b:=if_pos f;have I:ku S o a n b=S:=by unfold ku;rw[e1,if_neg f]
   rw[Xp f,jS C] at u;rw[e1,I];exact⟨rfl,A1,⟨u,h.2⟩,r.after bW⟩
  ·have X:=u.hd (p:=p) (o:=o) d;refine⟨why (kZ S o.j) o.m 0 n,(X.DV (h.1.Ji o.j) (h.2.fit p o d).1 0 n u.er (u.hne (p:=p) (o:=o) d)).mono ?_⟩;rintro y O ⟨rfl,U,g2⟩;obtain⟨M,h2,D⟩:=u.led (p:=p) (o:=o) d U g2;have QP:Stp w O A M:=(r.after bW).trans D;have K:=VM f;refine⟨rfl,fun t=>?_,fun t=>?_⟩
   ·have I:ku S o a n b=S.space o.j (jJ (aC S o.j) a n b) S.W:=by unfold ku;rw[<-K,if_pos t]
    rw[<-K,I];refine⟨t.symm,M,h2.toN (h.2.space d h.1.len _ _) (fun p' Q T k hk=>?_),QP⟩;by_cases j:Q.j=o.j
    ·simp only[if_pos j];unfold QA;rw[if_pos t,j];unfold after put kZ;rw[gu C,if_pos rfl,qC];have afv:=Ua f
     match k,hk with
     |0,_=>simp only[Int.toNat_zero,if_true];exact afv.symm
     |1,_=>rfl
     |2,_=>rfl
    ·simp only[if_neg j];unfold kZ;rw[gu C,if_neg j,qC]
   ·have I:ku S o a n b=S:=by unfold ku;rw[<-K,if_neg t]
    have Y:KX O m H (S.space o.j (jJ (aC S o.j) a n b) S.W) (kZ S) q M:=h2.JC (fun p' Q T k hk=>by
     by_cases j:Q.j=o.j
     ·simp only[if_pos j];unfold QA;rw[if_neg t,j]
     ·simp only[if_neg j])
    have bx2:rP O M [(B,wp (H.hs o.j)),(x,.int .i64 a),(v,.int .i64 n)]:=fun y F=>((bx.p8 r).p8 D) y (by simp at F ⊢;rcases F with z|z|z<;>simp[z]);refine(Y.afh (p:=p) (o:=o) d a n s bx2).mono ?_;rintro y w3 ⟨rfl,A3,Z,wW⟩;rw[Hy,gu C,if_pos rfl,NP f] at Z;have:(S.space o.j (jJ (aC S o.j) a n b) S.W).W=S.W:=rfl;rw[this,jS C] at Z;rw[<-K,I];exact⟨_,rfl,rfl,A3,⟨Z,h.2⟩,QP.trans wW⟩
 have hF:=fun W (hb:Below w.heap.size w W)=>(h.1.below hb).ay d;have hA:=h.1.lt;generalize kv S o a n b=E at *;generalize ku S o a n b=S2 at *;have HP:Aside _:=G;have HF:Aside _:=hF;go_enter Tryz.func106,Tryz.ntmps106
 go_upto_region 1 with fail
 obtain⟨b3,s3,c1,c2,c3⟩:=Q3 w (.int .i64 a) (.int .i64 n) (.int .i64 b) 3 3 3;generalize ((w.alloc (.cells #[.int .i64 a] 3)).alloc (.cells #[.int .i64 n] 3)).alloc (.cells #[.int .i64 b] 3)=W at *;have hF:=HF.out W b3;go_upto_region 4 with (go_at_call 127;refine hF.mono ?_;rintro e P ⟨rfl,hw⟩;subst P)
 obtain⟨L,s4,c4,_⟩:=sG W (wp (H.hs o.j)) 59;rw[s3] at c4;have d1:=dm L c1;have d2:=(dm L c2);have d3:=(dm L c3);generalize W.alloc (.cells #[wp (H.hs o.j)] 59)=V at *;have bV:Below w.heap.size w V:=b3.trans (L.mono b3.size);have hP:=HP.out V (w.heap.size+1+1+1) w.heap.size (w.heap.size+1) (w.heap.size+1+1) bV (fun y F=>by
  have s:∀i,w.heap.size<=i->¬A i:=fun i hi z=>by have:=hA i z;omega
  simp only[mem_cons,List.not_mem_nil,or_false] at F;rcases F with rfl|rfl|rfl|rfl
  ·exact⟨c4,s _ (by omega)⟩
  ·exact⟨d1,s _ (le_refl _)⟩
  ·exact⟨d2,s _ (by omega)⟩
  ·exact⟨d3,s _ (by omega)⟩)
 go_wp2_with (go_at_call 154;refine hP.mono ?_;rintro e P ⟨c,rfl,f,hR⟩)
 go_ret;exact⟨by rw[<-f];rfl,hR⟩
end
section
variable {w w':World}{m:Int}{H:KH}{S:KS}{U:Nat→Nat→Int}{q:Nat}{A:Nat→Prop}{p:Int}{o:Ow}
theorem KX.RG{b:Nat->Prop}{a:PM}{D':Nat->Nat->Int}(h:KX w m H (S.space o.j a D') (kZ S) q b)(ok:uh S)(g:S.O p=some o)(i:S.Ms.length=S.Ts.length)(n:o.j<S.Ts.length)(d:bX a=bX (aC S o.j)):KN w m H (S.space o.j a D') q b:=
 h.toN (ok.space g i _ _) (fun j c f k l=>by
  unfold kZ;rw[gu (by omega),qC];by_cases e:c.j=o.j
  ·rw[if_pos e,d,e]
  ·rw[if_neg e])
theorem KX.ze{b:Nat->Prop}{D':DS}{a:Ns}(h:KX w m H (S.files D' o.j a) (kZ S) q b)(ok:uh S)(g:S.O p=some o)(i:o.j<S.Ts.length)(d:ak a=ak (au S o.j)):KN w m H (S.files D' o.j a) q b:=
 h.toN (ok.files g _ _) (fun j c f k l=>by
  unfold kZ;rw[gX i,oD];by_cases e:c.j=o.j
  ·rw[if_pos e,d,e]
  ·rw[if_neg e])
theorem KX.yV{b:Nat->Prop}{a:Ps}(h:KX w m H (S.procs a) (kZ S) q b)(ok:uh S)(c:∀x,aD a x=aD S.P x):KN w m H (S.procs a) q b:=⟨h,ok.procs c⟩
theorem KX.Ls{a:Nat->Prop}{T':Wd}(h:KX w m H (S.tree T') (kZ S) q a)(ok:uh S):KN w m H (S.tree T') q a:=⟨h,ok.tree T'⟩
theorem KX.Ul(h:KX w m H S U q A)(a:S.O p=some o){V:World}(g:w.grownBy V (some (H.hs o.j))):Calls prog 143 #[wp (H.sp o.j)] V fun y f=>y=.returned (.int .i64 (bX (aC S o.j):Nat))/\f=V:=by
 have c:=h.rR a;obtain⟨G,k,e⟩:=h;have d:Wt (fun i=>G.κ i=5) w V:=⟨g.os,g.tape,g.output,g.size,fun i n l=>g.block i n (fun e=>l (by cases e;exact k.k5 p o a))⟩;have j:=k.kept (X:=5) ⟨by omega,by omega⟩ d;have s:=j.al (by omega);have b:o.j<G.L.length:=by rw[k.Ll];exact c
 have r:G.L[o.j].2.2=aC S o.j:=by
  rw[pQ (by rw[k.len];exact c)];have:S.Ms=G.L.map (fun x=>x.2.2):=k.ms.symm;simp only[this,getElem_map]
 have:=(s.sp o.j b).sp.len;rw[k.sp o.j b,r] at this;exact this
theorem KX.NL(h:KX w m H S U q A)(a:S.O p=some o){V:World}(g:w.grownBy V (some (H.hs o.j))):Calls prog 145 #[wp (H.tb o.j)] V fun y f=>y=.returned (.int .i64 (ak (au S o.j):Int))/\Below V.heap.size V f:=by
 have b:=h.rR a;obtain⟨G,k,e⟩:=h;have d:Wt (fun i=>G.κ i=5) w V:=⟨g.os,g.tape,g.output,g.size,fun i r n=>g.block i r (fun e=>n (by cases e;exact k.k5 p o a))⟩;have j:=k.kept (X:=5) ⟨by omega,by omega⟩ d;have l:=j.kd (by omega);have c:o.j<G.bs.length:=by rw[k.Lb];exact b
 have:=l.used c;rw[k.tb _ c,<-jb b] at this;exact this
theorem KX.settle(h:KX w m H S U q A)(ok:uh S)(b:S.O p=some o)(s:Fit (U o.j))(v:((bX (aC S o.j):Nat):Int)<=U o.j 0)(u:((ak (au S o.j):Nat):Int)<=U o.j 1)(t:U o.j 2=0)(n:∀f a,S.O f=some a->a.j≠o.j->∀k,k<3->U a.j k=kZ S a.j k):Calls prog 149 #[wp (H.hs o.j)] w fun y d=>y=.returned (.tuple #[])/\∃c,KN d m H S q c/\Stp w d A c:=by
 refine((h.hd b).settle s (ok.fit p o b).1 h.er (h.hne b) ⟨by omega,v⟩ ⟨by omega,u⟩ (fun V g=>h.Ul b g) (fun V g=>h.NL b g)).mono ?_;rintro y d ⟨rfl,r,g⟩;obtain⟨c,x,l⟩:=h.led b r g;refine⟨rfl,c,x.toN ok (fun f a i k j=>?_),l⟩;by_cases e:a.j=o.j
 ·simp only[if_pos e];unfold QQ kZ;rw[e]
  match k,j with
  |0,_=>rfl
  |1,_=>rfl
  |2,_=>simpa using t
 ·simp only[if_neg e];exact n f a i e k j
theorem Kn(P:PM)(a b:Int)(n:Nat):bX (iL P a n b)=bX P:=sumTo_congr _ _ (fun i _ _=>by
 unfold iL;split
 ·cases P (i:Int)<;>rfl
 ·rfl)
theorem Ph(P:PM)(a n b:Int):bX (nR P a n b)=bX P:=by
 unfold nR;split
 ·exact Kn _ _ _ _
 ·rfl
theorem SE{P:PM}{a n:Int}(h:ui P a n=0):1<=n/\0<=a/\a+n<=64/\¬iO P a n.toNat<n.toNat:=by
 unfold ui at h;split at h
 ·omega
 ·rename_i c
  split at h
  ·omega
  ·rename_i b
   obtain⟨f,e,d⟩:=lK.1 (by simpa using c);exact⟨f,e,d,b⟩
theorem Uk(P:PM)(a n:Int):bX (Bc P a n)<=bX P:=by
 unfold Bc;split
 ·rename_i h
  obtain⟨f,d,e,c⟩:=SE h;have:=CO d n.toNat (by omega) (fun i b=>u7 c i b);omega
 ·exact le_refl _
def Dr(S:KS)(o:Ow)(a n:Int):KS:=S.space o.j (Bc (aC S o.j) a n) S.W
theorem KN.NN(h:KN w m H S q A)(d:S.O p=some o)(a n:Int)(D:n<=9223372036854775807):Calls prog 118 #[wp H.kb,.int .i64 p,.int .i64 a,.int .i64 n] w fun y c=>y=.returned (aI (ui (aC S o.j) a n))/\∃b,KN c m H (Dr S o a n) q b/\Stp w c A b:=by
 have hF:=h.1.ay d;have F:=h.1.rR d;have j:=h.1.mlt d;have T:w.cell? ⟨H.hs o.j,0,none⟩=some (wp (H.sp o.j)):=(h.1.hd d).at 0;have G:Calls prog 171 #[wp (H.sp o.j),.int .i64 a,.int .i64 n] w fun y c=>y=.returned (aI (ui (aC S o.j) a n))/\(ui (aC S o.j) a n≠0->∃b,KN c m H (Dr S o a n) q b/\Stp w c A b)/\(ui (aC S o.j) a n=0->Calls prog 149 #[wp (H.hs o.j)] c fun y i=>y=.returned (.tuple #[])/\∃b,KN i m H (Dr S o a n) q b/\Stp w i A b):=by
  refine(h.1.YH F a n D).mono ?_;rintro y l ⟨rfl,N,x,f⟩;refine⟨rfl,fun z=>?_,fun z=>?_⟩
  ·have e:Bc (aC S o.j) a n=aC S o.j:=if_neg z;unfold Dr;rw[e,jS j] at x ⊢;exact⟨N,⟨x,h.2⟩,f⟩
  ·refine(x.settle (h.2.space d h.1.len _ _) (p:=p) (o:=o) d (h.1.Ji o.j) ?_ ?_ rfl (fun O P C u k R=>?_)).mono ?_
   ·rw[gu j,if_pos rfl];have:=Uk (aC S o.j) a n;show _<=((bX (aC S o.j):Nat):Int);omega
   ·exact Int.le_refl _
   ·unfold kZ;rw[gu j,if_neg u,qC]
   ·rintro y i ⟨rfl,M,I,r⟩;exact⟨rfl,M,I,f.trans r⟩
 generalize Dr S o a n=S2 at *;generalize ui (aC S o.j) a n=E at *;go_enter Tryz.func118,Tryz.ntmps118
 go_upto_region 5 with (first
  |(go_at_call 127;refine hF.mono ?_;rintro e l ⟨rfl,Q⟩;subst l)
  |(go_at_call 171;refine G.mono ?_;rintro e l ⟨rfl,s,t⟩))
 have J:Aside _:=s;have K:Aside _:=t;by_cases g:E=0
 ·have B:=K.out g;subst g;rw[aB];go_wp2_with (go_at_call 149;refine B.mono ?_;rintro e i ⟨rfl,v⟩)
  go_ret;exact⟨rfl,v⟩
 ·have v:=J.out g;have L:Aside (E≠0):=g;rw[ax g];go_wp2_with fail
  go_ret;exact⟨by rw[ax L.out];rfl,v⟩
theorem KN.Ie(h:KN w m H S q A)(f:S.O p=some o)(a n b:Int)(k:n<=9223372036854775807):Calls prog 111 #[wp H.kb,.int .i64 p,.int .i64 a,.int .i64 n,.int .i64 b] w fun y c=>y=.returned (aI (mQ (aC S o.j) a n b))/\∃d,KN c m H (S.space o.j (nR (aC S o.j) a n b) S.W) q d/\Stp w c A d:=by
 have hF:=h.1.ay f;have j:=h.1.rR f;have v:w.cell? ⟨H.hs o.j,0,none⟩=some (wp (H.sp o.j)):=(h.1.hd f).at 0;have l:Calls prog 178 #[wp (H.sp o.j),.int .i64 a,.int .i64 n,.int .i64 b] w fun y c=>y=.returned (aI (mQ (aC S o.j) a n b))/\∃d,KN c m H (S.space o.j (nR (aC S o.j) a n b) S.W) q d/\Stp w c A d:=by
  refine(h.1.WB j a n b k).mono ?_;rintro y g ⟨rfl,t,s,i⟩;exact⟨rfl,t,s.RG h.2 f h.1.len j (Ph _ _ _ _),i⟩
 generalize S.space o.j (nR (aC S o.j) a n b) S.W=S2 at *;generalize mQ (aC S o.j) a n b=E at *;go_enter Tryz.func111,Tryz.ntmps111
 go_wp2_with (first
  |(go_at_call 127;refine hF.mono ?_;rintro e g ⟨rfl,u⟩;subst g)
  |(go_at_call 178;refine l.mono ?_;rintro e g ⟨rfl,r⟩))
 go_ret;exact⟨rfl,r⟩
theorem KX.Uc(h:KX w m H S U q A)(b:S.O p=some o)(a k:Int)(g:(Lit.int .i64 a).wf=true):Calls prog 105 #[wp H.kb,.int .i64 p,.int .i64 a,.int .i64 k] w fun y d=>y=.returned (.tuple #[.int .i64 (je (aC S o.j) S.W a k),aI (dL (aC S o.j) a k 1)])/\Below w.heap.size w d:=by
 have hF:=h.ay b;have f:=h.rR b;have n:w.cell? ⟨H.hs o.j,0,none⟩=some (wp (H.sp o.j)):=(h.hd b).at 0;have i:=h.ade f a k g;generalize je (aC S o.j) S.W a k=X at *;generalize dL (aC S o.j) a k 1=E at *;go_enter Tryz.func105,Tryz.ntmps105
 go_wp2_with (first
  |(go_at_call 127;refine hF.mono ?_;rintro e c ⟨rfl,l⟩;subst c)
  |(go_at_call 167;refine i.mono ?_;rintro e c ⟨rfl,j⟩))
 go_ret2;exact⟨rfl,j⟩
def Lx(S:KS)(p:Int)(o:Ow)(k n:Int):KS:=S.own p ⟨o.j,yG o.m k n,o.eX⟩
theorem Uj{M:Nat->Int}(h:Fit M)(k n:Int):Fit (yG M k n):=by
 unfold yG;split
 ·rename_i e
  have a:0<=n/\n<=1000000:=by
   unfold qd at e;split at e
   ·omega
   ·split at e
    ·omega
    ·rename_i z;exact Classical.not_not.1 z
  exact h.put _ _ a.1 a.2
 ·exact h
theorem KX.sj{d:Nat->Prop}{c:Nat->Int}{a:Int}(h:KX w m H (S.own p ⟨o.j,c,a⟩) (fun i=>if i=o.j then kZ S o.j else kZ S i) q d)(ok:uh S)(g:S.O p=some o)(l:Fit c)(j:-100<=a/\a<=100):KN w m H (S.own p ⟨o.j,c,a⟩) q d:=
 h.toN (ok.own g l j) (fun n b f k r=>by
  show (if b.j=o.j then kZ S o.j else kZ S b.j) k=kZ S b.j k;split
  ·rename_i e;rw[e]
  ·rfl)
theorem KN.Pe(h:KN w m H S q A)(a:S.O p=some o)(k n:Int):Calls prog 101 #[wp H.kb,.int .i64 p,.int .i64 k,.int .i64 n] w fun y b=>y=.returned (aI (qd k n))/\∃c,KN b m H (Lx S p o k n) q c/\Stp w b A c:=by
 have hF:=h.1.ay a;have j:Calls prog 39 #[lq (H.hs o.j),.int .i64 k,.int .i64 n] w fun y b=>y=.returned (aI (qd k n))/\∃c,KN b m H (Lx S p o k n) q c/\Stp w b A c:=by
  refine((h.1.hd a).limit k n).mono ?_;rintro y d ⟨rfl,i,g⟩;obtain⟨s,r,f⟩:=h.1.hold a i g;exact⟨rfl,s,r.sj h.2 a (Uj (h.2.fit p o a).1 k n) (h.2.fit p o a).2,f⟩
 generalize Lx S p o k n=S2 at *;generalize qd k n=E at *;go_enter Tryz.func101,Tryz.ntmps101
 go_wp2_with (first
  |(go_at_call 127;refine hF.mono ?_;rintro e d ⟨rfl,t⟩;subst d)
  |(go_at_call 39;refine j.mono ?_;rintro e d ⟨rfl,l⟩))
 go_ret;exact⟨rfl,l⟩
def Jj(n:Int):Int:=if -100<=n/\n<=100 then 0 else 2
def yL(S:KS)(p:Int)(o:Ow)(n:Int):KS:=if Jj n=0 then S.own p ⟨o.j,o.m,n⟩ else S
theorem KN.Lc(h:KN w m H S q A)(b:S.O p=some o)(n:Int):Calls prog 92 #[wp H.kb,.int .i64 p,.int .i64 n] w fun y l=>y=.returned (aI (Jj n))/\∃a,KN l m H (yL S p o n) q a/\Stp w l A a:=by
 have hF:=h.1.ay b;have g:=h.1.hd b;by_cases f:-100<=n/\n<=100
 ·have c:Jj n=0:=if_pos f;have i:yL S p o n=S.own p ⟨o.j,o.m,n⟩:=if_pos c;obtain⟨x,t,j⟩:=h.1.hold b (g.Yr n) (cu w (H.hs o.j) 8 (.int .i64 n));have k:=kU (⟨x,t.sj h.2 b (h.2.fit p o b).1 f,j⟩:∃a,KN (w.setCell ⟨H.hs o.j,8,none⟩ (.int .i64 n)) m H (S.own p ⟨o.j,o.m,n⟩) q a/\Stp w (w.setCell ⟨H.hs o.j,8,none⟩ (.int .i64 n)) A a);have B:w.cell? ⟨H.hs o.j,8,none⟩=some (.int .i64 o.eX):=g.at 8;have z:=g.free 8;rw[c,i,aB];obtain⟨v,u⟩:=f;generalize S.own p ⟨o.j,o.m,n⟩=S2 at *;go_enter func92,ntmps92
  go_wp2_with (go_at_call 127;refine hF.mono ?_;rintro e d ⟨rfl,r⟩;subst d)
  go_ret;exact⟨rfl,k.out⟩
 ·have c:Jj n=2:=if_neg f;have i:yL S p o n=S:=by unfold yL;rw[c];rfl
  rw[c,i,ax (by omega)];have s:Aside _:=(⟨A,h,Stp.refl _ _⟩:∃a,KN w m H S q a/\Stp w w A a);by_cases v:n < -100
  ·clear h b g c i f;go_enter func92,ntmps92
   go_wp2_with (go_at_call 127;refine hF.mono ?_;rintro e d ⟨rfl,r⟩;subst d)
   go_ret;exact⟨rfl,s.out⟩
  ·have u:100<n:=by omega
   go_enter func92,ntmps92
   go_wp2_with (go_at_call 127;refine hF.mono ?_;rintro e d ⟨rfl,r⟩;subst d)
   go_ret;exact⟨rfl,s.out⟩
theorem yh{P:Ps}{n:Int}{f:Pr->Pr}(a:∀q,(f q).state=q.state)(x:Int):aD (vP P n f) x=aD P x:=il (Js a x)
theorem Cn(P:Ps)(n a x:Int):aD (if eH P n a=0 then kC P n a else P) x=aD P x:=by
 split
 ·unfold kC;refine yh (fun q=>?_) x;split<;>rfl
 ·rfl
theorem Ia(P:Ps)(n a x:Int)(on:Bool):aD (if bN P n a=0 then fE P n a on else P) x=aD P x:=by
 split
 ·unfold fE;refine yh (fun q=>?_) x;rfl
 ·rfl
theorem Oq(P:Ps)(n x:Int):aD (dP P n) x=aD P x:=by
 unfold dP;split
 ·rfl
 ·refine yh (fun q=>?_) x;rfl
theorem Oo{P:Ps}(n x:Int):aD (bC P n).2.2.2 x=aD P x:=by
 unfold bC;split
 ·rfl
 ·split
  ·rename_i y a
   obtain⟨_,b,_⟩:=ND a;show aD (uu P y) x=aD P x;by_cases e:x=y
   ·subst e;unfold aD;rw[b,lY (by unfold uu;rw[if_pos rfl])];rfl
   ·refine il ?_;unfold nN;rw[ED e]
  ·rfl
theorem KN.Um(h:KN w m H S q A)(g:S.O p=some o)(n a:Int)(i:(Lit.int .i64 n).wf=true):Calls prog 100 #[wp H.kb,.int .i64 p,.int .i64 n,.int .i64 a] w fun y b=>y=.returned (aI (eH S.P n a))/\∃c,KN b m H (S.procs (if eH S.P n a=0 then kC S.P n a else S.P)) q c/\Stp w b A c:=by
 have hF:=h.1.ay g;have t:=h.1.c3;have j:Calls prog 163 #[wp H.t,.int .i64 n,.int .i64 a] w fun y b=>y=.returned (aI (eH S.P n a))/\∃c,KN b m H (S.procs (if eH S.P n a=0 then kC S.P n a else S.P)) q c/\Stp w b A c:=by
  refine(h.1.Y1 n a i).mono ?_;rintro y d ⟨rfl,r,l,f⟩;exact⟨rfl,r,l.yV h.2 (fun x=>Cn _ _ _ _),f⟩
 generalize S.procs (if eH S.P n a=0 then kC S.P n a else S.P)=S2 at *;generalize eH S.P n a=E at *;go_enter Tryz.func100,Tryz.ntmps100
 go_wp2_with (first
  |(go_at_call 127;refine hF.mono ?_;rintro e d ⟨rfl,s⟩;subst d)
  |(go_at_call 163;refine j.mono ?_;rintro e d ⟨rfl,k⟩))
 go_ret;exact⟨rfl,k⟩
theorem KN.Ku(h:KN w m H S q A)(g:S.O p=some o)(a:Int)(on:Bool):Calls prog 99 #[wp H.kb,.int .i64 p,.int .i64 a,.bool on] w fun y b=>y=.returned (aI (bN S.P p a))/\∃c,KN b m H (S.procs (if bN S.P p a=0 then fE S.P p a on else S.P)) q c/\Stp w b A c:=by
 have hF:=h.1.ay g;have r:=h.1.c3;have i:Calls prog 162 #[wp H.t,.int .i64 p,.int .i64 a,.bool on] w fun y b=>y=.returned (aI (bN S.P p a))/\∃c,KN b m H (S.procs (if bN S.P p a=0 then fE S.P p a on else S.P)) q c/\Stp w b A c:=by
  refine(h.1.XF p a on (Ni (h.1.key g))).mono ?_;rintro y d ⟨rfl,l,k,f⟩;exact⟨rfl,l,k.yV h.2 (fun x=>Ia _ _ _ _ _),f⟩
 generalize S.procs (if bN S.P p a=0 then fE S.P p a on else S.P)=S2 at *;generalize bN S.P p a=E at *;go_enter Tryz.func99,Tryz.ntmps99
 go_wp2_with (first
  |(go_at_call 127;refine hF.mono ?_;rintro e d ⟨rfl,n⟩;subst d)
  |(go_at_call 162;refine i.mono ?_;rintro e d ⟨rfl,j⟩))
 go_ret;exact⟨rfl,j⟩
theorem KN.Sv(h:KN w m H S q A)(f:S.O p=some o):Calls prog 119 #[wp H.kb,.int .i64 p] w fun y a=>y=.returned (.tuple #[.int .i64 (bC S.P p).1,.int .i64 (bC S.P p).2.1,aI (bC S.P p).2.2.1])/\∃b,KN a m H (S.procs (bC S.P p).2.2.2) q b/\Stp w a A b:=by
 have hF:=h.1.ay f;have n:=h.1.c3;have g:Calls prog 186 #[wp H.t,.int .i64 p] w fun y a=>y=.returned (.tuple #[.int .i64 (bC S.P p).1,.int .i64 (bC S.P p).2.1,aI (bC S.P p).2.2.1])/\∃b,KN a m H (S.procs (bC S.P p).2.2.2) q b/\Stp w a A b:=by
  refine(h.1.acQ p (Ni (h.1.key f))).mono ?_;rintro y c ⟨rfl,k,j,d⟩;exact⟨rfl,k,j.yV h.2 (fun x=>Oo _ _),d⟩
 generalize S.procs (bC S.P p).2.2.2=S2 at *;generalize (bC S.P p).2.2.1=E at *;generalize (bC S.P p).2.1=E1 at *;generalize (bC S.P p).1=E2 at *;go_enter Tryz.func119,Tryz.ntmps119
 go_wp2_with (first
  |(go_at_call 127;refine hF.mono ?_;rintro e c ⟨rfl,l⟩;subst c)
  |(go_at_call 186;refine g.mono ?_;rintro e c ⟨rfl,i⟩))
 go_ret3
 exact⟨rfl,i⟩
end
end
section
theorem ow:∀(N:Ns) (i:Nat) (a:i<N.length) (y:Int×Bool),ak (N.set i y)+(if 0<N[i].1 then 1 else 0)=ak N+(if 0<y.1 then 1 else 0)
 | [],i,a,_=>absurd a (Nat.not_lt_zero _)
 |x::N,0,_,y=>by
  simp only[List.set_cons_zero,ak,filter_cons,List.getElem_cons_zero,decide_eq_true_eq];split<;>split<;>simp
 |x::N,i+1,a,y=>by
  have:=ow N i (by simpa using a) y;simp only[List.set_cons_succ,ak,filter_cons,List.getElem_cons_succ] at this ⊢;split
  ·simp only[length_cons];omega
  ·exact this
section
variable {D:DS}{N:Ns}{x y:Int}
theorem zU(a:N.length=8)(x:Int):ak (gW N x)+(if aJ N x=true then 1 else 0)=ak N:=by
 unfold gW;by_cases h:aJ N x=true
 ·rw[if_pos h,if_pos h];obtain⟨i,rfl,d,c,b⟩:=dU h a;have:=ow N i c (0,false);rw[if_pos b,if_neg (by simp)] at this;rw[Int.toNat_natCast];omega
 ·rw[if_neg h,if_neg h];omega
theorem NI(b:N.length=8)(x:Int)(c:Bool):ak (kR N x c)=ak N:=by
 unfold kR;by_cases h:aJ N x=true
 ·rw[if_pos h];obtain⟨i,rfl,f,a,d⟩:=dU h b;have:=ow N i a ((N.getD i (0,false)).1,c);have e:N.getD i (0,false)=N[i]:=by rw[getD_eq_getElem?_getD,List.getElem?_eq_getElem a];rfl
  rw[e,if_pos d] at this;rw[Int.toNat_natCast,e];omega
 ·rw[if_neg h]
theorem BX(all:Bool)(D:DS)(N:Ns):∀i,i<=N.length->ak (ah all D N i).2<=ak N
 |0,_=>le_refl _
 |i+1,hi=>by
  have a:=BX all D N i (by omega);rw[ah];split
  ·have b:=(iD all D N i).1;have:=ow (ah all D N i).2 i (by omega) (0,false);rw[if_neg (show ¬(0:Int)<((0,false):Int×Bool).1 by simp)] at this;simp only;omega
  ·exact a
theorem Pm(_h8:N.length=8)(h:¬ai N<0):∃i:Nat,ai N=i/\∃a:i<N.length,N[i].1=0:=by
 rcases mg (N:=N) with e|e
 ·rw[e] at h;exact absurd (by omega) h
 ·exact e
theorem qB(f:N.length=8)(h:¬ai N<0){d:Int}(b:0<d)(c:Bool):ak (N.set (ai N).toNat (d,c))=ak N+1:=by
 obtain⟨i,e,a,g⟩:=Pm f h;have:=ow N i a (d,c);rw[g,if_neg (by omega),if_pos b] at this;rw[e,Int.toNat_natCast];omega
theorem NJ{n s:Nat}{p:List UInt8}{d:Int}{mk:Bool}{c:Int}{D':DS}{a:Ns}(b:N.length=8)(e:0<=D.nx)(h:iM D N n s p d mk x c D' a):(c=0->ak a=ak N+1)/\(c≠0->x=0/\D'=D/\a=N):=by
 cases h with
 |opened hp hr hE hh=>exact⟨fun _=>qB b hr.1 (by omega) _,fun z=>absurd rfl z⟩
 |made hp hr hE hm hM k hk=>exact⟨fun _=>qB b hr.1 (by omega) _,fun z=>absurd rfl z⟩
 |arg=>exact⟨fun z=>by omega,fun _=>⟨rfl,rfl,rfl⟩⟩
 |full=>exact⟨fun z=>by omega,fun _=>⟨rfl,rfl,rfl⟩⟩
 |no _ _ hE=>exact⟨fun z=>absurd z hE,fun _=>⟨rfl,rfl,rfl⟩⟩
 |dir _ _ _ hh=>exact⟨fun z=>absurd z hh,fun _=>⟨rfl,rfl,rfl⟩⟩
 |yQ _ _ _ _ hM=>exact⟨fun z=>absurd z hM,fun _=>⟨rfl,rfl,rfl⟩⟩
theorem Sz(a:N.length=8)(x:Int):(jH N x=0->ak (lL N x)=ak N+1)/\(jH N x≠0->jr N x=0/\lM D N x=D/\lL N x=N):=by
 refine⟨fun h=>?_,fun h=>⟨if_neg h,if_neg h,if_neg h⟩⟩;unfold lL;rw[if_pos h];unfold jH at h;split at h
 ·rename_i b
  split at h
  ·omega
  ·rename_i c
   obtain⟨i,rfl,f,e,d⟩:=dU b a;rw[getD_in e];exact qB a c d _
 ·omega
theorem NG{n:Nat}{c:Int}{D':DS}{e:Ns}(g:N.length=8)(a:∀x∈N,0<=x.1)(o:0<=D.nx)(h:rX D N n x y c D' e):(c=0->ak e=ak N+2)/\(c≠0->x=0/\y=0/\D'=D/\e=N):=by
 rcases h with⟨_,rfl,rfl,rfl,rfl,rfl⟩|⟨i,rfl,rfl,rfl,rfl,rfl⟩
 ·exact⟨fun z=>by omega,fun _=>⟨rfl,rfl,rfl,rfl⟩⟩
 ·refine⟨fun _=>?_,fun z=>absurd rfl z⟩;have m:ak N+2<=8:=by unfold vV at i;omega
  have l:¬ai N<0:=fun z=>by
   have:=(jR a).1 z;omega
  have u1:ak (dI D N)=ak N+1:=qB g l (show 0<(lV D).nx+1 by unfold lV;simp only;omega) false;have b:(dI D N).length=8:=by unfold dI addN;rw[length_set];exact g
  have j:∀x∈dI D N,0<=x.1:=fun x f=>by
   unfold dI addN at f;rcases List.mem_or_eq_of_mem_set f with d|d
   ·exact a x d
   ·rw[d];show 0<=D.nx+1+1;omega
  have k:¬ai (dI D N)<0:=fun z=>by
   have:=(jR j).1 z;omega
  have:=qB b k (show 0<(qA D).nx+1 by unfold qA lV jL;simp only;omega) false;unfold BH addN;omega
theorem NK(h:N.length=8)(x y:Int):ak (fq N x y)=ak N+(if fu N x y=0/\aJ N y=false then 1 else 0):=by
 unfold fq;by_cases a:fu N x y=0
 ·have c:=a;unfold fu at a;split at a
  ·rename_i g
   split at a
   ·rename_i m
    obtain⟨i,rfl,n,l,k⟩:=dU g h;obtain⟨j,rfl⟩:∃j:Nat,y=j:=⟨y.toNat,by omega⟩;have f:j<N.length:=by omega
    by_cases e:(i:Int)=j
    ·have:i=j:=by omega
     subst this;rw[if_neg (fun z=>z.2 rfl),if_neg]
     ·rfl
     ·rintro ⟨_,z⟩;rw[g] at z;cases z
    ·rw[if_pos ⟨c,e⟩,getD_in l,Int.toNat_natCast];have:=ow N j f (N[i].1,false);rw[if_pos k] at this;by_cases b:0<N[j].1
     ·have d:aJ N j=true:=by
       unfold aJ;rw[getD_in f];simp;omega
      rw[if_pos b] at this;rw[if_neg (by rw[d];simp)];omega
     ·have d:aJ N j=false:=by
       unfold aJ;rw[getD_in f];simp;omega
      rw[if_neg b] at this;rw[if_pos ⟨c,d⟩];omega
   ·omega
  ·omega
 ·rw[if_neg (fun z=>a z.1),if_neg (fun z=>a z.1)];rfl
theorem SN{d:Ns}(h:d.length=8)(e:ak d=0)(g:∀x∈d,0<=x.1/\(x.1=0->x.2=false)):d=bQ:=by
 have i:∀x∈d,x=((0:Int),false):=fun x f=>by
  have a:=g x f;have b:¬0<x.1:=fun z=>by
   unfold ak at e;rw[List.length_eq_zero_iff,List.filter_eq_nil_iff] at e;exact e x f (by simpa using z)
  have c:x.1=0:=by omega
  exact Prod.ext c (a.2 c)
 exact List.eq_replicate_iff.2 ⟨h,i⟩
end
end
section
open Go.RowKit Go.Maps
section
variable {w w':World}{m:Int}{H:KH}{S:KS}{U:Nat→Nat→Int}{q:Nat}{A:Nat→Prop}{p:Int}{o:Ow}
theorem KX.kP(h:KX w m H S U q A)(a:S.O p=some o):w.cell? ⟨H.kb,2,none⟩=some (wp H.f)/\w.cell? ⟨H.hs o.j,1,none⟩=some (wp (H.tb o.j)):=⟨h.c2,(h.hd a).at 1⟩
theorem KN.TZ(h:KN w m H S q A)(b:S.O p=some o)(x:Int)(c:Bool):Calls prog 107 #[wp H.kb,.int .i64 p,.int .i64 x,.bool c] w fun y a=>y=.returned (aI (if aJ (au S o.j) x=true then 0 else 7))/\∃d,KN a m H (S.files S.D o.j (kR (au S o.j) x c)) q d/\Stp w a A d:=by
 have hF:=h.1.ay b;have i:=h.1.rR b;have r:=h.1.kP b;have k:Calls prog 172 #[wp H.f,wp (H.tb o.j),.int .i64 x,.bool c] w.drew fun y a=>y=.returned (aI (if aJ (au S o.j) x=true then 0 else 7))/\(a.cell? ⟨H.kb,2,none⟩=some (wp H.f)/\a.cell? ⟨H.hs o.j,1,none⟩=some (wp (H.tb o.j)))/\∃d,KN a m H (S.files S.D o.j (kR (au S o.j) x c)) q d/\Stp w a A d:=by
  refine((h.1.below (bH w)).markT i x c).mono ?_;rintro y f ⟨rfl,s,j,g⟩;exact⟨rfl,j.kP (p:=p) (o:=o) b,s,j.ze h.2 b i (NI (h.1.oW _) x c),Stp.base (V:=w.drew) rfl rfl rfl rfl g⟩
 generalize S.files S.D o.j (kR (au S o.j) x c)=S2 at *;generalize (if aJ (au S o.j) x=true then (0:Int) else 7)=E at *;go_enter Tryz.func107,Tryz.ntmps107
 go_upto_region 4 with (go_at_call 127;refine hF.mono ?_;rintro e f ⟨rfl,t⟩;subst f)
 go_region_held3 (fun a=>a.cell? ⟨H.kb,2,none⟩=some (wp H.f)/\a.cell? ⟨H.hs o.j,1,none⟩=some (wp (H.tb o.j))) (first|exact r|exact n) (first
  |(go_at_call 172;refine k.mono ?_;rintro e f ⟨rfl,n,l⟩))
 all_goals
  go_wp2_with fail
  go_ret;exact⟨rfl,l⟩
theorem KN.Te(h:KN w m H S q A)(c:S.O p=some o)(x a:Int):Calls prog 115 #[wp H.kb,.int .i64 p,.int .i64 x,.int .i64 a] w fun y b=>y=.returned (aI (kg S.D (au S o.j) x a))/\∃d,KN b m H (S.files (kr S.D (au S o.j) x a) o.j (au S o.j)) q d/\Stp w b A d:=by
 have hF:=h.1.ay c;have i:=h.1.rR c;have r:=h.1.kP c;have k:Calls prog 181 #[wp H.f,wp (H.tb o.j),.int .i64 x,.int .i64 a] w.drew fun y b=>y=.returned (aI (kg S.D (au S o.j) x a))/\(b.cell? ⟨H.kb,2,none⟩=some (wp H.f)/\b.cell? ⟨H.hs o.j,1,none⟩=some (wp (H.tb o.j)))/\∃d,KN b m H (S.files (kr S.D (au S o.j) x a) o.j (au S o.j)) q d/\Stp w b A d:=by
  refine((h.1.below (bH w)).acU i x a).mono ?_;rintro y f ⟨rfl,s,j,g⟩;exact⟨rfl,j.kP (p:=p) (o:=o) c,s,j.ze h.2 c i rfl,Stp.base (V:=w.drew) rfl rfl rfl rfl g⟩
 generalize S.files (kr S.D (au S o.j) x a) o.j (au S o.j)=S2 at *;generalize kg S.D (au S o.j) x a=E at *;go_enter Tryz.func115,Tryz.ntmps115
 go_upto_region 4 with (go_at_call 127;refine hF.mono ?_;rintro e f ⟨rfl,t⟩;subst f)
 go_region_held3 (fun b=>b.cell? ⟨H.kb,2,none⟩=some (wp H.f)/\b.cell? ⟨H.hs o.j,1,none⟩=some (wp (H.tb o.j))) (first|exact r|exact n) (first
  |(go_at_call 181;refine k.mono ?_;rintro e f ⟨rfl,n,l⟩))
 all_goals
  go_wp2_with fail
  go_ret;exact⟨rfl,l⟩
theorem KN.Tn(h:KN w m H S q A)(c:S.O p=some o)(x a:Int):Calls prog 112 #[wp H.kb,.int .i64 p,.int .i64 x,.int .i64 a] w fun y b=>y=.returned (.tuple #[tx (bR S.D (au S o.j) x a).1,aI (bR S.D (au S o.j) x a).2.1])/\∃d,KN b m H (S.files (bR S.D (au S o.j) x a).2.2 o.j (au S o.j)) q d/\Stp w b A d:=by
 have hF:=h.1.ay c;have i:=h.1.rR c;have r:=h.1.kP c;have k:Calls prog 179 #[wp H.f,wp (H.tb o.j),.int .i64 x,.int .i64 a] w.drew fun y b=>y=.returned (.tuple #[tx (bR S.D (au S o.j) x a).1,aI (bR S.D (au S o.j) x a).2.1])/\(b.cell? ⟨H.kb,2,none⟩=some (wp H.f)/\b.cell? ⟨H.hs o.j,1,none⟩=some (wp (H.tb o.j)))/\∃d,KN b m H (S.files (bR S.D (au S o.j) x a).2.2 o.j (au S o.j)) q d/\Stp w b A d:=by
  refine((h.1.below (bH w)).acW i x a).mono ?_;rintro y f ⟨rfl,s,j,g⟩;exact⟨rfl,j.kP (p:=p) (o:=o) c,s,j.ze h.2 c i rfl,Stp.base (V:=w.drew) rfl rfl rfl rfl g⟩
 generalize S.files (bR S.D (au S o.j) x a).2.2 o.j (au S o.j)=S2 at *;generalize (bR S.D (au S o.j) x a).2.1=E at *;generalize (bR S.D (au S o.j) x a).1=X at *;go_enter Tryz.func112,Tryz.ntmps112
 go_upto_region 4 with (go_at_call 127;refine hF.mono ?_;rintro e f ⟨rfl,t⟩;subst f)
 go_region_held3 (fun b=>b.cell? ⟨H.kb,2,none⟩=some (wp H.f)/\b.cell? ⟨H.hs o.j,1,none⟩=some (wp (H.tb o.j))) (first|exact r|exact n) (first
  |(go_at_call 179;refine k.mono ?_;rintro e f ⟨rfl,n,l⟩))
 all_goals
  go_wp2_with fail
  go_ret2;exact⟨rfl,l⟩
noncomputable def uR(S:KS)(o:Ow)(x:Int):KS:=S.files (iT S.D (au S o.j) x) o.j (gW (au S o.j) x)
theorem KX.Wj(h:KN w m H S q A)(d:S.O p=some o){V:World}{D':DS}{f:Ns}{q':Nat}{A1:Nat->Prop}(n:KX V m H (S.files D' o.j f) (kZ S) q' A1)(c:Stp w V A A1)(u:ak f<=ak (au S o.j)):Calls prog 149 #[wp (H.hs o.j)] V fun y a=>y=.returned (.tuple #[])/\∃i,KN a m H (S.files D' o.j f) q' i/\Stp w a A i:=by
 have g:=h.1.rR d;refine(n.settle (h.2.files d _ _) (p:=p) (o:=o) d (h.1.Ji o.j) ?_ ?_ rfl (fun s t j e k v=>?_)).mono ?_
 ·exact Int.le_refl _
 ·rw[gX g,if_pos rfl];show _<=((ak (au S o.j):Nat):Int);omega
 ·unfold kZ;rw[gX g,if_neg e,oD]
 ·rintro y a ⟨rfl,r,l,b⟩;exact⟨rfl,r,l,c.trans b⟩
theorem KN.Qh(h:KN w m H S q A)(d:S.O p=some o)(B:q<=400)(x:Int):Calls prog 93 #[wp H.kb,.int .i64 p,.int .i64 x] w fun y a=>y=.returned (aI (if aJ (au S o.j) x=true then 0 else 7))/\∃c,KN a m H (uR S o x) q c/\Stp w a A c:=by
 have hF:=h.1.ay d;have t:=h.1.rR d;have F:=h.1.kP d;have C:Calls prog 148 #[wp H.f,wp (H.tb o.j),.int .i64 x] w.drew fun y a=>y=.returned (aI (if aJ (au S o.j) x=true then 0 else 7))/\(a.cell? ⟨H.kb,2,none⟩=some (wp H.f)/\a.cell? ⟨H.hs o.j,1,none⟩=some (wp (H.tb o.j)))/\((if aJ (au S o.j) x=true then (0:Int) else 7)≠0->∃c,KN a m H (uR S o x) q c/\Stp w a A c)/\((if aJ (au S o.j) x=true then (0:Int) else 7)=0->Calls prog 149 #[wp (H.hs o.j)] a fun y k=>y=.returned (.tuple #[])/\∃c,KN k m H (uR S o x) q c/\Stp w k A c):=by
  refine((h.1.below (bH w)).Sd t B x).mono ?_;rintro y j ⟨rfl,u,s,l⟩;have b:Stp w j A u:=Stp.base (V:=w.drew) rfl rfl rfl rfl l;refine⟨rfl,s.kP (p:=p) (o:=o) d,fun n=>⟨u,s.ze h.2 d t ?_,b⟩,fun n=>KX.Wj h d s b ?_⟩
  ·have:=zU (h.1.oW o.j) x;split at n
   ·exact absurd rfl n
   ·rename_i z;rw[if_neg z] at this;omega
  ·have:=zU (h.1.oW o.j) x;omega
 generalize uR S o x=S2 at *;generalize (if aJ (au S o.j) x=true then (0:Int) else 7)=E at *;go_enter Tryz.func93,Tryz.ntmps93
 go_upto_region 4 with (go_at_call 127;refine hF.mono ?_;rintro e j ⟨rfl,K⟩;subst j)
 go_region_held3 (fun a=>a.cell? ⟨H.kb,2,none⟩=some (wp H.f)/\a.cell? ⟨H.hs o.j,1,none⟩=some (wp (H.tb o.j))) (first|exact F|exact D) (first
  |(go_at_call 148;refine C.mono ?_;rintro e j ⟨rfl,D,f,g⟩;have G:Aside _:=f;have I:Aside _:=g;clear f g))
 all_goals
  by_cases i:E=0
  ·have v:=I.out i;subst i;rw[aB];go_wp2_with (go_at_call 149;refine v.mono ?_;rintro e k ⟨rfl,r⟩)
   go_ret;exact⟨rfl,r⟩
  ·have r:=G.out i;have J:Aside (E≠0):=i;rw[ax i];go_wp2_with fail
   go_ret;exact⟨by rw[ax J.out];rfl,r⟩
noncomputable def sQ(S:KS)(o:Ow):KS:=(S.space o.j lG S.W).files (ah false S.D (au S o.j) 8).1 o.j (ah false S.D (au S o.j) 8).2
theorem KN.UF(h:KN w m H S q A)(ho:S.O p=some o)(hq:q<=400):Calls prog 96 #[wp H.kb,.int .i64 p] w fun y w'=>y=.returned .nilIface/\∃A',KN w' m H (sQ S o) q A'/\Stp w w' A A':=by
 have hF:=h.1.ay ho;have hj:=h.1.rR ho;have wY:=h.1.mlt ho;have d0:w.cell? ⟨H.hs o.j,0,none⟩=some (wp (H.sp o.j)):=(h.1.hd ho).at 0;have hC:Calls prog 158 #[wp (H.sp o.j)] w fun y w'=>y=.returned (.tuple #[])/\(w'.cell? ⟨H.kb,2,none⟩=some (wp H.f)/\w'.cell? ⟨H.hs o.j,1,none⟩=some (wp (H.tb o.j)))/\
  Calls prog 159 #[wp H.f,wp (H.tb o.j)] w'.drew fun y w2=>y=.returned (.tuple #[])/\(w2.cell? ⟨H.kb,2,none⟩=some (wp H.f)/\w2.cell? ⟨H.hs o.j,1,none⟩=some (wp (H.tb o.j)))/\Calls prog 149 #[wp (H.hs o.j)] w2 fun y w3=>y=.returned (.tuple #[])/\∃A',KN w3 m H (sQ S o) q A'/\Stp w w3 A A':=by
  refine(h.1.Sg hj).mono ?_;rintro y w1 ⟨rfl,A1,h1,st1⟩;refine⟨rfl,h1.kP (p:=p) (o:=o) ho,((h1.below (bH w1)).adp (o:=o) hj hq).mono ?_⟩;rintro y w2 ⟨rfl,A2,h2,st2⟩;have st2':Stp w w2 A A2:=st1.trans (Stp.base (V:=w1.drew) rfl rfl rfl rfl st2);refine⟨rfl,h2.kP (p:=p) (o:=o) ho,(h2.settle ((h.2.space ho h.1.len _ _).files (p:=p) (o:=o) ho _ _) (p:=p) (o:=o) ho (h.1.Ji o.j) ?_ ?_ rfl (fun p' o' ho' hne k hk=>?_)).mono ?_⟩
  ·rw[oD,gu wY,if_pos rfl];show ((bX lG:Nat):Int)<=_;rw[show bX lG=0 from rG];exact(h.1.Ji o.j 0).1
  ·rw[gX (S:=S.space o.j lG S.W) hj,if_pos rfl];have:=BX false S.D (au S o.j) 8 (by rw[h.1.oW];exact le_refl _);show ((ak (ah false S.D (au S o.j) 8).2:Nat):Int)<=((ak (au S o.j):Nat):Int);omega
  ·unfold kZ;rw[gX (S:=S.space o.j lG S.W) hj,if_neg hne,oD,gu wY,if_neg hne,qC]
  ·rintro y w3 ⟨rfl,A3,h3,wW⟩;exact⟨rfl,A3,h3,st2'.trans wW⟩
 generalize sQ S o=S2 at *;go_enter Tryz.func96,Tryz.ntmps96
 go_upto_region 5 with (first
  |(go_at_call 127;refine hF.mono ?_;rintro e w1 ⟨rfl,hw⟩;subst w1)
  |(go_at_call 158;refine hC.mono ?_;rintro e w1 ⟨rfl,c0,hE⟩))
 go_region_held3 (fun w'=>w'.cell? ⟨H.kb,2,none⟩=some (wp H.f)/\w'.cell? ⟨H.hs o.j,1,none⟩=some (wp (H.tb o.j))) (first|exact c0|exact c1) (first
  |(go_at_call 159;refine hE.mono ?_;rintro e w2 ⟨rfl,c1,hs⟩))
 all_goals
  go_wp2_with (go_at_call 149;refine hs.mono ?_;rintro e w3 ⟨rfl,hR⟩)
  go_ret;exact⟨rfl,hR⟩
end
section
variable {w w':World}{m:Int}{H:KH}{S:KS}{U:Nat→Nat→Int}{q:Nat}{A:Nat→Prop}{p:Int}{o:Ow}
noncomputable def dB(S:KS)(p:Int)(o:Ow)(code:Int):KS:=((((S.procs (dG S.P p code)).space o.j lG S.W).files (ah true S.D (au S o.j) 8).1 o.j bQ)).drop p
theorem KX.drop(h:KX w m H S U q A)(j:(Lit.int .i64 p).wf=true):∃w',(∀d,(Builtin.delete_ #[64,3] d #[.map (some H.gm),.int .i64 p]).run prog w=.ok (.tuple #[]) w')/\∃c,KX w' m H (S.drop p) U q c/\Stp w w' A c:=by
 obtain⟨G,k,e⟩:=h;obtain⟨z,l⟩:=k.map;obtain⟨w',a,b,g⟩:=MR l underlying64 p j;obtain⟨n,i,f⟩:=k.del b g;exact⟨w',a,_,.of i,qY e f⟩
theorem Ou(P:Ps)(code x:Int)(a:aD P p=true):aD (dG P p code) x=if x=p then false else aD P x:=by
 obtain⟨q,b,_⟩:=dx.1 a;unfold aD;rw[GY];by_cases e:x=p
 ·subst e;rw[if_pos ⟨rfl,by rw[b];rfl⟩,if_pos rfl];rfl
 ·rw[if_neg (fun z=>e z.1),if_neg e]
theorem uh.ends(k:uh S)(g:S.O p=some o)(n:o.j<S.Ts.length)(t:S.Ms.length=S.Ts.length)(h:∀f a,S.O f=some a->a.j=o.j->f=p)(code:Int):uh (dB S p o code):=by
 have l:aD S.P p=true:=by rw[<-k.run p,g];rfl
 have q:∀x a,jK S.O p x=some a->x≠p/\S.O x=some a:=fun x a e=>by
  unfold jK at e;split at e
  ·cases e
  ·rename_i z;exact⟨z,e⟩
 refine⟨fun x=>?_,fun j d m=>?_,fun x a e=>k.fit x a (q x a e).2⟩
 ·show (jK S.O p x).isSome=aD (dG S.P p code) x;rw[Ou _ _ _ l];unfold jK;by_cases e:x=p
  ·rw[if_pos e,if_pos e];rfl
  ·rw[if_neg e,if_neg e];exact k.run x
 ·have c:j<S.Ts.length:=by
   have:j<(S.Ts.set o.j bQ).length:=d;simpa using this
  have s:au (dB S p o code) j=if j=o.j then bQ else au S j:=gX (S:=(S.procs (dG S.P p code)).space o.j lG S.W) n (ah true S.D (au S o.j) 8).1 bQ j;have r:aC (dB S p o code) j=if j=o.j then lG else aC S j:=gu (S:=S.procs (dG S.P p code)) (by show o.j<S.Ms.length;omega) lG S.W j;rw[s,r];by_cases b:j=o.j
  ·rw[if_pos b,if_pos b];exact⟨rfl,rfl⟩
  ·rw[if_neg b,if_neg b];refine k.gone j c (fun x a e z=>?_);by_cases i:x=p
   ·subst i;rw[g] at e;cases e
    exact b z.symm
   ·exact m x a (by show jK S.O p x=some a;unfold jK;rw[if_neg i];exact e) z
theorem KX.clear(h:KX w m H S U q A)(g:S.O p=some o)(l:q<=400):Calls prog 201 #[wp (H.hs o.j),wp H.f] w fun y a=>y=.returned (.tuple #[])/\∃b,KX a m H ((S.space o.j lG S.W).files (ah true S.D (au S o.j) 8).1 o.j (ah true S.D (au S o.j) 8).2) U q b/\Stp w a A b:=by
 have i:=h.rR g;have v:w.cell? ⟨H.hs o.j,0,none⟩=some (wp (H.sp o.j)):=(h.hd g).at 0;have s:Calls prog 158 #[wp (H.sp o.j)] w fun y a=>y=.returned (.tuple #[])/\a.cell? ⟨H.hs o.j,1,none⟩=some (wp (H.tb o.j))/\
  Calls prog 283 #[wp H.f,wp (H.tb o.j)] a fun y c=>y=.returned (.tuple #[])/\∃b,KX c m H ((S.space o.j lG S.W).files (ah true S.D (au S o.j) 8).1 o.j (ah true S.D (au S o.j) 8).2) U q b/\Stp w c A b:=by
  refine(h.Sg i).mono ?_;rintro y k ⟨rfl,z,j,f⟩;refine⟨rfl,(j.hd (p:=p) (o:=o) g).at 1,(j.abl (o:=o) i l).mono ?_⟩;rintro y c ⟨rfl,u,t,d⟩;exact⟨rfl,u,t,f.trans d⟩
 generalize (S.space o.j lG S.W).files (ah true S.D (au S o.j) 8).1 o.j (ah true S.D (au S o.j) 8).2=S2 at *;go_enter Tryz.func201,Tryz.ntmps201
 go_upto_region 1 with (go_at_call 158;refine s.mono ?_;rintro e k ⟨rfl,x,r⟩)
 go_wp2_with (go_at_call 283;refine r.mono ?_;rintro e c ⟨rfl,n⟩)
 go_end0
 exact⟨rfl,n⟩
theorem KX.Yv(h:KX w m H S U q A)(a:S.O p=some o):(Lit.int .i64 p).wf=true:=Ni (h.key a)
theorem KX.JG(h:KX w m H S U q A)(_ho:S.O p=some o):w.cell? ⟨H.kb,4,none⟩=some (.map (some H.gm))/\w.cell? ⟨H.kb,2,none⟩=some (wp H.f):=⟨h.c4,h.c2⟩
theorem KN.EA(h:KN w m H S q A)(b:S.O p=some o)(Q:q<=400)(W:p≠1)(code:Int):Calls prog 129 #[wp H.kb,.int .i64 p,.int .i64 code] w fun y c=>y=.returned .nilIface/\∃l,KN c m H (dB S p o code) q l/\Stp w c A l:=by
 have E:=h.1.rR b;have wY:=h.1.mlt b;have c3:=h.1.c3;have P:aD S.P p=true:=by rw[<-h.2.run p,b];rfl
 have j:kV S.P p=0:=by unfold kV;rw[P,if_neg (by simp),if_neg W]
 have R:Calls prog 200 #[wp H.t,.int .i64 p,.int .i64 code] w fun y c=>y=.returned .nilIface/\(c.cell? ⟨H.kb,4,none⟩=some (.map (some H.gm))/\c.cell? ⟨H.kb,2,none⟩=some (wp H.f))/\(Instr.lookup 64 (.map (some H.gm)) (.int .i64 p) false).run prog c.drew=.ok (wp (H.hs o.j)) c.drew/\
  Calls prog 201 #[wp (H.hs o.j),wp H.f] c.drew fun y i=>y=.returned (.tuple #[])/\(i.cell? ⟨H.kb,4,none⟩=some (.map (some H.gm))/\i.cell? ⟨H.kb,2,none⟩=some (wp H.f))/\∃f,(∀K,(Builtin.delete_ #[64,3] K #[.map (some H.gm),.int .i64 p]).run prog i=.ok (.tuple #[]) f)/\∃l,KN f m H (dB S p o code) q l/\Stp w f A l:=by
  refine(h.1.Zd p code (h.1.Yv b)).mono ?_;rintro y n ⟨rfl,A1,s,v⟩;rw[if_pos j] at s;refine⟨by rw[j];rfl,s.JG (p:=p) (o:=o) b,(s.below (bH n)).xu (p:=p) (o:=o) b,((s.below (bH n)).clear (p:=p) (o:=o) b Q).mono ?_⟩;rintro y i ⟨rfl,A2,C,u⟩;obtain⟨f,d,F,M,J⟩:=C.drop (p:=p) (h.1.Yv b);have L:Stp w f A F:=(v.trans (Stp.base (V:=n.drew) rfl rfl rfl rfl u)).trans J;have N:(ah true S.D (au S o.j) 8).2=bQ:=by
   have D:(ah true S.D (au S o.j) 8).2.length=8:=by rw[(iD true S.D (au S o.j) 8).1];exact h.1.oW _
   refine SN D (PI _ (h.1.oW _)) (fun x O=>(C.inv.tab _ ?_).2 x O);show _∈S.Ts.set o.j _;exact List.mem_set E _
  have e:((((S.procs (dG S.P p code)).space o.j lG S.W).files (ah true S.D (au S o.j) 8).1 o.j (ah true S.D (au S o.j) 8).2)).drop p=dB S p o code:=by rw[N];rfl
  have B:KX f m H (dB S p o code) (kZ S) q F:=by rw[<-e];exact M
  refine⟨rfl,C.JG (p:=p) (o:=o) b,f,d,F,B.toN (h.2.ends b E h.1.len (fun r a g t=>h.1.inj g b t) code) (fun r a g k hk=>?_),L⟩;have G:r≠p/\S.O r=some a:=by
   have z:jK S.O p r=some a:=g;unfold jK at z;split at z
   ·cases z
   ·rename_i y;exact⟨y,z⟩
  have t:a.j≠o.j:=fun z=>G.1 (h.1.inj G.2 b z);have Y:au (dB S p o code) a.j=if a.j=o.j then bQ else au S a.j:=gX (S:=(S.procs (dG S.P p code)).space o.j lG S.W) E (ah true S.D (au S o.j) 8).1 bQ a.j;have X:aC (dB S p o code) a.j=if a.j=o.j then lG else aC S a.j:=gu (S:=S.procs (dG S.P p code)) (by show o.j<S.Ms.length;omega) lG S.W a.j;unfold kZ;rw[Y,X,if_neg t,if_neg t]
 generalize dB S p o code=S2 at *;go_enter Tryz.func129,Tryz.ntmps129
 go_upto_region 4 with (go_at_call 200;refine R.mono ?_;rintro e n ⟨rfl,Z,l0,U⟩)
 go_region_held3 (fun c=>c.cell? ⟨H.kb,4,none⟩=some (.map (some H.gm))/\c.cell? ⟨H.kb,2,none⟩=some (wp H.f)) (first|exact Z|exact I) (first
  |(go_at_call 201;refine U.mono ?_;rintro e i ⟨rfl,I,f,d,T⟩))
 all_goals
  obtain⟨c4,c5⟩:=I;go_wp2_with (at_delete;refine nM rfl _ _ 64 3 rfl _ _ _ f rfl rfl d ?_)
  go_ret;exact⟨rfl,T⟩
theorem KN.XV(h:KN w m H S q A)(g:S.O 1=some o)(code:Int):Calls prog 129 #[wp H.kb,.int .i64 1,.int .i64 code] w fun y a=>y=.returned (eF 6)/\∃c,KN a m H S q c/\Stp w a A c:=by
 have p:=h.1.c3;have j:aD S.P 1=true:=by rw[<-h.2.run 1,g];rfl
 have b:kV S.P 1=6:=by unfold kV;rw[j,if_neg (by simp),if_pos rfl]
 have k:Calls prog 200 #[wp H.t,.int .i64 1,.int .i64 code] w fun y a=>y=.returned (eF 6)/\∃c,KN a m H S q c/\Stp w a A c:=by
  refine(h.1.Zd 1 code (h.1.Yv g)).mono ?_;rintro y i ⟨rfl,n,f,d⟩;rw[if_neg (by rw[b];omega)] at f;exact⟨by rw[b,ax (by omega)],n,⟨f,h.2⟩,d⟩
 go_enter Tryz.func129,Tryz.ntmps129
 go_wp2_with (go_at_call 200;refine k.mono ?_;rintro e i ⟨rfl,l⟩)
 go_ret;exact⟨rfl,l⟩
def sP(p:Int):Int:=if p=1 then 6 else 0
noncomputable def sO(S:KS)(p:Int)(o:Ow)(code:Int):KS:=if p=1 then S else dB S p o code
theorem KN.XW(h:KN w m H S q A)(c:S.O p=some o)(e:q<=400)(code:Int):Calls prog 129 #[wp H.kb,.int .i64 p,.int .i64 code] w fun y b=>y=.returned (aI (sP p))/\∃d,KN b m H (sO S p o code) q d/\Stp w b A d:=by
 unfold sP sO;by_cases a:p=1
 ·subst a;rw[if_pos rfl,if_pos rfl,ax (by omega)];exact h.XV c code
 ·rw[if_neg a,if_neg a,aB];exact h.EA c e a code
theorem KN.UD(h:KN w m H S q A)(c:S.O p=some o)(f:q<=400)(code:Int):Calls prog 97 #[wp H.kb,.int .i64 p,.int .i64 code] w fun y b=>y=.returned (aI (sP p))/\∃d,KN b m H (sO S p o code) q d/\Stp w b A d:=by
 have hF:=h.1.ay c;have i:=h.XW c f code;generalize sO S p o code=S2 at *;generalize sP p=E at *;go_enter Tryz.func97,Tryz.ntmps97
 go_wp2_with (first
  |(go_at_call 127;refine hF.mono ?_;rintro e a ⟨rfl,j⟩;subst a)
  |(go_at_call 129;refine i.mono ?_;rintro e a ⟨rfl,g⟩))
 go_ret;exact⟨rfl,g⟩
def kK(P:Ps)(n:Int)(f:Int->Bool):Ps:=vP P n (fun p=>{ p with wt:=f })
def iY(P:Ps)(n:Int):Ps:=kK P n fF
theorem KN.take(h:KN w m H S q A)(f:H.ok=true)(n:Int)(e:(Lit.int .i64 n).wf=true):Calls prog 128 #[wp H.t,.int .i64 n] w fun y b=>y=.returned (.int .i64 (aO S.P n))/\∃c,KN b m H (S.procs (dP S.P n)) q c/\Stp w b A c:=by
 refine(h.1.acT f n e).mono ?_;rintro y i ⟨rfl,g,d,a⟩;exact⟨rfl,g,d.yV h.2 (fun x=>Oq _ _ _),a⟩
theorem KN.H5(h:KN w m H S q A)(C:H.ok=true)(i:S.O p=some o)(v:q<=400)(j:p≠1)(u:aO S.P p≠0)(s:aO S.P p<=8):Calls prog 76 #[wp H.kb,.int .i64 p] w fun y d=>y=.returned (.tuple #[.bool true,.nilIface])/\∃a,KN d m H (dB (S.procs (dP S.P p)) p o (100+aO S.P p)) q a/\Stp w d A a:=by
 have hF:=h.1.ay i;have I:=h.1.c3;have D:Calls prog 128 #[wp H.t,.int .i64 p] w fun y d=>y=.returned (.int .i64 (aO S.P p))/\Calls prog 129 #[wp H.kb,.int .i64 p,.int .i64 (100+aO S.P p)] d fun y b=>y=.returned .nilIface/\∃a,KN b m H (dB (S.procs (dP S.P p)) p o (100+aO S.P p)) q a/\Stp w b A a:=by
  refine(h.take C p (h.1.Yv i)).mono ?_;rintro y c ⟨rfl,J,l,g⟩;refine⟨rfl,(l.EA (o:=o) i v j _).mono ?_⟩;rintro y b ⟨rfl,G,k,f⟩;exact⟨rfl,G,k,g.trans f⟩
 have t:0<=aO S.P p:=by
  unfold aO;split
  ·omega
  ·cases hf:sigs.find? (Vj S.P p) with
   |none=>simp
   |some x=>have:=List.mem_of_find?_eq_some hf;simp[sigs] at this;simp;omega
 generalize dB (S.procs (dP S.P p)) p o (100+aO S.P p)=S2 at *;have r:IntKind.i64.wrap (100+aO S.P p)=100+aO S.P p:=by rw[IntKind.wrap_i64];omega
 have n:wrap64 (100+aO S.P p)=100+aO S.P p:=by unfold wrap64;omega
 generalize aO S.P p=X at *;have z:(X != 0)=true:=by simpa using u
 have B:(p != 1)=true:=by simpa using j
 go_enter func76,ntmps76
 go_wp2_with (first
  |(go_at_call 127;refine hF.mono ?_;rintro e c ⟨rfl,r⟩;subst c)
  |(go_at_call 128;refine D.mono ?_;rintro e c ⟨rfl,F⟩))
 go_loopg [8] 1 (fun _ s8 wr=>s8=.int .i64 X/\wr=c)
 case atStart=>exact⟨rfl,rfl⟩
 case round=>
  obtain⟨rfl,rfl⟩:=hrel;go_wp2_with (go_at_call 129;refine F.mono ?_;rintro e b ⟨rfl,E⟩)
  go_ret2;exact⟨rfl,E⟩
theorem KN.H6(h:KN w m H S q A)(i:H.ok=true)(d:S.O p=some o)(c:aO S.P p=0):Calls prog 76 #[wp H.kb,.int .i64 p] w fun y b=>y=.returned (.tuple #[.bool false,.nilIface])/\∃g,KN b m H S q g/\Stp w b A g:=by
 have hF:=h.1.ay d;have n:=h.1.c3;have f:=h.take i p (h.1.Yv d);have e:dP S.P p=S.P:=by unfold dP;rw[if_pos c]
 have k:S.procs S.P=S:=rfl;rw[c,e,k] at f;go_enter func76,ntmps76
 go_wp2_with (first
  |(go_at_call 127;refine hF.mono ?_;rintro e a ⟨rfl,l⟩;subst a)
  |(go_at_call 128;refine f.mono ?_;rintro e a ⟨rfl,j⟩))
 go_loopg [8] 1 (fun _ s8 wr=>s8=.int .i64 0/\wr=a)
 case atStart=>exact⟨rfl,rfl⟩
 case round=>
  obtain⟨rfl,rfl⟩:=hrel;go_wp2_with fail
  go_ret2;exact⟨rfl,j⟩
def FE(f:Int->Bool):Nat:=(sigs.filter f).length
theorem Cg{P:Ps}{n:Int}{f:Int->Bool}(a:aD P n=true):aO (kK P n f) n=(sigs.find? f).getD 0:=by
 unfold aO;have c:aD (kK P n f) n=true:=by rw[kK,yh (by intro q;rfl)];exact a
 rw[c,if_neg (by simp)];obtain⟨q,b,_⟩:=dx.1 a;have:Vj (kK P n f) n=f:=by unfold Vj kK;rw[RU b];rfl
 rw[this]
theorem NY{P:Ps}{n:Int}{f:Int->Bool}(a:aD P n=true)(b:(sigs.find? f).getD 0≠0):dP (kK P n f) n=kK P n (bY f ((sigs.find? f).getD 0) false):=by
 unfold dP;rw[Cg a,if_neg b];unfold kK;rw[aam]
theorem Qf{f:Int->Bool}{x:Int}(h:sigs.find? f=some x):FE (bY f x false)+1=FE f:=by
 have i:x∈sigs:=List.mem_of_find?_eq_some h;have m:f x=true:=List.find?_some h;have a:sigs.Nodup:=by decide
 unfold FE;have:∀(l:List Int),l.Nodup->x∈l->(l.filter (bY f x false)).length+1=(l.filter f).length:=fun l=>by
  induction l with
  |nil=>intro _ h;cases h
  |cons y r ih=>
   intro j k;have d:=List.nodup_cons.1 j;by_cases e:y=x
   ·subst e;have b:bY f y false y=false:=by unfold bY;rw[if_pos rfl]
    rw[List.filter_cons_of_neg (by rw[b];simp),List.filter_cons_of_pos m,length_cons];congr 2
    refine List.filter_congr (fun z g=>?_);unfold bY;rw[if_neg (fun(c:z=y)=>d.1 (c ▸ g))]
   ·have b:bY f x false y=f y:=by unfold bY;rw[if_neg e]
    have:=ih d.2 (by rcases mem_cons.1 k with z|z;exact absurd z.symm e;exact z);rw[filter_cons,filter_cons,b];split
    ·simp only[length_cons];omega
    ·exact this
 exact this sigs a i
theorem KN.JW(h:KN w m H S q A)(hk:H.ok=true)(Q:S.O 1=some o):Calls prog 76 #[wp H.kb,.int .i64 1] w fun y d=>y=.returned (.tuple #[.bool false,.nilIface])/\∃a,KN d m H (S.procs (iY S.P 1)) q a/\Stp w d A a:=by
 have hF:=h.1.ay Q;have v:aD S.P 1=true:=by rw[<-h.2.run 1,Q];rfl
 have E:∀f,pX (kK S.P 1 f)->sigs.find? f=none->f=fF:=fun f Y c=>by
  funext s;show f s=false;by_cases e:f s=true
  ·obtain⟨q,hq,_⟩:=dx.1 v;have:=Y.wt 1 _ (by unfold kK;exact RU hq _) s e;have hm:s∈sigs:=by simp[sigs];omega
   have:=List.find?_eq_none.1 c s hm;exact absurd e this
  ·simpa using e
 have b:∀(V:World) (f:Int->Bool) (a:Nat->Prop),KN V m H (S.procs (kK S.P 1 f)) q a->Stp w V A a->Calls prog 128 #[wp H.t,.int .i64 1] V fun y d=>∃x,y=.returned (.int .i64 x)/\((x=0/\(∃a,KN d m H (S.procs (iY S.P 1)) q a/\Stp w d A a))\/(x≠0/\∃g,FE g+1=FE f/\∃a,KN d m H (S.procs (kK S.P 1 g)) q a/\Stp w d A a)):=fun V f a k N=>by
  refine(k.take hk 1 (by kernel_rfl)).mono ?_;rintro y t ⟨rfl,W,l,j⟩;have T:aO (S.procs (kK S.P 1 f)).P 1=(sigs.find? f).getD 0:=Cg v;refine⟨_,rfl,?_⟩;rw[T];cases c:sigs.find? f with
  |none=>
   left;have J:dP (S.procs (kK S.P 1 f)).P 1=kK S.P 1 f:=by
    unfold dP;rw[T,c];rfl
   rw[J] at l;obtain rfl:=E f l.1.Vd c;exact⟨rfl,W,l,N.trans j⟩
  |some x=>
   right;have r:x∈sigs:=List.mem_of_find?_eq_some c;have p:x≠0:=by simp[sigs] at r;omega
   have J:dP (S.procs (kK S.P 1 f)).P 1=kK S.P 1 (bY f x false):=by
    have:=NY (P:=S.P) (n:=1) (f:=f) v (by rw[c];exact p);rw[c] at this;exact this
   rw[J] at l;exact⟨p,_,Qf c,W,l,N.trans j⟩
 obtain⟨u,D,_⟩:=dx.1 v;have e0:kK S.P 1 u.wt=S.P:=by
  funext i;unfold kK vP;split
  ·rename_i z;subst z;rw[D];rfl
  ·rfl
 have h0:KN w m H (S.procs (kK S.P 1 u.wt)) q A:=by rw[e0];exact h
 have G:=b w u.wt A h0 (Stp.refl _ _);have c3:=h.1.c3;have HS:Aside _:=b;have F:∀(V:World) (f:Int->Bool) (a:Nat->Prop),KN V m H (S.procs (kK S.P 1 f)) q a->V.cell? ⟨H.kb,3,none⟩=some (wp H.t):=fun V f a k=>k.1.c3;have L:Aside _:=F;generalize S.procs (iY S.P 1)=S2 at *;go_enter func76,ntmps76
 go_wp2_with (first
  |(go_at_call 127;refine hF.mono ?_;rintro e t ⟨rfl,hw⟩;subst t)
  |(go_at_call 128;refine G.mono ?_;rintro e t ⟨x,rfl,I⟩))
 have K:Aside _:=I;go_loopg [8] (FE u.wt) (fun k s8 wr=>∃x:Int,s8=.int .i64 x/\Aside ((x=0/\(∃a,KN wr m H S2 q a/\Stp w wr A a))\/(x≠0/\∃g,FE g+1<=k/\∃a,KN wr m H (S.procs (kK S.P 1 g)) q a/\Stp w wr A a)))
 case atStart=>
  refine⟨x,rfl,?_⟩;rcases K.out with z|⟨B,g,X,z⟩
  ·exact .inl z
  ·exact .inr ⟨B,g,by omega,z⟩
 case round=>
  obtain⟨M,rfl,R⟩:=hrel;by_cases r:M=0
  ·subst r;go_wp2_with fail
   go_ret2;refine⟨rfl,?_⟩;rcases R.out with z|z
   ·exact z.2
   ·exact absurd rfl z.1
  ·have Z:(M != 0)=true:=by simpa using r
   obtain⟨g,hg,U,O,C⟩:∃g,FE g+1<=gk/\∃a,KN wr m H (S.procs (kK S.P 1 g)) q a/\Stp w wr A a:=by
    rcases R.out with z|z
    ·exact absurd z.1 r
    ·exact z.2
   have c3:=L.out wr g U O;have G:=HS.out wr g U O C;go_wp2_with (go_at_call 128;refine G.mono ?_;rintro e t ⟨x,rfl,I⟩)
   have K:Aside _:=I;go_roundg (gk-1)
   case measure=>omega
   case rel=>
    refine⟨x,by rfl,?_⟩;rcases K.out with z|⟨B,g',X,z⟩
    ·exact .inl z
    ·exact .inr ⟨B,g',by omega,z⟩
end
def KH.add(H:KH)(j s t b:Nat):KH:={ H with hs:=fun i=>if i=j then b else H.hs i,sp:=fun i=>if i=j then s else H.sp i,tb:=fun i=>if i=j then t else H.tb i }
def KS.born(S:KS)(j:Nat):KS:={ S with D:=jf S.D (au S j),Ts:=S.Ts++[au S j],Ms:=S.Ms++[aC S j] }
section
variable {w w' w1 w2:World}{m:Int}{H:KH}{S:KS}{U:Nat→Nat→Int}{q:Nat}{G:KG}{A:Nat→Prop}{p:Int}{o:Ow}
theorem WZ(D:DS)(N:Ns):(jf D N).nx=D.nx:=by
 unfold jf;have:∀(l:Ns) (D:DS),(l.foldl (fun D x=>if 0<x.1 then jq D x.1 else D) D).nx=D.nx:=fun l=>by
  induction l with
  |nil=>intro D;rfl
  |cons x r ih=>
   intro D;rw[List.foldl_cons,ih];split<;>rfl
 exact this N D
theorem KM.y8(h:KM w m H S U q G)(hq:q<=400)(ho:S.O p=some o)(hj:o.j<G.L.length){c' gc':Nat}(t1:FW G.E w G.Av G.L w1 S.W (G.L++[(c',gc',G.L[o.j].2.2)]))(hc':w.heap.size<=c')(hc1:c'<w1.heap.size):Calls prog 230 #[wp H.f,wp (H.tb o.j)] w1 fun y w2=>∃t',y=.returned (wp t')/\Hd w2 (H.hs o.j) (H.sp o.j) (H.tb o.j) (U o.j) o.m o.eX/\
  ∃G',KM (w2.alloc (.cells (hcs c' t' (U o.j) o.m o.eX) 121)) m (H.add S.Ts.length c' t' w2.heap.size) (S.born o.j) U (q+1) G'/\G'.κ w2.heap.size=5/\(∀p' o',S.O p'=some o'->H.hs o'.j<w2.heap.size)/\Stp w (w2.alloc (.cells (hcs c' t' (U o.j) o.m o.eX) 121)) (fun i=>G.κ i≠0) (fun i=>G'.κ i≠0):=by
 obtain⟨Av1,a1,f1,aca⟩:=t1;have Fs:Wt (fun i=>G.κ i=1) w w1:=⟨f1.os,f1.tape,f1.output,f1.size,fun i hi hn=>f1.block i hi (fun ho=>hn (h.k1 i ho))⟩;have k1:=h.kept (X:=1) ⟨by omega,by omega⟩ Fs;have hjT:o.j<S.Ts.length:=by rw[<-h.Ll];exact hj
 have hjb:o.j<G.bs.length:=by rw[h.Lb];exact hjT
 have Jf:=h.few;have hF:=(k1.kd (by omega)).fork (by omega) hjb;rw[h.tb _ hjb] at hF;refine hF.mono ?_;rintro y w2 ⟨Ad',rfl,kd2,st2⟩;have hPj:G.L[o.j].2.2=aC S o.j:=by
  rw[pQ (by rw[h.len];exact hjT)];have:S.Ms=G.L.map (fun x=>x.2.2):=h.ms.symm;simp only[this,getElem_map]
 have hAd:∀i,G.Ad i->i<w.heap.size:=fun i hi=>h.Bd i (by rw[h.k2 i hi];omega)
 -- what neither turned
 have hb:∀i c,G.κ i=c->c≠0->c≠1->c≠2->w2.heap[i]? = w.heap[i]? := fun i c e h0 h1 h2=>by
  have hi:i<w.heap.size:=h.Bd i (by omega);rw[st2.wt.block i (lt_of_lt_of_le hi f1.size) (fun z=>h2 (by rw[<-e];exact h.k2 i z))];exact Fs.block i hi (fun z=>h1 (by rw[<-e];exact z))
 have hz:∀i,G.κ i=0->i<w.heap.size->w2.heap[i]? = w.heap[i]? := fun i e hi=>by
  rw[st2.wt.block i (lt_of_lt_of_le hi f1.size) (fun z=>by have:=h.k2 i z;omega)];exact Fs.block i hi (fun z=>by omega)
 have hsz:w.heap.size<=w2.heap.size:=Nat.le_trans f1.size st2.wt.size;have hd2:∀p' o',S.O p'=some o'->Hd w2 (H.hs o'.j) (H.sp o'.j) (H.tb o'.j) (U o'.j) o'.m o'.eX:=fun p' o' ho'=>(h.hold p' o' ho').keep (hb _ 5 (h.k5 p' o' ho') (by omega) (by omega) (by omega));have a2:Al G.E w2 S.W Av1 (G.L++[(c',gc',G.L[o.j].2.2)]):=by
  have hno:∀i,i<w1.heap.size->¬G.Ad i->w2.heap[i]? = w1.heap[i]? := fun i hi hn=>st2.wt.block i hi hn;refine a1.keep (fun i hi=>hno i (a1.Dm hi) (fun z=>?_)) (hno _ a1.st.blt (fun z=>?_)) (hno _ a1.st.mlt (fun z=>?_)) (fun i hi=>hno _ (a1.sp i hi).sp.lt (fun z=>?_))
  ·have:=h.k1 i (aca i (hAd i z) hi);have:=h.k2 i z;omega
  ·have:=h.k2 _ z;have:=h.kE;omega
  ·have:=h.k2 _ z;have:=h.kB;omega
  ·by_cases e:i<G.L.length
   ·rw[getElem_append_left e] at z;rw[h.sp i e] at z;have:=h.k2 _ z;have:=h.ks i (by rw[<-h.Ll];exact e);omega
   ·have e2:i=G.L.length:=by simp at hi;omega
    subst e2;simp only[getElem_concat_length] at z;have:=hAd _ z;omega
 let κ':Nat->Nat:=fun i=>if i<w.heap.size then G.κ i else if i=c' then 6 else if i=w2.heap.size then 5 else if i<w1.heap.size then 1 else if i<w2.heap.size then 2 else 0;have ko:∀ {i c},c≠0->G.κ i=c->κ' i=c:=fun {i c} hc e=>by
  show (if i<w.heap.size then G.κ i else _)=c;rw[if_pos (h.Bd i (by omega))];exact e
 have kz:∀ {i},i<w.heap.size->G.κ i=0->κ' i=0:=fun {i} hi e=>by
  show (if i<w.heap.size then G.κ i else _)=0;rw[if_pos hi];exact e
 have hw2:w1.heap.size<=w2.heap.size:=st2.wt.size;have ajE:c'≠w2.heap.size:=by omega
 have bA:Below w2.heap.size w2 (w2.alloc (.cells (hcs c' w1.heap.size (U o.j) o.m o.eX) 121)):=(Below.refl _ w2).alloc (le_refl _) _;have hA3:(w2.alloc (.cells (hcs c' w1.heap.size (U o.j) o.m o.eX) 121)).heap.size=w2.heap.size+1:=by show (w2.heap.push _).size=_;rw[Array.size_push]
 obtain⟨c,qj⟩:=h.qj;obtain⟨z,hm⟩:=h.map;have hlen:S.Ts.length=G.L.length:=h.Ll.symm;have hLc:(G.L++[(c',gc',G.L[o.j].2.2)]).length=S.Ts.length+1:=by simp[hlen]
 have kc':κ' c'=6:=by
  show (if c'<w.heap.size then _ else if c'=c' then 6 else _)=6;rw[if_neg (by omega),if_pos rfl]
 have kb':κ' w2.heap.size=5:=by
  show (if w2.heap.size<w.heap.size then _ else if w2.heap.size=c' then _ else if w2.heap.size=w2.heap.size then 5 else _)=5;rw[if_neg (by omega),if_neg (by omega),if_pos rfl]
 have kO:∀p' o',S.O p'=some o'->o'.j≠S.Ts.length:=fun p' o' ho'=>by have:=h.lt p' o' ho';omega
 have hsO:∀p' o',S.O p'=some o'->(H.add S.Ts.length c' w1.heap.size w2.heap.size).hs o'.j=H.hs o'.j:=fun p' o' ho'=>if_neg (kO p' o' ho');refine⟨w1.heap.size,rfl,hd2 p o ho,⟨G.E,Av1,G.L++[(c',gc',G.L[o.j].2.2)],G.bs++[w1.heap.size],Ad',κ'⟩,?_,kb',fun p' o' ho'=>(hd2 p' o' ho').lt,?_⟩
 ·refine
   { head:=(bA.block _ (lt_of_heap ((hb _ 6 h.kk (by omega) (by omega) (by omega)).trans h.head))).trans ((hb _ 6 h.kk (by omega) (by omega) (by omega)).trans h.head)
     eb:=h.eb
     en:=h.en
     al:=a2.below bA
     ms:=?_
     sp:=fun x hx=>?_
     kd:=?_
     tb:=fun x hx=>?_
     qj:=⟨c,⟨(qj.toQM.keep (hb _ 6 h.kt (by omega) (by omega) (by omega)) (hb _ 3 h.k3 (by omega) (by omega) (by omega))).below bA,qj.ok,qj.dj⟩⟩
     map:=⟨z,?_⟩
     hold:=fun p' o' ho'=>?_
     hinj:=fun p1 o1 p2 o2 e1 e2 e3=>?_
     len:=?_
     lt:=fun p' o' ho'=>?_
     key:=h.key
     tab:=(h.tab.keep (hz _ h.Qx h.tab.lt)).keep (bA.block _ (h.tab.keep (hz _ h.Qx h.tab.lt)).lt)
     nx:=?_
     few:=?_
     k1:=fun i hi=>?_
     k2:=fun i hi=>?_
     k3:=ko (by omega) h.k3
     k4:=ko (by omega) h.k4
     k5:=fun p' o' ho'=>?_
     kk:=ko (by omega) h.kk
     kE:=ko (by omega) h.kE
     kB:=ko (by omega) h.kB
     kt:=ko (by omega) h.kt
     ks:=fun x hx=>?_
     km:=kz h.qi h.km
     ke:=kz h.qm h.ke
     Qx:=kz h.jX h.Qx
     Bd:=fun i hi=>?_ }
  ·show (G.L++[(c',gc',G.L[o.j].2.2)]).map _=S.Ms++[aC S o.j];rw[List.map_append,h.ms,map_cons,map_nil,hPj]
  ·by_cases e:x<G.L.length
   ·have:(G.L++[(c',gc',G.L[o.j].2.2)])[x]=G.L[x]:=getElem_append_left e;simp only[this];rw[h.sp x e];show _=if x=S.Ts.length then c' else H.sp x;rw[if_neg (by omega)]
   ·have e2:x=G.L.length:=by simp at hx;omega
    subst e2;simp only[getElem_concat_length];show _=if G.L.length=S.Ts.length then c' else _;rw[if_pos hlen.symm]
  ·have k3:=(kd2.below bA).more (k':=2*(q+1)) (by omega);have e:jf S.D (S.Ts[o.j]'hjT)=(S.born o.j).D:=by show _=jf S.D (au S o.j);rw[jb hjT]
   have e2:S.Ts++[S.Ts[o.j]'hjT]=(S.born o.j).Ts:=by show _=S.Ts++[au S o.j];rw[jb hjT]
   rw[<-e,<-e2];exact k3
  ·by_cases e:x<G.bs.length
   ·have:(G.bs++[w1.heap.size])[x]=G.bs[x]:=getElem_append_left e;simp only[this];rw[h.tb x e];show _=if x=S.Ts.length then _ else H.tb x;rw[if_neg (by have:=h.Lb;omega)]
   ·have e2:x=G.bs.length:=by simp at hx;omega
    subst e2;simp only[getElem_concat_length];show _=if G.bs.length=S.Ts.length then w1.heap.size else _;rw[if_pos h.Lb]
  ·have e:(fun x=>(S.O x).map (fun o=>wp ((H.add S.Ts.length c' w1.heap.size w2.heap.size).hs o.j)))=fun x=>(S.O x).map (fun o=>wp (H.hs o.j)):=by
    funext x;cases hx:S.O x with
    |none=>rfl
    |some o'=>show some (wp ((H.add S.Ts.length c' w1.heap.size w2.heap.size).hs o'.j))=some (wp (H.hs o'.j));rw[hsO x o' hx]
   show aK _ H.gm z (fun x=>(S.O x).map (fun o=>wp ((H.add S.Ts.length c' w1.heap.size w2.heap.size).hs o.j)));rw[e];have h4:=hm.keep (hb _ 4 h.k4 (by omega) (by omega) (by omega));exact h4.keep (bA.block _ h4.lt)
  ·have e1:=hsO p' o' ho';have e2:(H.add S.Ts.length c' w1.heap.size w2.heap.size).sp o'.j=H.sp o'.j:=if_neg (kO p' o' ho');have e3:(H.add S.Ts.length c' w1.heap.size w2.heap.size).tb o'.j=H.tb o'.j:=if_neg (kO p' o' ho');rw[e1,e2,e3];exact(hd2 p' o' ho').below bA
  ·rw[hsO p1 o1 e1,hsO p2 o2 e2] at e3;exact h.hinj p1 o1 p2 o2 e1 e2 e3
  ·show (S.Ms++[_]).length=(S.Ts++[_]).length;rw[length_append,length_append,h.len];rfl
  ·show o'.j<(S.Ts++[_]).length;rw[length_append];have:=h.lt p' o' ho';omega
  ·show (jf S.D (au S o.j)).nx<=_;rw[WZ];have:=h.nx;omega
  ·show (S.Ts++[_]).length<=_;rw[length_append];show S.Ts.length+1<=_;omega
  ·have hi':=a1.Dm hi;by_cases e:i<w.heap.size
   ·exact ko (by omega) (h.k1 i (aca i e hi))
   ·have hne:i≠c':=fun ec=>by
     subst ec;have hLl:G.L.length<(G.L++[(i,gc',G.L[o.j].2.2)]).length:=by simp
     have hs:=(a1.sp G.L.length hLl);have e9:(G.L++[(i,gc',G.L[o.j].2.2)])[G.L.length]=(i,gc',G.L[o.j].2.2):=by simp
     rcases hi with hi|⟨x,hx,hxe⟩
     ·have:=hs.mR;rw[e9] at this;exact this hi
     ·obtain⟨j9,hj9,rfl⟩:=List.mem_iff_getElem.1 hx;have h1:=hs.sp.head;rw[e9] at h1;obtain⟨es,cl,hm9⟩:=(a1.sp j9 hj9).sp.map.isMap;have:w1.heap[i]? = some (.map es cl):=by rw[hxe];exact hm9
      simp only at h1;rw[this] at h1;cases h1
    show (if i<w.heap.size then _ else if i=c' then _ else if i=w2.heap.size then _ else if i<w1.heap.size then 1 else _)=1;rw[if_neg e,if_neg hne,if_neg (by omega),if_pos hi']
  ·have hi':=kd2.lt i hi;rcases st2.own i hi with z|z
   ·exact ko (by omega) (h.k2 i z)
   ·show (if i<w.heap.size then _ else if i=c' then _ else if i=w2.heap.size then _ else if i<w1.heap.size then _ else if i<w2.heap.size then 2 else _)=2;rw[if_neg (by have:=f1.size;omega),if_neg (by omega),if_neg (by omega),if_neg (by omega),if_pos hi']
  ·rw[hsO p' o' ho'];exact ko (by omega) (h.k5 p' o' ho')
  ·have hx':x<S.Ts.length+1:=by
    have:x<(S.Ts++[au S o.j]).length:=hx;simpa using this
   show κ' (if x=S.Ts.length then c' else H.sp x)=6;by_cases e:x=S.Ts.length
   ·rw[if_pos e];exact kc'
   ·rw[if_neg e];exact ko (by omega) (h.ks x (by omega))
  ·rw[hA3];have hi:κ' i≠0:=hi;by_cases e:i<w.heap.size
   ·omega
   ·by_cases e1:i=c'
    ·omega
    ·by_cases e2:i=w2.heap.size
     ·omega
     ·have:κ' i=if i<w1.heap.size then 1 else if i<w2.heap.size then 2 else 0:=by
       show (if i<w.heap.size then _ else if i=c' then _ else if i=w2.heap.size then _ else if i<w1.heap.size then 1 else if i<w2.heap.size then 2 else 0)=_;rw[if_neg e,if_neg e1,if_neg e2]
      rw[this] at hi;split at hi
      ·omega
      ·split at hi
       ·omega
       ·exact absurd rfl hi
 ·refine⟨⟨bA.os.trans (st2.wt.os.trans f1.os),bA.tape.trans (st2.wt.tape.trans f1.tape),bA.output.trans (st2.wt.output.trans f1.output),by rw[hA3];omega,fun i hi hn=>?_⟩,fun i hi=>?_⟩
  ·rw[bA.block i (by omega)];exact hz i (by simpa using hn) hi
  ·by_cases e:i<w.heap.size
   ·left;have hi:κ' i≠0:=hi;have:κ' i=G.κ i:=if_pos e;rw[this] at hi;exact hi
   ·exact .inr (by omega)
theorem KM.put(h:KM w m H S U q G){k:Int}(hk:S.O k=none)(N:1<=k/\k<=24){o':Ow}(Q:o'.j<S.Ts.length)(V:G.κ (H.hs o'.j)=5)(d:∀p o,S.O p=some o->H.hs o.j≠H.hs o'.j){U':Nat->Int}(M:Hd w (H.hs o'.j) (H.sp o'.j) (H.tb o'.j) U' o'.m o'.eX):∃w',(Instr.mapUpdate 64 (.map (some H.gm)) (.int .i64 k) (wp (H.hs o'.j))).run prog w=.ok () w'/\∃O,KM w' m H (S.own k o') (fun i=>if i=o'.j then U' else U i) q O/\Stp w w' (fun i=>G.κ i≠0) (fun i=>O.κ i≠0):=by
 obtain⟨z,L⟩:=h.map;have F:z<maxLen:=by
  have:=(L.isN).few (B:=24) (by omega) (fun x A=>by
   rw[Option.isSome_map] at A;obtain⟨b,T⟩:=Option.isSome_iff_exists.1 A;have:=h.key x b T;omega)
  unfold maxLen;omega
 obtain⟨w',t,I,g⟩:=L.put underlying64 F k (Ni N) (wp (H.hs o'.j));have C:Wt (fun i=>G.κ i=4) w w':=⟨g.os,g.tape,g.output,g.size,fun i u P=>g.block i u (fun e=>P (by cases e;exact h.k4))⟩;have r:=h.kept (X:=4) ⟨by omega,by omega⟩ C;have v:=h.Bd;have a:∀ {i c},c≠0->G.κ i=c->tg G.κ 4 w w' i=c:=fun R e=>uF v R e;have s:∀x b,kL S.O k o' x=some b->(x=k/\b=o')\/(x≠k/\S.O x=some b):=fun x b e=>by
  by_cases n:x=k
  ·rw[n,eB] at e;exact .inl ⟨n,(Option.some.inj e).symm⟩
  ·rw[iW n] at e;exact .inr ⟨n,e⟩
 refine⟨w',t,⟨G.E,G.Av,G.L,G.bs,G.Ad,tg G.κ 4 w w'⟩,⟨r.head,h.eb,h.en,r.al (by omega),h.ms,h.sp,r.kd (by omega),h.tb,r.qj (by omega),?_,fun x b e=>?_,fun x E y D Z Y J=>?_,h.len,fun x b e=>?_,fun x b e=>?_,r.tab,h.nx,h.few,fun i u=>a (by omega) (h.k1 i u),fun i u=>a (by omega) (h.k2 i u),a (by omega) h.k3,a (by omega) h.k4,fun x b e=>?_,a (by omega) h.kk,a (by omega) h.kE,a (by omega) h.kB,a (by omega) h.kt,fun x A=>a (by omega) (h.ks x A),fZ h.qi h.km,fZ h.qm h.ke,fZ h.jX h.Qx,FJ v C.size⟩,yR C (by omega)⟩
 ·refine⟨if ((S.O k).map (fun o=>wp (H.hs o.j))).isSome then z else z+1,?_⟩;have e:(fun x=>(kL S.O k o' x).map (fun o=>wp (H.hs o.j)))=fun x=>if x=k then some (wp (H.hs o'.j)) else (S.O x).map (fun o=>wp (H.hs o.j)):=by
   funext x;by_cases n:x=k
   ·rw[n,eB,if_pos rfl];rfl
   ·rw[iW n,if_neg n]
  show aK w' H.gm (if ((S.O k).map (fun o=>wp (H.hs o.j))).isSome then z else z+1) (fun x=>(kL S.O k o' x).map (fun o=>wp (H.hs o.j)));rw[e];exact I
 ·rcases s x b e with⟨rfl,rfl⟩|⟨j,f⟩
  ·simp only[if_true];exact M.keep (g.block _ M.lt (fun e=>by
    have:=h.k4;rw[<-Option.some.inj e] at this;omega))
  ·have l:b.j≠o'.j:=fun W=>d x b f (by rw[W]);simp only[if_neg l];exact r.hold (by omega) x b f
 ·rcases s x E Z with⟨rfl,rfl⟩|⟨j,f⟩<;>rcases s y D Y with⟨rfl,rfl⟩|⟨l,K⟩
  ·rfl
  ·exact absurd J.symm (d y D K)
  ·exact absurd J (d x E f)
  ·exact h.hinj x E y D f K J
 ·rcases s x b e with⟨rfl,rfl⟩|⟨j,f⟩
  ·exact Q
  ·exact h.lt x b f
 ·rcases s x b e with⟨rfl,rfl⟩|⟨j,f⟩
  ·exact N
  ·exact h.key x b f
 ·rcases s x b e with⟨rfl,rfl⟩|⟨j,f⟩
  ·exact a (by omega) V
  ·exact a (by omega) (h.k5 x b f)
end
end
end Go.Proofs.YtippochapiolpaaGreatDoor

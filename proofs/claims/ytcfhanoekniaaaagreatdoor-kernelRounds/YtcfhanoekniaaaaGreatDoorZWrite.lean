/- A kernel: newHolding, New, by their Go text. -/
import Derived.Test.YtcfhanoekniaaaaGreatDoorZPipe
import Derived.Test.YtcfhanoekniaaaaGreatDoorOVic
import Derived.WalkLawsBesides
import Derived.Shelf.Abstract
import Derived.Deep.RegionLaw
import Derived.Lib.SliceRun
import Derived.Test.YtcfhanoekniaaaaGreatDoorOVic3
import Derived.Test.YtcfhanoekniaaaaGreatDoorTell
import Derived.Maps.AppendAt
import Derived.Deep.LoopGhost
set_option maxHeartbeats 4000000
set_option maxRecDepth 100000
namespace Go.Proofs.YtcfhanoekniaaaaGreatDoor
open Go.RowKit Go.Maps
def firstM:Nat→Int:=fun k=>if k=0 then 64 else if k=1 then 8 else if k=2 then 200 else 0
def ow:Nat→Int:=fun _=>0
def lZ (j:Nat):Nat→Int:=fun k=>if k<j then firstM k else 0
section
variable {w w':World}{m:Int}{E:St}{D:Nat→Nat→Int}{A:Nat→Prop}{o:Int→Nat}
theorem yS (h:Vs E w D (gU o) A) :
 Calls Tryz.prog 49 #[wp E.b] w fun y w'=>∃wa c gc,y=.returned (.tuple #[wp (wa.heap.size+1),.nilIface])∧VS E wa c gc D A (fun _=>none) o∧Below w.heap.size w wa∧w.heap.size≤c∧w.heap.size≤gc∧Below (wa.alloc (.cells (nv bn).toArray 216)).heap.size (wa.alloc (.cells (nv bn).toArray 216)) w'∧Hd w' (wa.heap.size+1) c wa.heap.size ow firstM 0:=by
 have hN:=EJ h
 clear h
 go_enter Tryz.func49,Tryz.ntmps49
 go_upto_region 5 with (go_at_call 133;refine hN.mono ?_;rintro e wa ⟨c,rfl,gc,hv,hb,hc,hg⟩)
 have hT:(.cells #[.int .i64 0,.bool false,.int .i64 0,.bool false,.int .i64 0,.bool false,.int .i64 0,.bool false,.int .i64 0,.bool false,.int .i64 0,.bool false,.int .i64 0,.bool false,.int .i64 0,.bool false] 216:Obj)=.cells (nv bn).toArray 216:=rfl
 rw [hT]
 have s0:(wa.alloc (.cells (nv bn).toArray 216)).heap.size=wa.heap.size+1:=by show (wa.heap.push _).size=_;rw [Array.size_push]
 have hd0:Hd ((wa.alloc (.cells (nv bn).toArray 216)).alloc (.cells (hcs c wa.heap.size ow (lZ 0) 0) 115)) (wa.heap.size+1) c wa.heap.size ow (lZ 0) 0:=by
  unfold Hd
  rw [←s0]
  show ((wa.alloc _).heap.push _)[(wa.alloc _).heap.size]? = _
  rw [Array.getElem?_push,if_pos rfl]
 have b0:Below (wa.alloc (.cells (nv bn).toArray 216)).heap.size (wa.alloc (.cells (nv bn).toArray 216)) ((wa.alloc (.cells (nv bn).toArray 216)).alloc (.cells (hcs c wa.heap.size ow (lZ 0) 0) 115)):=(Below.refl _ _).alloc (Nat.le_refl _) _
 have hH:(.cells #[vp c,.pointer (some ⟨wa.heap.size,0,none⟩),.int .i64 0,.int .i64 0,.int .i64 0,.int .i64 0,.int .i64 0,.int .i64 0,.int .i64 0] 115:Obj)=.cells (hcs c wa.heap.size ow (lZ 0) 0) 115:=rfl
 rw [hH]
 clear hT hH hN
 generalize hW0:wa.alloc (.cells (nv bn).toArray 216)=W0 at *
 have HW0:Aside _:=hW0
 clear hW0
 generalize W0.alloc (.cells (hcs c wa.heap.size ow (lZ 0) 0) 115)=W1 at *
 have HV:Aside (VS E wa c gc D A (fun _=>none) o):=hv
 have HB:Aside (Below w.heap.size w wa):=hb
 have HW:Aside (W0.heap.size=wa.heap.size+1):=s0
 clear hv hb s0
 go_wp2_with fail
 go_loopg [24] 3 (fun k s24 wr=>∃j:Nat,j+k=3∧s24=.int .i64 j∧Aside (Hd wr (wa.heap.size+1) c wa.heap.size ow (lZ j) 0∧Below W0.heap.size W0 wr))
 case atStart=>exact ⟨0,rfl,rfl,hd0,b0⟩
 case round=>
  obtain ⟨j,hj,rfl,hA⟩:=hrel
  clear hd0 b0
  have step:∀k:Nat,k<3→Hd wr (wa.heap.size+1) c wa.heap.size ow (lZ k) 0→Below W0.heap.size W0 wr→Calls Tryz.prog 120 #[lq (wa.heap.size+1),.int .i64 (k:Int),.int .i64 (firstM k)] wr fun e w'=>e=.returned .nilIface∧Aside (Hd w' (wa.heap.size+1) c wa.heap.size ow (lZ (k+1)) 0∧Below W0.heap.size W0 w'):=fun k hk hd bb=>by
   have hf:0≤firstM k∧firstM k≤1000000:=by
    match k,hk with
    |0,_|1,_|2,_=>decide
   have e0:qA k (firstM k)=0:=by unfold qA;rw [if_neg (by omega),if_neg (by omega)]
   refine (hd.limit k (firstM k)).mono ?_
   rintro e w' ⟨rfl,hd',g⟩
   refine ⟨by rw [e0];rfl,?_,iU bb g (by have:=HW.out;omega)⟩
   have e1:vZ (lZ k) k (firstM k)=lZ (k+1):=by
    unfold vZ
    rw [if_pos e0,Int.toNat_natCast]
    funext i
    unfold put lZ
    by_cases e:i=k
    ·rw [if_pos e,if_pos (by omega),e]
    ·rw [if_neg e]
     by_cases e2:i<k
     ·rw [if_pos e2,if_pos (by omega)]
     ·rw [if_neg e2,if_neg (by omega)]
   rw [e1] at hd'
   exact hd'
  have hA':=hA.out
  by_cases h3:j<3
  ·obtain ⟨hd,bb⟩:=hA'
   have hjj:j=0∨j=1∨j=2:=by omega
   rcases hjj with rfl|rfl|rfl
   all_goals
    have hL:=step _ h3 hd bb
    simp only [firstM] at hL
    clear step hA hd bb
    have i0:(Instr.index 47 (.agg #[.int .i64 64,.int .i64 8,.int .i64 200]) (.int .i64 0)).run Tryz.prog wr=.ok (.int .i64 64) wr:=by kernel_rfl
    have i1:(Instr.index 47 (.agg #[.int .i64 64,.int .i64 8,.int .i64 200]) (.int .i64 1)).run Tryz.prog wr=.ok (.int .i64 8) wr:=by kernel_rfl
    have i2:(Instr.index 47 (.agg #[.int .i64 64,.int .i64 8,.int .i64 200]) (.int .i64 2)).run Tryz.prog wr=.ok (.int .i64 200) wr:=by kernel_rfl
    go_wp2_with (go_at_call 120;refine hL.mono ?_;rintro e w1 ⟨rfl,hR⟩)
    go_roundg (gk-1)
    case measure=>omega
    case rel=>exact ⟨_,by omega,by go_num,hR⟩
  ·have hj3:j=3:=by omega
   subst hj3
   obtain ⟨hd,bb⟩:=hA'
   have e1:lZ 3=firstM:=by
    funext i
    unfold lZ firstM
    by_cases e:i<3
    ·rw [if_pos e]
    ·rw [if_neg e,if_neg (by omega),if_neg (by omega),if_neg (by omega)]
   rw [e1] at hd
   have HR:Aside _:=(⟨hd,bb⟩:Hd wr (wa.heap.size+1) c wa.heap.size ow firstM 0∧Below W0.heap.size W0 wr)
   clear hA step hd bb e1
   go_wp2_with fail
   go_ret2
   exact ⟨wa,c,gc,rfl,HV.out,HB.out,hc,hg,by rw [HW0.out];exact HR.out.2,HR.out.1⟩
end
def iA (n:Nat):KS:=⟨n,fo,oz iN,[bn],[jW],fun _ _=>0,fun p=>if p=1 then some ⟨0,firstM,0⟩ else none⟩
theorem Le (n:Nat):pq (iA n):=by
 refine ⟨fun p=>?_,fun j hj hn=>?_,fun p o e=>?_⟩
 ·show (if p=1 then some (⟨0,firstM,0⟩:Ow) else none).isSome=az fo p
  unfold az gJ fo
  by_cases e:p=1
  ·rw [if_pos e,if_pos e];rfl
  ·rw [if_neg e,if_neg e];rfl
 ·have:j=0:=by
   have:j<1:=hj
   omega
  exact absurd this.symm (hn 1 ⟨0,firstM,0⟩ rfl)
 ·have e:(if p=1 then some (⟨0,firstM,0⟩:Ow) else none)=some o:=e
  split at e
  ·cases e
   refine ⟨fun k=>?_,by show (-100:Int)≤0;omega,by show (0:Int)≤100;omega⟩
   show 0≤firstM k∧firstM k≤1000000
   unfold firstM
   split
   ·omega
   ·split
    ·omega
    ·split<;>omega
  ·cases e
open Classical in
theorem KM.first {ok:Bool}{w0 w:World}{m:Int}{E:St}{Av Ad:Nat→Prop}{n c gc f r tb hb t g gm kb:Nat}(hn:E.n=n)
 (v:VS E w c gc (fun _ _=>0) Av (fun _=>none) (fun _=>0)) (kd:KD w m f r (oz iN) [tb] [bn] 0 Ad) (qj:QJ w t g fo 1)
 (head:w.heap[kb]? = some (.cells #[wp E.b,wp r,wp f,wp t,.map (some gm)] 106)) (pm:aG w gm 1 (fun p=>if p=1 then some (wp hb) else none)) (hd:Hd w hb c tb ow firstM 0) (tab:vB ok w)
 (hv:∀i,bH E Av i→w0.heap.size≤i) (hA:∀i,Ad i→w0.heap.size≤i∧¬bH E Av i∧i≠gc∧i≠c∧i≠E.b∧i≠E.bm∧i≠g∧i≠gm∧i≠hb∧i≠kb∧i≠t)
 (h1:¬bH E Av g∧¬bH E Av gm∧¬bH E Av hb∧¬bH E Av kb∧¬bH E Av t) (h2:gc≠g∧gc≠gm∧gc≠hb∧gc≠kb∧gc≠t∧gc≠c) (h3:g≠gm∧g≠hb∧g≠kb∧g≠E.b∧g≠E.bm∧g≠t∧g≠c) (h4:gm≠hb∧gm≠kb∧gm≠E.b∧gm≠E.bm∧gm≠t∧gm≠c) (h5:hb≠kb∧hb≠E.b∧hb≠E.bm∧hb≠t∧hb≠c)
 (h6:w0.heap.size≤g∧w0.heap.size≤gm∧w0.heap.size≤hb∧w0.heap.size≤kb∧w0.heap.size≤t∧w0.heap.size≤c∧w0.heap.size≤gc∧w0.heap.size≤E.b∧w0.heap.size≤E.bm) (h7:4<w0.heap.size∧0<w0.heap.size∧2<w0.heap.size) :
 ∃A,KN w m ⟨kb,E.b,f,r,t,g,gm,fun _=>hb,fun _=>c,fun _=>tb,ok⟩ (iA n) 0 A∧∀i,A i→w0.heap.size≤i:=by
 let κ:Nat→Nat:=fun i=>if bH E Av i∨i=gc then 1 else if Ad i then 2 else if i=g then 3 else if i=gm then 4 else if i=hb then 5 else if i=kb∨i=E.b∨i=E.bm∨i=t∨i=c then 6 else 0
 have st:=v.st
 have hO:∀p o,(iA n).O p=some o→p=1∧o=⟨0,firstM,0⟩:=fun p o e=>by
  have e:(if p=1 then some (⟨0,firstM,0⟩:Ow) else none)=some o:=e
  split at e
  ·rename_i z;cases e;exact ⟨z,rfl⟩
  ·cases e
 have al:=Al.first v
 have k6:∀i,(i=kb∨i=E.b∨i=E.bm∨i=t∨i=c)→¬bH E Av i→i≠gc→κ i=6:=fun i hi hn hg=>by
  have n2:¬Ad i:=fun z=>by
   obtain ⟨_,_,_,a1,a2,a3,_,_,_,a4,a5⟩:=hA i z
   rcases hi with e|e|e|e|e
   ·exact a4 e
   ·exact a2 e
   ·exact a3 e
   ·exact a5 e
   ·exact a1 e
  have n3:i≠g∧i≠gm∧i≠hb:=by
   rcases hi with e|e|e|e|e
   ·rw [e];exact ⟨Ne.symm h3.2.2.1,Ne.symm h4.2.1,Ne.symm h5.1⟩
   ·rw [e];exact ⟨Ne.symm h3.2.2.2.1,Ne.symm h4.2.2.1,Ne.symm h5.2.1⟩
   ·rw [e];exact ⟨Ne.symm h3.2.2.2.2.1,Ne.symm h4.2.2.2.1,Ne.symm h5.2.2.1⟩
   ·rw [e];exact ⟨Ne.symm h3.2.2.2.2.2.1,Ne.symm h4.2.2.2.2.1,Ne.symm h5.2.2.2.1⟩
   ·rw [e];exact ⟨Ne.symm h3.2.2.2.2.2.2,Ne.symm h4.2.2.2.2.2,Ne.symm h5.2.2.2.2⟩
  show (if bH E Av i∨i=gc then 1 else if Ad i then 2 else if i=g then 3 else if i=gm then 4 else if i=hb then 5 else if i=kb∨i=E.b∨i=E.bm∨i=t∨i=c then 6 else 0)=6
  rw [if_neg (by rintro (z|z);exact hn z;exact hg z),if_neg n2,if_neg n3.1,if_neg n3.2.1,if_neg n3.2.2,if_pos hi]
 have k0:∀i,i<w0.heap.size→κ i=0:=fun i hi=>by
  clear h2 h3 h4 h5 h1 k6 hO
  obtain ⟨a1,a2,a3,a4,a5,a6,a7,a8,a9⟩:=h6
  show (if bH E Av i∨i=gc then 1 else if Ad i then 2 else if i=g then 3 else if i=gm then 4 else if i=hb then 5 else if i=kb∨i=E.b∨i=E.bm∨i=t∨i=c then 6 else 0)=0
  rw [if_neg (by rintro (z|z);have:=hv i z;omega;omega),if_neg (fun z=>by have:=(hA i z).1;omega),if_neg (by omega),if_neg (by omega),if_neg (by omega),if_neg (by omega)]
 have hκ:∀i,κ i≠0→w0.heap.size≤i:=fun i hi=>by
  apply Classical.byContradiction
  intro z
  exact hi (k0 i (by omega))
 refine ⟨fun i=>κ i≠0,⟨⟨⟨E,Av,[(c,gc,fun _=>none)],[tb],Ad,κ⟩,?_,fun _=>Iff.rfl⟩,Le n⟩,hκ⟩
 refine
  { head:=head
    eb:=rfl
    en:=hn
    al:=al
    ms:=rfl
    sp:=fun j h=>by
     have:j=0:=by simp at h;omega
     subst this;rfl
    kd:=kd
    tb:=fun j h=>by
     have:j=0:=by simp at h;omega
     subst this;rfl
    qj:=⟨1,qj⟩
    map:=⟨1,?_⟩
    hold:=fun p o e=>?_
    hinj:=fun p o p' o' e e' _=>by rw [(hO p o e).1,(hO p' o' e').1]
    len:=rfl
    lt:=fun p o e=>by rw [(hO p o e).2];show 0<1;omega
    key:=fun p o e=>by rw [(hO p o e).1];omega
    tab:=tab
    nx:=by show (0:Int)≤3*((0:Nat):Int);omega
    few:=by show 1≤0+1;omega
    k1:=fun i hi=>?_
    k2:=fun i hi=>?_
    k3:=?_
    k4:=?_
    k5:=fun p o e=>?_
    kk:=k6 kb (.inl rfl) h1.2.2.2.1 (Ne.symm h2.2.2.2.1)
    kE:=k6 E.b (.inr (.inl rfl)) st.bno (Ne.symm v.gb)
    kB:=k6 E.bm (.inr (.inr (.inl rfl))) st.mno (Ne.symm v.gm)
    kt:=k6 t (.inr (.inr (.inr (.inl rfl)))) h1.2.2.2.2 (Ne.symm h2.2.2.2.2.1)
    ks:=fun j _=>k6 c (.inr (.inr (.inr (.inr rfl)))) v.kX (Ne.symm h2.2.2.2.2.2)
    km:=k0 _ h7.1
    ke:=k0 _ h7.2.1
    Mi:=k0 _ h7.2.2
    yU:=fun i hi=>?_ }
 ·have e:(fun p=>((iA n).O p).map (fun _=>wp hb))=fun p=>if p=1 then some (wp hb) else none:=by
   funext p
   show (if p=1 then some (⟨0,firstM,0⟩:Ow) else none).map _=_
   split<;>rfl
  show aG w gm 1 (fun p=>((iA n).O p).map (fun _=>wp hb))
  rw [e];exact pm
 ·obtain ⟨rfl,rfl⟩:=hO p o e
  refine Hd.congr hd (fun k hk=>?_)
  have z1:bN jW=0:=pO
  have z2:aj bn=0:=by decide
  show (0:Int)=if k=0 then ((bN jW:Nat):Int) else if k=1 then ((aj bn:Nat):Int) else 0
  rw [z1,z2]
  split
  ·rfl
  ·split<;>rfl
 ·show (if bH E Av i∨i=gc then 1 else _)=1
  rw [if_pos]
  rcases hi with z|⟨x,hx,e⟩
  ·exact .inl z
  ·simp at hx;subst hx;exact .inr e
 ·obtain ⟨_,a1,a2,_⟩:=hA i hi
  show (if bH E Av i∨i=gc then 1 else if Ad i then 2 else _)=2
  rw [if_neg (by rintro (z|z);exact a1 z;exact a2 z),if_pos hi]
 ·show (if bH E Av g∨g=gc then 1 else if Ad g then 2 else if g=g then 3 else _)=3
  rw [if_neg (by rintro (z|z);exact h1.1 z;exact h2.1 z.symm),if_neg (fun z=>(hA g z).2.2.2.2.2.2.1 rfl),if_pos rfl]
 ·show (if bH E Av gm∨gm=gc then 1 else if Ad gm then 2 else if gm=g then 3 else if gm=gm then 4 else _)=4
  rw [if_neg (by rintro (z|z);exact h1.2.1 z;exact h2.2.1 z.symm),if_neg (fun z=>(hA gm z).2.2.2.2.2.2.2.1 rfl),if_neg (Ne.symm h3.1),if_pos rfl]
 ·show (if bH E Av hb∨hb=gc then 1 else if Ad hb then 2 else if hb=g then 3 else if hb=gm then 4 else if hb=hb then 5 else _)=5
  rw [if_neg (by rintro (z|z);exact h1.2.2.1 z;exact h2.2.2.1 z.symm),if_neg (fun z=>(hA hb z).2.2.2.2.2.2.2.2.1 rfl),if_neg (Ne.symm h3.2.1),if_neg (Ne.symm h4.1),if_pos rfl]
 ·have hi:(if bH E Av i∨i=gc then 1 else if Ad i then 2 else if i=g then 3 else if i=gm then 4 else if i=hb then 5 else if i=kb∨i=E.b∨i=E.bm∨i=t∨i=c then 6 else 0)≠0:=hi
  split at hi
  ·rename_i z
   rcases z with z|z
   ·exact st.Au z
   ·rw [z];exact v.sp.rf
  ·split at hi
   ·rename_i z;exact kd.lt i z
   ·split at hi
    ·rename_i z;rw [z];exact qj.map.lt
    ·split at hi
     ·rename_i z;rw [z];exact pm.lt
     ·split at hi
      ·rename_i z;rw [z];exact hd.lt
      ·split at hi
       ·rename_i z
        rcases z with z|z|z|z|z
        ·rw [z];exact lt_of_heap head
        ·rw [z];exact st.blt
        ·rw [z];exact st.mlt
        ·rw [z];exact qj.toQM.Uf
        ·rw [z];exact v.sp.lt
       ·exact absurd rfl hi
end Go.Proofs.YtcfhanoekniaaaaGreatDoor
namespace Go.Proofs.YtcfhanoekniaaaaGreatDoor
open Go.RowKit Go.Maps
section
variable {w w':World}{m:Int}
theorem sH {ok:Bool}(w:World) (n:Nat) (h1:1≤n) (h2:n≤256) (hm:w.cell? ⟨4,0,none⟩=some (.int .i64 m)) (he:w.cell? ⟨0,0,none⟩=some fJ) (ht:vB ok w) :
 Calls Tryz.prog 12 #[.int .i64 (n:Int)] w fun y w'=>∃H A,y=.returned (.tuple #[wp H.kb,.nilIface])∧KN w' m H (iA n) 0 A∧(∀i,A i→w.heap.size≤i)∧Below w.heap.size w w'∧H.ok=ok:=by
 have g1:=World.block_lt_of_cell? w _ hm
 have g2:=World.block_lt_of_cell? w _ he
 have g3:=ht.lt
 have chain:Calls Tryz.prog 46 #[.int .i64 (n:Int)] w fun y w1=>∃b,y=.returned (.tuple #[wp b,.nilIface])∧Calls Tryz.prog 47 #[] w1 fun y w2=>∃r,y=.returned (wp r)∧Calls Tryz.prog 48 #[wp r] w2 fun y w3=>∃f,y=.returned (.tuple #[wp f,.nilIface])∧Calls Tryz.prog 49 #[wp b] w3 fun y w4=>∃hb,y=.returned (.tuple #[wp hb,.nilIface])∧Calls Tryz.prog 50 #[] w4 fun y w5=>∃t,y=.returned (wp t)∧∃w6,(Instr.mapUpdate 104 (.map (some w5.heap.size)) (.int .i64 1) (wp hb)).run Tryz.prog (w5.alloc (.map #[] 0))=.ok () w6∧Aside (∃H A,(H.kb=w6.heap.size∧H.ok=ok)∧KN (w6.alloc (.cells #[wp b,wp r,wp f,wp t,.map (some w5.heap.size)] 106)) m H (iA n) 0 A∧(∀i,A i→w.heap.size≤i)∧Below w.heap.size w (w6.alloc (.cells #[wp b,wp r,wp f,wp t,.map (some w5.heap.size)] 106))):=by
  refine (Co w n h1 h2).mono ?_
  rintro y w1 ⟨b,rfl,E,Av,rfl,hEn,vs1,b1,hv1,hbE,hmw⟩
  refine ⟨E.b,rfl,(KW.first w1 (m:=m) (cell_below hm b1) (cell_below he b1)).mono ?_⟩
  rintro y w2 ⟨r,rfl,b2,hD⟩
  refine ⟨r,rfl,hD.mono ?_⟩
  rintro y w3 ⟨f,rfl,Ad,kd3,YF,b13⟩
  have b3:Below w.heap.size w w3:=b1.trans (b13.mono b1.size)
  have vs3:Vs E w3 (fun _ _=>0) (gU fun _=>0) Av:=vs1.below b13
  refine ⟨f,rfl,(yS vs3).mono ?_⟩
  rintro y w4 ⟨wa,c,gc,rfl,va,ba,hc,hgc,b4,hd4⟩
  have hba:=ba.size
  have s0:(wa.alloc (.cells (nv bn).toArray 216)).heap.size=wa.heap.size+1:=by show (wa.heap.push _).size=_;rw [Array.size_push]
  have bT:Below wa.heap.size wa (wa.alloc (.cells (nv bn).toArray 216)):=(Below.refl _ _).alloc (Nat.le_refl _) _
  have YI:Below wa.heap.size wa w4:=bT.trans (b4.mono bT.size)
  have kdT:=(kd3.below ba).table (by simp)
  have kd4:KD w4 m f r (oz iN) [wa.heap.size] [bn] 0 (fun i=>Ad i∨i=wa.heap.size):=kdT.below b4
  have v4:=va.below YI
  have h41:=b4.size
  rw [s0] at h41
  have hdl:wa.heap.size+1<w4.heap.size:=hd4.lt
  refine ⟨wa.heap.size+1,rfl,(OA w4).mono ?_⟩
  rintro y w5 ⟨t,g,rfl,Wj,b5,htl,hgl⟩
  have p0:aG (w5.alloc (.map #[] 0)) w5.heap.size 0 (fun _=>none):=aG.made w5
  have bM:Below w5.heap.size w5 (w5.alloc (.map #[] 0)):=(Below.refl _ w5).alloc (Nat.le_refl _) _
  have sM:(w5.alloc (.map #[] 0)).heap.size=w5.heap.size+1:=by show (w5.heap.push _).size=_;rw [Array.size_push]
  obtain ⟨w6,hrun,q6,g6⟩:=p0.put Tryz.underlying104 (by unfold maxLen;omega) 1 (by decide) (wp (wa.heap.size+1))
  have b6:Below w5.heap.size w5 w6:=iU bM g6 (Nat.le_refl _)
  have h61:w5.heap.size+1≤w6.heap.size:=by have:=g6.size;rw [sM] at this;exact this
  have bK:Below w6.heap.size w6 (w6.alloc (.cells #[wp E.b,wp r,wp f,wp t,.map (some w5.heap.size)] 106)):=(Below.refl _ _).alloc (Nat.le_refl _) _
  have b5K:Below w5.heap.size w5 (w6.alloc (.cells #[wp E.b,wp r,wp f,wp t,.map (some w5.heap.size)] 106)):=b6.trans (bK.mono b6.size)
  have WY:=b5.trans (b5K.mono b5.size)
  have head:(w6.alloc (.cells #[wp E.b,wp r,wp f,wp t,.map (some w5.heap.size)] 106)).heap[w6.heap.size]? = some (.cells #[wp E.b,wp r,wp f,wp t,.map (some w5.heap.size)] 106):=by
   show (w6.heap.push _)[w6.heap.size]? = _
   rw [Array.getElem?_push,if_pos rfl]
  have q6':aG w6 w5.heap.size 1 (fun p=>if p=1 then some (wp (wa.heap.size+1)) else none):=q6
  have pm:=q6'.keep (bK.block _ q6'.lt)
  have Qo:=b1.size
  have aev:=b13.size
  have bw5:=b5.size
  have Fp:∀i,bH E Av i→w.heap.size≤i∧i<w1.heap.size:=fun i hi=>⟨Nat.le_of_not_lt (fun z=>hv1 i z hi),vs1.Au hi⟩
  have aap:∀i,(Ad i∨i=wa.heap.size)→w1.heap.size≤i∧i<wa.heap.size+1∧(i<w3.heap.size∨i=wa.heap.size):=fun i hi=>by
   rcases hi with z|z
   ·have:=YF i z;have:=kd3.lt i z;exact ⟨by omega,by omega,.inl (by omega)⟩
   ·exact ⟨by omega,by omega,.inr z⟩
  have hbl:=vs1.blt
  have sN:=vs1.mlt
  have hcl:=va.sp.lt
  have aeo:=va.sp.rf
  have aec:=Wj.toQM.Uf
  have aen:=Wj.map.lt
  have htg:=Wj.toQM.gt
  have hcg:=va.sp.ne
  obtain ⟨A,kn,hA⟩:=KM.first (w0:=w) (m:=m) hEn (v4.below WY) (kd4.below WY) ⟨Wj.toQM.below b5K,Wj.ok,Wj.dj⟩ head pm (hd4.below WY) (ht.keep ((b3.trans ((ba.trans (YI.mono ba.size)).mono b3.size |>.trans (WY.mono (by omega)))).block _ g3)) (fun i hi=>(Fp i hi).1) (fun i hi=>by
   obtain ⟨a1,a2,a3⟩:=aap i hi
   have n1:¬bH E Av i:=fun z=>by have:=Fp i z;omega
   exact ⟨by omega,n1,by omega,by omega,by omega,by omega,by omega,by omega,by omega,by omega,by omega⟩)
   ⟨fun z=>by have:=Fp _ z;omega,fun z=>by have:=Fp _ z;omega,fun z=>by have:=Fp _ z;omega,fun z=>by have:=Fp _ z;omega,fun z=>by have:=Fp _ z;omega⟩
   ⟨by omega,by omega,by omega,by omega,by omega,Ne.symm hcg⟩ ⟨by omega,by omega,by omega,by omega,by omega,htg,by omega⟩ ⟨by omega,by omega,by omega,by omega,by omega,by omega⟩ ⟨by omega,by omega,by omega,by omega,by omega⟩ ⟨by omega,by omega,by omega,by omega,by omega,by omega,by omega,by omega,hmw⟩ ⟨g1,g2,g3⟩
  refine ⟨t,rfl,w6,hrun,_,A,⟨rfl,rfl⟩,kn,hA,?_⟩
  exact (b3.trans (ba.mono b3.size)).trans ((YI.trans (WY.mono YI.size)).mono (by omega))
 have hmm:=@run_makeMap Tryz.prog
 clear hm he ht g1 g2 g3 h1 h2
 go_enter Tryz.func12,Tryz.ntmps12
 go_upto_region 11 with (first
  |(go_at_call 46;refine chain.mono ?_;rintro e w1 ⟨b,rfl,c1⟩)
  |(go_at_call 47;refine c1.mono ?_;rintro e w2 ⟨r,rfl,c2⟩)
  |(go_at_call 48;refine c2.mono ?_;rintro e w3 ⟨f,rfl,c3⟩)
  |(go_at_call 49;refine c3.mono ?_;rintro e w4 ⟨hb,rfl,c4⟩))
 clear chain c1 c2 c3
 go_wp2_with (go_at_call 50;refine c4.mono ?_;rintro e w5 ⟨t,rfl,w6,hrun,hR⟩)
 go_ret2
 obtain ⟨H,A,hk,kn,hA,bb⟩:=hR.out
 exact ⟨H,A,by rw [hk.1];rfl,kn,hA,bb,hk.2⟩
end
end Go.Proofs.YtcfhanoekniaaaaGreatDoor
namespace Go.Proofs.YtcfhanoekniaaaaGreatDoor
open Go.RowKit Go.Maps Go.Shelf
theorem SK:∃i,Tryz.prog.info? 324=some i∧i.zero=some (.agg #[.int .i64 0,.int .i64 0,.int .i64 0])∧i.size=3∧i.bytes=24:=
 info_parts (P:=Tryz.prog) (e:=324) (z:=.agg #[.int .i64 0,.int .i64 0,.int .i64 0]) (size:=3) (bytes:=24) (by kernel_rfl)
theorem W9.news {w:World}{blk off:Nat}{L:List Cd}(hq:∀j (hj:j<L.length),w.cell? ⟨blk,off+j*3,none⟩=some (.int .i64 L[j].pid)∧w.cell? ⟨blk,off+j*3+1,none⟩=some (.int .i64 L[j].res)∧w.cell? ⟨blk,off+j*3+2,none⟩=some (.int .i64 L[j].dF)) (j:Nat) (u:Value) (h:(CJ L)[j]? = some u):w.cell? ((⟨blk,off,none⟩:Addr).add j)=some u:=by
 have hj:j<L.length*3:=by have:=(List.getElem?_eq_some_iff.1 h).1;rwa [BX] at this
 have hq1:j / 3<L.length:=by omega
 obtain ⟨e0,e1,e2⟩:=hq (j / 3) hq1
 obtain ⟨f0,f1,f2⟩:=BZ L (j / 3) L[j / 3] (by simp [hq1])
 rw [Addr.add_lit]
 have hm:j % 3=0∨j % 3=1∨j % 3=2:=by omega
 rcases hm with z|z|z
 ·rw [show j=j / 3*3 by omega] at h ⊢
  rw [f0] at h;rw [←h];exact e0
 ·rw [show j=j / 3*3+1 by omega] at h ⊢
  rw [f1] at h;rw [←h,show off+(j / 3*3+1)=off+j / 3*3+1 by omega];exact e1
 ·rw [show j=j / 3*3+2 by omega] at h ⊢
  rw [f2] at h;rw [←h,show off+(j / 3*3+2)=off+j / 3*3+2 by omega];exact e2
theorem vC {P:Program}{ops:Array Oper}{o:Oper}{a:Act}{w:World}{K:Act→World→Prop}{Q:Exit→Act→World→Prop}{E:Prop}
 (hg:o.guard=none) (s x:Operand) (t:TypeId) (hop:o.op=Op.call { callee:=Callee.builtin Builtin.append,args:=#[s,x],argTypes:=#[t,t] })
 (v y v':Value) (w':World) (hs:a.eval s=v) (hx:a.eval x=y) (hr:(Builtin.append_ #[t,t] o.type #[v,y]).run P w=.ok v' w') (hK:K (a.put o.dst v') w') :
 if Region.wanted o (yielded ops a.tmps)=true then Oper.wp P o a w K Q else E:=by
 have hw:Region.wanted o (yielded ops a.tmps)=true:=by simp [Region.wanted,hg]
 rw [if_pos hw]
 unfold Oper.wp
 simp [execOp,hop,resolve,invoke,builtin,hs,hx,hr,Result.andThen]
 exact hK
theorem CL.keep {w w':World}{N:Nat}{t:TypeId}{v:Value}{L:List Cd}(h:CL w N t v L) (hb:∀i,N≤i→i<w.heap.size→w'.heap[i]? = w.heap[i]?):CL w' N t v L:=by
 refine ⟨h.1,?_⟩
 rcases h.2 with z|⟨g,cap,cur,rfl,h1,h2,h3⟩
 ·exact .inl z
 ·exact .inr ⟨g,cap,cur,rfl,h1,(hb g h1 (by
   by_cases e:g<w.heap.size
   ·exact e
   ·rw [Array.getElem?_eq_none (by omega)] at h2;cases h2)).trans h2,h3⟩
theorem GU {W:World}{N:Nat}{v:Value}{M L:List Cd}(hown:CL W N 324 v M) {blk off:Nat}(hq:Cells W blk off L) (c:Nat) (hm:M.length≤100) (hl:L.length≤100) (hN:N≤W.heap.size) :
 ∃v' w',(∀ty,ty=190→(Builtin.append_ #[190,190] ty #[v,.slice (some ⟨blk,off,none⟩) L.length c]).run Tryz.prog W=.ok v' w')∧CL w' N 324 v' (M ++ L)∧W.grownBy w' v.ownBlock:=by
 obtain ⟨i0,hi0,hz0,hz1,hz2⟩:=SK
 obtain ⟨v',w',hr,ho,hg,_⟩:=run_append_own_at (P:=Tryz.prog) W N 190 190 324 i0 (.agg #[.int .i64 0,.int .i64 0,.int .i64 0]) 3 24 Tryz.underlying190 hi0 hz0 hz1 hz2 rfl (by decide) v M.length (CJ M) hown ⟨blk,off,none⟩ L.length c (CJ L) (BX L) (W9.news hq) (SL L) (by unfold maxLen;omega) (by omega) hN
 refine ⟨v',w',fun ty e=>by rw [e];exact hr,?_,hg⟩
 unfold CL
 rw [List.length_append,SN];exact ho
end Go.Proofs.YtcfhanoekniaaaaGreatDoor
namespace Go.Proofs.YtcfhanoekniaaaaGreatDoor
open Go.RowKit Go.Maps Go.Sort
def fq (S:KS) (p:Int):Option Cd:=if p=1 then none else (S.O p).map (fun o=>⟨p,((iq (aK S o.j):Nat):Int),o.dF⟩)
def dO (S:KS):List Cd:=(af S.P).filterMap (fq S)
section
variable {w w':World}{m:Int}{H:KH}{S:KS}{U:Nat→Nat→Int}{q:Nat}{A:Nat→Prop}{p:Int}{o:Ow}
theorem GR {l:List Int}{i:Nat}(h:i<l.length):(l.take (i+1)).filterMap (fq S)=(l.take i).filterMap (fq S) ++ (fq S l[i]).toList:=by
 rw [List.take_add_one,List.getElem?_eq_getElem h,List.filterMap_append]
 congr 1
theorem Ap (S:KS):(dO S).length≤24:=Nat.le_trans (List.length_filterMap_le _ _) (mX _)
theorem KX.candidates (h:KX w m H S U q A):Calls Tryz.prog 123 #[wp H.kb] w fun y w'=>∃ad cap,y=.returned (.slice ad (dO S).length cap)∧W9 w' ad (dO S)∧Below w.heap.size w w':=by
 have c3:=h.c3
 obtain ⟨L,hL⟩:∃L,af S.P=L:=⟨_,rfl⟩
 have aej:L.length≤24:=by rw [←hL];exact mX _
 have hwf:∀p∈L,1≤p∧p≤24:=fun p hp=>by
  rw [←hL] at hp
  obtain ⟨x,hx⟩:=Option.isSome_iff_exists.1 (h.Mj.jr.1 hp)
  exact h.Mj.key p x hx
 have hP:Calls Tryz.prog 111 #[wp H.t] w fun e w'=>∃b cap,e=.returned (.slice (some ⟨b,0,none⟩) L.length cap)∧L.length≤cap∧w.heap.size≤b∧b<w'.heap.size∧(∀j (hj:j<L.length),w'.cell? ⟨b,j,none⟩=some (.int .i64 L[j]))∧Below w.heap.size w w':=by
  have h1:=h.one
  obtain ⟨G,k,e⟩:=h
  obtain ⟨c,qj⟩:=k.qj
  refine (qj.toQM.jr h1).mono ?_
  rintro e w1 ⟨b,cap,rfl,hc,hb,hb2,hh,bb⟩
  rw [hL] at hh hc ⊢
  refine ⟨b,cap,rfl,hc,hb,hb2,fun j hj=>?_,bb⟩
  have:=(hh j (by simpa using hj)).1
  rw [Nat.zero_add] at this
  have e9:L.toArray[j]! = L[j]:=by rw [getElem!_pos _ j (by simpa using hj)];simp
  rw [this,e9]
 have hcell:∀V,Below w.heap.size w V→V.cell? ⟨H.kb,4,none⟩=some (.map (some H.gm)):=fun V hb=>(h.below hb).c4
 have Hz:∀V p,1≤p∧p≤24→Below w.heap.size w V→(Instr.lookup 104 (.map (some H.gm)) (.int .i64 p) false).run Tryz.prog V=.ok (match S.O p with|some o=>wp (H.hs o.j) | none=>.pointer none) V:=fun V p hp hb=>(h.below hb).look p (CK hp)
 have hres:∀V p o,S.O p=some o→Below w.heap.size w V→(V.cell? ⟨H.hs o.j,0,none⟩=some (wp (H.sp o.j))∧V.cell? ⟨H.hs o.j,8,none⟩=some (.int .i64 o.dF))∧Calls Tryz.prog 117 #[wp (H.sp o.j)] V fun y w'=>y=.returned (.int .i64 ((iq (aK S o.j):Nat):Int))∧Below V.heap.size V w':=fun V p o ho hb=>⟨⟨((h.below hb).hd ho).at 0,((h.below hb).hd ho).at 8⟩,(h.below hb).Xf (h.qx ho)⟩
 have HC:Aside _:=hcell
 have HL:Aside _:=Hz
 have HR:Aside _:=hres
 have HW:Aside _:=hwf
 have hcs:dO S=L.filterMap (fq S):=by unfold dO;rw [hL]
 rw [hcs]
 have ZE:Aside _:=hL
 clear h hcell Hz hres hwf hcs hL
 go_enter Tryz.func123,Tryz.ntmps123
 go_wp2_with (go_at_call 111;refine hP.mono ?_;rintro e w1 ⟨b,cap,rfl,hcap,hbw,hb1,hcc,b1⟩)
 have ZH:Aside (∀j (hj:j<L.length),w1.cell? ⟨b,j,none⟩=some (.int .i64 L[j])):=hcc
 clear hP c3 hcc
 go_loopg [3,13] L.length (fun mm s3 s13 wr=>∃i:Nat,i+mm=L.length∧s13=.int .i64 (i:Int)∧CL wr w1.heap.size 324 s3 ((L.take i).filterMap (fq S))∧Below w1.heap.size w1 wr∧Below w.heap.size w wr)
 case atStart=>exact ⟨0,by omega,rfl,⟨rfl,.inl ⟨rfl,rfl⟩⟩,Below.refl _ _,b1⟩
 case round=>
  obtain ⟨i,hi,rfl,row,Qo,bw⟩:=hrel
  by_cases hlt:(i:Int)<(L.length:Int)
  ·have aF:i<L.length:=by omega
   have hic:(i:Int)<(cap:Int):=by omega
   have c0:wr.cell? ⟨b,i,none⟩=some (.int .i64 L[i]):=by rw [Qo.cell (p:=⟨b,i,none⟩) hb1];exact ZH.out i aF
   have hk:=HW.out L[i] (List.getElem_mem aF)
   have c4:=HC.out wr bw
   have l4:=HL.out wr L[i] hk bw
   have htk:=GR (S:=S) aF
   have HT:Aside _:=htk
   have hlen:((L.take i).filterMap (fq S)).length≤24:=by
    refine Nat.le_trans (List.length_filterMap_le _ _) ?_
    rw [List.length_take];omega
   clear htk
   generalize L[i]=X at *
   cases hO:S.O X with
   |none=>
    rw [hO] at l4
    have e0:fq S X=none:=by unfold fq;rw [hO];split<;>rfl
    have HE:Aside _:=e0
    clear hO e0
    go_wp2_with fail
    go_roundg (gk-1)
    case measure=>omega
    case rel=>
     refine ⟨i+1,by omega,by go_num,?_,Qo,bw⟩
     rw [HT.out,HE.out,Option.toList_none,List.append_nil]
     exact row
   |some o=>
    rw [hO] at l4
    simp only at l4
    by_cases hx1:X=1
    ·have e0:fq S X=none:=if_pos hx1
     have HE:Aside _:=e0
     clear hO e0
     have hx2:(X != 1)=false:=by simpa using hx1
     subst hx1
     go_wp2_with fail
     go_roundg (gk-1)
     case measure=>omega
     case rel=>
      refine ⟨i+1,by omega,by go_num,?_,Qo,bw⟩
      rw [HT.out,HE.out,Option.toList_none,List.append_nil]
      exact row
    ·have e0:fq S X=some ⟨X,((iq (aK S o.j):Nat):Int),o.dF⟩:=by unfold fq;rw [if_neg hx1,hO];rfl
     have HE:Aside _:=e0
     have hx2:(X != 1)=true:=by simpa using hx1
     have hrs:(wr.cell? ⟨H.hs o.j,0,none⟩=some (wp (H.sp o.j))∧wr.cell? ⟨H.hs o.j,8,none⟩=some (.int .i64 o.dF))∧Calls Tryz.prog 117 #[wp (H.sp o.j)] wr.drew fun y w2=>y=.returned (.int .i64 ((iq (aK S o.j):Nat):Int))∧(w2.cell? ⟨H.hs o.j,0,none⟩=some (wp (H.sp o.j))∧w2.cell? ⟨H.hs o.j,8,none⟩=some (.int .i64 o.dF))∧((w2.alloc (.cells #[.int .i64 X,.int .i64 ((iq (aK S o.j):Nat):Int),.int .i64 o.dF] 324)).cell? ⟨H.hs o.j,0,none⟩=some (wp (H.sp o.j))∧(w2.alloc (.cells #[.int .i64 X,.int .i64 ((iq (aK S o.j):Nat):Int),.int .i64 o.dF] 324)).cell? ⟨H.hs o.j,8,none⟩=some (.int .i64 o.dF))∧∃v9 w9,(Builtin.append_ #[190,190] 190 #[u3,.slice (some ⟨w2.heap.size,0,none⟩) 1 1]).run Tryz.prog (w2.alloc (.cells #[.int .i64 X,.int .i64 ((iq (aK S o.j):Nat):Int),.int .i64 o.dF] 324))=.ok v9 w9∧(w9.cell? ⟨H.hs o.j,0,none⟩=some (wp (H.sp o.j))∧w9.cell? ⟨H.hs o.j,8,none⟩=some (.int .i64 o.dF))∧Aside (CL w9 w1.heap.size 324 v9 ((L.take i).filterMap (fq S) ++ [⟨X,((iq (aK S o.j):Nat):Int),o.dF⟩])∧Below w1.heap.size w1 w9∧Below w.heap.size w w9):=by
      refine ⟨(HR.out wr X o hO bw).1,((HR.out wr.drew X o hO (bw.trans ((bJ wr).mono bw.size))).2).mono ?_⟩
      rintro y w2 ⟨rfl,b2⟩
      have b2':Below wr.heap.size wr w2:=(bJ wr).trans b2
      have bA:Below w2.heap.size w2 (w2.alloc (.cells #[.int .i64 X,.int .i64 ((iq (aK S o.j):Nat):Int),.int .i64 o.dF] 324)):=(Below.refl _ _).alloc (Nat.le_refl _) _
      have bB:Below wr.heap.size wr (w2.alloc (.cells #[.int .i64 X,.int .i64 ((iq (aK S o.j):Nat):Int),.int .i64 o.dF] 324)):=b2'.trans (bA.mono b2'.size)
      have Uz:CL (w2.alloc (.cells #[.int .i64 X,.int .i64 ((iq (aK S o.j):Nat):Int),.int .i64 o.dF] 324)) w1.heap.size 324 u3 ((L.take i).filterMap (fq S)):=row.keep (fun j _ hj=>bB.block j hj)
      have hA:(w2.alloc (.cells #[.int .i64 X,.int .i64 ((iq (aK S o.j):Nat):Int),.int .i64 o.dF] 324)).heap[w2.heap.size]? = some (bx ⟨X,((iq (aK S o.j):Nat):Int),o.dF⟩):=by
       show (w2.heap.push _)[w2.heap.size]? = _
       rw [Array.getElem?_push,if_pos rfl]
      obtain ⟨x0,x1,x2⟩:=mR hA
      have hcl:Cells (w2.alloc (.cells #[.int .i64 X,.int .i64 ((iq (aK S o.j):Nat):Int),.int .i64 o.dF] 324)) w2.heap.size 0 [⟨X,((iq (aK S o.j):Nat):Int),o.dF⟩]:=fun j hj=>by
       have:j=0:=by simp at hj;omega
       subst this
       exact ⟨x0,x1,x2⟩
      have bws:=Qo.size
      have b2s:=b2'.size
      have bAs:=bA.size
      obtain ⟨v9,w9,hr,aai,Tx⟩:=GU Uz hcl 1 (by omega) (by simp) (by omega)
      have b19:Below w1.heap.size w1 w9:=⟨Tx.os.trans (bB.os.trans Qo.os),Tx.tape.trans (bB.tape.trans Qo.tape),Tx.output.trans (bB.output.trans Qo.output),by have:=Tx.size;omega,fun j hj=>by
       rw [Tx.block j (by omega) (fun e=>by have:=(row.lt j e.symm).1;omega),bB.block j (by omega)]
       exact Qo.block j hj⟩
      have bw9:Below w.heap.size w w9:=b1.trans (b19.mono b1.size)
      have bwA:Below w.heap.size w (w2.alloc (.cells #[.int .i64 X,.int .i64 ((iq (aK S o.j):Nat):Int),.int .i64 o.dF] 324)):=bw.trans (bB.mono bw.size)
      have bw2:Below w.heap.size w w2:=bw.trans (b2'.mono bw.size)
      exact ⟨rfl,(HR.out w2 X o hO bw2).1,(HR.out _ X o hO bwA).1,v9,w9,hr _ rfl,(HR.out w9 X o hO bw9).1,aai,b19,bw9⟩
     obtain ⟨d0,hRs⟩:=hrs
     clear hO e0 HR HC HL HW ZH row
     generalize ((iq (aK S o.j):Nat):Int)=R9 at *
     go_upto_region 7 with fail
     go_region_held3 (fun w'=>w'.cell? ⟨H.hs o.j,0,none⟩=some (wp (H.sp o.j))∧w'.cell? ⟨H.hs o.j,8,none⟩=some (.int .i64 o.dF)) (first|exact d0|exact d1|exact d2|exact d3) (first
      |(go_at_call 117;refine hRs.mono ?_;rintro e w2 ⟨rfl,d1,d2,v9,w9,hrun,d3,hR9⟩)
      |(refine vC rfl (.tmp 29) (.tmp 41) 190 rfl _ _ v9 w9 rfl rfl hrun ?_))
     all_goals
      clear d0 d1 d2 d3 hrun hRs
      go_wp2_with fail
      go_roundg (gk-1)
      case measure=>omega
      case rel=>
       obtain ⟨r1,r2,r3⟩:=hR9.out
       refine ⟨i+1,by omega,by go_num,?_,r2,r3⟩
       rw [HT.out,HE.out]
       exact r1
  ·have aF:i=L.length:=by omega
   have hT:L.take i=L:=by rw [aF];exact List.take_length
   rw [hT] at row
   obtain ⟨Mt,cap2,hv2,_,hcd⟩:=row.cds
   subst hv2
   have HD:Aside _:=hcd
   clear hcd row hT HC HL HR HW ZH
   go_wp2_with fail
   go_ret
   exact ⟨Mt,⟨cap2,rfl⟩,HD.out,bw⟩
end
end Go.Proofs.YtcfhanoekniaaaaGreatDoor
namespace Go.Proofs.YtcfhanoekniaaaaGreatDoor
open Go.RowKit Go.Maps
inductive fM (p a k v:Int):KS→List Int→Int→KS→Prop
 |done {S:KS}{o:Ow}{er:Int}{P':PM}{D':Nat→Nat→Int}(ho:S.O p=some o) (h:yF S.n (aK S o.j) (nk S o.j) S.W a k v er P' D') (h12:er≠12):fM p a k v S [] er (S.space o.j P' D')
 |nobody {S:KS}{o:Ow}(ho:S.O p=some o) (h:yF S.n (aK S o.j) (nk S o.j) S.W a k v 12 (aK S o.j) S.W) (hv:¬0<(sJ (dO S)).1):fM p a k v S [] 12 S
 |self {S:KS}{o:Ow}(ho:S.O p=some o) (h:yF S.n (aK S o.j) (nk S o.j) S.W a k v 12 (aK S o.j) S.W) (hv:0<(sJ (dO S)).1) (he:(sJ (dO S)).2=p):fM p a k v S [p] 10 (aM S p o 108)
 |goes {S:KS}{o:Ow}{x:Int}{ox:Ow}{went:List Int}{er:Int}{S':KS}(ho:S.O p=some o) (h:yF S.n (aK S o.j) (nk S o.j) S.W a k v 12 (aK S o.j) S.W) (hv:0<(sJ (dO S)).1) (he:(sJ (dO S)).2=x) (hx:S.O x=some ox) (h1:x≠1) (hne:x≠p) (r:fM p a k v (aM S x ox 108) went er S'):fM p a k v S (x :: went) er S'
section
variable {w w' V:World}{m:Int}{H:KH}{S:KS}{U:Nat→Nat→Int}{q:Nat}{A A':Nat→Prop}{p:Int}{o:Ow}
theorem mD (c:Int) (w:World) (hg:w.cell? ⟨0,0,none⟩=some fJ):Calls Tryz.prog 17 #[aJ c] w fun e w'=>e=.returned (.int .i64 c)∧Below w.heap.size w w':=by
 by_cases h:c=0
 ·subst h
  refine (Dk w).mono ?_
  rintro e w' ⟨he,rfl⟩
  exact ⟨he,Below.refl _ _⟩
 ·rw [aB h];exact Dl c w hg
theorem Pm {S:KS}{c:Cd}(h:c∈dO S):c.pid≠1∧∃o,S.O c.pid=some o∧c=⟨c.pid,((iq (aK S o.j):Nat):Int),o.dF⟩:=by
 unfold dO at h
 obtain ⟨x,hx,e⟩:=List.mem_filterMap.1 h
 unfold fq at e
 split at e
 ·cases e
 ·rename_i hne
  cases hO:S.O x with
  |none=>rw [hO] at e;cases e
  |some o=>
   rw [hO] at e
   obtain rfl:=Option.some.inj e
   exact ⟨hne,o,hO,rfl⟩
theorem NI {S:KS}(h:0<(sJ (dO S)).1):(sJ (dO S)).2≠1∧∃o,S.O (sJ (dO S)).2=some o∧0<iq (aK S o.j):=by
 obtain ⟨k,hk,e1,e2⟩:=UT h
 obtain ⟨h1,o,ho,ec⟩:=Pm (List.getElem_mem hk)
 rw [e1] at h1 ho
 refine ⟨h1,o,ho,?_⟩
 have hw:0<jN (dO S)[k]:=by rw [e2];exact h
 have:=(QP.1 hw).1
 rw [ec] at this
 simp only at this
 omega
theorem o8 {f f':Int→Option Cd}{x:Int}(hx':f' x=none) (hx:(f x).isSome=true):∀(l:List Int),(∀y∈l,f' y=none∨f' y=f y)→(l.filterMap f').length≤(l.filterMap f).length∧(x∈l→(l.filterMap f').length+1≤(l.filterMap f).length)
 | [],_=>⟨Nat.le_refl _,fun h=>by cases h⟩
 |y :: r,hl=>by
  obtain ⟨i1,i2⟩:=o8 hx' hx r (fun z hz=>hl z (List.mem_cons_of_mem _ hz))
  have hy:=hl y List.mem_cons_self
  have c1:((y :: r).filterMap f').length=(r.filterMap f').length+if (f' y).isSome=true then 1 else 0:=by
   rw [List.filterMap_cons];cases f' y<;>simp
  have c2:((y :: r).filterMap f).length=(r.filterMap f).length+if (f y).isSome=true then 1 else 0:=by
   rw [List.filterMap_cons];cases f y<;>simp
  rw [c1,c2]
  have hle:(if (f' y).isSome=true then 1 else 0)≤(if (f y).isSome=true then 1 else 0):=by
   rcases hy with e|e
   ·rw [e];simp
   ·rw [e];exact Nat.le_refl _
  refine ⟨by omega,fun hm=>?_⟩
  rcases List.mem_cons.1 hm with e|e
  ·subst e
   rw [hx',hx]
   simp;omega
  ·have:=i2 e;omega
theorem Kq (P:Ps) (x c:Int):af (bX P x c)=af P:=by
 unfold af
 refine List.filter_congr (fun n _=>?_)
 unfold bX
 rw [Option.isSome_map]
theorem LU (h:KN w m H S q A) {x:Int}{ox:Ow}(hx:S.O x=some ox) (h1:x≠1) (c:Int):(dO (aM S x ox c)).length+1≤(dO S).length:=by
 unfold dO
 have e:(aM S x ox c).P=bX S.P x c:=rfl
 rw [e,Kq]
 have sN:=h.1.mlt hx
 have f0:fq (aM S x ox c) x=none:=by
  unfold fq
  rw [if_neg h1]
  have:(aM S x ox c).O x=none:=by show iL S.O x x=none;unfold iL;rw [if_pos rfl]
  rw [this];rfl
 refine (o8 f0 ?_ _ (fun y hy=>?_)).2 ?_
 ·unfold fq;rw [if_neg h1,hx];rfl
 ·by_cases e:y=x
  ·left;rw [e];exact f0
  ·right
   unfold fq
   have e1:(aM S x ox c).O y=S.O y:=by show iL S.O x y=_;unfold iL;rw [if_neg e]
   rw [e1]
   by_cases hy1:y=1
   ·rw [if_pos hy1,if_pos hy1]
   ·rw [if_neg hy1,if_neg hy1]
    cases hO:S.O y with
    |none=>rw [Option.map_none,Option.map_none]
    |some o'=>
     have hne:o'.j≠ox.j:=fun z=>e (h.1.inj hO hx z)
     have e2:aK (aM S x ox c) o'.j=aK S o'.j:=by
      have:aK (aM S x ox c) o'.j=if o'.j=ox.j then jW else aK S o'.j:=dS (S:=S.procs (bX S.P x c)) sN jW S.W o'.j
      rw [this,if_neg hne]
     rw [Option.map_some,Option.map_some,e2]
 ·have hr:az S.P x=true:=by rw [←h.2.run x,hx];rfl
  obtain ⟨z,hz,_⟩:=bq.1 hr
  exact h.1.Mj.jr.2 (by rw [hz];rfl)
theorem KX.wZ (h:KX w m H S U q A) {r:Option Nat}(g:w.grownBy w' r) (hr:∀x,r=some x→¬A x∧x≠4∧x≠0∧x≠2):KX w' m H S U q A:=by
 obtain ⟨G,k,e⟩:=h
 have hk:∀i,i<w.heap.size→r≠some i→w'.heap[i]? = w.heap[i]? := fun i hi hn=>g.block i hi (fun z=>hn z.symm)
 exact ⟨G,k.same g.size (fun i hi=>hk i (k.yU i hi) (fun z=>(hr i z).1 ((e i).2 hi))) (hk _ k.qd (fun z=>(hr _ z).2.1 rfl)) (hk _ k.qh (fun z=>(hr _ z).2.2.1 rfl)) (hk _ k.jS (fun z=>(hr _ z).2.2.2 rfl)),e⟩
theorem Stp.wZ (st:Stp w V A A') {r:Option Nat}(g:V.grownBy w' r) (hr:∀x,r=some x→w.heap.size≤x):Stp w w' A A':=
 ⟨⟨g.os.trans st.wt.os,g.tape.trans st.wt.tape,g.output.trans st.wt.output,Nat.le_trans st.wt.size g.size,fun i hi hn=>by
  rw [g.block i (Nat.lt_of_lt_of_le hi st.wt.size) (fun z=>by have:=hr i z.symm;omega)]
  exact st.wt.block i hi hn⟩,st.own⟩
structure Wn (w0 w:World) (A:Nat→Prop) (v:Value) (l:List Int):Prop where
 row:w.ownsRow w0.heap.size 3 1 v l.length (l.map fun x=>.int .i64 x)
 off:∀g,v.ownBlock=some g→¬A g
theorem Wn.nil (w:World) (A:Nat→Prop):Wn w w A (.slice none 0 0) []:=⟨⟨rfl,.inl ⟨rfl,rfl⟩⟩,fun g e=>by cases e⟩
theorem Wn.oo {w0:World}{v:Value}{l:List Int}(h:Wn w0 w A v l) (st:Stp w w' A A'):Wn w0 w' A' v l:=by
 refine ⟨⟨h.row.1,?_⟩,fun g e=>?_⟩
 ·rcases h.row.2 with z|⟨g,cap,cur,e,a1,a2,rest⟩
  ·exact .inl z
  ·refine .inr ⟨g,cap,cur,e,a1,?_,rest⟩
   rw [st.wt.block g (h.row.lt g (by rw [e];rfl)).2 (h.off g (by rw [e];rfl))]
   exact a2
 ·intro z
  rcases st.own g z with y|y
  ·exact h.off g e y
  ·have:=(h.row.lt g e).2;omega
theorem OX:∃i,Tryz.prog.info? 3=some i∧i.zero=some (.int .i64 0)∧i.size=1∧i.bytes=8:=info_parts (P:=Tryz.prog) (e:=3) (z:=.int .i64 0) (size:=1) (bytes:=8) (by kernel_rfl)
theorem Wn.more {w0:World}{v:Value}{l:List Int}(h:Wn w0 w A v l) (hl:l.length≤100) (h0:w0.heap.size≤w.heap.size) (hA:∀i,A i→i<w.heap.size) (x:Int):∃v' w',(∀ty,ty=23→(Builtin.append_ #[23,23] ty #[v,.slice (some ⟨w.heap.size,0,none⟩) 1 1]).run Tryz.prog (w.alloc (.cells #[.int .i64 x] 3))=.ok v' w')∧Wn w0 w' A v' (l ++ [x])∧w.grownBy w' v.ownBlock:=by
 obtain ⟨i0,hi0,hz0,hz1,hz2⟩:=OX
 obtain ⟨b1,s1,c1,_⟩:=ik w (.int .i64 x) 3
 have Uz:=h.row.alloc (.cells #[.int .i64 x] 3)
 obtain ⟨v',w',hr,ho,hg,_,hv⟩:=run_append_own_at (P:=Tryz.prog) (w.alloc (.cells #[.int .i64 x] 3)) w0.heap.size 23 23 3 i0 (.int .i64 0) 1 8 Tryz.underlying23 hi0 hz0 hz1 hz2 rfl (by decide) v l.length _ Uz ⟨w.heap.size,0,none⟩ 1 1 [.int .i64 x] rfl (fun j u hu=>by
  match j with
  |0=>
   simp only [List.getElem?_cons_zero,Option.some.injEq] at hu
   rw [←hu];exact c1
  |j+1=>simp at hu) (fun u hu=>by simp at hu;rw [hu];rfl) (by unfold maxLen;omega) (by omega) (by omega)
 refine ⟨v',w',fun ty e=>by rw [e];exact hr,⟨?_,fun g e=>?_⟩,?_⟩
 ·rw [List.length_append,List.map_append];exact ho
 ·rcases hv with z|z
  ·exact h.off g (by rw [←z];exact e)
  ·rw [z,s1] at e
   cases e
   intro y
   have:=hA _ y;omega
 ·exact ⟨hg.os,hg.tape,hg.output,by have:=hg.size;omega,fun i hi hn=>(hg.block i (by omega) hn).trans (b1.block i hi)⟩
end
section
variable {w w' V:World}{m:Int}{H:KH}{S:KS}{U:Nat→Nat→Int}{q:Nat}{A A':Nat→Prop}{p:Int}{o:Ow}
theorem yF.len {n:Nat}{P P':PM}{f:Int→Nat}{D D':Nat→Nat→Int}{a k v er:Int}(h:yF n P f D a k v er P' D'):bN P'=bN P:=by
 rcases h with ⟨_,_,rfl,_⟩|⟨_,_,_,_,rfl,_⟩|⟨_,_,_,_,rfl,_⟩|⟨hu,_,x,_,_,_,rfl,_⟩
 ·rfl
 ·rfl
 ·rfl
 ·refine nV ?_
  cases hP:P a with
  |none=>unfold eP at hu;rw [hP] at hu;simp at hu
  |some y=>rfl
theorem o6 {P:Program}{ops:Array Oper}{rest:List Oper}{o:Oper}{a:Act}{w:World}{Q:Exit→Act→World→Prop}(hgd:o.guard=none) (s x:Operand) (t:TypeId)
 (ho:o.op=.call { callee:=.builtin .append,args:=#[s,x],argTypes:=#[t,t] }) (v y v':Value) (w':World) (hs:a.eval s=v) (hx:a.eval x=y)
 (hr:(Builtin.append_ #[t,t] o.type #[v,y]).run P w=.ok v' w') (h:wpList P ops Q rest (a.put o.dst v') w'):wpList P ops Q (o :: rest) a w:=by
 refine wpList_plain hgd fun K hK=>?_
 unfold Oper.wp execOp
 simp only [ho,resolve,invoke,builtin,Sem.run_bind,Sem.run_pure,Result.andThen_ok,List.map_toArray,List.map_cons,List.map_nil,hs,hx,hr]
 exact hK _ _ h
def Bi (w:World) (m:Int) (H:KH) (S:KS) (q:Nat) (A:Nat→Prop) (p a k v:Int) (vw:Value) (er:Int) (w':World):Prop:=∃went S' A',fM p a k v S went er S'∧Wn w w' A' vw went∧KN w' m H S' q A'∧Stp w w' A A'
def tT (w:World) (m:Int) (H:KH) (S:KS) (q:Nat) (A:Nat→Prop) (p a k v:Int) (o:Ow) (mm:Nat) (vw:Value) (wr:World):Prop:=∃l Sk Ak,(dO Sk).length≤mm∧l.length+(dO Sk).length≤24∧Sk.O p=some o∧(∀rest er S',fM p a k v Sk rest er S'→fM p a k v S (l ++ rest) er S')∧Wn w wr Ak vw l∧KN wr m H Sk q Ak∧Stp w wr A Ak
theorem Wn.lt {w0:World}{v:Value}{l:List Int}(h:Wn w0 w A v l):∀g,v.ownBlock=some g→w0.heap.size≤g∧g<w.heap.size:=h.row.lt
theorem tT.step (hg:4<w.heap.size∧0<w.heap.size∧2<w.heap.size) {a k v:Int}{mm:Nat}{vw:Value}{wr:World}(h:tT w m H S q A p a k v o mm vw wr) (hq:q≤200) (ha:(Lit.int .i64 a).wf=true) :
 wr.cell? ⟨H.hs o.j,0,none⟩=some (wp (H.sp o.j))∧Calls Tryz.prog 121 #[wp (H.sp o.j),.int .i64 a,.int .i64 k,.int .i64 v] wr fun y w1=>∃er,y=.returned (aJ er)∧Calls Tryz.prog 17 #[aJ er] w1 fun y w2=>y=.returned (.int .i64 er)∧(er≠12→Bi w m H S q A p a k v vw er w2)∧
  (er=12→Calls Tryz.prog 123 #[wp H.kb] w2 fun y w3=>∃z,y=.returned z∧Calls Tryz.prog 122 #[z] w3 fun y w4=>∃X ok,y=.returned (.tuple #[.int .i64 X,.bool ok])∧(ok=false→Bi w m H S q A p a k v vw 12 w4)∧
    (ok=true→Calls Tryz.prog 64 #[wp H.kb,.int .i64 X,.int .i64 108] w4 fun y w5=>y=.returned .nilIface∧∃v9 w9,(Builtin.append_ #[23,23] 23 #[vw,.slice (some ⟨w5.heap.size,0,none⟩) 1 1]).run Tryz.prog (w5.alloc (.cells #[.int .i64 X] 3))=.ok v9 w9∧(X=p→Bi w m H S q A p a k v v9 10 w9)∧(X≠p→tT w m H S q A p a k v o (mm-1) v9 w9∧1≤mm))):=by
 obtain ⟨l,Sk,Ak,h1,h2,ho,hacc,hw,hk,st⟩:=h
 refine ⟨(hk.1.hd ho).at 0,(hk.1.UY (hk.1.qx ho) a k v ha).mono ?_⟩
 rintro y w1 ⟨P',D',er,hS,rfl,A1,k1,st1⟩
 have YY:KN w1 m H (Sk.space o.j P' D') q A1:=k1.Nj hk.2 ho hk.1.len (hk.1.qx ho) hS.len
 refine ⟨er,rfl,(mD er w1 k1.er).mono ?_⟩
 rintro y w2 ⟨rfl,b2⟩
 have hw1:=hw.oo st1
 have st2:Stp w w2 A A1:=(st.trans st1).trans (.below b2)
 have hw2:=hw1.oo (.below b2)
 have Qa:=YY.below b2
 refine ⟨rfl,fun hne=>⟨l,_,A1,by have:=hacc _ _ _ (.done ho hS hne);rwa [List.append_nil] at this,hw2,Qa,st2⟩,fun h12=>?_⟩
 subst h12
 obtain ⟨rfl,rfl⟩:=hS.refused (by omega)
 rw [nM (hk.1.mlt ho)] at Qa
 refine Qa.1.candidates.mono ?_
 rintro y w3 ⟨ad,cap,rfl,hcd,b3⟩
 refine ⟨_,rfl,(QR w3 ad (dO Sk) cap (by have:=Ap Sk;omega) hcd).mono ?_⟩
 rintro y w4 ⟨rfl,b4⟩
 have Zw:Below w2.heap.size w2 w4:=b3.trans (b4.mono b3.size)
 have kn4:=Qa.below Zw
 have Wi:Stp w w4 A A1:=st2.trans (.below Zw)
 have hw4:=hw2.oo (.below Zw)
 refine ⟨_,_,rfl,fun hok=>?_,fun hok=>?_⟩
 ·have hv:¬0<(sJ (dO Sk)).1:=by simpa using hok
  exact ⟨l,Sk,A1,by have:=hacc _ _ _ (.nobody ho hS hv);rwa [List.append_nil] at this,hw4,kn4,Wi⟩
 ·have hv:0<(sJ (dO Sk)).1:=by simpa using hok
  obtain ⟨hx1,ox,hxo,hxr⟩:=NI hv
  refine (kn4.BQ hxo hq hx1 108).mono ?_
  rintro y w5 ⟨rfl,A5,k5,st5⟩
  have Yj:=hw4.oo st5
  have Xd:=Wi.trans st5
  obtain ⟨v9,w9,hr,Qc,Tx⟩:=Yj.more (by omega) Xd.wt.size k5.1.lt (sJ (dO Sk)).2
  have hout:∀x,vw.ownBlock=some x→¬A5 x∧x≠4∧x≠0∧x≠2:=fun x e=>by
   have:=(Yj.lt x e).1
   exact ⟨Yj.off x e,by omega,by omega,by omega⟩
  have k9:KN w9 m H (aM Sk (sJ (dO Sk)).2 ox 108) q A5:=⟨k5.1.wZ Tx hout,k5.2⟩
  have WG:Stp w w9 A A5:=Xd.wZ Tx (fun x e=>(Yj.lt x e).1)
  refine ⟨rfl,v9,w9,hr _ rfl,fun he=>?_,fun hne=>?_⟩
  ·subst he
   have:ox=o:=by rw [ho] at hxo;exact (Option.some.inj hxo).symm
   subst this
   exact ⟨_,_,A5,hacc _ _ _ (.self ho hS hv rfl),Qc,k9,WG⟩
  ·have hlt:=LU hk hxo hx1 108
   refine ⟨⟨_,_,A5,by omega,?_,?_,fun rest er S' r=>?_,Qc,k9,WG⟩,by omega⟩
   ·rw [List.length_append];simp only [List.length_cons,List.length_nil];omega
   ·show iL Sk.O (sJ (dO Sk)).2 p=some o
    unfold iL
    rw [if_neg (Ne.symm hne)];exact ho
   ·rw [List.append_assoc]
    exact hacc _ _ _ (.goes ho hS hv rfl hxo hx1 hne r)
theorem KN.zy (h:KN w m H S q A) (ho:S.O p=some o) (hq:q≤200) (a k v:Int) (ha:(Lit.int .i64 a).wf=true) :
 Calls Tryz.prog 42 #[wp H.kb,.int .i64 p,.int .i64 a,.int .i64 k,.int .i64 v] w fun y w'=>∃vw er,y=.returned (.tuple #[vw,aJ er])∧Bi w m H S q A p a k v vw er w':=by
 have hF:=h.1.aC ho
 have hg:4<w.heap.size∧0<w.heap.size∧2<w.heap.size:=by
  obtain ⟨G,k,e⟩:=h.1
  exact ⟨k.qd,k.qh,k.jS⟩
 have h0:tT w m H S q A p a k v o (dO S).length (.slice none 0 0) w:=⟨[],S,A,Nat.le_refl _,by have:=Ap S;simpa using this,ho,fun _ _ _ r=>r,Wn.nil w A,h,Stp.refl _ _⟩
 have hstep:=fun mm vw wr (hh:tT w m H S q A p a k v o mm vw wr)=>hh.step hg hq ha
 have HS:Aside _:=hstep
 have H0:Aside _:=h0
 generalize (dO S).length=N at *
 clear h ho hg h0 hstep
 go_enter Tryz.func42,Tryz.ntmps42
 go_wp2_with (go_at_call 51;refine hF.mono ?_;rintro e w1 ⟨rfl,hw⟩;subst w1)
 clear hF
 go_loopg [14] N (fun mm s14 wr=>tT w m H S q A p a k v o mm s14 wr)
 case atStart=>exact H0.out
 case round=>
  clear H0
  obtain ⟨d0,hSt⟩:=HS.out gk u14 wr hrel
  clear hrel HS
  go_upto_region 6 with (go_at_call 121;refine hSt.mono ?_;rintro e w1 ⟨er,rfl,hT⟩)
  clear hSt d0
  by_cases h12:er=12
  ·subst h12
   go_upto_region 9 with (first
    |(go_at_call 17;refine hT.mono ?_;rintro e w2 ⟨rfl,hx,hc⟩;have PS:=hc rfl;clear hx hc)
    |(go_at_call 123;refine PS.mono ?_;rintro e w3 ⟨z,rfl,hV⟩)
    |(go_at_call 122;refine hV.mono ?_;rintro e w4 ⟨X,ok,rfl,hf,ht⟩))
   have HF:Aside _:=hf
   have HT:Aside _:=ht
   clear hf ht hT PS hV
   cases ok with
   |false=>
    have hR:=HF.out rfl
    have HR:Aside _:=hR
    clear HF HT hR
    go_wp2_with fail
    go_ret2
    exact ⟨_,12,rfl,HR.out⟩
   |true=>
    have hE:=HT.out rfl
    clear HF HT
    go_upto_region 14 with (go_at_call 64;refine hE.mono ?_;rintro e w5 ⟨rfl,v9,w9,hrun,hp,hn⟩)
    have HP:Aside _:=hp
    have HN:Aside _:=hn
    clear hp hn hE
    by_cases hX:X=p
    ·have hR:=HP.out hX
     have HR:Aside _:=hR
     clear HP HN hR
     subst hX
     go_wp2_with (at_builtin;refine o6 rfl _ _ 23 rfl _ _ v9 w9 rfl rfl hrun ?_)
     go_ret2
     exact ⟨_,10,rfl,HR.out⟩
    ·have hR:=HN.out hX
     have HR:Aside _:=hR
     have Yo:(X == p)=false:=by simpa using hX
     clear HP HN hR
     go_wp2_with (at_builtin;refine o6 rfl _ _ 23 rfl _ _ v9 w9 rfl rfl hrun ?_)
     go_roundg (gk-1)
     case measure=>have:=HR.out.2;omega
     case rel=>exact HR.out.1
  ·have aer:(er != 12)=true:=by simpa using h12
   have HN:Aside (er≠12):=h12
   clear h12
   go_wp2_with (go_at_call 17;refine hT.mono ?_;rintro e w2 ⟨rfl,hx,hc⟩;have HX:Aside _:=hx;clear hx hc)
   go_ret2
   exact ⟨_,er,rfl,HX.out HN.out⟩
end
section
variable {w w' V:World}{m:Int}{H:KH}{S:KS}{U:Nat→Nat→Int}{q:Nat}{A A':Nat→Prop}{p:Int}{o:Ow}
noncomputable def CB (S:KS) (o:Ow) (x:Int) (s:List UInt8):Int×Int×DS:=cO S.D (ax S o.j) x s (o.m 2)
noncomputable def jh (S:KS) (p:Int) (o:Ow) (x:Int) (s:List UInt8):KS:=
 if (CB S o x s).2.1=14 then (S.files (CB S o x s).2.2 o.j (ax S o.j)).procs (if fP S.P p 5=0 then ku S.P p 5 else S.P) else S.files (CB S o x s).2.2 o.j (ax S o.j)
theorem KN.JA (h:KN w m H S q A) (ho:S.O p=some o) (x:Int) (s:List UInt8) (hs:s.length<100000) :
 Calls Tryz.prog 16 #[wp H.kb,.int .i64 p,.int .i64 x,tx s] w fun y w'=>y=.returned (.tuple #[.int .i64 (CB S o x s).1,aJ (CB S o x s).2.1])∧∃A',KN w' m H (jh S p o x s) (q+1) A'∧Stp w w' A A':=by
 have hF:=h.1.aC ho
 have hj:=h.1.qx ho
 have c0:=h.1.lU ho
 have hm:Calls Tryz.prog 60 #[lq (H.hs o.j),.int .i64 2] w.drew fun e w'=>e=.returned (.int .i64 (o.m 2))∧w'=w.drew:=((h.1.below (bJ w)).hd ho).most 2 (by omega) (by omega)
 have hU:Calls Tryz.prog 59 #[wp H.f,wp (H.tb o.j),.int .i64 x,tx s,.int .i64 (o.m 2)] w.drew fun y w'=>y=.returned (.tuple #[.int .i64 (CB S o x s).1,aJ (CB S o x s).2.1])∧(w'.cell? ⟨H.kb,2,none⟩=some (wp H.f)∧w'.cell? ⟨H.hs o.j,1,none⟩=some (wp (H.tb o.j)))∧Calls Tryz.prog 17 #[aJ (CB S o x s).2.1] w' fun y w2=>y=.returned (.int .i64 (CB S o x s).2.1)∧w2.cell? ⟨H.kb,3,none⟩=some (wp H.t)∧((CB S o x s).2.1≠14→∃A',KN w2 m H (jh S p o x s) (q+1) A'∧Stp w w2 A A')∧((CB S o x s).2.1=14→Calls Tryz.prog 61 #[wp H.t,.int .i64 p,.int .i64 5] w2 fun y w3=>∃z,y=.returned z∧∃A',KN w3 m H (jh S p o x s) (q+1) A'∧Stp w w3 A A'):=by
  refine ((h.1.below (bJ w)).UQ hj x s hs (o.m 2)).mono ?_
  rintro y w1 ⟨rfl,A1,h1,st1⟩
  have st1':Stp w w1 A A1:=Stp.base (V:=w.drew) rfl rfl rfl rfl st1
  refine ⟨rfl,h1.lU (p:=p) (o:=o) ho,(mD _ w1 h1.er).mono ?_⟩
  rintro y w2 ⟨rfl,b2⟩
  have YY:KN w1 m H (S.files (CB S o x s).2.2 o.j (ax S o.j)) (q+1) A1:=h1.Bd h.2 ho hj rfl
  have Qa:=YY.below b2
  have st2:Stp w w2 A A1:=st1'.trans (.below b2)
  refine ⟨rfl,Qa.1.c3,fun hne=>⟨A1,?_,st2⟩,fun he=>?_⟩
  ·unfold jh;rw [if_neg hne];exact Qa
  ·refine (Qa.1.TN p 5 (h.1.Tt ho)).mono ?_
   rintro y w3 ⟨rfl,A3,k3,vT⟩
   refine ⟨_,rfl,A3,?_,st2.trans vT⟩
   unfold jh
   rw [if_pos he]
   exact k3.A8 Qa.2 (fun x=>zB _ _ _ _)
 generalize jh S p o x s=S2 at *
 generalize (CB S o x s).1=K at *
 generalize (CB S o x s).2.1=E at *
 generalize o.m 2=M2 at *
 clear h ho hj hs
 go_enter Tryz.func16,Tryz.ntmps16
 go_upto_region 4 with (go_at_call 51;refine hF.mono ?_;rintro e w1 ⟨rfl,hw⟩;subst w1)
 go_region_held3 (fun w'=>w'.cell? ⟨H.kb,2,none⟩=some (wp H.f)∧w'.cell? ⟨H.hs o.j,1,none⟩=some (wp (H.tb o.j))) (first|exact c0|exact c1) (first
  |(go_at_call 60;refine hm.mono ?_;rintro e w9 ⟨rfl,Qc⟩;subst w9)
  |(go_at_call 59;refine hU.mono ?_;rintro e w1 ⟨rfl,c1,hT⟩))
 all_goals
  clear hU hF c0 c1 hm
  by_cases hE:E=14
  ·subst hE
   go_upto_region 6 with (go_at_call 17;refine hT.mono ?_;rintro e w2 ⟨rfl,c3,hn,hy⟩)
   have hy9:=hy trivial
   clear hn hy hT
   go_wp2_with (go_at_call 61;refine hy9.mono ?_;rintro e w3 ⟨z,rfl,hR⟩)
   go_ret2
   exact ⟨rfl,hR⟩
  ·have hE':(E == 14)=false:=by simpa using hE
   have HE:Aside (E≠14):=hE
   clear hE
   go_wp2_with (go_at_call 17;refine hT.mono ?_;rintro e w2 ⟨rfl,c3,hn,hy⟩;have HN:Aside _:=hn;clear hn hy)
   go_ret2
   exact ⟨rfl,HN.out HE.out⟩
end
end Go.Proofs.YtcfhanoekniaaaaGreatDoor

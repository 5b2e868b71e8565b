/- Package oom's Victim, by its Go text: who goes. -/
import Derived.Test.YtippochapiolpaaGreatDoorOVic
import Derived.Shelf.Abstract
set_option maxHeartbeats 4000000
set_option maxRecDepth 100000
namespace Go.Proofs.YtippochapiolpaaGreatDoor
open Go.RowKit Go.Shelf
theorem drawn {B:Nat}{a w:World}(h:Below B a w) (n:Nat):Below B a (w.drewN n):=⟨h.os,h.tape,h.output,h.size,h.block⟩
theorem o8 (w:World) (o:Obj):(w.alloc o).heap[w.heap.size]? = some o:=by show (w.heap.push _)[w.heap.size]? = _;rw [Array.getElem?_push,if_pos rfl]
theorem acw (w:World) (a b:Value) (t:TypeId):(w.alloc (.cells #[a,b] t)).cell? ⟨w.heap.size,0,none⟩=some a∧(w.alloc (.cells #[a,b] t)).cell? ⟨w.heap.size,1,none⟩=some b:=
 ⟨by rw [cell_of_row _ _ _ _ _ _ (o8 w _)];rfl,by rw [cell_of_row _ _ _ _ _ _ (o8 w _)];rfl⟩
def yH (a b:Cd):Int:=orr (Qx (kY a) (kY b)) (Qx a.pid b.pid)
theorem Ha {a b:Cd}:0<yH a b↔kY b<kY a∨(kY a=kY b∧b.pid<a.pid):=by
 unfold yH orr Qx
 generalize kY a=x
 generalize kY b=y
 (repeat' split)<;>omega
theorem Yo (w:World) (X R D X2 R2 D2:Int):Calls Tryz.prog 264 #[.agg #[.int .i64 X,.int .i64 R,.int .i64 D],.agg #[.int .i64 X2,.int .i64 R2,.int .i64 D2]] w fun e w'=>e=.returned (.int .i64 (yH ⟨X,R,D⟩ ⟨X2,R2,D2⟩))∧Below w.heap.size w w':=by
 obtain ⟨w1,hw1⟩:∃w1,(w.alloc (.cells #[.int .i64 X,.int .i64 R,.int .i64 D] 307)).alloc (.cells #[.int .i64 X2,.int .i64 R2,.int .i64 D2] 307)=w1:=⟨_,rfl⟩
 have hA:Below w.heap.size w w1:=by
  rw [←hw1];exact ((Below.refl _ w).alloc (Nat.le_refl _) _).alloc (by simp) _
 have hsz:w1.heap.size=w.heap.size+2:=by rw [←hw1];simp
 have b0:w1.heap[w.heap.size]? = some (.cells #[.int .i64 X,.int .i64 R,.int .i64 D] 307):=by
  rw [←hw1,Below.heap_alloc _ _ _ (by simp)];exact o8 _ _
 have b1:w1.heap[w.heap.size+1]? = some (.cells #[.int .i64 X2,.int .i64 R2,.int .i64 D2] 307):=by
  have:=o8 (w.alloc (.cells #[.int .i64 X,.int .i64 R,.int .i64 D] 307)) (.cells #[.int .i64 X2,.int .i64 R2,.int .i64 D2] 307)
  rw [hw1] at this;simpa using this
 have hcs:∀V,Below w1.heap.size w1 V→V.cell? ⟨w.heap.size,0,none⟩=some (.int .i64 X)∧V.cell? ⟨w.heap.size,1,none⟩=some (.int .i64 R)∧V.cell? ⟨w.heap.size,2,none⟩=some (.int .i64 D)∧V.cell? ⟨w.heap.size+1,0,none⟩=some (.int .i64 X2)∧V.cell? ⟨w.heap.size+1,1,none⟩=some (.int .i64 R2)∧V.cell? ⟨w.heap.size+1,2,none⟩=some (.int .i64 D2):=fun V hV=>by
  have q0:=(hV.block w.heap.size (by omega)).trans b0
  have q1:=(hV.block (w.heap.size+1) (by omega)).trans b1
  refine ⟨?_,?_,?_,?_,?_,?_⟩<;>first|(rw [cell_of_row _ _ _ _ _ _ q0];rfl) | (rw [cell_of_row _ _ _ _ _ _ q1];rfl)
 have hb:Below w1.heap.size w1 w1:=Below.refl _ _
 have hW:∀V A B C,Below w1.heap.size w1 V→Calls Tryz.prog 267 #[.agg #[.int .i64 A,.int .i64 B,.int .i64 C]] V fun e w'=>e=.returned (.int .i64 (kY ⟨A,B,C⟩))∧Below w1.heap.size w1 w':=fun V A B C hV=>(BS V A B C).mono (by
  rintro e w' ⟨rfl,h⟩
  exact ⟨rfl,hV.trans (h.mono hV.size)⟩)
 have HF:Aside (∀V,Below w1.heap.size w1 V→Below w.heap.size w V):=fun V hV=>hA.trans (hV.mono hA.size)
 have HD:Aside (yH ⟨X,R,D⟩ ⟨X2,R2,D2⟩=orr (Qx (kY ⟨X,R,D⟩) (kY ⟨X2,R2,D2⟩)) (Qx X X2)):=rfl
 generalize yH ⟨X,R,D⟩ ⟨X2,R2,D2⟩=Z at *
 obtain ⟨y0,y1,y2,y3,y4,y5⟩:=hcs _ hb
 go_enter Tryz.func264,Tryz.ntmps264
 go_upto_region 1 with fail
 go_region_held3 (fun w'=>w'.cell? ⟨w.heap.size,0,none⟩=some (.int .i64 X)∧w'.cell? ⟨w.heap.size,1,none⟩=some (.int .i64 R)∧w'.cell? ⟨w.heap.size,2,none⟩=some (.int .i64 D)∧w'.cell? ⟨w.heap.size+1,0,none⟩=some (.int .i64 X2)∧w'.cell? ⟨w.heap.size+1,1,none⟩=some (.int .i64 R2)∧w'.cell? ⟨w.heap.size+1,2,none⟩=some (.int .i64 D2)) (first|exact hcs _ hb|exact hcs _ (drawn hb _) | exact hcs _ (hb.alloc hb.size _)) (first
  |(go_at_call 267;refine (hW _ _ _ _ (by first|exact hb|exact drawn hb _)).mono ?_;rintro e w2 ⟨rfl,hb⟩)
  |(go_at_call 266;refine (Yn _ _ _).mono ?_;rintro e w2 ⟨rfl,YK⟩;subst w2)
  |(go_at_call 265;refine (aar _ _ _ _ (by exact (acw _ _ _ _).1) (by exact (acw _ _ _ _).2)).mono ?_;rintro e w2 ⟨rfl,YK⟩;subst w2))
 all_goals
  go_wp2_with fail
  go_ret
  refine ⟨by rw [HD.out];rfl,?_⟩
  refine HF.out _ ?_
  have:=hb.alloc hb.size (.cells #[.int .i64 (Qx (kY ⟨X,R,D⟩) (kY ⟨X2,R2,D2⟩)),.int .i64 (Qx X X2)] 3)
  exact ⟨this.os,this.tape,this.output,this.size,this.block⟩
def IZ (L:List Cd) (m:Cd):Prop:=m∈L∧∀c∈L,kY c<kY m∨(kY c=kY m∧c.pid≤m.pid)
theorem IZ.more {L:List Cd}{m:Cd}{i:Nat}(h:IZ (L.take i) m) (hi:i<L.length) (hc:0<yH L[i] m):IZ (L.take (i+1)) L[i]:=by
 rw [takeC hi]
 have hc:=Ha.1 hc
 refine ⟨List.mem_append_right _ (List.mem_singleton.2 rfl),fun c hm=>?_⟩
 rcases List.mem_append.1 hm with z|z
 ·have:=h.2 c z
  omega
 ·rw [List.mem_singleton.1 z];exact .inr ⟨rfl,Int.le_refl _⟩
theorem IZ.less {L:List Cd}{m:Cd}{i:Nat}(h:IZ (L.take i) m) (hi:i<L.length) (hc:¬0<yH L[i] m):IZ (L.take (i+1)) m:=by
 rw [takeC hi]
 have hc:¬(kY m<kY L[i]∨(kY L[i]=kY m∧m.pid<L[i].pid)):=fun z=>hc (Ha.2 z)
 refine ⟨List.mem_append_left _ h.1,fun c hm=>?_⟩
 rcases List.mem_append.1 hm with z|z
 ·exact h.2 c z
 ·rw [List.mem_singleton.1 z];omega
theorem IZ.vJ {L:List Cd}{m:Cd}(h:IZ L m):(vJ L).1=kY m∧(vJ L).2=if kY m=0 then 0 else m.pid:=by
 have n:=(DF m).1
 have hv:Fq L (kY m) (if kY m=0 then 0 else m.pid):=by
  refine ⟨fun c hc=>?_,?_,fun h0 c hc e=>?_⟩
  ·have:=h.2 c hc;omega
  ·by_cases e:kY m=0
   ·exact .inl ⟨e,by rw [if_pos e]⟩
   ·exact .inr ⟨by omega,m,h.1,rfl,by rw [if_neg e]⟩
  ·rw [if_neg (by omega)]
   have:=h.2 c hc;omega
 exact (Rz L).one hv
theorem bU (w:World) (s o:Nat) (v:Value) (c:Array Value) (t:TypeId) (fr:Nat×Nat) (h:w.heap[s]? = some (.cells c t fr)):(w.setCell ⟨s,o,none⟩ v).heap[s]? = some (.cells (c.setIfInBounds o v) t fr):=by
 rw [setCell_eq_setRow w s o c t fr v h];exact setRow_heap w s c _ t fr h
theorem Ce {W:World}{i:Nat}{x y z:Value}{t:TypeId}(h:W.heap[i]? = some (.cells #[x,y,z] t)) (a b c:Value):(((W.setCell ⟨i,0,none⟩ a).setCell ⟨i,1,none⟩ b).setCell ⟨i,2,none⟩ c).heap[i]? = some (.cells #[a,b,c] t):=
 bU _ i 2 c _ _ _ (bU _ i 1 b _ _ _ (bU W i 0 a _ _ _ h))
abbrev bx (c:Cd):Obj:=.cells #[.int .i64 c.pid,.int .i64 c.res,.int .i64 c.fo] 307
abbrev av (c:Cd):Value:=.agg #[.int .i64 c.pid,.int .i64 c.res,.int .i64 c.fo]
theorem oJ {V:World}{z:Nat}{c:Cd}(h:V.heap[z]? = some (bx c)):V.cell? ⟨z,0,none⟩=some (.int .i64 c.pid)∧V.cell? ⟨z,1,none⟩=some (.int .i64 c.res)∧V.cell? ⟨z,2,none⟩=some (.int .i64 c.fo):=by
 refine ⟨?_,?_,?_⟩<;>(rw [cell_of_row _ _ _ _ _ _ h];rfl)
theorem M6 {V:World}{z:Nat}{c:Cd}(h:V.heap[z]? = some (bx c)) (o:Nat):V.frozen? ⟨z,o,none⟩=false:=by simp [World.frozen?,h]
theorem Xq (w:World) (blk off:Nat) (L:List Cd) (cap:Nat) (hl:L.length≤100) (h0:0<L.length) (hbl:blk<w.heap.size) (hq:Cells w blk off L) :
 Calls Tryz.prog 263 #[.slice (some ⟨blk,off,none⟩) L.length cap,.func (.func 264) #[] #[]] w fun e w'=>∃m,e=.returned (av m)∧IZ L m∧Below w.heap.size w w':=by
 have ef:∀args w,(callFunc 264 args).run Tryz.prog w=.ok (.enter 264 args) w:=enters_of Tryz.func264 (by kernel_rfl) rfl
 have HQ:Aside (Cells w blk off L):=hq
 have hn1:¬(L.length:Int)<1:=by omega
 have hp:(0:Int)<(L.length:Int):=by omega
 obtain ⟨d0,d1,d2⟩:=hq 0 h0
 rw [show off+0*3=off by omega] at d0 d1 d2
 obtain ⟨w1,hw1⟩:∃w1,w.alloc (.cells #[.int .i64 0,.int .i64 0,.int .i64 0] 307)=w1:=⟨_,rfl⟩
 have hA:Below w.heap.size w w1:=by rw [←hw1];exact (Below.refl _ w).alloc (Nat.le_refl _) _
 have hsz:w1.heap.size=w.heap.size+1:=by rw [←hw1];simp
 have b4:w1.heap[w.heap.size]? = some (bx ⟨0,0,0⟩):=by rw [←hw1];exact o8 _ _
 rw [←hA.cell (p:=⟨blk,off,none⟩) hbl] at d0
 rw [←hA.cell (p:=⟨blk,off+1,none⟩) hbl] at d1
 rw [←hA.cell (p:=⟨blk,off+2,none⟩) hbl] at d2
 have HT:Aside (IZ (L.take 1) L[0]):=by
  rw [show L.take 1=[L[0]] by rw [takeC h0];rfl]
  exact ⟨by simp,fun c hc=>by rw [List.mem_singleton.1 hc];exact .inr ⟨rfl,Int.le_refl _⟩⟩
 have HB4:Aside (w1.heap[w.heap.size]? = some (bx ⟨0,0,0⟩)):=b4
 clear hq b4
 generalize L[0]=c0 at *
 obtain ⟨X,R,D⟩:=c0
 simp only at d0 d1 d2
 go_enter Tryz.func263,Tryz.ntmps263
 go_wp2_with fail
 go_loopg [6] L.length (fun mm s6 wr=>∃(i:Nat) (m:Cd),1≤i∧(i≤L.length∧L.length<i+mm+1)∧s6=.int .i64 (i:Int)∧Aside (Below w.heap.size w wr)∧Aside (wr.heap[w.heap.size]? = some (bx ⟨0,0,0⟩))∧Aside (wr.heap[w.heap.size+1]? = some (bx m))∧Aside (IZ (L.take i) m))
 case atStart=>
  refine ⟨1,⟨X,R,D⟩,by omega,?_,rfl,?_,?_,?_,HT⟩
  ·omega
  ·exact hA.alloc hA.size _
  ·exact (Below.heap_alloc _ _ _ (by omega)).trans HB4.out
  ·show _=_
   rw [←hsz];exact o8 _ _
 case round=>
  clear HT HB4 d0 d1 d2 hA hsz hw1
  obtain ⟨i,m,hi1,hi,rfl,B0,B4,B5,T⟩:=hrel
  by_cases hlt:(i:Int)<(L.length:Int)
  ·have aG:i<L.length:=by omega
   have hsz:w.heap.size+1<wr.heap.size:=by
    have:=B5.out
    rcases Nat.lt_or_ge (w.heap.size+1) wr.heap.size with q|q
    ·exact q
    ·rw [Array.getElem?_eq_none (by omega)] at this;cases this
   have hat:∀V,Below wr.heap.size wr V→(V.cell? ⟨blk,off+i*3,none⟩=some (.int .i64 L[i].pid)∧V.cell? ⟨blk,off+i*3+1,none⟩=some (.int .i64 L[i].res)∧V.cell? ⟨blk,off+i*3+2,none⟩=some (.int .i64 L[i].fo))∧(V.cell? ⟨w.heap.size+1,0,none⟩=some (.int .i64 m.pid)∧V.cell? ⟨w.heap.size+1,1,none⟩=some (.int .i64 m.res)∧V.cell? ⟨w.heap.size+1,2,none⟩=some (.int .i64 m.fo))∧(∀o,V.frozen? ⟨w.heap.size+1,o,none⟩=false):=fun V hV=>by
    have h5:=(hV.block (w.heap.size+1) hsz).trans B5.out
    refine ⟨?_,oJ h5,M6 h5⟩
    have hc:=HQ.out.keep (w':=V) ((hV.block blk (by omega)).trans (B0.out.block blk hbl)) i aG
    exact hc
   have hC:∀V,Below wr.heap.size wr V→Calls Tryz.prog 264 #[av L[i],av m] V fun e w'=>e=.returned (.int .i64 (yH L[i] m))∧Below wr.heap.size wr w':=fun V hV=>(Yo V _ _ _ _ _ _).mono (by
    rintro e w' ⟨rfl,h⟩
    exact ⟨rfl,hV.trans (h.mono hV.size)⟩)
   have HNX:Aside (∀V,Below wr.heap.size wr V→Below w.heap.size w V∧V.heap[w.heap.size]? = some (bx ⟨0,0,0⟩)∧V.heap[w.heap.size+1]? = some (bx m)):=fun V hV=>
    ⟨B0.out.trans (hV.mono B0.out.size),(hV.block w.heap.size (by omega)).trans B4.out,(hV.block (w.heap.size+1) hsz).trans B5.out⟩
   have hb:Below wr.heap.size wr wr:=Below.refl _ _
   by_cases hcc:0<yH L[i] m
   ·have HTn:Aside (IZ (L.take (i+1)) L[i]):=T.out.more aG hcc
    obtain ⟨cz,hcz⟩:∃cz,yH L[i] m=cz:=⟨_,rfl⟩
    rw [hcz] at hC hcc
    clear hcz T B0 B4 B5
    generalize L[i]=c at *
    obtain ⟨X1,R1,D1⟩:=c
    obtain ⟨X2,R2,D2⟩:=m
    simp only at hat hC
    obtain ⟨⟨y0,y1,y2⟩,⟨y3,y4,y5⟩,yf⟩:=hat _ hb
    go_upto_region 7 with fail
    go_region_held3 (fun w'=>(w'.cell? ⟨blk,off+i*3,none⟩=some (.int .i64 X1)∧w'.cell? ⟨blk,off+i*3+1,none⟩=some (.int .i64 R1)∧w'.cell? ⟨blk,off+i*3+2,none⟩=some (.int .i64 D1))∧(w'.cell? ⟨w.heap.size+1,0,none⟩=some (.int .i64 X2)∧w'.cell? ⟨w.heap.size+1,1,none⟩=some (.int .i64 R2)∧w'.cell? ⟨w.heap.size+1,2,none⟩=some (.int .i64 D2))) (first|exact ⟨(hat _ hb).1,(hat _ hb).2.1⟩|exact ⟨(hat _ (drawn hb _)).1,(hat _ (drawn hb _)).2.1⟩) (first
     |(go_at_fn 264;refine (hC _ (by first|exact hb|exact drawn hb _)).mono ?_;rintro e w2 ⟨rfl,hb⟩))
    obtain ⟨⟨q0,q1,q2⟩,⟨q3,q4,q5⟩,qf⟩:=hat _ hb
    have ZG:=HNX.out _ hb
    have HN3:Aside _:=ZG
    have qfa:=qf 0
    have qfb:=qf 1
    have qfc:=qf 2
    clear hat hC ZG hb qf yf
    go_wp2_with fail
    go_roundg (gk-1)
    case measure=>omega
    case rel=>
     obtain ⟨e1,e2,e3⟩:=HN3.out
     refine ⟨i+1,⟨X1,R1,D1⟩,by omega,by omega,by go_num,?_,?_,Ce e3 _ _ _,HTn⟩
     ·exact ((e1.setCell (by simp) _).setCell (by simp) _).setCell (by simp) _
     ·show _=_
      rw [Below.heap_setCell _ _ _ _ (by simp),Below.heap_setCell _ _ _ _ (by simp),Below.heap_setCell _ _ _ _ (by simp)]
      exact e2
   ·have HTn:Aside (IZ (L.take (i+1)) m):=T.out.less aG hcc
    obtain ⟨cz,hcz⟩:∃cz,yH L[i] m=cz:=⟨_,rfl⟩
    rw [hcz] at hC hcc
    clear hcz T B0 B4 B5
    generalize L[i]=c at *
    obtain ⟨X1,R1,D1⟩:=c
    obtain ⟨X2,R2,D2⟩:=m
    simp only at hat hC
    obtain ⟨⟨y0,y1,y2⟩,⟨y3,y4,y5⟩,yf⟩:=hat _ hb
    go_upto_region 7 with fail
    go_region_held3 (fun w'=>(w'.cell? ⟨blk,off+i*3,none⟩=some (.int .i64 X1)∧w'.cell? ⟨blk,off+i*3+1,none⟩=some (.int .i64 R1)∧w'.cell? ⟨blk,off+i*3+2,none⟩=some (.int .i64 D1))∧(w'.cell? ⟨w.heap.size+1,0,none⟩=some (.int .i64 X2)∧w'.cell? ⟨w.heap.size+1,1,none⟩=some (.int .i64 R2)∧w'.cell? ⟨w.heap.size+1,2,none⟩=some (.int .i64 D2))) (first|exact ⟨(hat _ hb).1,(hat _ hb).2.1⟩|exact ⟨(hat _ (drawn hb _)).1,(hat _ (drawn hb _)).2.1⟩) (first
     |(go_at_fn 264;refine (hC _ (by first|exact hb|exact drawn hb _)).mono ?_;rintro e w2 ⟨rfl,hb⟩))
    have ZG:=HNX.out _ hb
    have HN3:Aside _:=ZG
    clear hat hC ZG hb yf
    go_wp2_with fail
    go_roundg (gk-1)
    case measure=>omega
    case rel=>
     obtain ⟨e1,e2,e3⟩:=HN3.out
     exact ⟨i+1,⟨X2,R2,D2⟩,by omega,by omega,by go_num,e1,e2,e3,HTn⟩
  ·have aG:i=L.length:=by omega
   have HT:Aside (IZ L m):=by
    have:=T.out
    rw [aG,List.take_length] at this;exact this
   obtain ⟨y3,y4,y5⟩:=oJ B5.out
   obtain ⟨x3,x4,x5⟩:=oJ B4.out
   have xf:=M6 B4.out
   have xf0:=xf 0
   have xf1:=xf 1
   have xf2:=xf 2
   obtain ⟨m0,m1,m2⟩:=oJ (Ce B4.out (.int .i64 m.pid) (.int .i64 m.res) (.int .i64 m.fo))
   obtain ⟨X2,R2,D2⟩:=m
   simp only at y3 y4 y5 m0 m1 m2
   clear xf T aG
   go_wp2_with fail
   refine bodyPost_ret (v:=.agg #[.int .i64 X2,.int .i64 R2,.int .i64 D2]) (by simp [results,Tryz.results263,go_sem,m0,m1,m2]) rfl ⟨⟨X2,R2,D2⟩,rfl,HT.out,?_⟩
   exact ((B0.out.setCell (by simp) _).setCell (by simp) _).setCell (by simp) _
theorem VW:af1:=by
 intro w ad L cap hl hcd
 by_cases h0:L.length=0
 ·have hL:L=[]:=List.eq_nil_of_length_eq_zero h0
  subst hL
  have hv:vJ []=(0,0):=rfl
  rw [hv]
  clear hv
  go_enter Tryz.func183,Tryz.ntmps183
  go_wp2_with fail
  go_ret2
  exact ⟨rfl,Below.refl _ _⟩
 ·rcases hcd with z|⟨blk,off,rfl,hbl,hq⟩
  ·rw [z] at h0;exact absurd rfl h0
  have hM:=Xq w blk off L cap hl (by omega) hbl hq
  have h0':((L.length:Int) == 0)=false:=by simp;intro e;rw [e] at h0;exact h0 rfl
  have HV:Aside (∀m,IZ L m→(vJ L).1=kY m∧(vJ L).2=if kY m=0 then 0 else m.pid):=fun m=>IZ.vJ
  clear hq
  generalize vJ L=v at *
  obtain ⟨vb,vp⟩:=v
  go_enter Tryz.func183,Tryz.ntmps183
  go_upto_region 4 with (go_at_call 263;refine hM.mono ?_;rintro e w1 ⟨m,rfl,ht,hb⟩)
  obtain ⟨e1,e2⟩:=HV.out m ht
  have hW:=BS (w1.alloc (.cells #[.int .i64 m.pid,.int .i64 m.res,.int .i64 m.fo] 307)) m.pid m.res m.fo
  have hn:=(DF m).1
  have hbb:=hb.alloc hb.size (.cells #[.int .i64 m.pid,.int .i64 m.res,.int .i64 m.fo] 307)
  have hc:=oJ (o8 w1 (.cells #[.int .i64 m.pid,.int .i64 m.res,.int .i64 m.fo] 307))
  obtain ⟨X,R,D⟩:=m
  simp only at hW hc e1 e2 ⊢
  by_cases e:kY ⟨X,R,D⟩=0
  ·rw [if_pos e] at e2
   rw [e] at hW e1
   have E1:Aside (vb=0):=e1
   have E2:Aside (vp=0):=e2
   clear hM HV e ht e1 e2
   go_wp2_with (go_at_call 267;refine hW.mono ?_;rintro e w2 ⟨rfl,hb2⟩)
   go_ret2
   exact ⟨by rw [E1.out,E2.out];rfl,hbb.trans (hb2.mono hbb.size)⟩
  ·have e':(kY ⟨X,R,D⟩ == 0)=false:=by simpa using e
   rw [if_neg e] at e2
   have E1:Aside (decide (0<vb)=true):=by show _=_;rw [e1];simp;omega
   have E2:Aside (vp=X):=e2
   have hkk:∀V,Below (w1.heap.size+1) (w1.alloc (.cells #[.int .i64 X,.int .i64 R,.int .i64 D] 307)) V→V.cell? ⟨w1.heap.size,0,none⟩=some (.int .i64 X):=fun V hV=>(hV.cell (p:=⟨w1.heap.size,0,none⟩) (by simp)).trans hc.1
   generalize kY ⟨X,R,D⟩=W at *
   clear hM HV e ht e2 e1
   go_wp2_with (go_at_call 267;refine hW.mono ?_;rintro e w2 ⟨rfl,hb2⟩;have k9:=hkk w2 (by simpa using hb2))
   go_ret2
   exact ⟨by rw [E1.out,E2.out];rfl,hbb.trans (hb2.mono hbb.size)⟩
end Go.Proofs.YtippochapiolpaaGreatDoor

/- Who goes, plainly: what one weighs; who weighs most. -/
import Derived.WalkKit
import Derived.Test.YtippochapiolpaaGreatDoorSKeys
import Derived.ChangeAlike
import Derived.BigQuiet
import Derived.Outline
import Derived.Deep.LoopGhost
import Derived.Sort.LoopGhostIn
import Derived.Deep.Light
import Derived.Deep.DeepCutAuto
import Derived.Maps.AppendAt
import Derived.Maps.Range
import Derived.Deep.RegionHeld3
set_option maxHeartbeats 1000000
set_option maxRecDepth 100000
namespace Go.Proofs.YtippochapiolpaaGreatDoor
open Go.RowKit
structure Cd where
 pid:Int
 res:Int
 fo:Int
def xY (lo hi x:Int):Int:=if x<lo then lo else if hi<x then hi else x
def kY (c:Cd):Int:=xY 0 1000 c.res*(100+xY (-100) 100 c.fo)
theorem vY (lo hi x:Int) (h:lo≤hi):lo≤xY lo hi x∧xY lo hi x≤hi:=by
 unfold xY;split
 ·omega
 ·split<;>omega
theorem DF (c:Cd):0≤kY c∧kY c≤200000:=by
 have h1:=vY 0 1000 c.res (by omega)
 have h2:=vY (-100) 100 c.fo (by omega)
 unfold kY
 generalize xY 0 1000 c.res=r at *
 generalize xY (-100) 100 c.fo=a at *
 refine ⟨Int.mul_nonneg h1.1 (by omega),?_⟩
 calc r*(100+a)≤1000*(100+a):=Int.mul_le_mul_of_nonneg_right h1.2 (by omega)
  _≤200000:=by omega
theorem VT {c:Cd}:0<kY c↔0<c.res∧-100<c.fo:=by
 unfold kY
 have h1:=vY 0 1000 c.res (by omega)
 have h2:=vY (-100) 100 c.fo (by omega)
 have e1:0<xY 0 1000 c.res↔0<c.res:=by unfold xY;split<;>(try split)<;>omega
 have e2:0<100+xY (-100) 100 c.fo↔-100<c.fo:=by unfold xY;split<;>(try split)<;>omega
 rw [←e1,←e2]
 generalize xY 0 1000 c.res=r at *
 generalize 100+xY (-100) 100 c.fo=a at *
 constructor
 ·intro h
  constructor
  ·apply Classical.byContradiction;intro z
   have:r=0:=by omega
   rw [this,Int.zero_mul] at h;omega
  ·apply Classical.byContradiction;intro z
   have:a≤0:=by omega
   have:=Int.mul_nonpos_of_nonneg_of_nonpos h1.1 this
   omega
 ·rintro ⟨h3,h4⟩;exact Int.mul_pos h3 h4
def BG (s:Int×Int) (c:Cd):Int×Int:=if s.1<kY c∨(kY c=s.1∧0<kY c∧s.2<c.pid) then (kY c,c.pid) else s
def vJ (L:List Cd):Int×Int:=L.foldl BG (0,0)
structure Fq (L:List Cd) (b p:Int):Prop where
 all:∀c∈L,kY c≤b
 who:(b=0∧p=0)∨(0<b∧∃c∈L,kY c=b∧c.pid=p)
 top:0<b→∀c∈L,kY c=b→c.pid≤p
section
variable {L L':List Cd}{b p b' p':Int}{c:Cd}
theorem Fq.nn (h:Fq L b p):0≤b:=by rcases h.who with ⟨e,_⟩|⟨e,_⟩<;>omega
theorem Fq.one (h:Fq L b p) (h':Fq L b' p'):b=b'∧p=p':=by
 have n1:=h.nn
 have n2:=h'.nn
 rcases h.who with ⟨e1,e2⟩|⟨e1,c,hc,e2,e3⟩
 ·rcases h'.who with ⟨f1,f2⟩|⟨f1,d,hd,f2,f3⟩
  ·omega
  ·have:=h.all d hd;omega
 ·rcases h'.who with ⟨f1,f2⟩|⟨f1,d,hd,f2,f3⟩
  ·have:=h'.all c hc;omega
  ·have a1:=h.all d hd
   have a2:=h'.all c hc
   have hb:b=b':=by omega
   have a3:=h.top e1 d hd (by omega)
   have a4:=h'.top f1 c hc (by omega)
   exact ⟨hb,by omega⟩
theorem Fq.step (h:Fq L b p):Fq (L ++ [c]) (BG (b,p) c).1 (BG (b,p) c).2:=by
 have n:=h.nn
 have nw:=(DF c).1
 unfold BG
 split
 ·rename_i hc
  refine ⟨fun d hd=>?_,.inr ⟨by simp only at hc ⊢;omega,c,by simp,rfl,rfl⟩,fun h0 d hd e=>?_⟩
  ·rcases List.mem_append.1 hd with hd|hd
   ·have:=h.all d hd;simp only at hc ⊢;omega
   ·rw [List.mem_singleton.1 hd];exact Int.le_refl _
  ·rcases List.mem_append.1 hd with hd|hd
   ·have a1:=h.all d hd
    simp only at hc e h0 ⊢
    rcases hc with hc|⟨hc1,hc2,hc3⟩
    ·omega
    ·have:=h.top (by omega) d hd (by omega);omega
   ·rw [List.mem_singleton.1 hd];exact Int.le_refl _
 ·rename_i hc
  simp only at hc
  refine ⟨fun d hd=>?_,?_,fun h0 d hd e=>?_⟩
  ·rcases List.mem_append.1 hd with hd|hd
   ·exact h.all d hd
   ·rw [List.mem_singleton.1 hd];simp only;omega
  ·rcases h.who with e|⟨e1,d,hd,e2⟩
   ·exact .inl e
   ·exact .inr ⟨e1,d,List.mem_append_left _ hd,e2⟩
  ·rcases List.mem_append.1 hd with hd|hd
   ·exact h.top h0 d hd e
   ·have e9:=List.mem_singleton.1 hd
    subst e9
    simp only at e h0 ⊢
    omega
theorem Fq.nil:Fq [] 0 0:=⟨fun c h=>by simp at h,.inl ⟨rfl,rfl⟩,fun h=>by omega⟩
theorem Fq.fold:∀ {L M:List Cd}{s:Int×Int},Fq M s.1 s.2→Fq (M ++ L) (L.foldl BG s).1 (L.foldl BG s).2
 | [],M,s,h=>by rw [List.append_nil];exact h
 |c :: L,M,s,h=>by
  rw [List.foldl_cons,show M ++ c :: L=(M ++ [c]) ++ L by simp]
  exact Fq.fold h.step
theorem Rz (L:List Cd):Fq L (vJ L).1 (vJ L).2:=by
 have:=Fq.fold (L:=L) (M:=[]) (s:=(0,0)) Fq.nil
 rwa [List.nil_append] at this
theorem aab (h:0<(vJ L).1):∃k,∃hk:k<L.length,L[k].pid=(vJ L).2∧kY L[k]=(vJ L).1:=by
 rcases (Rz L).who with ⟨e,_⟩|⟨_,c,hc,e1,e2⟩
 ·omega
 ·obtain ⟨k,hk,rfl⟩:=List.getElem_of_mem hc
  exact ⟨k,hk,e2,e1⟩
end
def Cds (w:World) (ad:Option Addr) (L:List Cd):Prop:=
 L=[]∨∃blk off,ad=some ⟨blk,off,none⟩∧blk<w.heap.size∧∀j (hj:j<L.length),w.cell? ⟨blk,off+j*3,none⟩=some (.int .i64 L[j].pid)∧w.cell? ⟨blk,off+j*3+1,none⟩=some (.int .i64 L[j].res)∧w.cell? ⟨blk,off+j*3+2,none⟩=some (.int .i64 L[j].fo)
theorem takeC {L:List Cd}{i:Nat}(h:i<L.length):L.take (i+1)=L.take i ++ [L[i]]:=by
 rw [List.take_add_one,List.getElem?_eq_getElem h];rfl
theorem U1 (lo hi x:Int):(x<lo∧xY lo hi x=lo)∨(¬x<lo∧hi<x∧xY lo hi x=hi)∨(¬x<lo∧¬hi<x∧xY lo hi x=x):=by
 unfold xY;split
 ·exact .inl ⟨by assumption,rfl⟩
 ·split
  ·exact .inr (.inl ⟨by assumption,by assumption,rfl⟩)
  ·exact .inr (.inr ⟨by assumption,by assumption,rfl⟩)
def ce (c:Cd):List Value:=[.int .i64 c.pid,.int .i64 c.res,.int .i64 c.fo]
def Fv (L:List Cd):List Value:=L.flatMap ce
def CL (w:World) (N:Nat) (t:TypeId) (v:Value) (L:List Cd):Prop:=w.ownsRow N t 3 v L.length (Fv L)
theorem Yq (L:List Cd):∀u∈Fv L,u.oneCell'=true:=by
 intro u hu
 obtain ⟨x,_,hx⟩:=List.mem_flatMap.1 hu
 simp only [ce,List.mem_cons,List.not_mem_nil,or_false] at hx
 rcases hx with rfl|rfl|rfl<;>rfl
theorem EH (L:List Cd):(Fv L).length=L.length*3:=by
 induction L with
 |nil=>rfl
 |cons a l ih=>simp only [Fv,List.flatMap_cons,List.length_append,List.length_cons] at *;simp only [ce,List.length_cons,List.length_nil];omega
theorem Yr (L M:List Cd):Fv (L ++ M)=Fv L ++ Fv M:=by simp [Fv]
theorem EI:∀(L:List Cd) (j:Nat) (x:Cd),L[j]? = some x→(Fv L)[j*3]? = some (.int .i64 x.pid)∧(Fv L)[j*3+1]? = some (.int .i64 x.res)∧(Fv L)[j*3+2]? = some (.int .i64 x.fo)
 | [],j,x,h=>by simp at h
 |a :: l,0,x,h=>by simp at h;subst h;exact ⟨rfl,rfl,rfl⟩
 |a :: l,j+1,x,h=>by
  have ih:=EI l j x (by simpa using h)
  have e:Fv (a :: l)=.int .i64 a.pid :: .int .i64 a.res :: .int .i64 a.fo :: Fv l:=rfl
  rw [e,show (j+1)*3=j*3+1+1+1 by omega,show j*3+1+1+1+1=(j*3+1)+1+1+1 by omega,show j*3+1+1+1+2=(j*3+2)+1+1+1 by omega]
  simpa using ih
theorem CL.cds {w:World}{N:Nat}{t:TypeId}{v:Value}{L:List Cd}(h:CL w N t v L):∃ad cap,v=.slice ad L.length cap∧L.length≤cap∧Cds w ad L:=by
 rcases h.2 with ⟨rfl,h0⟩|⟨g,cap,cur,rfl,hb,hg,hcap,wY,hsz,htake⟩
 ·exact ⟨none,0,by rw [h0],by omega,.inl (List.eq_nil_of_length_eq_zero h0)⟩
 ·refine ⟨_,cap,rfl,hcap,.inr ⟨g,0,rfl,?_,fun i hi=>?_⟩⟩
  ·by_cases e:g<w.heap.size
   ·exact e
   ·rw [Array.getElem?_eq_none (by omega)] at hg;cases hg
  ·have hc:∀j u,(Fv L)[j]? = some u→w.cell? ⟨g,j,none⟩=some u:=by
    intro j u hu
    have hj:j<L.length*3:=by have:=(List.getElem?_eq_some_iff.1 hu).1;rwa [EH] at this
    have:cur.toList[j]? = some u:=by rw [←hu,←htake,List.getElem?_take,if_pos hj]
    simp [World.cell?,hg]
    simpa using this
   have hr:=EI L i L[i] (by simp [hi])
   rw [show 0+i*3=i*3 by omega]
   exact ⟨hc _ _ hr.1,hc _ _ hr.2.1,hc _ _ hr.2.2⟩
def af1:Prop:=∀(w:World) (ad:Option Addr) (L:List Cd) (cap:Nat),L.length≤100→Cds w ad L→
 Calls Tryz.prog 183 #[.slice ad L.length cap] w fun e w'=>e=.returned (.tuple #[.int .i64 (vJ L).2,.bool (decide (0<(vJ L).1))])∧Below w.heap.size w w'
def Cells (w:World) (blk off:Nat) (L:List Cd):Prop:=∀j (hj:j<L.length),w.cell? ⟨blk,off+j*3,none⟩=some (.int .i64 L[j].pid)∧w.cell? ⟨blk,off+j*3+1,none⟩=some (.int .i64 L[j].res)∧w.cell? ⟨blk,off+j*3+2,none⟩=some (.int .i64 L[j].fo)
theorem Cells.keep {w w':World}{blk off:Nat}{L:List Cd}(h:Cells w blk off L) (hb:w'.heap[blk]? = w.heap[blk]?):Cells w' blk off L:=fun j hj=>by
 rw [World.cell?_of_block (w:=w) (a:=⟨blk,off+j*3,none⟩) hb,World.cell?_of_block (w:=w) (a:=⟨blk,off+j*3+1,none⟩) hb,World.cell?_of_block (w:=w) (a:=⟨blk,off+j*3+2,none⟩) hb]
 exact h j hj
theorem ND (w:World) (x lo hi:Int) (h:lo<hi):Calls Tryz.prog 317 #[.int .i64 x,.int .i64 lo,.int .i64 hi] w fun e w'=>e=.returned (.int .i64 (xY lo hi x))∧w'=w:=by
 rcases U1 lo hi x with ⟨h1,h2⟩|⟨h1,h1',h2⟩|⟨h1,h1',h2⟩
 ·rw [h2]
  have h3:¬hi<lo:=by omega
  go_enter Tryz.func317,Tryz.ntmps317
  go_wp2_with fail
  go_ret
  exact ⟨rfl,rfl⟩
 ·rw [h2]
  go_enter Tryz.func317,Tryz.ntmps317
  go_wp2_with fail
  go_ret
  exact ⟨rfl,rfl⟩
 ·rw [h2]
  go_enter Tryz.func317,Tryz.ntmps317
  go_wp2_with fail
  go_ret
  exact ⟨rfl,rfl⟩
theorem BS (w:World) (X R D:Int):Calls Tryz.prog 267 #[.agg #[.int .i64 X,.int .i64 R,.int .i64 D]] w fun e w'=>e=.returned (.int .i64 (kY ⟨X,R,D⟩))∧Below w.heap.size w w':=by
 have hin:=DF ⟨X,R,D⟩
 have hwg:kY ⟨X,R,D⟩=xY 0 1000 R*(100+xY (-100) 100 D):=rfl
 have hr:=vY 0 1000 R (by omega)
 have ha:=vY (-100) 100 D (by omega)
 have hw1:wrap64 (100+xY (-100) 100 D)=100+xY (-100) 100 D:=by unfold wrap64;omega
 have hw2:wrap64 (xY 0 1000 R*(100+xY (-100) 100 D))=kY ⟨X,R,D⟩:=by rw [←hwg];unfold wrap64;omega
 have hA:=(Below.refl _ w).alloc (Nat.le_refl _) (.cells #[.int .i64 X,.int .i64 R,.int .i64 D] 307)
 generalize kY ⟨X,R,D⟩=W at *
 clear hwg hin hr ha
 go_enter Tryz.func267,Tryz.ntmps267
 go_upto_region 1 with fail
 go_quiet (first|(go_at_call 317;exact Calls.quiet_of_same (ND _ _ _ _ (by decide))))
 go_wp2_with fail
 go_ret
 exact ⟨by simp [hw1,hw2],⟨hA.os,hA.tape,hA.output,hA.size,hA.block⟩⟩
def Qx (x y:Int):Int:=if x<y then -1 else if y<x then 1 else 0
theorem aaN (w:World) (x:Int):Calls Tryz.prog 286 #[.int .i64 x] w fun e w'=>e=.returned (.bool false)∧w'=w:=by
 go_enter Tryz.func286,Tryz.ntmps286
 go_wp2_with fail
 go_ret
 exact ⟨by simp,rfl⟩
theorem Yn (w:World) (x y:Int):Calls Tryz.prog 266 #[.int .i64 x,.int .i64 y] w fun e w'=>e=.returned (.int .i64 (Qx x y))∧w'=w:=by
 have e:(x<y∧Qx x y=-1)∨(¬x<y∧y<x∧Qx x y=1)∨(¬x<y∧¬y<x∧Qx x y=0):=by unfold Qx;split<;>(try split)<;>simp [*]
 rcases e with ⟨h1,h2⟩|⟨h1,h1',h2⟩|⟨h1,h1',h2⟩ <;>
 ·rw [h2]
  go_enter Tryz.func266,Tryz.ntmps266
  go_wp2_with (go_at_call 286;refine (aaN _ _).mono ?_;rintro e w1 ⟨rfl,YK⟩;subst w1)
  go_ret
  exact ⟨rfl,rfl⟩
def orr (x y:Int):Int:=if x=0 then y else x
theorem aar (w:World) (b:Nat) (x y:Int) (h0:w.cell? ⟨b,0,none⟩=some (.int .i64 x)) (h1:w.cell? ⟨b,1,none⟩=some (.int .i64 y)):Calls Tryz.prog 265 #[.slice (some ⟨b,0,none⟩) 2 2] w fun e w'=>e=.returned (.int .i64 (orr x y))∧w'=w:=by
 go_enter Tryz.func265,Tryz.ntmps265
 go_wp2_with fail
 go_loopg [5,8] 2 (fun mm _ s8 wr=>∃i:Nat,i+mm=2∧s8=.int .i64 (i:Int)∧(i=0∨x=0)∧(i<2∨y=0)∧wr=w)
 case atStart=>exact ⟨0,rfl,rfl,.inl rfl,.inl (by omega),rfl⟩
 case round=>
  obtain ⟨i,hi,rfl,hx,hy,hwr⟩:=hrel
  subst wr
  have hi3:i=0∨i=1∨i=2:=by omega
  rcases hi3 with rfl|rfl|rfl
  ·by_cases e:x=0
   ·subst e
    go_wp2_with fail
    go_roundg (gk-1)
    case measure=>omega
    case rel=>exact ⟨1,by omega,rfl,by simp,by simp,rfl⟩
   ·have e':(x != 0)=true:=by simpa using e
    have E3:Aside (orr x y=x):=by unfold orr;rw [if_neg e];exact rfl
    go_wp2_with fail
    go_ret
    exact ⟨by rw [E3.out];rfl,rfl⟩
  ·have e:x=0:=by rcases hx with z|z<;>omega
   subst e
   by_cases e:y=0
   ·subst e
    go_wp2_with fail
    go_roundg (gk-1)
    case measure=>omega
    case rel=>exact ⟨2,by omega,rfl,by simp,by simp,rfl⟩
   ·have e':(y != 0)=true:=by simpa using e
    go_wp2_with fail
    go_ret
    exact ⟨rfl,rfl⟩
  ·have e:x=0:=by rcases hx with z|z<;>omega
   have e2:y=0:=by rcases hy with z|z<;>omega
   subst e e2
   go_wp2_with fail
   go_ret
   exact ⟨rfl,rfl⟩
end Go.Proofs.YtippochapiolpaaGreatDoor

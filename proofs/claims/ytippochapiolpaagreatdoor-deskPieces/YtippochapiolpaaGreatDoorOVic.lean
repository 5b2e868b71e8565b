/- Ours. -/
import Derived.Test.YtippochapiolpaaGreatDoorSKeys
import Derived.BigQuiet
import Derived.Sort.LoopGhostIn
import Derived.Deep.Light
import Derived.Deep.DeepCutAuto
import Derived.Maps.AppendAt
import Derived.Maps.Range
import Derived.Deep.RegionHeld3
set_option maxHeartbeats 1000000
set_option maxRecDepth 100000
namespace Go.Proofs.YtippochapiolpaaGreatDoor
open Go.Proofs.Tryz(func317 ntmps317 prog)
open List(mem_append mem_singleton)
open Go.RowKit
structure Cd where
 pid:Int
 res:Int
 eX:Int
def xY(lo hi x:Int):Int:=if x<lo then lo else if hi<x then hi else x
def kY(c:Cd):Int:=xY 0 1000 c.res*(100+xY (-100) 100 c.eX)
theorem vY(a b x:Int)(h:a<=b):a<=xY a b x/\xY a b x<=b:=by
 unfold xY;split
 ·omega
 ·split<;>omega
theorem DF(c:Cd):0<=kY c/\kY c<=200000:=by
 have b:=vY 0 1000 c.res (by omega);have d:=vY (-100) 100 c.eX (by omega);unfold kY;generalize xY 0 1000 c.res=r at *;generalize xY (-100) 100 c.eX=a at *;refine⟨Int.mul_nonneg b.1 (by omega),?_⟩
 calc r*(100+a)<=1000*(100+a):=Int.mul_le_mul_of_nonneg_right b.2 (by omega)
  _<=200000:=by omega
theorem VN{c:Cd}:0<kY c↔0<c.res/\-100<c.eX:=by
 unfold kY;have e:=vY 0 1000 c.res (by omega);have i:=vY (-100) 100 c.eX (by omega);have g:0<xY 0 1000 c.res↔0<c.res:=by unfold xY;split<;>(try split)<;>omega
 have f:0<100+xY (-100) 100 c.eX↔-100<c.eX:=by unfold xY;split<;>(try split)<;>omega
 rw[<-g,<-f];generalize xY 0 1000 c.res=r at *;generalize 100+xY (-100) 100 c.eX=a at *;constructor
 ·intro h;constructor
  ·apply Classical.byContradiction;intro z
   have:r=0:=by omega
   rw[this,Int.zero_mul] at h;omega
  ·apply Classical.byContradiction;intro z
   have:a<=0:=by omega
   have:=Int.mul_nonpos_of_nonneg_of_nonpos e.1 this;omega
 ·rintro ⟨d,b⟩;exact Int.mul_pos d b
def BG(s:Int×Int)(c:Cd):Int×Int:=if s.1<kY c\/(kY c=s.1/\0<kY c/\s.2<c.pid) then (kY c,c.pid) else s
def vJ(L:List Cd):Int×Int:=L.foldl BG (0,0)
structure Fq (L:List Cd) (b p:Int):Prop where
 all:∀c∈L,kY c<=b
 who:(b=0/\p=0)\/(0<b/\∃c∈L,kY c=b/\c.pid=p)
 top:0<b->∀c∈L,kY c=b->c.pid<=p
section
variable {L L':List Cd}{b p b' p':Int}{c:Cd}
theorem Fq.nn(h:Fq L b p):0<=b:=by rcases h.who with⟨e,_⟩|⟨e,_⟩<;>omega
theorem Fq.one(h:Fq L b p)(a:Fq L b' p'):b=b'/\p=p':=by
 have o:=h.nn;have n:=a.nn;rcases h.who with⟨j,m⟩|⟨j,c,g,m,q⟩
 ·rcases a.who with⟨f,i⟩|⟨f,d,e,i,l⟩
  ·omega
  ·have:=h.all d e;omega
 ·rcases a.who with⟨f,i⟩|⟨f,d,e,i,l⟩
  ·have:=a.all c g;omega
  ·have u:=h.all d e;have t:=a.all c g;have k:b=b':=by omega
   have s:=h.top j d e (by omega);have r:=a.top f c g (by omega);exact⟨k,by omega⟩
theorem Fq.step(h:Fq L b p):Fq (L++[c]) (BG (b,p) c).1 (BG (b,p) c).2:=by
 have n:=h.nn;have q:=(DF c).1;unfold BG;split
 ·rename_i f
  refine⟨fun d a=>?_,.inr ⟨by simp only at f ⊢;omega,c,by simp,rfl,rfl⟩,fun g d a e=>?_⟩
  ·rcases mem_append.1 a with a|a
   ·have:=h.all d a;simp only at f ⊢;omega
   ·rw[mem_singleton.1 a];exact Int.le_refl _
  ·rcases mem_append.1 a with a|a
   ·have r:=h.all d a;simp only at f e g ⊢;rcases f with f|⟨k,j,i⟩
    ·omega
    ·have:=h.top (by omega) d a (by omega);omega
   ·rw[mem_singleton.1 a];exact Int.le_refl _
 ·rename_i f
  simp only at f;refine⟨fun d a=>?_,?_,fun g d a e=>?_⟩
  ·rcases mem_append.1 a with a|a
   ·exact h.all d a
   ·rw[mem_singleton.1 a];simp only;omega
  ·rcases h.who with e|⟨o,d,a,m⟩
   ·exact .inl e
   ·exact .inr ⟨o,d,List.mem_append_left _ a,m⟩
  ·rcases mem_append.1 a with a|a
   ·exact h.top g d a e
   ·have l:=mem_singleton.1 a;subst l;simp only at e g ⊢;omega
theorem Fq.nil:Fq [] 0 0:=⟨fun c h=>by simp at h,.inl ⟨rfl,rfl⟩,fun h=>by omega⟩
theorem Fq.fold:∀ {L M:List Cd}{s:Int×Int},Fq M s.1 s.2->Fq (M++L) (L.foldl BG s).1 (L.foldl BG s).2
 | [],M,s,h=>by rw[List.append_nil];exact h
 |c::L,M,s,h=>by
  rw[List.foldl_cons,show M++c::L=(M++[c])++L by simp];exact Fq.fold h.step
theorem Ry(L:List Cd):Fq L (vJ L).1 (vJ L).2:=by
 have:=Fq.fold (L:=L) (M:=[]) (s:=(0,0)) Fq.nil;rwa[List.nil_append] at this
theorem Z0(h:0<(vJ L).1):∃k,∃a:k<L.length,L[k].pid=(vJ L).2/\kY L[k]=(vJ L).1:=by
 rcases (Ry L).who with⟨e,_⟩|⟨_,c,b,f,d⟩
 ·omega
 ·obtain⟨k,a,rfl⟩:=List.getElem_of_mem b;exact⟨k,a,d,f⟩
end
def Cds(w:World)(ad:Option Addr)(L:List Cd):Prop:=
 L=[]\/∃blk off,ad=some ⟨blk,off,none⟩/\blk<w.heap.size/\∀j (hj:j<L.length),w.cell? ⟨blk,off+j*3,none⟩=some (.int .i64 L[j].pid)/\w.cell? ⟨blk,off+j*3+1,none⟩=some (.int .i64 L[j].res)/\w.cell? ⟨blk,off+j*3+2,none⟩=some (.int .i64 L[j].eX)
theorem takeC{L:List Cd}{i:Nat}(h:i<L.length):L.take (i+1)=L.take i++[L[i]]:=by
 rw[List.take_add_one,List.getElem?_eq_getElem h];rfl
theorem UU(a b x:Int):(x<a/\xY a b x=a)\/(¬x<a/\b<x/\xY a b x=b)\/(¬x<a/\¬b<x/\xY a b x=x):=by
 unfold xY;split
 ·exact .inl ⟨by assumption,rfl⟩
 ·split
  ·exact .inr (.inl ⟨by assumption,by assumption,rfl⟩)
  ·exact .inr (.inr ⟨by assumption,by assumption,rfl⟩)
def ce(c:Cd):List Value:=[.int .i64 c.pid,.int .i64 c.res,.int .i64 c.eX]
def Fv(L:List Cd):List Value:=L.flatMap ce
def CL(w:World)(N:Nat)(t:TypeId)(v:Value)(L:List Cd):Prop:=w.ownsRow N t 3 v L.length (Fv L)
theorem Yh(L:List Cd):∀u∈Fv L,u.oneCell'=true:=by
 intro u b;obtain⟨x,_,a⟩:=List.mem_flatMap.1 b;simp only[ce,List.mem_cons,List.not_mem_nil,or_false] at a;rcases a with rfl|rfl|rfl<;>rfl
theorem EH(L:List Cd):(Fv L).length=L.length*3:=by
 induction L with
 |nil=>rfl
 |cons a l ih=>simp only[Fv,List.flatMap_cons,List.length_append,List.length_cons] at *;simp only[ce,List.length_cons,List.length_nil];omega
theorem Yi(L M:List Cd):Fv (L++M)=Fv L++Fv M:=by simp[Fv]
theorem EI:∀(L:List Cd) (j:Nat) (x:Cd),L[j]? = some x->(Fv L)[j*3]? = some (.int .i64 x.pid)/\(Fv L)[j*3+1]? = some (.int .i64 x.res)/\(Fv L)[j*3+2]? = some (.int .i64 x.eX)
 | [],j,x,h=>by simp at h
 |a::l,0,x,h=>by simp at h;subst h;exact⟨rfl,rfl,rfl⟩
 |a::l,j+1,x,h=>by
  have b:=EI l j x (by simpa using h);have e:Fv (a::l)=.int .i64 a.pid :: .int .i64 a.res :: .int .i64 a.eX::Fv l:=rfl;rw[e,show (j+1)*3=j*3+1+1+1 by omega,show j*3+1+1+1+1=(j*3+1)+1+1+1 by omega,show j*3+1+1+1+2=(j*3+2)+1+1+1 by omega];simpa using b
theorem CL.cds{w:World}{N:Nat}{t:TypeId}{v:Value}{L:List Cd}(h:CL w N t v L):∃o a,v=.slice o L.length a/\L.length<=a/\Cds w o L:=by
 rcases h.2 with⟨rfl,n⟩|⟨g,a,l,rfl,x,f,c,s,p,b⟩
 ·exact⟨none,0,by rw[n],by omega,.inl (List.eq_nil_of_length_eq_zero n)⟩
 ·refine⟨_,a,rfl,c,.inr ⟨g,0,rfl,?_,fun i r=>?_⟩⟩
  ·by_cases e:g<w.heap.size
   ·exact e
   ·rw[Array.getElem?_eq_none (by omega)] at f;cases f
  ·have k:∀j u,(Fv L)[j]? = some u->w.cell? ⟨g,j,none⟩=some u:=by
    intro j u m;have q:j<L.length*3:=by have:=(List.getElem?_eq_some_iff.1 m).1;rwa[EH] at this
    have:l.toList[j]? = some u:=by rw[<-m,<-b,List.getElem?_take,if_pos q]
    simp[World.cell?,f];simpa using this
   have d:=EI L i L[i] (by simp[r]);rw[show 0+i*3=i*3 by omega];exact⟨k _ _ d.1,k _ _ d.2.1,k _ _ d.2.2⟩
def afR:Prop:=∀(w:World) (ad:Option Addr) (L:List Cd) (cap:Nat),L.length<=100->Cds w ad L->
 Calls prog 183 #[.slice ad L.length cap] w fun e w'=>e=.returned (.tuple #[.int .i64 (vJ L).2,.bool (decide (0<(vJ L).1))])/\Below w.heap.size w w'
def Cells(w:World)(blk off:Nat)(L:List Cd):Prop:=∀j (hj:j<L.length),w.cell? ⟨blk,off+j*3,none⟩=some (.int .i64 L[j].pid)/\w.cell? ⟨blk,off+j*3+1,none⟩=some (.int .i64 L[j].res)/\w.cell? ⟨blk,off+j*3+2,none⟩=some (.int .i64 L[j].eX)
theorem Cells.keep{w w':World}{b c:Nat}{L:List Cd}(h:Cells w b c L)(d:w'.heap[b]? = w.heap[b]?):Cells w' b c L:=fun j e=>by
 rw[World.cell?_of_block (w:=w) (a:=⟨b,c+j*3,none⟩) d,World.cell?_of_block (w:=w) (a:=⟨b,c+j*3+1,none⟩) d,World.cell?_of_block (w:=w) (a:=⟨b,c+j*3+2,none⟩) d];exact h j e
theorem NC(w:World)(x a b:Int)(h:a<b):Calls prog 317 #[.int .i64 x,.int .i64 a,.int .i64 b] w fun e g=>e=.returned (.int .i64 (xY a b x))/\g=w:=by
 rcases UU a b x with⟨f,c⟩|⟨f,d,c⟩|⟨f,d,c⟩
 ·rw[c];have i:¬b<a:=by omega
  go_enter func317,ntmps317
  go_wp2_with fail
  go_ret;exact⟨rfl,rfl⟩
 ·rw[c];go_enter func317,ntmps317
  go_wp2_with fail
  go_ret;exact⟨rfl,rfl⟩
 ·rw[c];go_enter func317,ntmps317
  go_wp2_with fail
  go_ret;exact⟨rfl,rfl⟩
theorem BS(w:World)(X R D:Int):Calls prog 267 #[.agg #[.int .i64 X,.int .i64 R,.int .i64 D]] w fun e g=>e=.returned (.int .i64 (kY ⟨X,R,D⟩))/\Below w.heap.size w g:=by
 have f:=DF ⟨X,R,D⟩;have a:kY ⟨X,R,D⟩=xY 0 1000 R*(100+xY (-100) 100 D):=rfl;have h:=vY 0 1000 R (by omega);have i:=vY (-100) 100 D (by omega);have d:wrap64 (100+xY (-100) 100 D)=100+xY (-100) 100 D:=by unfold wrap64;omega
 have c:wrap64 (xY 0 1000 R*(100+xY (-100) 100 D))=kY ⟨X,R,D⟩:=by rw[<-a];unfold wrap64;omega
 have b:=(Below.refl _ w).alloc (Nat.le_refl _) (.cells #[.int .i64 X,.int .i64 R,.int .i64 D] 307);generalize kY ⟨X,R,D⟩=W at *;clear a f h i;go_enter Tryz.func267,Tryz.ntmps267
 go_upto_region 1 with fail
 go_quiet (first|(go_at_call 317;exact Calls.quiet_of_same (NC _ _ _ _ (by decide))))
 go_wp2_with fail
 go_ret;exact⟨by simp[d,c],⟨b.os,b.tape,b.output,b.size,b.block⟩⟩
def Qv(x y:Int):Int:=if x<y then -1 else if y<x then 1 else 0
theorem aaF(w:World)(x:Int):Calls prog 286 #[.int .i64 x] w fun e a=>e=.returned (.bool false)/\a=w:=by
 go_enter Tryz.func286,Tryz.ntmps286
 go_wp2_with fail
 go_ret;exact⟨by simp,rfl⟩
theorem Ye(w:World)(x y:Int):Calls prog 266 #[.int .i64 x,.int .i64 y] w fun e f=>e=.returned (.int .i64 (Qv x y))/\f=w:=by
 have e:(x<y/\Qv x y=-1)\/(¬x<y/\y<x/\Qv x y=1)\/(¬x<y/\¬y<x/\Qv x y=0):=by unfold Qv;split<;>(try split)<;>simp[*]
 rcases e with⟨c,a⟩|⟨c,b,a⟩|⟨c,b,a⟩ <;>
 ·rw[a];go_enter Tryz.func266,Tryz.ntmps266
  go_wp2_with (go_at_call 286;refine(aaF _ _).mono ?_;rintro e d ⟨rfl,g⟩;subst d)
  go_ret;exact⟨rfl,rfl⟩
def orr(x y:Int):Int:=if x=0 then y else x
theorem aaj(w:World)(b:Nat)(x y:Int)(o:w.cell? ⟨b,0,none⟩=some (.int .i64 x))(n:w.cell? ⟨b,1,none⟩=some (.int .i64 y)):Calls prog 265 #[.slice (some ⟨b,0,none⟩) 2 2] w fun e d=>e=.returned (.int .i64 (orr x y))/\d=w:=by
 go_enter Tryz.func265,Tryz.ntmps265
 go_wp2_with fail
 go_loopg [5,8] 2 (fun f _ s8 wr=>∃i:Nat,i+f=2/\s8=.int .i64 (i:Int)/\(i=0\/x=0)/\(i<2\/y=0)/\wr=w)
 case atStart=>exact⟨0,rfl,rfl,.inl rfl,.inl (by omega),rfl⟩
 case round=>
  obtain⟨i,m,rfl,c,g,h⟩:=hrel;subst wr;have a:i=0\/i=1\/i=2:=by omega
  rcases a with rfl|rfl|rfl
  ·by_cases e:x=0
   ·subst e;go_wp2_with fail
    go_roundg (gk-1)
    case measure=>omega
    case rel=>exact⟨1,by omega,rfl,by simp,by simp,rfl⟩
   ·have k:(x != 0)=true:=by simpa using e
    have l:Aside (orr x y=x):=by unfold orr;rw[if_neg e];exact rfl
    go_wp2_with fail
    go_ret;exact⟨by rw[l.out];rfl,rfl⟩
  ·have e:x=0:=by rcases c with z|z<;>omega
   subst e;by_cases e:y=0
   ·subst e;go_wp2_with fail
    go_roundg (gk-1)
    case measure=>omega
    case rel=>exact⟨2,by omega,rfl,by simp,by simp,rfl⟩
   ·have k:(y != 0)=true:=by simpa using e
    go_wp2_with fail
    go_ret;exact⟨rfl,rfl⟩
  ·have e:x=0:=by rcases c with z|z<;>omega
   have j:y=0:=by rcases g with z|z<;>omega
   subst e j;go_wp2_with fail
   go_ret;exact⟨rfl,rfl⟩
end Go.Proofs.YtippochapiolpaaGreatDoor

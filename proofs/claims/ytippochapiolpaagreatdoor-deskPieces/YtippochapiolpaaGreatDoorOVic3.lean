/- Ours. -/
import Derived.Test.YtippochapiolpaaGreatDoorOVic
import Derived.Shelf.Abstract
set_option maxHeartbeats 4000000
set_option maxRecDepth 100000
namespace Go.Proofs.YtippochapiolpaaGreatDoor
open Go.RowKit Go.Shelf
theorem drawn{B:Nat}{a w:World}(h:Below B a w)(n:Nat):Below B a (w.drewN n):=⟨h.os,h.tape,h.output,h.size,h.block⟩
theorem o8(w:World)(o:Obj):(w.alloc o).heap[w.heap.size]? = some o:=by show (w.heap.push _)[w.heap.size]? = _;rw[Array.getElem?_push,if_pos rfl]
theorem acf(w:World)(a b:Value)(t:TypeId):(w.alloc (.cells #[a,b] t)).cell? ⟨w.heap.size,0,none⟩=some a/\(w.alloc (.cells #[a,b] t)).cell? ⟨w.heap.size,1,none⟩=some b:=
 ⟨by rw[cell_of_row _ _ _ _ _ _ (o8 w _)];rfl,by rw[cell_of_row _ _ _ _ _ _ (o8 w _)];rfl⟩
def yH(a b:Cd):Int:=orr (Qv (kY a) (kY b)) (Qv a.pid b.pid)
theorem Ha{a b:Cd}:0<yH a b↔kY b<kY a\/(kY a=kY b/\b.pid<a.pid):=by
 unfold yH orr Qv;generalize kY a=x;generalize kY b=y
 (repeat' split)<;>omega
theorem Yf(w:World)(X R D b d D2:Int):Calls Tryz.prog 264 #[.agg #[.int .i64 X,.int .i64 R,.int .i64 D],.agg #[.int .i64 b,.int .i64 d,.int .i64 D2]] w fun e c=>e=.returned (.int .i64 (yH ⟨X,R,D⟩ ⟨b,d,D2⟩))/\Below w.heap.size w c:=by
 obtain⟨a,g⟩:∃a,(w.alloc (.cells #[.int .i64 X,.int .i64 R,.int .i64 D] 307)).alloc (.cells #[.int .i64 b,.int .i64 d,.int .i64 D2] 307)=a:=⟨_,rfl⟩;have l:Below w.heap.size w a:=by
  rw[<-g];exact((Below.refl _ w).alloc (Nat.le_refl _) _).alloc (by simp) _
 have o:a.heap.size=w.heap.size+2:=by rw[<-g];simp
 have r:a.heap[w.heap.size]? = some (.cells #[.int .i64 X,.int .i64 R,.int .i64 D] 307):=by
  rw[<-g,Below.heap_alloc _ _ _ (by simp)];exact o8 _ _
 have q:a.heap[w.heap.size+1]? = some (.cells #[.int .i64 b,.int .i64 d,.int .i64 D2] 307):=by
  have:=o8 (w.alloc (.cells #[.int .i64 X,.int .i64 R,.int .i64 D] 307)) (.cells #[.int .i64 b,.int .i64 d,.int .i64 D2] 307);rw[g] at this;simpa using this
 have i:∀V,Below a.heap.size a V->V.cell? ⟨w.heap.size,0,none⟩=some (.int .i64 X)/\V.cell? ⟨w.heap.size,1,none⟩=some (.int .i64 R)/\V.cell? ⟨w.heap.size,2,none⟩=some (.int .i64 D)/\V.cell? ⟨w.heap.size+1,0,none⟩=some (.int .i64 b)/\V.cell? ⟨w.heap.size+1,1,none⟩=some (.int .i64 d)/\V.cell? ⟨w.heap.size+1,2,none⟩=some (.int .i64 D2):=fun V j=>by
  have n:=(j.block w.heap.size (by omega)).trans r;have m:=(j.block (w.heap.size+1) (by omega)).trans q;refine⟨?_,?_,?_,?_,?_,?_⟩<;>first|(rw[cell_of_row _ _ _ _ _ _ n];rfl) | (rw[cell_of_row _ _ _ _ _ _ m];rfl)
 have f:Below a.heap.size a a:=Below.refl _ _;have p:∀V A B C,Below a.heap.size a V->Calls Tryz.prog 267 #[.agg #[.int .i64 A,.int .i64 B,.int .i64 C]] V fun e c=>e=.returned (.int .i64 (kY ⟨A,B,C⟩))/\Below a.heap.size a c:=fun V A B C j=>(BS V A B C).mono (by
  rintro e c ⟨rfl,h⟩;exact⟨rfl,j.trans (h.mono j.size)⟩)
 have t:Aside (∀V,Below a.heap.size a V->Below w.heap.size w V):=fun V j=>l.trans (j.mono l.size);have u:Aside (yH ⟨X,R,D⟩ ⟨b,d,D2⟩=orr (Qv (kY ⟨X,R,D⟩) (kY ⟨b,d,D2⟩)) (Qv X b)):=rfl;generalize yH ⟨X,R,D⟩ ⟨b,d,D2⟩=Z at *;obtain⟨F,E,z,y,x,v⟩:=i _ f;go_enter Tryz.func264,Tryz.ntmps264
 go_upto_region 1 with fail
 go_region_held3 (fun c=>c.cell? ⟨w.heap.size,0,none⟩=some (.int .i64 X)/\c.cell? ⟨w.heap.size,1,none⟩=some (.int .i64 R)/\c.cell? ⟨w.heap.size,2,none⟩=some (.int .i64 D)/\c.cell? ⟨w.heap.size+1,0,none⟩=some (.int .i64 b)/\c.cell? ⟨w.heap.size+1,1,none⟩=some (.int .i64 d)/\c.cell? ⟨w.heap.size+1,2,none⟩=some (.int .i64 D2)) (first|exact i _ f|exact i _ (drawn f _) | exact i _ (f.alloc f.size _)) (first
  |(go_at_call 267;refine(p _ _ _ _ (by first|exact f|exact drawn f _)).mono ?_;rintro e k ⟨rfl,f⟩)
  |(go_at_call 266;refine(Ye _ _ _).mono ?_;rintro e k ⟨rfl,s⟩;subst k)
  |(go_at_call 265;refine(aaj _ _ _ _ (by exact(acf _ _ _ _).1) (by exact(acf _ _ _ _).2)).mono ?_;rintro e k ⟨rfl,s⟩;subst k))
 all_goals
  go_wp2_with fail
  go_ret;refine⟨by rw[u.out];rfl,?_⟩;refine t.out _ ?_;have:=f.alloc f.size (.cells #[.int .i64 (Qv (kY ⟨X,R,D⟩) (kY ⟨b,d,D2⟩)),.int .i64 (Qv X b)] 3);exact⟨this.os,this.tape,this.output,this.size,this.block⟩
def IZ(L:List Cd)(m:Cd):Prop:=m∈L/\∀c∈L,kY c<kY m\/(kY c=kY m/\c.pid<=m.pid)
theorem IZ.more{L:List Cd}{m:Cd}{i:Nat}(h:IZ (L.take i) m)(d:i<L.length)(a:0<yH L[i] m):IZ (L.take (i+1)) L[i]:=by
 rw[takeC d];have a:=Ha.1 a;refine⟨List.mem_append_right _ (List.mem_singleton.2 rfl),fun c b=>?_⟩;rcases List.mem_append.1 b with z|z
 ·have:=h.2 c z;omega
 ·rw[List.mem_singleton.1 z];exact .inr ⟨rfl,Int.le_refl _⟩
theorem IZ.less{L:List Cd}{m:Cd}{i:Nat}(h:IZ (L.take i) m)(d:i<L.length)(a:¬0<yH L[i] m):IZ (L.take (i+1)) m:=by
 rw[takeC d];have a:¬(kY m<kY L[i]\/(kY L[i]=kY m/\m.pid<L[i].pid)):=fun z=>a (Ha.2 z);refine⟨List.mem_append_left _ h.1,fun c b=>?_⟩;rcases List.mem_append.1 b with z|z
 ·exact h.2 c z
 ·rw[List.mem_singleton.1 z];omega
theorem IZ.vJ{L:List Cd}{m:Cd}(h:IZ L m):(vJ L).1=kY m/\(vJ L).2=if kY m=0 then 0 else m.pid:=by
 have n:=(DF m).1;have b:Fq L (kY m) (if kY m=0 then 0 else m.pid):=by
  refine⟨fun c a=>?_,?_,fun d c a e=>?_⟩
  ·have:=h.2 c a;omega
  ·by_cases e:kY m=0
   ·exact .inl ⟨e,by rw[if_pos e]⟩
   ·exact .inr ⟨by omega,m,h.1,rfl,by rw[if_neg e]⟩
  ·rw[if_neg (by omega)];have:=h.2 c a;omega
 exact(Ry L).one b
theorem bU(w:World)(s o:Nat)(v:Value)(c:Array Value)(t:TypeId)(a:Nat×Nat)(h:w.heap[s]? = some (.cells c t a)):(w.setCell ⟨s,o,none⟩ v).heap[s]? = some (.cells (c.setIfInBounds o v) t a):=by
 rw[setCell_eq_setRow w s o c t a v h];exact setRow_heap w s c _ t a h
theorem Ce{W:World}{i:Nat}{x y z:Value}{t:TypeId}(h:W.heap[i]? = some (.cells #[x,y,z] t))(a b c:Value):(((W.setCell ⟨i,0,none⟩ a).setCell ⟨i,1,none⟩ b).setCell ⟨i,2,none⟩ c).heap[i]? = some (.cells #[a,b,c] t):=
 bU _ i 2 c _ _ _ (bU _ i 1 b _ _ _ (bU W i 0 a _ _ _ h))
abbrev bx(c:Cd):Obj:=.cells #[.int .i64 c.pid,.int .i64 c.res,.int .i64 c.eX] 307
abbrev av(c:Cd):Value:=.agg #[.int .i64 c.pid,.int .i64 c.res,.int .i64 c.eX]
theorem oJ{V:World}{z:Nat}{c:Cd}(h:V.heap[z]? = some (bx c)):V.cell? ⟨z,0,none⟩=some (.int .i64 c.pid)/\V.cell? ⟨z,1,none⟩=some (.int .i64 c.res)/\V.cell? ⟨z,2,none⟩=some (.int .i64 c.eX):=by
 refine⟨?_,?_,?_⟩<;>(rw[cell_of_row _ _ _ _ _ _ h];rfl)
theorem M5{V:World}{z:Nat}{c:Cd}(h:V.heap[z]? = some (bx c))(o:Nat):V.frozen? ⟨z,o,none⟩=false:=by simp[World.frozen?,h]
theorem Xl(w:World)(a b:Nat)(L:List Cd)(cap:Nat)(hl:L.length<=100)(h0:0<L.length)(r:a<w.heap.size)(hq:Cells w a b L):Calls Tryz.prog 263 #[.slice (some ⟨a,b,none⟩) L.length cap,.func (.func 264) #[] #[]] w fun e g=>∃m,e=.returned (av m)/\IZ L m/\Below w.heap.size w g:=by
 have ef:∀u w,(callFunc 264 u).run Tryz.prog w=.ok (.enter 264 u) w:=enters_of Tryz.func264 (by kernel_rfl) rfl;have HQ:Aside (Cells w a b L):=hq;have hn1:¬(L.length:Int)<1:=by omega
 have hp:(0:Int)<(L.length:Int):=by omega
 obtain⟨U,S,Q⟩:=hq 0 h0;rw[show b+0*3=b by omega] at U S Q;obtain⟨C,l⟩:∃C,w.alloc (.cells #[.int .i64 0,.int .i64 0,.int .i64 0] 307)=C:=⟨_,rfl⟩;have E:Below w.heap.size w C:=by rw[<-l];exact(Below.refl _ w).alloc (Nat.le_refl _) _
 have j:C.heap.size=w.heap.size+1:=by rw[<-l];simp
 have b4:C.heap[w.heap.size]? = some (bx ⟨0,0,0⟩):=by rw[<-l];exact o8 _ _
 rw[<-E.cell (p:=⟨a,b,none⟩) r] at U;rw[<-E.cell (p:=⟨a,b+1,none⟩) r] at S;rw[<-E.cell (p:=⟨a,b+2,none⟩) r] at Q;have Z:Aside (IZ (L.take 1) L[0]):=by
  rw[show L.take 1=[L[0]] by rw[takeC h0];rfl];exact⟨by simp,fun c hc=>by rw[List.mem_singleton.1 hc];exact .inr ⟨rfl,Int.le_refl _⟩⟩
 have N:Aside (C.heap[w.heap.size]? = some (bx ⟨0,0,0⟩)):=b4;clear hq b4;generalize L[0]=c0 at *;obtain⟨X,R,D⟩:=c0;simp only at U S Q;go_enter Tryz.func263,Tryz.ntmps263
 go_wp2_with fail
 go_loopg [6] L.length (fun mm s6 wr=>∃(i:Nat) (m:Cd),1<=i/\(i<=L.length/\L.length<i+mm+1)/\s6=.int .i64 (i:Int)/\Aside (Below w.heap.size w wr)/\Aside (wr.heap[w.heap.size]? = some (bx ⟨0,0,0⟩))/\Aside (wr.heap[w.heap.size+1]? = some (bx m))/\Aside (IZ (L.take i) m))
 case atStart=>
  refine⟨1,⟨X,R,D⟩,by omega,?_,rfl,?_,?_,?_,Z⟩
  ·omega
  ·exact E.alloc E.size _
  ·exact(Below.heap_alloc _ _ _ (by omega)).trans N.out
  ·show _=_;rw[<-j];exact o8 _ _
 case round=>
  clear Z N U S Q E j l;obtain⟨i,m,hi1,hi,rfl,I,H,G,T⟩:=hrel;by_cases hlt:(i:Int)<(L.length:Int)
  ·have F:i<L.length:=by omega
   have j:w.heap.size+1<wr.heap.size:=by
    have:=G.out;rcases Nat.lt_or_ge (w.heap.size+1) wr.heap.size with q|q
    ·exact q
    ·rw[Array.getElem?_eq_none (by omega)] at this;cases this
   have d:∀V,Below wr.heap.size wr V->(V.cell? ⟨a,b+i*3,none⟩=some (.int .i64 L[i].pid)/\V.cell? ⟨a,b+i*3+1,none⟩=some (.int .i64 L[i].res)/\V.cell? ⟨a,b+i*3+2,none⟩=some (.int .i64 L[i].eX))/\(V.cell? ⟨w.heap.size+1,0,none⟩=some (.int .i64 m.pid)/\V.cell? ⟨w.heap.size+1,1,none⟩=some (.int .i64 m.res)/\V.cell? ⟨w.heap.size+1,2,none⟩=some (.int .i64 m.eX))/\(∀o,V.frozen? ⟨w.heap.size+1,o,none⟩=false):=fun V s=>by
    have h5:=(s.block (w.heap.size+1) j).trans G.out;refine⟨?_,oJ h5,M5 h5⟩;have hc:=HQ.out.keep (w':=V) ((s.block a (by omega)).trans (I.out.block a r)) i F;exact hc
   have t:∀V,Below wr.heap.size wr V->Calls Tryz.prog 264 #[av L[i],av m] V fun e g=>e=.returned (.int .i64 (yH L[i] m))/\Below wr.heap.size wr g:=fun V s=>(Yf V _ _ _ _ _ _).mono (by
    rintro e g ⟨rfl,h⟩;exact⟨rfl,s.trans (h.mono s.size)⟩)
   have M:Aside (∀V,Below wr.heap.size wr V->Below w.heap.size w V/\V.heap[w.heap.size]? = some (bx ⟨0,0,0⟩)/\V.heap[w.heap.size+1]? = some (bx m)):=fun V s=>
    ⟨I.out.trans (s.mono I.out.size),(s.block w.heap.size (by omega)).trans H.out,(s.block (w.heap.size+1) j).trans G.out⟩
   have f:Below wr.heap.size wr wr:=Below.refl _ _;by_cases n:0<yH L[i] m
   ·have z:Aside (IZ (L.take (i+1)) L[i]):=T.out.more F n;obtain⟨J,k⟩:∃J,yH L[i] m=J:=⟨_,rfl⟩;rw[k] at t n;clear k T I H G;generalize L[i]=c at *;obtain⟨W,Y,D1⟩:=c;obtain⟨x,y,B⟩:=m;simp only at d t;obtain⟨⟨y0,y1,y2⟩,⟨y3,y4,y5⟩,yf⟩:=d _ f;go_upto_region 7 with fail
    go_region_held3 (fun g=>(g.cell? ⟨a,b+i*3,none⟩=some (.int .i64 W)/\g.cell? ⟨a,b+i*3+1,none⟩=some (.int .i64 Y)/\g.cell? ⟨a,b+i*3+2,none⟩=some (.int .i64 D1))/\(g.cell? ⟨w.heap.size+1,0,none⟩=some (.int .i64 x)/\g.cell? ⟨w.heap.size+1,1,none⟩=some (.int .i64 y)/\g.cell? ⟨w.heap.size+1,2,none⟩=some (.int .i64 B))) (first|exact⟨(d _ f).1,(d _ f).2.1⟩|exact⟨(d _ (drawn f _)).1,(d _ (drawn f _)).2.1⟩) (first
     |(go_at_fn 264;refine(t _ (by first|exact f|exact drawn f _)).mono ?_;rintro e w2 ⟨rfl,f⟩))
    obtain⟨⟨q0,q1,q2⟩,⟨q3,q4,q5⟩,P⟩:=d _ f;have K:=M.out _ f;have A:Aside _:=K;have qfa:=P 0;have qfb:=P 1;have qfc:=P 2;clear d t K f P yf;go_wp2_with fail
    go_roundg (gk-1)
    case measure=>omega
    case rel=>
     obtain⟨e1,e2,e3⟩:=A.out;refine⟨i+1,⟨W,Y,D1⟩,by omega,by omega,by go_num,?_,?_,Ce e3 _ _ _,z⟩
     ·exact((e1.setCell (by simp) _).setCell (by simp) _).setCell (by simp) _
     ·show _=_;rw[Below.heap_setCell _ _ _ _ (by simp),Below.heap_setCell _ _ _ _ (by simp),Below.heap_setCell _ _ _ _ (by simp)];exact e2
   ·have z:Aside (IZ (L.take (i+1)) m):=T.out.less F n;obtain⟨J,k⟩:∃J,yH L[i] m=J:=⟨_,rfl⟩;rw[k] at t n;clear k T I H G;generalize L[i]=c at *;obtain⟨W,Y,D1⟩:=c;obtain⟨x,y,B⟩:=m;simp only at d t;obtain⟨⟨y0,y1,y2⟩,⟨y3,y4,y5⟩,yf⟩:=d _ f;go_upto_region 7 with fail
    go_region_held3 (fun g=>(g.cell? ⟨a,b+i*3,none⟩=some (.int .i64 W)/\g.cell? ⟨a,b+i*3+1,none⟩=some (.int .i64 Y)/\g.cell? ⟨a,b+i*3+2,none⟩=some (.int .i64 D1))/\(g.cell? ⟨w.heap.size+1,0,none⟩=some (.int .i64 x)/\g.cell? ⟨w.heap.size+1,1,none⟩=some (.int .i64 y)/\g.cell? ⟨w.heap.size+1,2,none⟩=some (.int .i64 B))) (first|exact⟨(d _ f).1,(d _ f).2.1⟩|exact⟨(d _ (drawn f _)).1,(d _ (drawn f _)).2.1⟩) (first
     |(go_at_fn 264;refine(t _ (by first|exact f|exact drawn f _)).mono ?_;rintro e w2 ⟨rfl,f⟩))
    have K:=M.out _ f;have A:Aside _:=K;clear d t K f yf;go_wp2_with fail
    go_roundg (gk-1)
    case measure=>omega
    case rel=>
     obtain⟨e1,e2,e3⟩:=A.out;exact⟨i+1,⟨x,y,B⟩,by omega,by omega,by go_num,e1,e2,e3,z⟩
  ·have F:i=L.length:=by omega
   have Z:Aside (IZ L m):=by
    have:=T.out;rw[F,List.take_length] at this;exact this
   obtain⟨y3,y4,y5⟩:=oJ G.out;obtain⟨x3,x4,x5⟩:=oJ H.out;have O:=M5 H.out;have xf0:=O 0;have xf1:=O 1;have xf2:=O 2;obtain⟨m0,m1,m2⟩:=oJ (Ce H.out (.int .i64 m.pid) (.int .i64 m.res) (.int .i64 m.eX));obtain⟨x,y,B⟩:=m;simp only at y3 y4 y5 m0 m1 m2;clear O T F;go_wp2_with fail
   refine bodyPost_ret (v:=.agg #[.int .i64 x,.int .i64 y,.int .i64 B]) (by simp[results,Tryz.results263,go_sem,m0,m1,m2]) rfl ⟨⟨x,y,B⟩,rfl,Z.out,?_⟩;exact((I.out.setCell (by simp) _).setCell (by simp) _).setCell (by simp) _
theorem VQ:afR:=by
 intro w O L q G l;by_cases g:L.length=0
 ·have I:L=[]:=List.eq_nil_of_length_eq_zero g;subst I;have B:vJ []=(0,0):=rfl;rw[B];clear B;go_enter Tryz.func183,Tryz.ntmps183
  go_wp2_with fail
  go_ret2;exact⟨rfl,Below.refl _ _⟩
 ·rcases l with z|⟨r,i,rfl,n,C⟩
  ·rw[z] at g;exact absurd rfl g
  have o:=Xl w r i L q G (by omega) n C;have J:((L.length:Int)==0)=false:=by simp;intro e;rw[e] at g;exact g rfl
  have s:Aside (∀m,IZ L m->(vJ L).1=kY m/\(vJ L).2=if kY m=0 then 0 else m.pid):=fun m=>IZ.vJ;clear C;generalize vJ L=v at *;obtain⟨A,y⟩:=v;go_enter Tryz.func183,Tryz.ntmps183
  go_upto_region 4 with (go_at_call 263;refine o.mono ?_;rintro e d ⟨m,rfl,j,F⟩)
  obtain⟨f,c⟩:=s.out m j;have h:=BS (d.alloc (.cells #[.int .i64 m.pid,.int .i64 m.res,.int .i64 m.eX] 307)) m.pid m.res m.eX;have M:=(DF m).1;have a:=F.alloc F.size (.cells #[.int .i64 m.pid,.int .i64 m.res,.int .i64 m.eX] 307);have E:=oJ (o8 d (.cells #[.int .i64 m.pid,.int .i64 m.res,.int .i64 m.eX] 307));obtain⟨X,R,D⟩:=m;simp only at h E f c ⊢;by_cases e:kY ⟨X,R,D⟩=0
  ·rw[if_pos e] at c;rw[e] at h f;have u:Aside (A=0):=f;have t:Aside (y=0):=c;clear o s e j f c;go_wp2_with (go_at_call 267;refine h.mono ?_;rintro e x ⟨rfl,b⟩)
   go_ret2;exact⟨by rw[u.out,t.out];rfl,a.trans (b.mono a.size)⟩
  ·have N:(kY ⟨X,R,D⟩==0)=false:=by simpa using e
   rw[if_neg e] at c;have u:Aside (decide (0<A)=true):=by show _=_;rw[f];simp;omega
   have t:Aside (y=X):=c;have k:∀V,Below (d.heap.size+1) (d.alloc (.cells #[.int .i64 X,.int .i64 R,.int .i64 D] 307)) V->V.cell? ⟨d.heap.size,0,none⟩=some (.int .i64 X):=fun V H=>(H.cell (p:=⟨d.heap.size,0,none⟩) (by simp)).trans E.1;generalize kY ⟨X,R,D⟩=W at *;clear o s e j c f;go_wp2_with (go_at_call 267;refine h.mono ?_;rintro e x ⟨rfl,b⟩;have K:=k x (by simpa using b))
   go_ret2;exact⟨by rw[u.out,t.out];rfl,a.trans (b.mono a.size)⟩
end Go.Proofs.YtippochapiolpaaGreatDoor

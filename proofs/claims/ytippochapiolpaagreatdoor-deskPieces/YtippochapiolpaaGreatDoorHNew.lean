/- Ours. -/
import Derived.Test.YtippochapiolpaaGreatDoorHParse
import Derived.Test.YtippochapiolpaaGreatDoorHShown
import Derived.Deep.Upon
set_option maxHeartbeats 8000000
set_option maxRecDepth 100000
namespace Go.Proofs.YtippochapiolpaaGreatDoor
open Go.Proofs.Tryz(f10 func10 func30 func31 ntmps10 ntmps30 ntmps31 prog underlying68 underlying75)
open List(getElem_cons_succ getElem_cons_zero getElem_toArray length_append length_cons length_map length_nil mem_cons_of_mem mem_cons_self mem_map not_mem_nil setIfInBounds_toArray set_cons_succ set_cons_zero)
open Nat(le_refl le_trans lt_of_lt_of_le zero_add)
open Go.World(block_lt_of_cell? cell?_of_block cell?_setCell_same')
open _root_.Array(getElem?_push replicate)
section
open Go.RowKit
section
variable {w w' V:World}{A:Nat→Prop}
def FH{α:Type}(f:α->Value)(A:Nat->Prop)(w:World)(v:Value)(L:List α):Prop:=
 ∃blk off ad cap,v=.slice ad L.length cap/\L.length<=cap/\(L≠[]->ad=some ⟨blk,off,none⟩)/\¬A blk/\∀i (hi:i<L.length),w.cell? ⟨blk,off+i,none⟩=some (f L[i])
abbrev adB:=FH (Value.int .i64)
abbrev YG:=FH fun x:az=>tx x
theorem Wt.cell(h:Wt A w w'){p:Addr}{v:Value}(a:w.cell? p=some v)(b:¬A p.block):w'.cell? p=some v:=by
 rw[cell?_of_block (h.block p.block (block_lt_of_cell? w _ a) b)];exact a
theorem FH.wt{α:Type}{f:α->Value}{v:Value}{L:List α}(h:FH f A w v L)(k:Wt A w w'):FH f A w' v L:=by
 obtain⟨c,a,n,b,e,l,m,d,j⟩:=h;exact⟨c,a,n,b,e,l,m,d,fun i g=>k.cell (j i g) d⟩
theorem Wt.low(k:Wt A w w')(a:∀i,A i->9<=i){g:Nat}(d:g<9)(c:g<w.heap.size):Below (g+1) w w':=
 ⟨k.os,k.tape,k.output,k.size,fun i b=>k.block i (by omega) (fun z=>by have:=a i z;omega)⟩
theorem GL.wt(h:GL w)(k:Wt A w w')(j:∀i,A i->9<=i):GL w':=by
 obtain⟨p,e,⟨l,m,n⟩,⟨a,b,o⟩⟩:=h;have c:∀ {g:Nat}{v:Value},g<9->w.cell? ⟨g,0,none⟩=some v->w'.cell? ⟨g,0,none⟩=some v:=fun {g v} q e=>k.cell e (fun z=>Nat.lt_irrefl _ (lt_of_lt_of_le q (j _ z)));refine⟨?_,c (by decide) e,⟨l,m,c (by decide) n⟩,⟨a,b,c (by decide) o⟩⟩;have d:1<w.heap.size:=by
  rcases Nat.lt_or_ge 1 w.heap.size with f|f
  ·exact f
  ·unfold Pow Lib.TabIs World.var? at p;rw[rD] at p;simp only[Option.bind_some] at p;rw[Array.getElem?_eq_none f] at p;cases p
 exact var?_below (k.low j (by decide) d) rD (Nat.lt_succ_self _) p
structure Gv (w:World) (A:Nat->Prop) (cb kb:Nat) (nv tv:Value) (ns:List Int) (ts:List az):Prop where
 lt:∀i,A i->i<w.heap.size
 ge:∀i,A i->9<=i
 gl:GL w
 ca:¬A cb
 k:w.cell? ⟨cb,0,none⟩=some (wp kb)
 ns:adB A w nv ns
 ts:YG A w tv ts
end
def TO(t:az)(c:Int)(e:Ending):Prop:=(c=0/\e=.returned (tx t))\/(c≠0/\e=thrown (eF c))
theorem uT(V:World)(g:GL V)(p:Int)(a:az)(i f:Value)(on:Bool)(b:Option Addr)(L:List Int)(cap:Nat)(o:pV V b L)(m:L.length<=1000)(c:Int)(l:c=0->∀n∈L,dF n)(k:a.length<=100000):Calls prog 85 #[gH p a i f on,aI c,.slice b L.length cap] V fun e d=>TO (a++aQ L) c e/\Below V.heap.size V d:=by
 by_cases j:c=0
 ·subst j;exact(V5 V g.pow p a i f on b L cap o m (l rfl) k).mono fun e d h=>⟨.inl ⟨rfl,h.1⟩,h.2⟩
 ·rw[ax j];exact(V6 c V p a i f (.slice b L.length cap) on).mono fun e d h=>⟨.inr ⟨j,h.1⟩,h.2⟩
def XO(A:Nat->Prop)(R:Int->World->Prop)(V:World)(y:Ending)(w':World):Prop:=∃c,y=.returned (aI c)/\R c w'/\Wt A V w'
theorem told_none(V:World)(g:GL V)(p:Int)(a:az)(f d:Value)(on:Bool)(c:Int)(i:a.length<=100000):Calls prog 85 #[gH p a f d on,aI c,.slice none 0 0] V fun e b=>TO a c e/\Below V.heap.size V b:=
 (uT V g p a f d on none [] 0 (.inl rfl) (by simp) c (fun _ n h=>by cases h) i).mono fun e b h=>⟨by have:=h.1;rwa[show a++aQ []=a from List.append_nil a] at this,h.2⟩
structure GC (V:World) (cb kb x:Nat) (p:Int) (word:az) (nv tv:Value) (on:Bool) (nb no tb tf:Nat) (ns:List Int) (ts:List az):Prop where
 gl:GL V
 c0:V.cell? ⟨cb,0,none⟩=some (wp kb)
 b0:V.cell? ⟨x,0,none⟩=some (.int .i64 p)
 b1:V.cell? ⟨x,1,none⟩=some (tx word)
 b2:V.cell? ⟨x,2,none⟩=some nv
 b3:V.cell? ⟨x,3,none⟩=some tv
 b4:V.cell? ⟨x,4,none⟩=some (.bool on)
 hn:∀i (hi:i<ns.length),V.cell? ⟨nb,no+i,none⟩=some (.int .i64 ns[i])
 ht:∀i (hi:i<ts.length),V.cell? ⟨tb,tf+i,none⟩=some (tx ts[i])
section
variable {w V:World}{A:Nat→Prop}{cb kb x nb no tb tf:Nat}{nv tv:Value}{ns:List Int}{ts:List az}{p a b c:Int}{word s t:az}{on:Bool}
theorem GC.Zm(h:GC V cb kb x p word nv tv on nb no tb tf ns ts):V.cell? ⟨cb,0,none⟩=some (wp kb)/\V.cell? ⟨x,0,none⟩=some (.int .i64 p)/\V.cell? ⟨x,1,none⟩=some (tx word)/\V.cell? ⟨x,2,none⟩=some nv/\V.cell? ⟨x,3,none⟩=some tv/\V.cell? ⟨x,4,none⟩=some (.bool on):=⟨h.c0,h.b0,h.b1,h.b2,h.b3,h.b4⟩
theorem GC.n10(h:GC V cb kb x p word nv tv on nb no tb tf [a] ts):V.cell? ⟨cb,0,none⟩=some (wp kb)/\V.cell? ⟨x,0,none⟩=some (.int .i64 p)/\V.cell? ⟨x,1,none⟩=some (tx word)/\V.cell? ⟨x,2,none⟩=some nv/\V.cell? ⟨x,3,none⟩=some tv/\V.cell? ⟨x,4,none⟩=some (.bool on)/\V.cell? ⟨nb,no,none⟩=some (.int .i64 a):=⟨h.c0,h.b0,h.b1,h.b2,h.b3,h.b4,h.hn 0 (by simp)⟩
theorem GC.n20(h:GC V cb kb x p word nv tv on nb no tb tf [a,b] ts):V.cell? ⟨cb,0,none⟩=some (wp kb)/\V.cell? ⟨x,0,none⟩=some (.int .i64 p)/\V.cell? ⟨x,1,none⟩=some (tx word)/\V.cell? ⟨x,2,none⟩=some nv/\V.cell? ⟨x,3,none⟩=some tv/\V.cell? ⟨x,4,none⟩=some (.bool on)/\V.cell? ⟨nb,no,none⟩=some (.int .i64 a)/\V.cell? ⟨nb,no+1,none⟩=some (.int .i64 b):=⟨h.c0,h.b0,h.b1,h.b2,h.b3,h.b4,h.hn 0 (by simp),h.hn 1 (by simp)⟩
theorem GC.n30(h:GC V cb kb x p word nv tv on nb no tb tf [a,b,c] ts):V.cell? ⟨cb,0,none⟩=some (wp kb)/\V.cell? ⟨x,0,none⟩=some (.int .i64 p)/\V.cell? ⟨x,1,none⟩=some (tx word)/\V.cell? ⟨x,2,none⟩=some nv/\V.cell? ⟨x,3,none⟩=some tv/\V.cell? ⟨x,4,none⟩=some (.bool on)/\V.cell? ⟨nb,no,none⟩=some (.int .i64 a)/\V.cell? ⟨nb,no+1,none⟩=some (.int .i64 b)/\V.cell? ⟨nb,no+2,none⟩=some (.int .i64 c):=⟨h.c0,h.b0,h.b1,h.b2,h.b3,h.b4,h.hn 0 (by simp),h.hn 1 (by simp),h.hn 2 (by simp)⟩
theorem GC.n01(h:GC V cb kb x p word nv tv on nb no tb tf ns [s]):V.cell? ⟨cb,0,none⟩=some (wp kb)/\V.cell? ⟨x,0,none⟩=some (.int .i64 p)/\V.cell? ⟨x,1,none⟩=some (tx word)/\V.cell? ⟨x,2,none⟩=some nv/\V.cell? ⟨x,3,none⟩=some tv/\V.cell? ⟨x,4,none⟩=some (.bool on)/\V.cell? ⟨tb,tf,none⟩=some (tx s):=⟨h.c0,h.b0,h.b1,h.b2,h.b3,h.b4,h.ht 0 (by simp)⟩
theorem GC.n02(h:GC V cb kb x p word nv tv on nb no tb tf ns [s,t]):V.cell? ⟨cb,0,none⟩=some (wp kb)/\V.cell? ⟨x,0,none⟩=some (.int .i64 p)/\V.cell? ⟨x,1,none⟩=some (tx word)/\V.cell? ⟨x,2,none⟩=some nv/\V.cell? ⟨x,3,none⟩=some tv/\V.cell? ⟨x,4,none⟩=some (.bool on)/\V.cell? ⟨tb,tf,none⟩=some (tx s)/\V.cell? ⟨tb,tf+1,none⟩=some (tx t):=⟨h.c0,h.b0,h.b1,h.b2,h.b3,h.b4,h.ht 0 (by simp),h.ht 1 (by simp)⟩
theorem GC.n11(h:GC V cb kb x p word nv tv on nb no tb tf [a] [s]):V.cell? ⟨cb,0,none⟩=some (wp kb)/\V.cell? ⟨x,0,none⟩=some (.int .i64 p)/\V.cell? ⟨x,1,none⟩=some (tx word)/\V.cell? ⟨x,2,none⟩=some nv/\V.cell? ⟨x,3,none⟩=some tv/\V.cell? ⟨x,4,none⟩=some (.bool on)/\V.cell? ⟨nb,no,none⟩=some (.int .i64 a)/\V.cell? ⟨tb,tf,none⟩=some (tx s):=⟨h.c0,h.b0,h.b1,h.b2,h.b3,h.b4,h.hn 0 (by simp),h.ht 0 (by simp)⟩
theorem Gv.box(g:Gv w A cb kb nv tv ns ts)(p:Int)(a:az)(on:Bool):∃x m nb no h j tb tf d f,x=w.heap.size/\nv=.slice h ns.length j/\tv=.slice d ts.length f/\m=w.alloc (.cells #[.int .i64 p,tx a,.slice h ns.length j,.slice d ts.length f,.bool on] 86)/\Below w.heap.size w m/\ns.length<=j/\ts.length<=f/\(ns≠[]->h=some ⟨nb,no,none⟩)/\(ts≠[]->d=some ⟨tb,tf,none⟩)/\∀V,Wt A m V->GC V cb kb x p a (.slice h ns.length j) (.slice d ts.length f) on nb no tb tf ns ts:=by
 obtain⟨nb,no,h,j,rfl,r,q,s,B⟩:=g.ns;obtain⟨tb,tf,d,f,rfl,o,n,D,y⟩:=g.ts;have b:Below w.heap.size w (w.alloc (.cells #[.int .i64 p,tx a,.slice h ns.length j,.slice d ts.length f,.bool on] 86)):=(Below.refl _ _).alloc (le_refl _) _;refine⟨_,_,nb,no,h,j,tb,tf,d,f,rfl,rfl,rfl,rfl,b,r,o,q,n,fun V k=>?_⟩;have l:Wt A w V:=(Wt.below A b).trans k;have C:(w.alloc (.cells #[.int .i64 p,tx a,.slice h ns.length j,.slice d ts.length f,.bool on] 86)).heap[w.heap.size]? = some (.cells #[.int .i64 p,tx a,.slice h ns.length j,.slice d ts.length f,.bool on] 86):=by
  show (w.heap.push _)[w.heap.size]? = _;rw[getElem?_push,if_pos rfl]
 have u:¬A w.heap.size:=fun z=>Nat.lt_irrefl _ (g.lt _ z);have c:∀i v,(#[Value.int .i64 p,tx a,.slice h ns.length j,.slice d ts.length f,.bool on]:Array Value)[i]? = some v->V.cell? ⟨w.heap.size,i,none⟩=some v:=fun i v e=>k.cell (p:=⟨w.heap.size,i,none⟩) (by rw[Lib.cell_of_heap C];exact e) u;exact⟨g.gl.wt l g.ge,l.cell g.k g.ca,c 0 _ rfl,c 1 _ rfl,c 2 _ rfl,c 3 _ rfl,c 4 _ rfl,fun i t=>l.cell (B i t) s,fun i t=>l.cell (y i t) D⟩
theorem Wt.gI{w V:World}(k:Wt A w.drew V):Wt A w V:=⟨k.os,k.tape,k.output,k.size,k.block⟩
theorem Wt.jy(w:World):Wt A w w.drew:=⟨rfl,rfl,rfl,le_refl _,fun _ _ _=>rfl⟩
end
section
variable {w:World}{A:Nat→Prop}{cb kb:Nat}{nv tv:Value}{ns:List Int}{ts:List az}{p a b c:Int}{word s t:az}{on:Bool}{R:Int→World→Prop}
theorem ZO{F K:Nat}(hF:(F=50/\K=97)\/(F=45/\K=92)\/(F=46/\K=93))(g:Gv w A cb kb nv tv [a] ts)(H:word.length<=100000)(v:∀V,Below w.heap.size w V->Calls prog K #[wp kb,.int .i64 p,.int .i64 a] V (XO A R V))(z:∀c V C,R c V->Below V.heap.size V C->R c C):Calls prog F #[wp cb,gH p word nv tv on] w fun e b=>∃c,TO word c e/\R c b:=by
 obtain⟨x,h,j,i,S,t,Q,P,q,r,u,rfl,rfl,B,N,L,J,k,I,d⟩:=g.box p word on;obtain rfl:=k (by simp);rw[show [a].length=1 from rfl] at *;have E:Aside _:=d;have D:Aside _:=z;have f:Wt A h h.drew:=Wt.jy h;have m:=v h.drew N.drew;clear v z d g;rcases hF with⟨rfl,rfl⟩|⟨rfl,rfl⟩|⟨rfl,rfl⟩;all_goals
  first
   |go_enter Tryz.func50,Tryz.ntmps50
   |go_enter Tryz.func45,Tryz.ntmps45
   |go_enter Tryz.func46,Tryz.ntmps46
  go_upto_region 1 with fail
  rw[<-B,<-u];clear B u;go_region_held (fun b=>b.cell? ⟨cb,0,none⟩=some (wp kb)/\b.cell? ⟨x,0,none⟩=some (.int .i64 p)/\b.cell? ⟨x,1,none⟩=some (tx word)/\b.cell? ⟨x,2,none⟩=some (.slice (some ⟨j,i,none⟩) 1 t)/\b.cell? ⟨x,3,none⟩=some (.slice q ts.length r)/\b.cell? ⟨x,4,none⟩=some (.bool on)/\b.cell? ⟨j,i,none⟩=some (.int .i64 a)) (exact(E.out _ f).n10) (first
   |((first|go_at_call 97|go_at_call 92|go_at_call 93);refine m.mono ?_;rintro y o ⟨e,rfl,s,G⟩;have f:=G.gI;have M:=told_none o (E.out o f).gl p word (.slice (some ⟨j,i,none⟩) 1 t) (.slice q ts.length r) on e H)
   |(go_at_call 85;refine M.mono ?_;rintro y O ⟨⟨l,rfl⟩|⟨l,rfl⟩,n⟩;rotate_left;exact⟨rfl,e,.inr ⟨l,rfl⟩,D.out _ _ _ s n⟩;have f:=f.trans (.below A n)))
  all_goals
   go_wp2_with fail
   go_ret;exact⟨e,.inl ⟨l,rfl⟩,D.out _ _ _ s n⟩
theorem abh(g:Gv w A cb kb nv tv ns ts)(D:word.length<=100000)(s:∀V,Below w.heap.size w V->Calls prog 96 #[wp kb,.int .i64 p] V (XO A R V))(t:∀c V v,R c V->Below V.heap.size V v->R c v):Calls prog 49 #[wp cb,gH p word nv tv on] w fun e a=>∃c,TO word c e/\R c a:=by
 obtain⟨x,f,O,N,o,q,M,L,l,m,r,rfl,rfl,u,J,H,F,G,E,b⟩:=g.box p word on;have B:Aside _:=b;have z:Aside _:=t;have d:Wt A f f.drew:=Wt.jy f;have i:=s f.drew J.drew;clear s t b g;go_enter Tryz.func49,Tryz.ntmps49
 go_upto_region 1 with fail
 rw[<-u,<-r];clear u r;go_region_held (fun a=>a.cell? ⟨cb,0,none⟩=some (wp kb)/\a.cell? ⟨x,0,none⟩=some (.int .i64 p)/\a.cell? ⟨x,1,none⟩=some (tx word)/\a.cell? ⟨x,2,none⟩=some (.slice o ns.length q)/\a.cell? ⟨x,3,none⟩=some (.slice l ts.length m)/\a.cell? ⟨x,4,none⟩=some (.bool on)) (exact(B.out _ d).Zm) (first
  |(go_at_call 96;refine i.mono ?_;rintro y k ⟨e,rfl,n,C⟩;have d:=C.gI;have I:=told_none k (B.out k d).gl p word (.slice o ns.length q) (.slice l ts.length m) on e D)
  |(go_at_call 85;refine I.mono ?_;rintro y K ⟨⟨h,rfl⟩|⟨h,rfl⟩,j⟩;rotate_left;exact⟨rfl,e,.inr ⟨h,rfl⟩,z.out _ _ _ n j⟩;have d:=d.trans (.below A j)))
 all_goals
  go_wp2_with fail
  go_ret;exact⟨e,.inl ⟨h,rfl⟩,z.out _ _ _ n j⟩
theorem QZ{F K:Nat}(hF:(F=53/\K=100)\/(F=54/\K=101)\/(F=69/\K=118)\/(F=48/\K=95)\/(F=66/\K=115))(g:Gv w A cb kb nv tv [a,b] ts)(I:word.length<=100000)(z:∀V,Below w.heap.size w V->Calls prog K #[wp kb,.int .i64 p,.int .i64 a,.int .i64 b] V (XO A R V))(B:∀c V D,R c V->Below V.heap.size V D->R c D):Calls prog F #[wp cb,gH p word nv tv on] w fun e d=>∃c,TO word c e/\R c d:=by
 obtain⟨x,i,k,j,T,u,S,Q,r,s,v,rfl,rfl,C,O,M,L,l,J,f⟩:=g.box p word on;obtain rfl:=l (by simp);rw[show [a,b].length=2 from rfl] at *;have G:Aside _:=f;have E:Aside _:=B;have h:Wt A i i.drew:=Wt.jy i;have n:=z i.drew O.drew;clear z B f g;rcases hF with⟨rfl,rfl⟩|⟨rfl,rfl⟩|⟨rfl,rfl⟩|⟨rfl,rfl⟩|⟨rfl,rfl⟩;all_goals
  first
   |go_enter Tryz.func53,Tryz.ntmps53
   |go_enter Tryz.func54,Tryz.ntmps54
   |go_enter Tryz.func69,Tryz.ntmps69
   |go_enter Tryz.func48,Tryz.ntmps48
   |go_enter Tryz.func66,Tryz.ntmps66
  go_upto_region 1 with fail
  rw[<-C,<-v];clear C v;go_region_held (fun d=>d.cell? ⟨cb,0,none⟩=some (wp kb)/\d.cell? ⟨x,0,none⟩=some (.int .i64 p)/\d.cell? ⟨x,1,none⟩=some (tx word)/\d.cell? ⟨x,2,none⟩=some (.slice (some ⟨k,j,none⟩) 2 u)/\d.cell? ⟨x,3,none⟩=some (.slice r ts.length s)/\d.cell? ⟨x,4,none⟩=some (.bool on)/\d.cell? ⟨k,j,none⟩=some (.int .i64 a)/\d.cell? ⟨k,j+1,none⟩=some (.int .i64 b)) (exact(G.out _ h).n20) (first
   |((first|go_at_call 100|go_at_call 101|go_at_call 118|go_at_call 95|go_at_call 115);refine n.mono ?_;rintro y q ⟨e,rfl,t,H⟩;have h:=H.gI;have N:=told_none q (G.out q h).gl p word (.slice (some ⟨k,j,none⟩) 2 u) (.slice r ts.length s) on e I)
   |(go_at_call 85;refine N.mono ?_;rintro y P ⟨⟨m,rfl⟩|⟨m,rfl⟩,o⟩;rotate_left;exact⟨rfl,e,.inr ⟨m,rfl⟩,E.out _ _ _ t o⟩;have h:=h.trans (.below A o)))
  all_goals
   go_wp2_with fail
   go_ret;exact⟨e,.inl ⟨m,rfl⟩,E.out _ _ _ t o⟩
theorem acF{F K:Nat}(hF:(F=52/\K=99)\/(F=59/\K=107))(g:Gv w A cb kb nv tv [a] ts)(H:word.length<=100000)(v:∀V,Below w.heap.size w V->Calls prog K #[wp kb,.int .i64 p,.int .i64 a,.bool on] V (XO A R V))(z:∀c V C,R c V->Below V.heap.size V C->R c C):Calls prog F #[wp cb,gH p word nv tv on] w fun e b=>∃c,TO word c e/\R c b:=by
 obtain⟨x,h,j,i,S,t,Q,P,q,r,u,rfl,rfl,B,N,L,J,k,I,d⟩:=g.box p word on;obtain rfl:=k (by simp);rw[show [a].length=1 from rfl] at *;have E:Aside _:=d;have D:Aside _:=z;have f:Wt A h h.drew:=Wt.jy h;have m:=v h.drew N.drew;clear v z d g;rcases hF with⟨rfl,rfl⟩|⟨rfl,rfl⟩;all_goals
  first
   |go_enter Tryz.func52,Tryz.ntmps52
   |go_enter Tryz.func59,Tryz.ntmps59
  go_upto_region 1 with fail
  rw[<-B,<-u];clear B u;go_region_held (fun b=>b.cell? ⟨cb,0,none⟩=some (wp kb)/\b.cell? ⟨x,0,none⟩=some (.int .i64 p)/\b.cell? ⟨x,1,none⟩=some (tx word)/\b.cell? ⟨x,2,none⟩=some (.slice (some ⟨j,i,none⟩) 1 t)/\b.cell? ⟨x,3,none⟩=some (.slice q ts.length r)/\b.cell? ⟨x,4,none⟩=some (.bool on)/\b.cell? ⟨j,i,none⟩=some (.int .i64 a)) (exact(E.out _ f).n10) (first
   |((first|go_at_call 99|go_at_call 107);refine m.mono ?_;rintro y o ⟨e,rfl,s,G⟩;have f:=G.gI;have M:=told_none o (E.out o f).gl p word (.slice (some ⟨j,i,none⟩) 1 t) (.slice q ts.length r) on e H)
   |(go_at_call 85;refine M.mono ?_;rintro y O ⟨⟨l,rfl⟩|⟨l,rfl⟩,n⟩;rotate_left;exact⟨rfl,e,.inr ⟨l,rfl⟩,D.out _ _ _ s n⟩;have f:=f.trans (.below A n)))
  all_goals
   go_wp2_with fail
   go_ret;exact⟨e,.inl ⟨l,rfl⟩,D.out _ _ _ s n⟩
theorem acE{F K:Nat}(hF:(F=58/\K=106)\/(F=63/\K=111))(g:Gv w A cb kb nv tv [a,b,c] ts)(I:word.length<=100000)(z:∀V,Below w.heap.size w V->Calls prog K #[wp kb,.int .i64 p,.int .i64 a,.int .i64 b,.int .i64 c] V (XO A R V))(B:∀c V D,R c V->Below V.heap.size V D->R c D):Calls prog F #[wp cb,gH p word nv tv on] w fun e d=>∃c,TO word c e/\R c d:=by
 obtain⟨x,k,i,h,T,u,S,Q,r,s,v,rfl,rfl,C,O,M,L,l,J,f⟩:=g.box p word on;obtain rfl:=l (by simp);rw[show [a,b,c].length=3 from rfl] at *;have G:Aside _:=f;have E:Aside _:=B;have j:Wt A k k.drew:=Wt.jy k;have n:=z k.drew O.drew;clear z B f g;rcases hF with⟨rfl,rfl⟩|⟨rfl,rfl⟩;all_goals
  first
   |go_enter Tryz.func58,Tryz.ntmps58
   |go_enter Tryz.func63,Tryz.ntmps63
  go_upto_region 1 with fail
  rw[<-C,<-v];clear C v;go_region_held (fun d=>d.cell? ⟨cb,0,none⟩=some (wp kb)/\d.cell? ⟨x,0,none⟩=some (.int .i64 p)/\d.cell? ⟨x,1,none⟩=some (tx word)/\d.cell? ⟨x,2,none⟩=some (.slice (some ⟨i,h,none⟩) 3 u)/\d.cell? ⟨x,3,none⟩=some (.slice r ts.length s)/\d.cell? ⟨x,4,none⟩=some (.bool on)/\d.cell? ⟨i,h,none⟩=some (.int .i64 a)/\d.cell? ⟨i,h+1,none⟩=some (.int .i64 b)/\d.cell? ⟨i,h+2,none⟩=some (.int .i64 c)) (exact(G.out _ j).n30) (first
   |((first|go_at_call 106|go_at_call 111);refine n.mono ?_;rintro y q ⟨e,rfl,t,H⟩;have j:=H.gI;have N:=told_none q (G.out q j).gl p word (.slice (some ⟨i,h,none⟩) 3 u) (.slice r ts.length s) on e I)
   |(go_at_call 85;refine N.mono ?_;rintro y P ⟨⟨m,rfl⟩|⟨m,rfl⟩,o⟩;rotate_left;exact⟨rfl,e,.inr ⟨m,rfl⟩,E.out _ _ _ t o⟩;have j:=j.trans (.below A o)))
  all_goals
   go_wp2_with fail
   go_ret;exact⟨e,.inl ⟨m,rfl⟩,E.out _ _ _ t o⟩
theorem acD{F K:Nat}(hF:(F=60/\K=108)\/(F=68/\K=117))(g:Gv w A cb kb nv tv ns [s])(H:word.length<=100000)(v:∀V,Below w.heap.size w V->Calls prog K #[wp kb,.int .i64 p,tx s] V (XO A R V))(z:∀c V C,R c V->Below V.heap.size V C->R c C):Calls prog F #[wp cb,gH p word nv tv on] w fun e a=>∃c,TO word c e/\R c a:=by
 obtain⟨x,f,S,Q,r,t,i,h,P,o,u,rfl,rfl,B,N,L,I,J,j,b⟩:=g.box p word on;obtain rfl:=j (by simp);rw[show [s].length=1 from rfl] at *;have E:Aside _:=b;have D:Aside _:=z;have d:Wt A f f.drew:=Wt.jy f;have l:=v f.drew N.drew;clear v z b g;rcases hF with⟨rfl,rfl⟩|⟨rfl,rfl⟩;all_goals
  first
   |go_enter Tryz.func60,Tryz.ntmps60
   |go_enter Tryz.func68,Tryz.ntmps68
  go_upto_region 1 with fail
  rw[<-B,<-u];clear B u;go_region_held (fun a=>a.cell? ⟨cb,0,none⟩=some (wp kb)/\a.cell? ⟨x,0,none⟩=some (.int .i64 p)/\a.cell? ⟨x,1,none⟩=some (tx word)/\a.cell? ⟨x,2,none⟩=some (.slice r ns.length t)/\a.cell? ⟨x,3,none⟩=some (.slice (some ⟨i,h,none⟩) 1 o)/\a.cell? ⟨x,4,none⟩=some (.bool on)/\a.cell? ⟨i,h,none⟩=some (tx s)) (exact(E.out _ d).n01) (first
   |((first|go_at_call 108|go_at_call 117);refine l.mono ?_;rintro y n ⟨e,rfl,q,G⟩;have d:=G.gI;have M:=told_none n (E.out n d).gl p word (.slice r ns.length t) (.slice (some ⟨i,h,none⟩) 1 o) on e H)
   |(go_at_call 85;refine M.mono ?_;rintro y O ⟨⟨k,rfl⟩|⟨k,rfl⟩,m⟩;rotate_left;exact⟨rfl,e,.inr ⟨k,rfl⟩,D.out _ _ _ q m⟩;have d:=d.trans (.below A m)))
  all_goals
   go_wp2_with fail
   go_ret;exact⟨e,.inl ⟨k,rfl⟩,D.out _ _ _ q m⟩
theorem acC{F K:Nat}(hF:(F=55/\K=102)\/(F=65/\K=114))(g:Gv w A cb kb nv tv ns [s,t])(I:word.length<=100000)(z:∀V,Below w.heap.size w V->Calls prog K #[wp kb,.int .i64 p,tx s,tx t] V (XO A R V))(B:∀c V D,R c V->Below V.heap.size V D->R c D):Calls prog F #[wp cb,gH p word nv tv on] w fun e a=>∃c,TO word c e/\R c a:=by
 obtain⟨x,f,T,S,r,u,i,h,Q,o,v,rfl,rfl,C,O,M,J,L,j,b⟩:=g.box p word on;obtain rfl:=j (by simp);rw[show [s,t].length=2 from rfl] at *;have G:Aside _:=b;have E:Aside _:=B;have d:Wt A f f.drew:=Wt.jy f;have l:=z f.drew O.drew;clear z B b g;rcases hF with⟨rfl,rfl⟩|⟨rfl,rfl⟩;all_goals
  first
   |go_enter Tryz.func55,Tryz.ntmps55
   |go_enter Tryz.func65,Tryz.ntmps65
  go_upto_region 1 with fail
  rw[<-C,<-v];clear C v;go_region_held (fun a=>a.cell? ⟨cb,0,none⟩=some (wp kb)/\a.cell? ⟨x,0,none⟩=some (.int .i64 p)/\a.cell? ⟨x,1,none⟩=some (tx word)/\a.cell? ⟨x,2,none⟩=some (.slice r ns.length u)/\a.cell? ⟨x,3,none⟩=some (.slice (some ⟨i,h,none⟩) 2 o)/\a.cell? ⟨x,4,none⟩=some (.bool on)/\a.cell? ⟨i,h,none⟩=some (tx s)/\a.cell? ⟨i,h+1,none⟩=some (tx t)) (exact(G.out _ d).n02) (first
   |((first|go_at_call 102|go_at_call 114);refine l.mono ?_;rintro y n ⟨e,rfl,q,H⟩;have d:=H.gI;have N:=told_none n (G.out n d).gl p word (.slice r ns.length u) (.slice (some ⟨i,h,none⟩) 2 o) on e I)
   |(go_at_call 85;refine N.mono ?_;rintro y P ⟨⟨k,rfl⟩|⟨k,rfl⟩,m⟩;rotate_left;exact⟨rfl,e,.inr ⟨k,rfl⟩,E.out _ _ _ q m⟩;have d:=d.trans (.below A m)))
  all_goals
   go_wp2_with fail
   go_ret;exact⟨e,.inl ⟨k,rfl⟩,E.out _ _ _ q m⟩
end
end
section
open Go.RowKit Go.Maps
abbrev Dz(f:az)(k:Nat)(cb:Nat):Value:=.agg #[tx f,.func (.func k) #[wp cb] #[]]
abbrev Lj:=List (az×az×Nat)
def bq(x:az):Lj->Option (az×Nat)
 | []=>none
 |(n,f,k)::l=>if x=n then some (f,k) else bq x l
def BJ(cb:Nat)(L:Lj):az->Option Value:=fun x=>(bq x L).map fun y=>Dz y.1 y.2 cb
def TM(w:World)(cb g:Nat)(L:Lj):Prop:=∃n,n<=L.length/\SMap w g n (BJ cb L)
theorem TM.new(w:World)(a:Nat):TM (w.alloc (.map #[] 0)) a w.heap.size []:=⟨0,le_refl _,SMap.made w⟩
theorem TM.keep{w w':World}{a g:Nat}{L:Lj}(h:TM w a g L)(k:w'.heap[g]? = w.heap[g]?):TM w' a g L:=by
 obtain⟨n,b,m⟩:=h;exact⟨n,b,m.keep k⟩
theorem TM.lt{w:World}{a g:Nat}{L:Lj}(h:TM w a g L):g<w.heap.size:=by
 obtain⟨n,b,m⟩:=h;exact m.lt
theorem xy{l:Array Oper}{b:List Oper}{o:Oper}{a:Act}{w w0:World}{n0:Nat}{Q:Exit->Act->World->Prop}(u:o.guard=none)(m x v:Operand)(t:TypeId)(s:o.op=Op.insert t m x v)
 (e:TypeId) (D:prog.underlying t=some (.map 9 e)) (c g:Nat) (L:Lj) (E:a.eval m=.map (some g)) (q:TM w c g L) (r:Below n0 w0 w) (M:n0<=g) (N:L.length<=100) (k f:az) (fn:Nat) (B:a.eval x=tx k) (K:k.length<=100) (C:a.eval v=Dz f fn c)
 (h:∀d,TM d c g ((k,f,fn)::L)->Below n0 w0 d->wpList prog l Q b (a.put o.dst undef) d):wpList prog l Q (o::b) a w:=by
 refine wpList_plain u fun O y=>?_;obtain⟨n,J,A⟩:=q;have F:=A.lt;have I:(100:Nat)<maxLen:=by decide
 obtain⟨d,p,z,j⟩:=A.put D (by omega) k (by omega) (Dz f fn c);unfold Oper.wp;simp[execOp,s,E,B,C,p,Result.andThen];have H:(fun i=>if i=k then some (Dz f fn c) else BJ c L i)=BJ c ((k,f,fn)::L):=by
  funext i;unfold BJ;rw[bq];split<;>rfl
 rw[H] at z;refine y _ _ (h d ⟨_,?_,z⟩ ?_)
 ·rw[length_cons];split<;>omega
 ·exact⟨j.os.trans r.os,j.tape.trans r.tape,j.output.trans r.output,le_trans r.size j.size,fun i G=>(j.block i (by omega) (by simp;omega)).trans (r.block i G)⟩
def df:Lj:=[([119,114,105,116,101],[78,84],71),([119,97,105,116],[],70),([117,110,109,97,112],[78,78],69),([117,110,108,105,110,107],[84],68),([115,116,111,114,101],[78,78,78],67),([115,101,101,107],[78,78],66),([114,101,110,97,109,101],[84,84],65),([114,101,97,100],[78,78],64),([112,114,111,116,101,99,116],[78,78,78],63),([112,105,112,101],[],62),([111,112,101,110],[84,78,89],61),([109,107,100,105,114],[84],60),([109,97,114,107],[78,89],59),([109,97,112],[78,78,78],58),([108,111,97,100],[78,78],57),([108,105,115,116],[84],56),([108,105,110,107],[84,84],55),([108,105,109,105,116],[78,78],54),([107,105,108,108],[78,78],53),([105,103,110,111,114,101],[78,89],52),([102,111,114,107],[],51),([101,120,105,116],[78],50),([101,120,101,99],[],49),([100,117,112,50],[78,78],48),([100,117,112],[78],47),([99,108,111,115,101],[78],46),([97,100,106,117,115,116],[78],45)]
def dH:Lj:=[([112,105,100,115],[],44),([110,101,119],[78],43),([104,101,108,112],[],42),([104,97,115],[78],41),([102,114,101,101],[],40)]
theorem Fj(w:World)(f:Nat):Calls prog 21 #[wp f] w fun e h=>∃g,e=.returned (.map (some g))/\TM h f g dH/\w.heap.size<=g/\Below w.heap.size w h:=by
 have k:=@run_makeMap prog;have l:∀(i:Fn) (a c:Array Value) (w:World),(Instr.makeFunc i a c).run prog w=.ok (.func i a c) w:=fun _ _ _ _=>rfl;have b:=TM.new w f;have d:Below w.heap.size w (w.alloc (.map #[] 0)):=(Below.refl _ _).alloc (le_refl _) _;obtain⟨g,m⟩:∃g,w.heap.size=g:=⟨_,rfl⟩;have j:w.heap.size<=g:=by omega
 rw[m] at b;go_enter Tryz.func21,Tryz.ntmps21
 go_wp2_with (refine xy rfl _ _ _ 68 rfl 83 underlying68 f g _ rfl b d j (by simp) _ _ _ rfl (by simp) rfl ?_;clear b d;intro n b d)
 go_ret;exact⟨g,rfl,b,j,d⟩
theorem IM(w:World)(f:Nat):Calls prog 22 #[wp f] w fun e h=>∃g,e=.returned (.map (some g))/\TM h f g df/\w.heap.size<=g/\Below w.heap.size w h:=by
 have k:=@run_makeMap prog;have l:∀(i:Fn) (a c:Array Value) (w:World),(Instr.makeFunc i a c).run prog w=.ok (.func i a c) w:=fun _ _ _ _=>rfl;have b:=TM.new w f;have d:Below w.heap.size w (w.alloc (.map #[] 0)):=(Below.refl _ _).alloc (le_refl _) _;obtain⟨g,m⟩:∃g,w.heap.size=g:=⟨_,rfl⟩;have j:w.heap.size<=g:=by omega
 rw[m] at b;go_enter Tryz.func22,Tryz.ntmps22
 go_upto_region 1 with fail
 simp only[List.append_eq,List.cons_append,List.nil_append];go_wp2_with (refine xy rfl _ _ _ 68 rfl 83 underlying68 f g _ rfl b d j (by simp) _ _ _ rfl (by simp) rfl ?_;clear b d;intro n b d)
 go_ret;exact⟨g,rfl,b,j,d⟩
def WV(w:World)(v:Value)(ws:List az):Prop:=∃ad cap,v=.slice ad ws.length cap/\ws.length<=cap/\Vh w ad ws
theorem FX(w:World):(zeroValue 83).run prog w=.ok (.agg #[.string { data:=#[] },.nilFunc]) w:=by kernel_rfl
def yM(cb:Nat)(L:Lj)(ws:List az)(e:Ending):Prop:=
 match ws with
 | []=>e=thrown (eF 3)
 |x::_=>match bq x L with
  |none=>e=thrown (eF 3)
  |some y=>e=.returned (Dz y.1 y.2 cb)
theorem GV(w:World){b g:Nat}{L:Lj}(r:TM w b g L){v:Value}{d:List az}(F:WV w v d)(B:∀x∈d,x.length<=100000):Calls prog 31 #[.map (some g),v] w fun e u=>yM b L d e/\Below w.heap.size w u:=by
 obtain⟨N,K,rfl,j,I⟩:=F;cases d with
 |nil=>
  go_enter func31,ntmps31
  go_wp2_with fail
  exact⟨rfl,rfl,(Below.refl _ _).alloc (le_refl _) _⟩
 |cons x d=>
  rcases I with J|⟨l,h,rfl,q,i⟩
  ·cases J
  have M:∀o,(w.alloc o).cell? ⟨l,h,none⟩=some (tx x):=fun o=>by rw[World.cell?_alloc_lt _ _ ⟨l,h,none⟩ q];exact i 0 (by simp)
  have D:∀o,Below w.heap.size w (w.alloc o):=fun o=>(Below.refl _ _).alloc (le_refl _) _;have C:∀o z,Below w.heap.size w ((w.alloc o).alloc z):=fun o z=>(D o).alloc (by simp) _;have E:=B x mem_cons_self;have k:∀o,∃n,SMap (w.alloc o) g n (BJ b L):=fun o=>by
   obtain⟨n,_,m⟩:=r.keep (w':=w.alloc o) ((D o).block g r.lt);exact⟨n,m⟩
  have t:x.length<=maxLen:=by have:(100000:Nat)<=maxLen:=by decide
                              omega
  have p:Aside (BJ b L x=(bq x L).map fun y=>Dz y.1 y.2 b):=rfl;unfold yM;simp only[];clear i j B r;obtain⟨n,A⟩:=k (.cells #[.string { data:=#[] },.nilFunc] 83);clear k;have H:∀(a:Addr) (V:World),(store a .nilFunc).run prog V=stored prog V a .nilFunc .plain:=fun a V=>run_store _ _ _ _ _ rfl;have G:∀(a:Addr) (s:Fn) (f c:Array Value) (V:World),(store a (.func s f c)).run prog V=stored prog V a (.func s f c) .plain:=fun a s f c V=>run_store _ _ _ _ _ rfl;cases hf:bq x L with
  |none=>
   rw[hf] at p;go_enter func31,ntmps31
   go_wp2_with (refine fT rfl _ _ 68 rfl 83 underlying68 _ (FX _) g n _ rfl A x rfl t ?_;rw[p.out])
   exact⟨rfl,rfl,C _ _⟩
  |some y=>
   rw[hf] at p;go_enter func31,ntmps31
   go_wp2_with (refine fT rfl _ _ 68 rfl 83 underlying68 _ (FX _) g n _ rfl A x rfl t ?_;rw[p.out])
   refine bodyPost_ret (v:=Dz y.1 y.2 b) (by simp[results,Tryz.results31,go_sem]) rfl ⟨rfl,C _ _⟩
theorem FH.row{α:Type}{f:α->Value}{A:Nat->Prop}{w:World}{n0:Nat}{t:TypeId}{v:Value}{L:List α}(h:w.ownsRow n0 t 1 v L.length (L.map f))(c:∀i,A i->i<n0)(m:n0<=w.heap.size):FH f A w v L:=by
 rcases h.2 with⟨rfl,j⟩|⟨g,b,l,rfl,d,n,e,_⟩
 ·have k:L=[]:=List.eq_nil_of_length_eq_zero j;subst k;exact⟨w.heap.size,0,none,0,rfl,le_refl _,fun h=>absurd rfl h,fun z=>by have:=c _ z;omega,fun i a=>by simp at a⟩
 ·refine⟨g,0,_,b,rfl,e,fun _=>rfl,fun z=>by have:=c _ z;omega,fun i a=>?_⟩;have:=h.cells (g:=g) rfl i (f L[i]) (by simp[a]);rw[zero_add,<-this];simp[Addr.add_lit]
def SO(A:Nat->Prop)(R:Bool->Int->World->Prop)(V:World)(y:Ending)(w':World):Prop:=∃z e,y=.returned (.tuple #[.bool z,aI e])/\R z e w'/\Wt A V w'
structure abu (w:World) (A:Nat->Prop) (cb kb:Nat) (p:Int) (ws:List az) (R:Bool->Int->World->Prop) (Post:Ending->World->Prop):Prop where
 sig:∀V,Below w.heap.size w V->Calls prog 76 #[wp kb,.int .i64 p] V (SO A R V)
 no:∀V,Below w.heap.size w V->(ws=[]\/∃x rest,ws=x::rest/\bq x df=none)->Post (thrown (eF 3)) V
 err:∀x rest y,ws=x::rest->bq x df=some y->∀V z e,e≠0->R z e V->Post (thrown (eF e)) V
 ends:∀x rest y,ws=x::rest->bq x df=some y->∀V,R true 0 V->Post (.returned (tx [101,110,100,101,100])) V
 form:∀x rest y,ws=x::rest->bq x df=some y->gJ y.1 rest=none->∀V0 V,R false 0 V0->Below V0.heap.size V0 V->Post (thrown (eF 3)) V
 tell:∀x rest y ns ts on,ws=x::rest->bq x df=some y->gJ y.1 rest=some (ns,ts,on)->∀V0 V nv tv,R false 0 V0->Below V0.heap.size V0 V->V.ownsRow V0.heap.size 3 1 nv ns.length (ns.map (Value.int .i64))->V.ownsRow V0.heap.size 9 1 tv ts.length (ts.map fun x=>tx x)->
  Calls prog y.2 #[wp cb,gH p x nv tv on] V fun e w'=>Post e w'/\((∃t,e=.returned (tx t))\/∃v,e=thrown v)
theorem wR{X:az×Nat->Prop}{x:az}{y:az×Nat}:∀ {L:Lj},(∀z∈L,X z.2)->bq x L=some y->X y:=fun {L}=>by
 induction L with
 |nil=>intro _ h;cases h
 |cons z L ih=>
  intro a h;unfold bq at h;split at h
  ·cases h;exact a z mem_cons_self
  ·exact ih (fun z b=>a z (mem_cons_of_mem _ b)) h
def Entry(y:az×Nat):Prop:=(∀args w,(callFunc y.2 args).run prog w=.ok (.enter y.2 args) w)/\y.1.length<=100
theorem Iz{x:az}{y:az×Nat}(h:bq x df=some y):Entry y:=by
 refine wR ?_ h;unfold df;repeat' first
  |exact fun z b=>absurd b not_mem_nil
  |refine List.forall_mem_cons.2 ⟨⟨fun a w=>by kernel_rfl,by decide⟩,?_⟩
theorem Fe{x:az}{y:az×Nat}(h:bq x dH=some y):Entry y:=by
 refine wR ?_ h;unfold dH;repeat' first
  |exact fun z b=>absurd b not_mem_nil
  |refine List.forall_mem_cons.2 ⟨⟨fun a w=>by kernel_rfl,by decide⟩,?_⟩
theorem Td{w:World}{A:Nat->Prop}{j kb g:Nat}{p:Int}{v:Value}{T:List az}{R:Bool->Int->World->Prop}{Post:Ending->World->Prop}(h:abu w A j kb p T R Post)(r:∀i,A i->i<w.heap.size)(s:∀i,A i->9<=i)(gl:GL w)(hca:¬A j)(c0:w.cell? ⟨j,0,none⟩=some (wp kb))(K:w.cell? ⟨j,2,none⟩=some (.map (some g)))(M:TM w j g df)(hw:WV w v T)(fB:∀V,Wt A w V->WV V v T)(L:∀x∈T,x.length<=100000):Calls prog 30 #[wp j,.int .i64 p,v] w Post:=by
 have hF:=GV w M hw L;have H:Aside _:=h;cases T with
 |nil=>
  clear h r s gl hw fB L M;go_enter func30,ntmps30
  go_wp2_with (go_at_call 31;refine hF.mono ?_;rintro e d ⟨rfl,m⟩)
  exact⟨rfl,H.out.no _ m (.inl rfl)⟩
 |cons x rest=>
  cases hf:bq x df with
  |none=>
   have D:Calls prog 31 #[.map (some g),v] w fun e o=>e=thrown (eF 3)/\Below w.heap.size w o:=hF.mono fun e o z=>⟨by have:=z.1;unfold yM at this;simp only[hf] at this;exact this,z.2⟩;clear h r s gl hw fB L M hF;go_enter func30,ntmps30
   go_wp2_with (go_at_call 31;refine D.mono ?_;rintro e d ⟨rfl,m⟩)
   exact⟨rfl,H.out.no _ m (.inr ⟨x,rest,rfl,hf⟩)⟩
  |some y=>
   have D:Calls prog 31 #[.map (some g),v] w fun e o=>e=.returned (Dz y.1 y.2 j)/\Below w.heap.size w o:=hF.mono fun e o z=>⟨by have:=z.1;unfold yM at this;simp only[hf] at this;exact this,z.2⟩;obtain⟨ef,X⟩:=Iz hf;have hx:=L x mem_cons_self;have W:∀z∈rest,z.length<=100000:=fun z hz=>L z (mem_cons_of_mem _ hz);have HK:Aside (∀d,Below w.heap.size w d->∀V,Wt A (d.alloc (.cells #[tx y.1,.func (.func y.2) #[wp j] #[]] 83)) V->V.cell? ⟨d.heap.size,0,none⟩=some (tx y.1)/\V.cell? ⟨d.heap.size,1,none⟩=some (.func (.func y.2) #[wp j] #[])/\d.heap.size<V.heap.size/\∃E l,v=.slice E (rest.length+1) l/\Calls prog 32 #[tx y.1,.slice E (rest.length+1) l] V (sU V V.heap.size x y.1 rest)):=fun d m V k=>by
    have hb:(d.alloc (.cells #[tx y.1,.func (.func y.2) #[wp j] #[]] 83)).heap[d.heap.size]? = some (.cells #[tx y.1,.func (.func y.2) #[wp j] #[]] 83):=by
     show (d.heap.push _)[d.heap.size]? = _;rw[getElem?_push,if_pos rfl]
    have hn:¬A d.heap.size:=fun z=>by have:=r _ z;have:=m.size;omega
    have afw:d.heap.size<(d.alloc (.cells #[tx y.1,.func (.func y.2) #[wp j] #[]] 83)).heap.size:=by simp
    have k0:Wt A w V:=(Wt.below A (m.alloc m.size _)).trans k;obtain⟨E,l,e,hc,hA⟩:=fB V k0;refine⟨k.cell (p:=⟨d.heap.size,0,none⟩) (by rw[Lib.cell_of_heap hb];rfl) hn,k.cell (p:=⟨d.heap.size,1,none⟩) (by rw[Lib.cell_of_heap hb];rfl) hn,lt_of_lt_of_le afw k.size,E,l,e,?_⟩;exact Gr V (gl.wt k0 s) y.1 x rest E l hA X (by rw[length_cons] at hc;omega) W
   have HS:Aside (∀d,Below w.heap.size w d->(d.alloc (.cells #[tx y.1,.func (.func y.2) #[wp j] #[]] 83)).cell? ⟨j,0,none⟩=some (wp kb)/\Calls prog 76 #[wp kb,.int .i64 p] (d.alloc (.cells #[tx y.1,.func (.func y.2) #[wp j] #[]] 83)) (SO A R (d.alloc (.cells #[tx y.1,.func (.func y.2) #[wp j] #[]] 83)))):=fun d m=>
    ⟨(Wt.below A (m.alloc m.size _)).cell c0 hca,h.sig _ (m.alloc m.size _)⟩
   have hs1:∀(a:Addr) (V:World),(store a .nilFunc).run prog V=stored prog V a .nilFunc .plain:=fun a V=>run_store _ _ _ _ _ rfl;have hs2:∀(a:Addr) (fn:Fn) (f c:Array Value) (V:World),(store a (.func fn f c)).run prog V=stored prog V a (.func fn f c) .plain:=fun a fn f c V=>run_store _ _ _ _ _ rfl;have J:=zO;have hK1:=zP;have HR:=hf;clear h r s gl hw fB L M hF X W c0;go_enter func30,ntmps30
   go_upto_region 3 with (first
    |(go_at_call 31;refine D.mono ?_;rintro e d ⟨rfl,m⟩;obtain⟨d0,Y⟩:=HS.out d m)
    |(go_at_call 76;refine Y.mono ?_;rintro e n ⟨z,er,rfl,G,k1⟩))
   obtain⟨e0,e1,e2,E,l,ev,C⟩:=HK.out d m n k1;clear D HK HS Y k1 d0 K;by_cases he:er=0
   ·subst he;rw[aB];cases z with
    |true=>
     clear C;go_wp2_with (go_at_call 77;refine(J _).mono ?_;rintro e F ⟨rfl,I⟩;subst F)
     exact H.out.ends x rest y rfl HR n G
    |false=>
     subst ev;obtain⟨B,hB⟩:∃B,n.heap.size=B:=⟨_,rfl⟩;cases hp:gJ y.1 rest with
     |none=>
      have u:Calls prog 32 #[tx y.1,.slice E (rest.length+1) l] n fun e o=>e=thrown (eF 3)/\Below n.heap.size n o:=C.mono fun e o z=>⟨by have:=z.2;rw[hp] at this;exact this,z.1⟩;clear C;go_wp2_with (first
       |(go_at_call 77;refine(J _).mono ?_;rintro e F ⟨rfl,I⟩;subst F)
       |(go_at_call 32;refine u.mono ?_;rintro e U ⟨rfl,P⟩))
      exact⟨rfl,H.out.form x rest y rfl HR hp n U G P⟩
     |some q=>
      obtain⟨ns,ts,on⟩:=q;have u:Calls prog 32 #[tx y.1,.slice E (rest.length+1) l] n fun e o=>∃S Z Q O K N,e=.returned (gH 0 x (.slice S Z Q) (.slice O K N) on)/\Below n.heap.size n o/\Aside (o.ownsRow n.heap.size 3 1 (.slice S Z Q) ns.length (ns.map (Value.int .i64))/\o.ownsRow n.heap.size 9 1 (.slice O K N) ts.length (ts.map fun x=>tx x)):=C.mono fun e o z=>by
       obtain⟨b,z⟩:=z;rw[hp] at z;obtain⟨nv,tv,e1,G,r2⟩:=z;obtain⟨S,Q,rfl,_⟩:=BO.row G;obtain⟨O,N,rfl,_⟩:=TxV.row r2;exact⟨_,_,_,_,_,_,e1,b,G,r2⟩
      clear C;go_upto_region 8 with (first
       |(go_at_call 77;refine(J _).mono ?_;rintro e F ⟨rfl,I⟩;subst F)
       |(go_at_call 32;refine u.mono ?_;rintro e U ⟨S,Z,Q,O,K,N,rfl,P,HW⟩;have e9:U.cell? ⟨d.heap.size,1,none⟩=some (.func (.func y.2) #[wp j] #[]):=(P.cell (p:=⟨d.heap.size,1,none⟩) e2).trans e1;have e8:d.heap.size<U.heap.size:=lt_of_lt_of_le e2 P.size))
      have M:=H.out.tell x rest y ns ts on rfl HR hp n (U.alloc (.cells #[.int .i64 p,tx x,.slice S Z Q,.slice O K N,.bool on] 86)) (.slice S Z Q) (.slice O K N) G (P.alloc P.size _) (HW.out.1.alloc _) (HW.out.2.alloc _);clear u;go_wp2_with (refine M.mono ?_;rintro e w6 ⟨C,⟨t,rfl⟩|⟨v9,rfl⟩⟩;rotate_left;exact⟨rfl,C⟩)
      exact C
   ·have hK:=hK1 er;rw[ax he];clear C;go_wp2_with (go_at_call 77;refine(hK _).mono ?_;rintro e F ⟨rfl,I⟩;subst F)
    exact⟨rfl,H.out.err x rest y rfl HR n z er he G⟩
end
section
open Go.RowKit
theorem K5(p:Addr)(w:World):CallsD prog 26 #[.pointer (some p)] .returning w fun e f d=>e=.returned (.tuple #[])/\f=.returning/\d=w:=by
 have c:(Instr.typeAssert .nilIface 20 28 true).run prog w=.ok (.tuple #[.nilIface,.bool false]) w:=by kernel_rfl
 have a:replicate 10 undef=#[undef,undef,undef,undef,undef,undef,undef,undef,undef,undef]:=rfl;refine callsD_of_wpS Tryz.func26 rfl fun b h g=>?_;apply wpS_seq
 apply wpS_region
 simp[wpOpsS,go_sem,recoverD,g,Tryz.ntmps26,Exit.thenS,c,a];refine wpS_of_wp ?_;go_wp2_with fail
 exact⟨rfl,.returning,by cases b;simp_all,_,results_none rfl _ _ _,rfl,rfl,rfl⟩
theorem Fg(p:Addr)(w:World)(T:TypeId)(x:Value)(t:az)(d:Value)(f:(Instr.typeAssert (.iface T x) 20 28 true).run prog w=.ok (.tuple #[.iface T x,.bool true]) w)(q:Calls prog 5 #[.iface T x] w fun e c=>e=.returned (tx t)/\Below w.heap.size w c)(h:w.cell? p=some d)(m:w.frozen? p=false):CallsD prog 26 #[.pointer (some p)] (.panicking [{ v:=.iface T x,recovered:=false }]) w fun e k c=>e=.returned (.tuple #[])/\k=.panicking [{ v:=.iface T x,recovered:=true }]/\∃V,Below w.heap.size w V/\c=V.setCell p (tx t):=by
 have a:replicate 10 undef=#[undef,undef,undef,undef,undef,undef,undef,undef,undef,undef]:=rfl;refine callsD_of_wpS Tryz.func26 rfl fun i r n=>?_;apply wpS_seq
 apply wpS_region
 simp[wpOpsS,go_sem,recoverD,n,Tryz.ntmps26,Exit.thenS,f,a];refine wpS_of_wp ?_;have b:=block_lt_of_cell? w _ h;go_wp2_with (go_at_call 5;refine q.mono ?_;rintro e j ⟨rfl,g⟩;have o:=(g.cell b).trans h;have l:=(g.frozen b).trans m)
 exact⟨rfl,_,rfl,_,results_none rfl _ _ _,rfl,rfl,j,g,rfl⟩
end
section
open Go.RowKit Go.Maps
inductive wZ
 |say (t:az)
 |bad (c:Int)
 |lost (L:List Int) (c:Int)
def gp:wZ->az
 |.say t=>t
 |.bad c=>vX c
 |.lost L c=>Lm L c
def xV(w:World):wZ->Ending->Prop
 |.say t,e=>e=.returned (tx t)
 |.bad c,e=>e=thrown (eF c)/\dF c
 |.lost L c,e=>∃ad cap,e=thrown (FN ad L.length cap c)/\pV w ad L/\L.length<=1000/\(∀n∈L,dF n)/\dF c
def nk(n:Nat)(V w':World):Prop:=(∀i,n<=i->i<V.heap.size->w'.heap[i]? = V.heap[i]?)/\V.heap.size<=w'.heap.size/\GL w'
abbrev DW(r:Nat):List Deferred:=[{ target:=Target.fn (Fn.func 26) #[wp r],args:=#[] }]
section
variable {R:Ending→World→Prop}{tmps:Array Value}{rb:Nat}{t:az}{V:World}
theorem RN(a:tmps[4]? = some (wp rb))(b:V.cell? ⟨rb,0,none⟩=some (tx t)):(results f10 tmps).run prog V=.ok (tx t) V:=by
 have e:tmps.getD 4 undef=wp rb:=by rw[Array.getD_eq_getD_getElem?,a];rfl
 simp[results,Tryz.results10,go_sem,a,b]
theorem vk(b:tmps[4]? = some (wp rb))(c:V.cell? ⟨rb,0,none⟩=some (tx t))(h:R (.returned (tx t)) V):bodyPostD prog f10 R .ret { tmps:=tmps,defers:=DW rb } V:=by
 refine leaves_cons (f:=26) (args:=#[wp rb]) (by simp) (by simp[go_sem]) ?_;refine(K5 ⟨rb,0,none⟩ V).mono ?_;rintro e d a ⟨rfl,rfl,rfl⟩;exact⟨_,RN b c,h⟩
theorem AX{T:TypeId}{x:Value}(m:tmps[4]? = some (wp rb)){a:Value}(i:V.cell? ⟨rb,0,none⟩=some a)(l:V.frozen? ⟨rb,0,none⟩=false)(d:(Instr.typeAssert (.iface T x) 20 28 true).run prog V=.ok (.tuple #[.iface T x,.bool true]) V)
 (o:Calls prog 5 #[.iface T x] V fun e k=>e=.returned (tx t)/\Below V.heap.size V k) (h:∀c,Below V.heap.size V c->R (.returned (tx t)) (c.setCell ⟨rb,0,none⟩ (tx t))) :
 bodyPostD prog f10 R (.panic [{ v:=.iface T x,recovered:=false }]) { tmps:=tmps,defers:=DW rb } V:=by
 refine leaves_cons (f:=26) (args:=#[wp rb]) (by simp) (by simp[go_sem]) ?_;refine(Fg ⟨rb,0,none⟩ V T x t a d o i l).mono ?_;rintro e p j ⟨rfl,rfl,c,b,rfl⟩;have n:=block_lt_of_cell? V _ i;have g:c.cell? ⟨rb,0,none⟩=some a:=(b.cell n).trans i;exact⟨_,RN m (cell?_setCell_same' _ _ _ (by rw[g];rfl)),h c b⟩
theorem IL(c:Int)(V:World):(Instr.typeAssert (eF c) 20 28 true).run prog V=.ok (.tuple #[eF c,.bool true]) V:=by kernel_rfl
theorem Fh(x:Value)(V:World):(Instr.typeAssert (.iface 48 x) 20 28 true).run prog V=.ok (.tuple #[.iface 48 x,.bool true]) V:=by kernel_rfl
theorem vo{r:wZ}{v:Value}(g:GL V)(j:tmps[4]? = some (wp rb)){a:Value}(k:V.cell? ⟨rb,0,none⟩=some a)(i:V.frozen? ⟨rb,0,none⟩=false)(b:xV V r (thrown v))(h:∀l,Below V.heap.size V l->R (.returned (tx (gp r))) (l.setCell ⟨rb,0,none⟩ (tx (gp r)))):bodyPostD prog f10 R (.panic [{ v:=v,recovered:=false }]) { tmps:=tmps,defers:=DW rb } V:=by
 cases r with
 |say t=>cases b
 |bad c=>
  obtain⟨e,d⟩:=b;cases e
  exact AX j k i (IL c V) (Ib V g.pow g.er c d) h
 |lost L c=>
  obtain⟨p,f,e,d,o,n,m⟩:=b;cases e
  exact AX j k i (Fh _ V) (ER V g.pow g.er c m p L f d o n) h
end
end
section
open Go.RowKit
def Qm(Q:Exit->Act->World->Prop)(s:Nat)(p:Value)(ds:List Deferred)(PP:List PanicEntry->World->Prop):Exit->Act->World->Prop
 |.panic c,a,w=>a.tmps[s]? = some p/\a.defers=ds/\PP c w
 |.normal,a,w=>Q .normal a w
 |_,_,_=>False
section
variable {P:Program}{Q:Exit→Act→World→Prop}{s:Nat}{p:Value}{ds:List Deferred}{PP:List PanicEntry→World→Prop}
theorem Qm.put{d:Nat}(b:d≠s)(v:Value):∀c a w,Qm Q s p ds PP (.panic c) (a.put (some d) v) w->Qm Q s p ds PP (.panic c) a w:=fun c a w h=>by
 obtain⟨g,f,e⟩:=h;refine⟨?_,f,e⟩;rw[<-g];show a.tmps[s]? = (a.tmps.setIfInBounds d v)[s]?;rw[Array.getElem?_setIfInBounds_ne b]
theorem Qm.normal{a:Act}{w:World}(h:Q .normal a w):Qm Q s p ds PP .normal a w:=h
theorem EN{id:Nat}{ops:Array Oper}{a:Act}{w:World}{S:World->Prop}(PP:List PanicEntry->World->Prop)(hm:P.follows .mixedOrders=true)(hS:S w.drew)(hq:∀c tmps V,tmps[s]? = some p->PP c V->Q (.panic c) { tmps:=tmps,defers:=ds } V)
 (h:S w.drew->wpAnyH P .any ops (Qm Q s p ds PP) S ops.size (replicate ops.size false) a w.drew):(Code.region id ops true).wp P Q a w:=by
 refine Code.wp_mono (Q:=Qm Q s p ds PP) (fun e a' V hh=>?_) (wp_region_held_drew hm hS h);cases e with
 |panic c=>
  obtain⟨h1,h2,h3⟩:=hh;have e:a'={ tmps:=a'.tmps,defers:=ds }:=by rw[<-h2]
  rw[e];exact hq c a'.tmps V h1 h3
 |normal=>exact hh
 |_=>exact hh.elim
end
end
section
open Go.RowKit Go.Maps
structure Nb (w:World) (cb:Nat) (line:az) (PR:wZ->World->Prop):Prop where
 cl:∀r V V',PR r V->Wt (fun i=>i=w.heap.size) V V'->PR r V'
 gl:GL w
 big:9<=w.heap.size
 tab:∃g,w.cell? ⟨cb,1,none⟩=some (.map (some g))/\TM w cb g dH
 empty:bJ line=[]->∀V,Below w.heap.size w V->PR (.say [111,107]) V
 serve:∀x rest p,bJ line=x::rest->gP x=some p->∀V v,Below w.heap.size w V->w.heap.size<V.heap.size->YG (fun i=>i<w.heap.size) V v rest->Calls prog 30 #[wp cb,.int .i64 p,v] V fun e w'=>∃r,xV w' r e/\PR r w'/\nk w.heap.size V w'
 bad:(∃x rest,bJ line=x::rest/\gP x=none/\(bq x dH=none\/∃y,bq x dH=some y/\gJ y.1 rest=none))->∀V,Below w.heap.size w V->PR (.bad 3) V
 tell:∀x rest y ns ts on,bJ line=x::rest->gP x=none->bq x dH=some y->gJ y.1 rest=some (ns,ts,on)->∀V nv tv,Below w.heap.size w V->w.heap.size<V.heap.size->V.ownsRow w.heap.size 3 1 nv ns.length (ns.map (Value.int .i64))->V.ownsRow w.heap.size 9 1 tv ts.length (ts.map fun x=>tx x)->
  Calls prog y.2 #[wp cb,gH 0 x nv tv on] V fun e w'=>∃r,xV w' r e/\PR r w'/\nk w.heap.size V w'
theorem vg{w:World}{r:wZ}{e:Ending}(h:xV w r e):(∃t,r=.say t/\e=.returned (tx t))\/∃v,e=thrown v:=by
 cases r with
 |say t=>exact .inl ⟨t,rfl,h⟩
 |bad c=>exact .inr ⟨_,h.1⟩
 |lost L c=>obtain⟨b,a,e,_⟩:=h;exact .inr ⟨_,e⟩
theorem nk.at{n b:Nat}{V w':World}(h:nk n V w')(f:n<=b){v:Value}(c:V.cell? ⟨b,0,none⟩=some v)(d:V.frozen? ⟨b,0,none⟩=false):w'.cell? ⟨b,0,none⟩=some v/\w'.frozen? ⟨b,0,none⟩=false:=by
 have e:=h.1 b f (block_lt_of_cell? V _ c);exact⟨(cell?_of_block (w:=V) (a:=⟨b,0,none⟩) e).trans c,(World.frozen?_of_block (w:=V) (a:=⟨b,0,none⟩) e).trans d⟩
theorem ZV{V V':World}{a:Nat}(b:Below V.heap.size V V')(x:Value):Wt (fun i=>i=a) V (V'.setCell ⟨a,0,none⟩ x):=
 ⟨b.os,b.tape,b.output,by simpa[World.setCell] using b.size,fun i d c=>(Below.heap_setCell _ _ _ _ c).trans (b.block i d)⟩
def Yu(PR:wZ->World->Prop)(rb:Nat)(c:List PanicEntry)(V:World):Prop:=∃v r,c=[{ v:=v,recovered:=false }]/\xV V r (thrown v)/\GL V/\V.cell? ⟨rb,0,none⟩=some (tx [])/\V.frozen? ⟨rb,0,none⟩=false/\PR r V
theorem Qr{w:World}{cb:Nat}{line:az}{PR:wZ->World->Prop}(h:Nb w cb line PR)(hl:line.length<=100000):Calls prog 10 #[wp cb,tx line] w fun e w'=>∃r,e=.returned (tx (gp r))/\PR r w':=by
 have hmf:∀(fn:Fn) (first cap:Array Value) (w:World),(Instr.makeFunc fn first cap).run prog w=.ok (.func fn first cap) w:=fun _ _ _ _=>rfl;have H:Aside _:=h;have bA:Below w.heap.size w (w.alloc (.cells #[.string { data:=#[] }] 9)):=(Below.refl _ _).alloc (le_refl _) _;obtain⟨rb,hrb⟩:∃rb,w.heap.size=rb:=⟨_,rfl⟩;obtain⟨wA,fB⟩:∃wA,w.alloc (.cells #[.string { data:=#[] }] 9)=wA:=⟨_,rfl⟩;have hrc:wA.cell? ⟨rb,0,none⟩=some (tx []):=by rw[<-fB,<-hrb];exact World.cell?_alloc_at _ _ _ _ rfl
 have hrz:wA.frozen? ⟨rb,0,none⟩=false:=by rw[<-fB,<-hrb];simp
 rw[fB] at bA;have HB:Aside (∀V,Below wA.heap.size wA V->Below w.heap.size w V/\V.cell? ⟨rb,0,none⟩=some (tx [])/\V.frozen? ⟨rb,0,none⟩=false/\rb<V.heap.size):=fun V b=>by
  have hlt:=block_lt_of_cell? wA _ hrc;exact⟨bA.trans (b.mono bA.size),(b.cell hlt).trans hrc,(b.frozen hlt).trans hrz,lt_of_lt_of_le hlt b.size⟩
 have HC:Aside (∀r V V' x,PR r V->Below V.heap.size V V'->PR r (V'.setCell ⟨rb,0,none⟩ x)):=fun r V V' x hp b=>h.cl r V _ hp (by rw[hrb];exact ZV b x);have hW:=Sr line hl wA;have HWl:Aside (∀x∈bJ line,x.length<=100000):=fun x hx=>le_trans (zl hx) hl;cases hws:bJ line with
 |nil=>
  rw[hws] at hW;clear h hrc hrz;go_enter_defers func10,ntmps10
  go_upto_region 2 with fail
  clear fB;go_wp2_with (go_at_call 27;refine hW.mono ?_;rintro e w1 ⟨A,rfl,hT,hA,b1⟩;obtain⟨b9,hc1,hz1,hr9⟩:=HB.out w1 b1)
  refine vk rfl (cell?_setCell_same' _ _ _ (by rw[hc1];rfl)) ⟨.say [111,107],rfl,HC.out _ w1 w1 _ (H.out.empty hws w1 b9) (Below.refl _ _)⟩
 |cons x rest=>
  rw[hws] at hW HWl;have hx:=HWl.out x mem_cons_self;cases hn:gP x with
  |some p=>
   have HP:Aside (∀V,GL V->Calls prog 29 #[tx x] V fun e w'=>e=.returned (.tuple #[.int .i64 p,.bool true])/\Below V.heap.size V w'):=fun V g=>(wJ x hx V g).mono fun e w' hh=>by
    obtain⟨z,e1,e2,b⟩:=hh;rw[hn] at e1 e2;exact⟨by rw[e1,e2 p rfl];rfl,b⟩
   have hS:=fun V v=>H.out.serve x rest p hws hn V v;have HS:Aside _:=hS;clear hS h hrc hrz;go_enter_defers func10,ntmps10
   go_upto_region 2 with fail
   clear fB;go_upto_region 5 with (go_at_call 27;refine hW.mono ?_;rintro e w1 ⟨A,rfl,hT,hA,b1⟩;obtain⟨b9,hc1,hz1,hr9⟩:=HB.out w1 b1)
   have cx:w1.cell? ⟨A,0,none⟩=some (tx x):=by
    rcases hT with h9|⟨blk,off,e9,_,hcs⟩
    ·cases h9
    ·cases e9;exact hcs 0 (by simp)
   have hN:=HP.out w1 (H.out.gl.below b9);go_upto_region 7 with (go_at_call 29;refine hN.mono ?_;rintro e w2 ⟨rfl,b2⟩;obtain⟨b8,hc2,hz2,hr8⟩:=HB.out w2 (b1.trans (b2.mono b1.size)))
   have hrA:w.heap.size<=A:=le_trans bA.size hA;have hSv:∀ad,(rest≠[]->ad=some ⟨A,1,none⟩)->Calls prog 30 #[wp cb,.int .i64 p,.slice ad rest.length rest.length] w2 fun e w'=>∃r,xV w' r e/\PR r w'/\nk w.heap.size w2 w':=fun ad had=>HS.out w2 _ b8 (by omega) ⟨A,1,ad,rest.length,rfl,le_refl _,had,by omega,fun i hi=>by
    rcases hT with h9|⟨blk,off,e9,hbl,hcs⟩
    ·cases h9
    ·cases e9
     have:=hcs (i+1) (by simp;omega);rw[zero_add] at this;rw[show 1+i=i+1 by omega,b2.cell (p:=⟨A,i+1,none⟩) hbl,this];rfl⟩
   clear HS hW cx hN;by_cases hre:rest=[]
   ·have hS0:=hSv (some ⟨A,0,none⟩) (fun hne=>absurd hre hne);clear hSv hT;subst hre;go_wp2_with (go_at_call 30;refine hS0.mono ?_;rintro e w3 ⟨r,hE,YE,hK⟩;obtain⟨hc3,hz3⟩:=hK.at (by omega) hc2 hz2;obtain⟨t,rfl,rfl⟩|⟨v9,rfl⟩:=vg hE;rotate_left;exact vo hK.2.2 rfl hc3 hz3 hE (fun V' b=>⟨r,rfl,HC.out r w3 V' _ YE b⟩))
    exact vk rfl (cell?_setCell_same' _ _ _ (by rw[hc3];rfl)) ⟨.say t,rfl,HC.out _ w3 w3 _ YE (Below.refl _ _)⟩
   ·have hS0:=hSv (some ⟨A,1,none⟩) (fun _=>rfl);clear hSv hT;go_wp2_with (go_at_call 30;refine hS0.mono ?_;rintro e w3 ⟨r,hE,YE,hK⟩;obtain⟨hc3,hz3⟩:=hK.at (by omega) hc2 hz2;obtain⟨t,rfl,rfl⟩|⟨v9,rfl⟩:=vg hE;rotate_left;exact vo hK.2.2 rfl hc3 hz3 hE (fun V' b=>⟨r,rfl,HC.out r w3 V' _ YE b⟩))
    exact vk rfl (cell?_setCell_same' _ _ _ (by rw[hc3];rfl)) ⟨.say t,rfl,HC.out _ w3 w3 _ YE (Below.refl _ _)⟩
  |none=>
   have HP:Aside (∀V,GL V->Calls prog 29 #[tx x] V fun e w'=>∃z,e=.returned (.tuple #[.int .i64 z,.bool false])/\Below V.heap.size V w'):=fun V g=>(wJ x hx V g).mono fun e w' hh=>by
    obtain⟨z,e1,e2,b⟩:=hh;rw[hn] at e1;exact⟨z,e1,b⟩
   obtain⟨gt,ct,hT1⟩:=h.tab;have HF:Aside (∀V,Below w.heap.size w V->V.cell? ⟨cb,1,none⟩=some (.map (some gt))/\∀v,WV V v (x::rest)->Calls prog 31 #[.map (some gt),v] V fun e w'=>yM cb dH (x::rest) e/\Below V.heap.size V w'):=fun V b=>
    ⟨(b.cell (p:=⟨cb,1,none⟩) (block_lt_of_cell? w _ ct)).trans ct,fun v hv=>GV V (hT1.keep (b.block gt hT1.lt)) hv HWl.out⟩
   clear h hrc hrz hT1;go_enter_defers func10,ntmps10
   go_upto_region 2 with fail
   clear fB;go_upto_region 5 with (go_at_call 27;refine hW.mono ?_;rintro e w1 ⟨A,rfl,hT,hA,b1⟩;obtain⟨b9,hc1,hz1,hr9⟩:=HB.out w1 b1)
   have cx:w1.cell? ⟨A,0,none⟩=some (tx x):=by
    rcases hT with h9|⟨blk,off,e9,_,hcs⟩
    ·cases h9
    ·cases e9;exact hcs 0 (by simp)
   have hN:=HP.out w1 (H.out.gl.below b9);have hWV:∀V,Below w1.heap.size w1 V->WV V (.slice (some ⟨A,0,none⟩) (rest.length+1) (rest.length+1)) (x::rest):=fun V b=>⟨_,_,rfl,by simp,hT.below b⟩;have HV:Aside _:=hWV;clear hWV hT hW;go_upto_region 8 with (go_at_call 29;refine hN.mono ?_;rintro e w2 ⟨z,rfl,b2⟩;obtain⟨b8,hc2,hz2,hr8⟩:=HB.out w2 (b1.trans (b2.mono b1.size));obtain⟨ct2,hF⟩:=HF.out w2 b8)
   have hFd:=hF _ (HV.out w2 b2);clear hF hN HP;cases Vq:bq x dH with
   |none=>
    have hF2:Calls prog 31 #[.map (some gt),.slice (some ⟨A,0,none⟩) (rest.length+1) (rest.length+1)] w2 fun e w'=>e=thrown (eF 3)/\Below w2.heap.size w2 w':=hFd.mono fun e w' z=>⟨by have:=z.1;unfold yM at this;simp only[Vq] at this;exact this,z.2⟩;clear hFd;go_wp2_with (go_at_call 31;refine hF2.mono ?_;rintro e w3 ⟨rfl,b3⟩;obtain⟨b7,hc3,hz3,hr7⟩:=HB.out w3 (b1.trans ((b2.trans (b3.mono b2.size)).mono b1.size)))
    exact vo (r:=.bad 3) (H.out.gl.below b7) rfl hc3 hz3 ⟨rfl,by unfold dF;omega⟩ (fun V' b=>⟨.bad 3,rfl,HC.out _ w3 V' _ (H.out.bad ⟨x,rest,hws,hn,.inl Vq⟩ w3 b7) b⟩)
   |some y=>
    have hF2:Calls prog 31 #[.map (some gt),.slice (some ⟨A,0,none⟩) (rest.length+1) (rest.length+1)] w2 fun e w'=>e=.returned (Dz y.1 y.2 cb)/\Below w2.heap.size w2 w':=hFd.mono fun e w' z=>⟨by have:=z.1;unfold yM at this;simp only[Vq] at this;exact this,z.2⟩;clear hFd;have hs1:∀(a:Addr) (V:World),(store a .nilFunc).run prog V=stored prog V a .nilFunc .plain:=fun a V=>run_store _ _ _ _ _ rfl;have hs2:∀(a:Addr) (fn:Fn) (f c:Array Value) (V:World),(store a (.func fn f c)).run prog V=stored prog V a (.func fn f c) .plain:=fun a fn f c V=>run_store _ _ _ _ _ rfl;go_upto_region 9 with (go_at_call 31;refine hF2.mono ?_;rintro e w3 ⟨rfl,b3⟩;obtain⟨b7,hc3,hz3,hr7⟩:=HB.out w3 (b1.trans ((b2.trans (b3.mono b2.size)).mono b1.size)))
    obtain⟨ef,hfl⟩:=Fe Vq;have b6:Below w3.heap.size w3 (w3.alloc (.cells #[tx y.1,.func (.func y.2) #[wp cb] #[]] 83)):=(Below.refl _ _).alloc (le_refl _) _;obtain⟨x8,hx8⟩:∃x8,w3.heap.size=x8:=⟨_,rfl⟩;obtain⟨w4,hw4⟩:∃w4,w3.alloc (.cells #[tx y.1,.func (.func y.2) #[wp cb] #[]] 83)=w4:=⟨_,rfl⟩;have hbx:w4.heap[x8]? = some (.cells #[tx y.1,.func (.func y.2) #[wp cb] #[]] 83):=by
     rw[<-hw4,<-hx8];show (w3.heap.push _)[w3.heap.size]? = _;rw[getElem?_push,if_pos rfl]
    rw[hw4] at b6;have b17:Below w1.heap.size w1 w4:=b2.trans ((b3.trans (b6.mono b3.size)).mono b2.size);obtain⟨b05,hc4,hz4,hr4⟩:=HB.out w4 (b1.trans (b17.mono b1.size));have d0:w4.cell? ⟨x8,0,none⟩=some (tx y.1):=by rw[Lib.cell_of_heap hbx];rfl
    have d1:w4.cell? ⟨x8,1,none⟩=some (.func (.func y.2) #[wp cb] #[]):=by rw[Lib.cell_of_heap hbx];rfl
    have ack:x8<w4.heap.size:=(Array.getElem?_eq_some_iff.1 hbx).1;have hP:Calls prog 32 #[tx y.1,.slice (some ⟨A,0,none⟩) (rest.length+1) (rest.length+1)] w4.drew (sU w4.drew w4.drew.heap.size x y.1 rest):=by
     obtain⟨ad,cap,e,hc,QE⟩:=HV.out w4.drew b17.drew;cases e
     exact Gr w4.drew (H.out.gl.below b05.drew) y.1 x rest (some ⟨A,0,none⟩) _ QE hfl (Nat.lt_succ_self _) (fun z hz=>HWl.out z (mem_cons_of_mem _ hz))
    show Code.wp _ _ _ _ (w3.alloc (.cells #[tx y.1,.func (.func y.2) #[wp cb] #[]] 83));rw[hw4,hx8];have acj:w.heap.size<=x8:=by have:=b7.size;omega
    have hrx:rb<x8:=by omega
    clear hw4 hx8 b6 hbx hF2 hs1 hs2 HF ct ct2 cx;refine EN (s:=4) (p:=wp rb) (ds:=DW rb) (S:=fun w'=>w'.cell? ⟨x8,0,none⟩=some (tx y.1)/\w'.cell? ⟨x8,1,none⟩=some (.func (.func y.2) #[wp cb] #[])) (Yu PR rb) (by kernel_rfl) ⟨d0,d1⟩ ?_ (fun hS=>?_)
    ·rintro c tm V ht ⟨v,r,rfl,hE,gV,hcV,hzV,hp⟩;exact vo gV ht hcV hzV hE (fun V' b=>⟨r,rfl,HC.out r V V' _ hp b⟩)
    refine wpAnyH_take (i:=0) (v:=?_) rfl (by kernel_rfl) (by kernel_rfl) (by kernel_rfl) (Qm.put (by decide) _) (.inl ⟨by rfl,?_⟩) (by assumption) ?_;rotate_left
    ·intro W hW;try dsimp only at hW
     go_simp
     with_reducible rfl
    try simp only[Act.put,getElem_toArray,getElem_cons_zero,setIfInBounds_toArray,set_cons_zero,set_cons_succ]
    refine wpAnyH_take (i:=1) (v:=?_) rfl (by kernel_rfl) (by kernel_rfl) (by kernel_rfl) (Qm.put (by decide) _) (.inl ⟨by rfl,?_⟩) (by assumption) ?_;rotate_left
    ·intro W hW;try dsimp only at hW
     go_simp
     with_reducible rfl
    try simp only[Act.put,getElem_toArray,getElem_cons_zero,getElem_cons_succ,setIfInBounds_toArray,set_cons_zero,set_cons_succ]
    refine wpAnyH_take (i:=2) (v:=?_) rfl (by kernel_rfl) (by kernel_rfl) (by kernel_rfl) (Qm.put (by decide) _) (.inl ⟨by rfl,?_⟩) (by assumption) ?_;rotate_left
    ·intro W hW;try dsimp only at hW
     go_simp
     with_reducible rfl
    try simp only[Act.put,getElem_toArray,getElem_cons_zero,getElem_cons_succ,setIfInBounds_toArray,set_cons_zero,set_cons_succ]
    refine wpAnyH_take (i:=3) (v:=?_) rfl (by kernel_rfl) (by kernel_rfl) (by kernel_rfl) (Qm.put (by decide) _) (.inl ⟨by rfl,?_⟩) (by assumption) ?_;rotate_left
    ·intro W hW;try dsimp only at hW
     go_simp
     with_reducible rfl
    try simp only[Act.put,getElem_toArray,getElem_cons_zero,getElem_cons_succ,setIfInBounds_toArray,set_cons_zero,set_cons_succ]
    refine wpAnyH_take (i:=4) (v:=?_) rfl (by kernel_rfl) (by kernel_rfl) (by kernel_rfl) (Qm.put (by decide) _) (.inl ⟨by rfl,?_⟩) (by assumption) ?_;rotate_left
    ·intro W hW;try dsimp only at hW
     go_simp
     with_reducible rfl
    try simp only[Act.put,getElem_toArray,getElem_cons_zero,getElem_cons_succ,setIfInBounds_toArray,set_cons_zero,set_cons_succ]
    have HE:Aside (∀V,Below w4.drew.heap.size w4.drew V->Below w.heap.size w V/\V.cell? ⟨rb,0,none⟩=some (tx [])/\V.frozen? ⟨rb,0,none⟩=false/\rb<V.heap.size):=fun V b=>HB.out V (b1.trans ((b17.drew.trans (b.mono b17.size)).mono b1.size));cases hp:gJ y.1 rest with
    |none=>
     have hP2:Calls prog 32 #[tx y.1,.slice (some ⟨A,0,none⟩) (rest.length+1) (rest.length+1)] w4.drew fun e w'=>e=thrown (eF 3)/\Below w4.drew.heap.size w4.drew w':=hP.mono fun e w' z=>⟨by have:=z.2;rw[hp] at this;exact this,z.1⟩;clear hP;refine wpAnyH_ready (rs:=[5]) (by kernel_rfl) (by simp) ?_;refine AllReadyH.cons rfl (fun K hK=>?_) AllReadyH.nil
     go_simp
     refine hP2.mono ?_;rintro e w5 ⟨rfl,b5⟩;obtain⟨VJ,hc5,hz5,hr5⟩:=HE.out w5 b5;exact⟨rfl,rfl,eF 3,.bad 3,rfl,⟨rfl,by unfold dF;omega⟩,H.out.gl.below VJ,hc5,hz5,H.out.bad ⟨x,rest,hws,hn,.inr ⟨y,Vq,hp⟩⟩ w5 VJ⟩
    |some q=>
     obtain⟨ns,ts,on⟩:=q;have hP2:Calls prog 32 #[tx y.1,.slice (some ⟨A,0,none⟩) (rest.length+1) (rest.length+1)] w4.drew fun e w'=>∃nv tv,e=.returned (gH 0 x nv tv on)/\Below w4.drew.heap.size w4.drew w'/\w'.ownsRow w4.drew.heap.size 3 1 nv ns.length (ns.map (Value.int .i64))/\w'.ownsRow w4.drew.heap.size 9 1 tv ts.length (ts.map fun x=>tx x):=hP.mono fun e w' z=>by
      obtain⟨b,z⟩:=z;rw[hp] at z;obtain⟨nv,tv,e1,r1,r2⟩:=z;exact⟨_,_,e1,b,r1,r2⟩
     clear hP;refine wpAnyH_ready (rs:=[5]) (by kernel_rfl) (by simp) ?_;refine AllReadyH.cons rfl (fun K hK=>?_) AllReadyH.nil
     go_simp
     refine hP2.mono ?_;rintro e w5 ⟨nv,tv,rfl,b5,r1,r2⟩;obtain⟨VJ,hc5,hz5,hr5⟩:=HE.out w5 b5;have acn:w.heap.size<=w4.drew.heap.size:=b05.size;have hT:=H.out.tell x rest y ns ts on hws hn Vq hp w5 nv tv VJ (by omega) (uU r1 acn) (uU r2 acn);refine hK.out _ _ ⟨(b5.cell (p:=⟨x8,0,none⟩) ack).trans hS.1,(b5.cell (p:=⟨x8,1,none⟩) ack).trans hS.2⟩ (fun hS5=>?_);clear hK hP2;refine wpAnyH_ready (rs:=[6]) (by kernel_rfl) (by simp) ?_;refine AllReadyH.cons rfl (fun K2 hK2=>?_) AllReadyH.nil
     go_simp
     refine hT.mono ?_;rintro e w6 ⟨r,hE,YE,hK6⟩;obtain⟨hc6,hz6⟩:=hK6.at (by omega) hc5 hz5;have acs:x8<w5.heap.size:=block_lt_of_cell? w5 _ hS5.1;have hS6:w6.cell? ⟨x8,0,none⟩=some (tx y.1)/\w6.cell? ⟨x8,1,none⟩=some (.func (.func y.2) #[wp cb] #[]):=
      ⟨(cell?_of_block (w:=w5) (a:=⟨x8,0,none⟩) (hK6.1 x8 acj acs)).trans hS5.1,(cell?_of_block (w:=w5) (a:=⟨x8,1,none⟩) (hK6.1 x8 acj acs)).trans hS5.2⟩
     have hne:¬rb=x8:=by omega
     obtain⟨t,rfl,rfl⟩|⟨v9,rfl⟩:=vg hE
     ·refine hK2.out _ _ hS6 (fun _=>?_);clear hK2;refine wpAnyH_ready (rs:=[7]) (by kernel_rfl) (by simp) ?_;refine AllReadyH.cons rfl (fun K3 hK3=>?_) AllReadyH.nil
      go_simp
      refine hK3.out _ _ ⟨(World.cell?_setCell_other _ _ _ _ (fun e=>hne (congrArg Addr.block e))).trans hS6.1,(World.cell?_setCell_other _ _ _ _ (fun e=>hne (congrArg Addr.block e))).trans hS6.2⟩ (fun _=>?_);clear hK3;refine wpAnyH_done (by kernel_rfl) ?_ _;refine Qm.normal ?_;go_wp2_with fail
      exact vk rfl (cell?_setCell_same' _ _ _ (by rw[hc6];rfl)) ⟨.say t,rfl,HC.out _ w6 w6 _ YE (Below.refl _ _)⟩
     ·exact⟨rfl,rfl,v9,r,rfl,hE,hK6.2.2,hc6,hz6,YE⟩
end
section
open Go.RowKit
def XN(k:Nat)(A:Nat->Prop)(R:List Int->Int->World->Prop)(V:World)(y:Ending)(w':World):Prop:=∃L e,y=.returned (.tuple ((L.map (Value.int .i64))++[aI e]).toArray)/\L.length=k/\(e=0->∀n∈L,dF n)/\R L e w'/\Wt A V w'
theorem XN.one{A:Nat->Prop}{R:List Int->Int->World->Prop}{V w':World}{y:Ending}(h:XN 1 A R V y w'):∃n e,y=.returned (.tuple #[.int .i64 n,aI e])/\(e=0->∀z∈[n],dF z)/\R [n] e w'/\Wt A V w':=by
 obtain⟨L,e,rfl,a,d,c,b⟩:=h
 match L,a with
 | [n],_=>exact⟨n,e,rfl,d,c,b⟩
theorem XN.two{A:Nat->Prop}{R:List Int->Int->World->Prop}{V w':World}{y:Ending}(h:XN 2 A R V y w'):∃n m e,y=.returned (.tuple #[.int .i64 n,.int .i64 m,aI e])/\(e=0->∀z∈[n,m],dF z)/\R [n,m] e w'/\Wt A V w':=by
 obtain⟨L,e,rfl,a,d,c,b⟩:=h
 match L,a with
 | [n,m],_=>exact⟨n,m,e,rfl,d,c,b⟩
theorem jE(V:World)(g:GL V)(p:Int)(a:az)(j f:Value)(on:Bool)(L:List Int)(q:L.length<=1000)(c:Int)(o:c=0->∀n∈L,dF n)(k:a.length<=100000):Calls prog 85 #[gH p a j f on,aI c,.slice (some ⟨V.heap.size,0,none⟩) L.length L.length] (V.alloc (.cells (L.map (Value.int .i64)).toArray 3)) fun e d=>TO (a++aQ L) c e/\Below V.heap.size V d:=by
 have b:Below V.heap.size V (V.alloc (.cells (L.map (Value.int .i64)).toArray 3)):=(Below.refl _ _).alloc (le_refl _) _;refine(uT (V.alloc (.cells (L.map (Value.int .i64)).toArray 3)) (g.below b) p a j f on (some ⟨V.heap.size,0,none⟩) L L.length (.inr ⟨_,0,rfl,by simp,fun i l=>?_⟩) q c o k).mono fun e d h=>⟨h.1,b.trans (h.2.mono b.size)⟩;have m:(V.alloc (.cells (L.map (Value.int .i64)).toArray 3)).heap[V.heap.size]? = some (.cells (L.map (Value.int .i64)).toArray 3):=by
  show (V.heap.push _)[V.heap.size]? = _;rw[getElem?_push,if_pos rfl]
 rw[zero_add,Lib.cell_of_heap m];simp[l]
section
variable {w:World}{A:Nat→Prop}{cb kb:Nat}{nv tv:Value}{ns:List Int}{ts:List az}{p a b c:Int}{word s t:az}{on:Bool}{R:List Int→Int→World→Prop}
theorem Sc(g:Gv w A cb kb nv tv ns ts)(G:word.length<=100000)(u:∀V,Below w.heap.size w V->Calls prog 98 #[wp kb,.int .i64 p] V (XN 1 A R V))(v:∀L c V C,R L c V->Below V.heap.size V C->R L c C):Calls prog 51 #[wp cb,gH p word nv tv on] w fun e a=>∃L c,TO (word++aQ L) c e/\R L c a:=by
 obtain⟨x,d,T,S,q,r,Q,P,l,m,s,rfl,rfl,z,N,K,I,J,H,b⟩:=g.box p word on;have k:Aside _:=b;have D:Aside _:=v;have f:Wt A d d.drew:=Wt.jy d;have j:=u d.drew N.drew;clear u v b g;go_enter Tryz.func51,Tryz.ntmps51
 go_upto_region 1 with fail
 rw[<-z,<-s];clear z s;go_region_held (fun a=>a.cell? ⟨cb,0,none⟩=some (wp kb)/\a.cell? ⟨x,0,none⟩=some (.int .i64 p)/\a.cell? ⟨x,1,none⟩=some (tx word)/\a.cell? ⟨x,2,none⟩=some (.slice q ns.length r)/\a.cell? ⟨x,3,none⟩=some (.slice l ts.length m)/\a.cell? ⟨x,4,none⟩=some (.bool on)) (exact(k.out _ f).Zm) (first
  |(go_at_call 98;refine j.mono ?_;rintro y h F;obtain⟨n,e,rfl,t,o,E⟩:=F.one;have f:=E.gI;have M:=jE h (k.out h f).gl p word (.slice q ns.length r) (.slice l ts.length m) on [n] (by simp) e t G))
 all_goals
  obtain⟨U,b0,Z,Y,X,W,_⟩:=k.out h f;clear t;go_wp2_with (go_at_call 85;refine M.mono ?_;rintro y O ⟨⟨i,rfl⟩|⟨i,rfl⟩,B⟩;rotate_left;exact⟨rfl,[n],e,.inr ⟨i,rfl⟩,D.out _ _ _ _ o B⟩)
  go_ret;exact⟨[n],e,.inl ⟨i,rfl⟩,D.out _ _ _ _ o B⟩
theorem aa7(g:Gv w A cb kb nv tv ns ts)(H:word.length<=100000)(v:∀V,Below w.heap.size w V->Calls prog 119 #[wp kb,.int .i64 p] V (XN 2 A R V))(z:∀L c V D,R L c V->Below V.heap.size V D->R L c D):Calls prog 70 #[wp cb,gH p word nv tv on] w fun e a=>∃L c,TO (word++aQ L) c e/\R L c a:=by
 obtain⟨x,d,U,T,r,s,S,Q,l,o,t,rfl,rfl,B,O,M,J,K,I,b⟩:=g.box p word on;have k:Aside _:=b;have E:Aside _:=z;have f:Wt A d d.drew:=Wt.jy d;have j:=v d.drew O.drew;clear v z b g;go_enter Tryz.func70,Tryz.ntmps70
 go_upto_region 1 with fail
 rw[<-B,<-t];clear B t;go_region_held (fun a=>a.cell? ⟨cb,0,none⟩=some (wp kb)/\a.cell? ⟨x,0,none⟩=some (.int .i64 p)/\a.cell? ⟨x,1,none⟩=some (tx word)/\a.cell? ⟨x,2,none⟩=some (.slice r ns.length s)/\a.cell? ⟨x,3,none⟩=some (.slice l ts.length o)/\a.cell? ⟨x,4,none⟩=some (.bool on)) (exact(k.out _ f).Zm) (first
  |(go_at_call 119;refine j.mono ?_;rintro y h G;obtain⟨n,m,e,rfl,u,q,F⟩:=G.two;have f:=F.gI;have N:=jE h (k.out h f).gl p word (.slice r ns.length s) (.slice l ts.length o) on [n,m] (by simp) e u H))
 all_goals
  obtain⟨W,b0,b1,Z,Y,X,_⟩:=k.out h f;clear u;go_wp2_with (go_at_call 85;refine N.mono ?_;rintro y P ⟨⟨i,rfl⟩|⟨i,rfl⟩,C⟩;rotate_left;exact⟨rfl,[n,m],e,.inr ⟨i,rfl⟩,E.out _ _ _ _ q C⟩)
  go_ret;exact⟨[n,m],e,.inl ⟨i,rfl⟩,E.out _ _ _ _ q C⟩
theorem abd(g:Gv w A cb kb nv tv [a,b] ts)(K:word.length<=100000)(C:∀V,Below w.heap.size w V->Calls prog 105 #[wp kb,.int .i64 p,.int .i64 a,.int .i64 b] V (XN 1 A R V))(D:∀L c V G,R L c V->Below V.heap.size V G->R L c G):Calls prog 57 #[wp cb,gH p word nv tv on] w fun e d=>∃L c,TO (word++aQ L) c e/\R L c d:=by
 obtain⟨x,h,j,i,W,v,U,T,s,t,z,rfl,rfl,E,Q,O,N,m,M,f⟩:=g.box p word on;obtain rfl:=m (by simp);rw[show [a,b].length=2 from rfl] at *;have r:Aside _:=f;have H:Aside _:=D;have k:Wt A h h.drew:=Wt.jy h;have q:=C h.drew Q.drew;clear C D f g;go_enter Tryz.func57,Tryz.ntmps57
 go_upto_region 1 with fail
 rw[<-E,<-z];clear E z;go_region_held (fun d=>d.cell? ⟨cb,0,none⟩=some (wp kb)/\d.cell? ⟨x,0,none⟩=some (.int .i64 p)/\d.cell? ⟨x,1,none⟩=some (tx word)/\d.cell? ⟨x,2,none⟩=some (.slice (some ⟨j,i,none⟩) 2 v)/\d.cell? ⟨x,3,none⟩=some (.slice s ts.length t)/\d.cell? ⟨x,4,none⟩=some (.bool on)/\d.cell? ⟨j,i,none⟩=some (.int .i64 a)/\d.cell? ⟨j,i+1,none⟩=some (.int .i64 b)) (exact(r.out _ k).n20) (first
  |(go_at_call 105;refine q.mono ?_;rintro y l J;obtain⟨n,e,rfl,B,u,I⟩:=J.one;have k:=I.gI;have P:=jE l (r.out l k).gl p word (.slice (some ⟨j,i,none⟩) 2 v) (.slice s ts.length t) on [n] (by simp) e B K))
 all_goals
  obtain⟨X,b0,b1,b2,Z,Y,_⟩:=r.out l k;clear B;go_wp2_with (go_at_call 85;refine P.mono ?_;rintro y S ⟨⟨o,rfl⟩|⟨o,rfl⟩,F⟩;rotate_left;exact⟨rfl,[n],e,.inr ⟨o,rfl⟩,H.out _ _ _ _ u F⟩)
  go_ret;exact⟨[n],e,.inl ⟨o,rfl⟩,H.out _ _ _ _ u F⟩
theorem abb(g:Gv w A cb kb nv tv [a] [s])(N:word.length<=100000)(E:∀V,Below w.heap.size w V->Calls prog 109 #[wp kb,.int .i64 p,tx s,.int .i64 a,.bool on] V (XN 1 A R V))(F:∀L c V I,R L c V->Below V.heap.size V I->R L c I):Calls prog 61 #[wp cb,gH p word nv tv on] w fun e b=>∃L c,TO (word++aQ L) c e/\R L c b:=by
 obtain⟨x,f,m,l,W,B,k,j,U,v,C,rfl,rfl,G,S,P,O,q,o,d⟩:=g.box p word on;obtain rfl:=q (by simp);rw[show [a].length=1 from rfl] at *;obtain rfl:=o (by simp);rw[show [s].length=1 from rfl] at *;have u:Aside _:=d;have J:Aside _:=F;have h:Wt A f f.drew:=Wt.jy f;have t:=E f.drew S.drew;clear E F d g;go_enter Tryz.func61,Tryz.ntmps61
 go_upto_region 1 with fail
 rw[<-G,<-C];clear G C;go_region_held (fun b=>b.cell? ⟨cb,0,none⟩=some (wp kb)/\b.cell? ⟨x,0,none⟩=some (.int .i64 p)/\b.cell? ⟨x,1,none⟩=some (tx word)/\b.cell? ⟨x,2,none⟩=some (.slice (some ⟨m,l,none⟩) 1 B)/\b.cell? ⟨x,3,none⟩=some (.slice (some ⟨k,j,none⟩) 1 v)/\b.cell? ⟨x,4,none⟩=some (.bool on)/\b.cell? ⟨m,l,none⟩=some (.int .i64 a)/\b.cell? ⟨k,j,none⟩=some (tx s)) (exact(u.out _ h).n11) (first
  |(go_at_call 109;refine t.mono ?_;rintro y i M;obtain⟨n,e,rfl,D,z,K⟩:=M.one;have h:=K.gI;have Q:=jE i (u.out i h).gl p word (.slice (some ⟨m,l,none⟩) 1 B) (.slice (some ⟨k,j,none⟩) 1 v) on [n] (by simp) e D N))
 all_goals
  obtain⟨X,b0,b1,b2,Z,Y,_⟩:=u.out i h;clear D;go_wp2_with (go_at_call 85;refine Q.mono ?_;rintro y T ⟨⟨r,rfl⟩|⟨r,rfl⟩,H⟩;rotate_left;exact⟨rfl,[n],e,.inr ⟨r,rfl⟩,J.out _ _ _ _ z H⟩)
  go_ret;exact⟨[n],e,.inl ⟨r,rfl⟩,J.out _ _ _ _ z H⟩
theorem aa9(g:Gv w A cb kb nv tv ns ts)(H:word.length<=100000)(v:∀V,Below w.heap.size w V->Calls prog 110 #[wp kb,.int .i64 p] V (XN 2 A R V))(z:∀L c V D,R L c V->Below V.heap.size V D->R L c D):Calls prog 62 #[wp cb,gH p word nv tv on] w fun e a=>∃L c,TO (word++aQ L) c e/\R L c a:=by
 obtain⟨x,d,U,T,r,s,S,Q,l,o,t,rfl,rfl,B,O,M,J,K,I,b⟩:=g.box p word on;have k:Aside _:=b;have E:Aside _:=z;have f:Wt A d d.drew:=Wt.jy d;have j:=v d.drew O.drew;clear v z b g;go_enter Tryz.func62,Tryz.ntmps62
 go_upto_region 1 with fail
 rw[<-B,<-t];clear B t;go_region_held (fun a=>a.cell? ⟨cb,0,none⟩=some (wp kb)/\a.cell? ⟨x,0,none⟩=some (.int .i64 p)/\a.cell? ⟨x,1,none⟩=some (tx word)/\a.cell? ⟨x,2,none⟩=some (.slice r ns.length s)/\a.cell? ⟨x,3,none⟩=some (.slice l ts.length o)/\a.cell? ⟨x,4,none⟩=some (.bool on)) (exact(k.out _ f).Zm) (first
  |(go_at_call 110;refine j.mono ?_;rintro y h G;obtain⟨n,m,e,rfl,u,q,F⟩:=G.two;have f:=F.gI;have N:=jE h (k.out h f).gl p word (.slice r ns.length s) (.slice l ts.length o) on [n,m] (by simp) e u H))
 all_goals
  obtain⟨W,b0,b1,Z,Y,X,_⟩:=k.out h f;clear u;go_wp2_with (go_at_call 85;refine N.mono ?_;rintro y P ⟨⟨i,rfl⟩|⟨i,rfl⟩,C⟩;rotate_left;exact⟨rfl,[n,m],e,.inr ⟨i,rfl⟩,E.out _ _ _ _ q C⟩)
  go_ret;exact⟨[n,m],e,.inl ⟨i,rfl⟩,E.out _ _ _ _ q C⟩
theorem adv(g:Gv w A cb kb nv tv [a] ts)(J:word.length<=100000)(B:∀V,Below w.heap.size w V->Calls prog 94 #[wp kb,.int .i64 p,.int .i64 a] V (XN 1 A R V))(C:∀L c V F,R L c V->Below V.heap.size V F->R L c F):Calls prog 47 #[wp cb,gH p word nv tv on] w fun e b=>∃L c,TO (word++aQ L) c e/\R L c b:=by
 obtain⟨x,f,k,j,U,u,T,S,r,s,v,rfl,rfl,D,P,N,M,l,K,d⟩:=g.box p word on;obtain rfl:=l (by simp);rw[show [a].length=1 from rfl] at *;have q:Aside _:=d;have G:Aside _:=C;have h:Wt A f f.drew:=Wt.jy f;have o:=B f.drew P.drew;clear B C d g;go_enter Tryz.func47,Tryz.ntmps47
 go_upto_region 1 with fail
 rw[<-D,<-v];clear D v;go_region_held (fun b=>b.cell? ⟨cb,0,none⟩=some (wp kb)/\b.cell? ⟨x,0,none⟩=some (.int .i64 p)/\b.cell? ⟨x,1,none⟩=some (tx word)/\b.cell? ⟨x,2,none⟩=some (.slice (some ⟨k,j,none⟩) 1 u)/\b.cell? ⟨x,3,none⟩=some (.slice r ts.length s)/\b.cell? ⟨x,4,none⟩=some (.bool on)/\b.cell? ⟨k,j,none⟩=some (.int .i64 a)) (exact(q.out _ h).n10) (first
  |(go_at_call 94;refine o.mono ?_;rintro y i I;obtain⟨n,e,rfl,z,t,H⟩:=I.one;have h:=H.gI;have O:=jE i (q.out i h).gl p word (.slice (some ⟨k,j,none⟩) 1 u) (.slice r ts.length s) on [n] (by simp) e z J))
 all_goals
  obtain⟨W,b0,b1,Z,Y,X,_⟩:=q.out i h;clear z;go_wp2_with (go_at_call 85;refine O.mono ?_;rintro y Q ⟨⟨m,rfl⟩|⟨m,rfl⟩,E⟩;rotate_left;exact⟨rfl,[n],e,.inr ⟨m,rfl⟩,G.out _ _ _ _ t E⟩)
  go_ret;exact⟨[n],e,.inl ⟨m,rfl⟩,G.out _ _ _ _ t E⟩
theorem Yb(g:Gv w A cb kb nv tv [a] [s])(N:word.length<=100000)(E:∀V,Below w.heap.size w V->Calls prog 120 #[wp kb,.int .i64 p,.int .i64 a,tx s] V (XN 1 A R V))(F:∀L c V I,R L c V->Below V.heap.size V I->R L c I):Calls prog 71 #[wp cb,gH p word nv tv on] w fun e b=>∃L c,TO (word++aQ L) c e/\R L c b:=by
 obtain⟨x,f,m,l,W,B,k,j,U,v,C,rfl,rfl,G,S,P,O,q,o,d⟩:=g.box p word on;obtain rfl:=q (by simp);rw[show [a].length=1 from rfl] at *;obtain rfl:=o (by simp);rw[show [s].length=1 from rfl] at *;have u:Aside _:=d;have J:Aside _:=F;have h:Wt A f f.drew:=Wt.jy f;have t:=E f.drew S.drew;clear E F d g;go_enter Tryz.func71,Tryz.ntmps71
 go_upto_region 1 with fail
 rw[<-G,<-C];clear G C;go_region_held (fun b=>b.cell? ⟨cb,0,none⟩=some (wp kb)/\b.cell? ⟨x,0,none⟩=some (.int .i64 p)/\b.cell? ⟨x,1,none⟩=some (tx word)/\b.cell? ⟨x,2,none⟩=some (.slice (some ⟨m,l,none⟩) 1 B)/\b.cell? ⟨x,3,none⟩=some (.slice (some ⟨k,j,none⟩) 1 v)/\b.cell? ⟨x,4,none⟩=some (.bool on)/\b.cell? ⟨m,l,none⟩=some (.int .i64 a)/\b.cell? ⟨k,j,none⟩=some (tx s)) (exact(u.out _ h).n11) (first
  |(go_at_call 120;refine t.mono ?_;rintro y i M;obtain⟨n,e,rfl,D,z,K⟩:=M.one;have h:=K.gI;have Q:=jE i (u.out i h).gl p word (.slice (some ⟨m,l,none⟩) 1 B) (.slice (some ⟨k,j,none⟩) 1 v) on [n] (by simp) e D N))
 all_goals
  obtain⟨X,b0,b1,b2,Z,Y,_⟩:=u.out i h;clear D;go_wp2_with (go_at_call 85;refine Q.mono ?_;rintro y T ⟨⟨r,rfl⟩|⟨r,rfl⟩,H⟩;rotate_left;exact⟨rfl,[n],e,.inr ⟨r,rfl⟩,J.out _ _ _ _ z H⟩)
  go_ret;exact⟨[n],e,.inl ⟨r,rfl⟩,J.out _ _ _ _ z H⟩
end
def XS(A:Nat->Prop)(R:List Int->Int->World->Prop)(V:World)(y:Ending)(w':World):Prop:=∃ad L cap e,y=.returned (.tuple #[.slice ad L.length cap,aI e])/\L.length<=1000/\(∀n∈L,dF n)/\pV w' ad L/\R L e w'/\Wt A V w'
def StE(word:az)(L:List Int)(c:Int)(e:Ending)(w':World):Prop:=
 (c=0/\e=.returned (tx (word++aQ L)))\/(c≠0/\L=[]/\e=thrown (eF c))\/(c≠0/\L≠[]/\L.length<=1000/\(∀n∈L,dF n)/\∃ad cap,e=thrown (FN ad L.length cap c)/\pV w' ad L)
def XR(A:Nat->Prop)(R:az->Int->World->Prop)(V:World)(y:Ending)(w':World):Prop:=∃z e,y=.returned (.tuple #[tx z,aI e])/\z.length<=100000/\R z e w'/\Wt A V w'
theorem XN.three{A:Nat->Prop}{R:List Int->Int->World->Prop}{V w':World}{y:Ending}(h:XN 3 A R V y w'):∃n m k e,y=.returned (.tuple #[.int .i64 n,.int .i64 m,.int .i64 k,aI e])/\(e=0->∀z∈[n,m,k],dF z)/\R [n,m,k] e w'/\Wt A V w':=by
 obtain⟨L,e,rfl,a,d,c,b⟩:=h
 match L,a with
 | [n,m,k],_=>exact⟨n,m,k,e,rfl,d,c,b⟩
theorem Cj(z:az):(qx z).length<=3*z.length+2:=by
 have:=wD z;unfold qx;simp only[length_append,length_cons,length_nil];omega
section
variable {w:World}{A:Nat→Prop}{cb kb:Nat}{nv tv:Value}{ns:List Int}{ts:List az}{p a b c:Int}{word s t:az}{on:Bool}
theorem Yc{R:List Int->Int->World->Prop}(g:Gv w A cb kb nv tv [a,b,c] ts)(T:word.length<=100000)(J:∀V,Below w.heap.size w V->Calls prog 116 #[wp kb,.int .i64 p,.int .i64 a,.int .i64 b,.int .i64 c] V (XS A R V))(K:∀L c V O,R L c V->Below V.heap.size V O->R L c O):Calls prog 67 #[wp cb,gH p word nv tv on] w fun e d=>∃L c,StE word L c e d/\R L c d:=by
 obtain⟨x,q,i,h,nd,G,tb,tf,E,F,H,rfl,rfl,M,Z,X,W,u,U,f⟩:=g.box p word on;obtain rfl:=u (by simp);rw[show [a,b,c].length=3 from rfl] at *;have D:Aside _:=f;have P:Aside _:=K;have r:Wt A q q.drew:=Wt.jy q;have z:=J q.drew Z.drew;clear J K f g;go_enter Tryz.func67,Tryz.ntmps67
 go_upto_region 1 with fail
 rw[<-M,<-H];clear M H;go_region_held (fun d=>d.cell? ⟨cb,0,none⟩=some (wp kb)/\d.cell? ⟨x,0,none⟩=some (.int .i64 p)/\d.cell? ⟨x,1,none⟩=some (tx word)/\d.cell? ⟨x,2,none⟩=some (.slice (some ⟨i,h,none⟩) 3 G)/\d.cell? ⟨x,3,none⟩=some (.slice E ts.length F)/\d.cell? ⟨x,4,none⟩=some (.bool on)/\d.cell? ⟨i,h,none⟩=some (.int .i64 a)/\d.cell? ⟨i,h+1,none⟩=some (.int .i64 b)/\d.cell? ⟨i,h+2,none⟩=some (.int .i64 c)) (exact(D.out _ r).n30) (first
  |(go_at_call 116;refine z.mono ?_;rintro y s ⟨N,L,o,e,rfl,I,v,j,t,S⟩;have r:=S.gI;have m:=uT s (D.out s r).gl p word (.slice (some ⟨i,h,none⟩) 3 G) (.slice E ts.length F) on N L o j I e (fun _=>v) T))
 all_goals
  obtain⟨c0,b0,b1,b2,b3,b4,_⟩:=(D.out s r).n30;have HI:Aside (∀n∈L,dF n):=v;clear v;by_cases k:e=0
  ·subst k;rw[aB] at m ⊢;go_wp2_with (go_at_call 85;refine m.mono ?_;rintro y Q ⟨⟨l,rfl⟩|⟨l,rfl⟩,C⟩;rotate_left;exact absurd rfl l)
   go_ret;exact⟨L,0,.inl ⟨rfl,rfl⟩,P.out _ _ _ _ t C⟩
  ·rw[ax k] at m ⊢;by_cases B:L=[]
   ·subst B;go_wp2_with (go_at_call 85;refine m.mono ?_;rintro y Q ⟨⟨l,rfl⟩|⟨l,rfl⟩,C⟩;exact absurd l k)
    exact⟨rfl,[],e,.inr (.inl ⟨k,rfl,rfl⟩),P.out _ _ _ _ t C⟩
   ·have Y:(0:Int)<(L.length:Int):=by
     have:=List.length_pos_iff.2 B;omega
    clear m;go_wp2_with fail
    exact⟨rfl,L,e,.inr (.inr ⟨k,B,I,HI.out,N,o,rfl,j⟩),t⟩
theorem aa8{R:az->Int->World->Prop}(g:Gv w A cb kb nv tv [a,b] ts)(J:word.length<=100000)(D:∀V,Below w.heap.size w V->Calls prog 112 #[wp kb,.int .i64 p,.int .i64 a,.int .i64 b] V (XR A R V))(E:∀L c V G,R L c V->Below V.heap.size V G->R L c G):Calls prog 64 #[wp cb,gH p word nv tv on] w fun e d=>∃z c,TO (word++[32]++qx z) c e/\R z c d:=by
 obtain⟨x,h,j,i,nd,v,tb,Z,s,t,C,rfl,rfl,F,Q,N,M,m,K,f⟩:=g.box p word on;obtain rfl:=m (by simp);rw[show [a,b].length=2 from rfl] at *;have r:Aside _:=f;have H:Aside _:=E;have k:Wt A h h.drew:=Wt.jy h;have o:=D h.drew Q.drew;clear D E f g;go_enter Tryz.func64,Tryz.ntmps64
 go_upto_region 1 with fail
 rw[<-F,<-C];clear F C;go_region_held (fun d=>d.cell? ⟨cb,0,none⟩=some (wp kb)/\d.cell? ⟨x,0,none⟩=some (.int .i64 p)/\d.cell? ⟨x,1,none⟩=some (tx word)/\d.cell? ⟨x,2,none⟩=some (.slice (some ⟨j,i,none⟩) 2 v)/\d.cell? ⟨x,3,none⟩=some (.slice s ts.length t)/\d.cell? ⟨x,4,none⟩=some (.bool on)/\d.cell? ⟨j,i,none⟩=some (.int .i64 a)/\d.cell? ⟨j,i+1,none⟩=some (.int .i64 b)) (exact(r.out _ k).n20) (first
  |(go_at_call 112;refine o.mono ?_;rintro y l ⟨z,e,rfl,B,u,I⟩;have k:=I.gI;have O:=told_none l (r.out l k).gl p word (.slice (some ⟨j,i,none⟩) 2 v) (.slice s ts.length t) on e J))
 all_goals
  obtain⟨c0,b0,b1,b2,b3,b4,_⟩:=(r.out l k).n20;have P:=fun V=>Ta V z B;have W:Aside _:=Cj z;have T:=nW word [32];have U:=nW (word++[32]) (qx z);have l1:¬9223372036854775807<word.length+1:=by omega
  have l2:¬9223372036854775807<(word++[32]).length+(qx z).length:=by have:=W.out;rw[length_append];simp only[length_cons,length_nil];omega
  generalize hX9:word++[32]=X9 at *;clear B;go_wp2_with (first
   |(go_at_call 85;refine O.mono ?_;rintro y Y ⟨⟨n,rfl⟩|⟨n,rfl⟩,q⟩;rotate_left;exact⟨rfl,z,e,.inr ⟨n,rfl⟩,H.out _ _ _ _ u q⟩)
   |(go_at_call 113;refine(P _).mono ?_;rintro y X ⟨rfl,S⟩))
  go_ret;exact⟨z,e,.inl ⟨n,by rw[hX9];rfl⟩,H.out _ _ _ _ u (q.trans (S.mono q.size))⟩
theorem Ze{R:List Int->Int->World->Prop}(g:Gv w A cb kb nv tv [a] ts)(M:word.length<=100000)(D:∀V,Below w.heap.size w V->Calls prog 89 #[wp kb,.int .i64 a] V (XN 3 A R V))(E:∀L c V H,R L c V->Below V.heap.size V H->R L c H):Calls prog 41 #[wp cb,gH p word nv tv on] w fun e b=>∃L c,TO (word++aQ L) c e/\R L c b:=by
 obtain⟨x,f,l,j,X,z,W,U,t,u,B,rfl,rfl,F,S,P,O,o,N,d⟩:=g.box p word on;obtain rfl:=o (by simp);rw[show [a].length=1 from rfl] at *;have s:Aside _:=d;have I:Aside _:=E;have h:Wt A f f.drew:=Wt.jy f;have r:=D f.drew S.drew;clear D E d g;go_enter Tryz.func41,Tryz.ntmps41
 go_upto_region 1 with fail
 rw[<-F,<-B];clear F B;go_region_held (fun b=>b.cell? ⟨cb,0,none⟩=some (wp kb)/\b.cell? ⟨x,0,none⟩=some (.int .i64 p)/\b.cell? ⟨x,1,none⟩=some (tx word)/\b.cell? ⟨x,2,none⟩=some (.slice (some ⟨l,j,none⟩) 1 z)/\b.cell? ⟨x,3,none⟩=some (.slice t ts.length u)/\b.cell? ⟨x,4,none⟩=some (.bool on)/\b.cell? ⟨l,j,none⟩=some (.int .i64 a)) (exact(s.out _ h).n10) (first
  |(go_at_call 89;refine r.mono ?_;rintro y i K;obtain⟨n,m,k,e,rfl,C,v,J⟩:=K.three;have h:=J.gI;have Q:=jE i (s.out i h).gl p word (.slice (some ⟨l,j,none⟩) 1 z) (.slice t ts.length u) on [n,m,k] (by simp) e C M))
 all_goals
  obtain⟨Y,b0,b1,b2,b3,Z,_⟩:=(s.out i h).n10;clear C;go_wp2_with (go_at_call 85;refine Q.mono ?_;rintro y T ⟨⟨q,rfl⟩|⟨q,rfl⟩,G⟩;rotate_left;exact⟨rfl,[n,m,k],e,.inr ⟨q,rfl⟩,I.out _ _ _ _ v G⟩)
  go_ret;exact⟨[n,m,k],e,.inl ⟨q,rfl⟩,I.out _ _ _ _ v G⟩
end
end
section
open Go.RowKit Go.Shelf
theorem aa3:Builder.Extra prog Tryz.joinL_ren where
 sizeBuilder:=by kernel_rfl
 liesBuilder:=by kernel_rfl
 t5:=Tryz.underlying5
 a5:=Tryz.isAgg5
 z5:=Tryz.sizeOf5
 v5:=Tryz.zeroValue5
 infoByte:=by kernel_rfl
 cellsByte:=by kernel_rfl
 sizeByte:=by kernel_rfl
 neB5:=by decide
def uA(l:List az):az:=Lib.join l [32]
theorem Qq{V:World}{n0:Nat}{v:Value}{N:List az}(h:V.ownsRow n0 9 1 v N.length (N.map fun x=>tx x))(Y:N.length<=1000)(t:az):∃g a c,(∀f,(Builtin.append_ #[75,75] f #[.slice (some ⟨V.heap.size,0,none⟩) 1 1,v]).run prog (V.alloc (.cells #[tx t] 9))=.ok (.slice (some ⟨g,0,none⟩) (t::N).length a) c)/\(t::N).length<=a/\g<c.heap.size/\(∀i (d:i<(t::N).length),c.cell? ⟨g,0+i,none⟩=some (tx (t::N)[i]))/\Below V.heap.size V c:=by
 obtain⟨D,d,w,s,q⟩:=info_parts (P:=prog) (e:=9) (z:=.string ⟨#[]⟩) (size:=1) (bytes:=16) (by kernel_rfl);have R:(V.alloc (.cells #[tx t] 9)).heap[V.heap.size]? = some (.cells #[tx t] 9):=by
  show (V.heap.push _)[V.heap.size]? = _;rw[getElem?_push,if_pos rfl]
 have l:(V.alloc (.cells #[tx t] 9)).ownsRow V.heap.size 9 1 (.slice (some ⟨V.heap.size,0,none⟩) 1 1) 1 [tx t]:=
  ⟨rfl,.inr ⟨V.heap.size,1,#[tx t],rfl,le_refl _,R,le_refl _,by unfold maxLen;omega,rfl,rfl⟩⟩
 have C:Below V.heap.size V (V.alloc (.cells #[tx t] 9)):=(Below.refl _ _).alloc (le_refl _) _;have n:∀(p:Value) (c:World),c.ownsRow V.heap.size 9 1 p (1+N.length) ([tx t]++N.map fun x=>tx x)->Below V.heap.size V c->∃g a,p=.slice (some ⟨g,0,none⟩) (t::N).length a/\(t::N).length<=a/\g<c.heap.size/\∀i (d:i<(t::N).length),c.cell? ⟨g,0+i,none⟩=some (tx (t::N)[i]):=fun p c b _=>by
  have G:=b;rcases b.2 with⟨_,Z⟩|⟨g,a,B,rfl,_,E,X,_⟩
  ·omega
  ·refine⟨g,a,by rw[length_cons,Nat.add_comm],by rw[length_cons];omega,(Array.getElem?_eq_some_iff.1 E).1,fun i d=>?_⟩;have:=G.cells (g:=g) rfl i (tx (t::N)[i]) (by cases i<;>simp at d ⊢);rw[zero_add,<-this];simp[Addr.add_lit]
 rcases h.2 with⟨rfl,T⟩|⟨g,a,B,rfl,S,E,K,Q,O,I⟩
 ·have J:=fun f=>run_append_nothing (P:=prog) (V.alloc (.cells #[tx t] 9)) 75 75 f 9 D underlying75 d (some ⟨V.heap.size,0,none⟩) 1 1 (le_refl _) _ (Src.ofNil _ underlying75 0);have W:N=[]:=List.eq_nil_of_length_eq_zero T;subst W;obtain⟨g,a,e,r⟩:=n _ _ l C;exact⟨g,a,_,fun f=>(J f).trans (by rw[e]),r.1,r.2.1,r.2.2,C⟩
 ·obtain⟨p,c,m,b,A,_⟩:=run_append_own_at (P:=prog) (V.alloc (.cells #[tx t] 9)) V.heap.size 75 75 9 D (.string ⟨#[]⟩) 1 16 underlying75 d w s q rfl (by decide) _ 1 [tx t] l ⟨g,0,none⟩ N.length a (N.map fun x=>tx x) (by simp) (fun j u M=>(h.alloc _).cells (g:=g) rfl j u M) (by intro x H;obtain⟨y,_,rfl⟩:=mem_map.1 H;rfl) (by unfold maxLen;omega) (by omega) (by simp);have F:Below V.heap.size V c:=C.grown A (by simp) (fun k L=>by simp only[Value.ownBlock,Option.some.injEq] at L;omega);obtain⟨U,o,e,r⟩:=n _ _ b F;exact⟨U,o,c,fun _=>by rw[<-e];exact m,r.1,r.2.1,r.2.2,F⟩
theorem XA(L:List az)(V:World)(g cap:Nat)(l:g<V.heap.size)(m:L.length<=cap)(o:L.length<=2000)(a:∀i (n:i<L.length),V.cell? ⟨g,0+i,none⟩=some (tx L[i]))(h:(uA L).length<=100000000):Calls prog 104 #[.slice (some ⟨g,0,none⟩) L.length cap,tx [32]] V fun e d=>e=.returned (tx (uA L))/\Below V.heap.size V d:=by
 have c:(L.map fun x=>(⟨x.toArray⟩:ByteArray)).map (·.data.toList)=L:=by simp[List.map_map,Function.comp_def]
 have:=Any.strings_Join Tryz.joinL aa3 g 0 cap (L.map fun x=>(⟨x.toArray⟩:ByteArray)) ⟨#[32]⟩ V (fun j x b=>by
  rw[List.getElem?_map] at b;obtain⟨y,f,rfl⟩:=Option.map_eq_some_iff.1 b;obtain⟨k,rfl⟩:=List.getElem?_eq_some_iff.1 f;exact a j k) l (by rw[length_map];omega) (by rw[length_map];exact m) (by rw[c];exact le_trans h (by omega))
 rw[c,length_map] at this;exact this
def XL(A:Nat->Prop)(R:List az->Int->World->Prop)(V:World)(y:Ending)(w':World):Prop:=∃v N e n0,y=.returned (.tuple #[v,aI e])/\(e=0->w'.ownsRow n0 9 1 v N.length (N.map fun x=>tx x)/\N.length<=1000/\∀x∈N,x.length<=1000)/\R N e w'/\Wt A V w'
theorem Pq(t:az)(N:List az)(h:∀x∈N,x.length<=1000):(uA (t::N)).length<=t.length+1001*N.length:=by
 unfold uA;rw[Lib.join_cons,length_append];have:(Lib.joinTail [32] N).length<=1001*N.length:=by
  unfold Lib.joinTail;induction N with
  |nil=>simp
  |cons x N ih=>
   have c:=h x mem_cons_self;have b:=ih fun y a=>h y (mem_cons_of_mem _ a);simp only[List.map_cons,List.flatten_cons,length_append,length_cons,length_nil] at b ⊢;omega
 omega
section
variable {w:World}{A:Nat→Prop}{cb kb:Nat}{nv tv:Value}{ns:List Int}{ts:List az}{p a b c:Int}{word s t:az}{on:Bool}
theorem abe{R:List az->Int->World->Prop}(g:Gv w A cb kb nv tv ns [s])(hw:word.length<=100000)(hX:∀V,Below w.heap.size w V->Calls prog 103 #[wp kb,.int .i64 p,tx s] V (XL A R V))(hR:∀L c V V',R L c V->Below V.heap.size V V'->R L c V'):Calls prog 56 #[wp cb,gH p word nv tv on] w fun e w'=>∃N c,TO (uA (word::N)) c e/\R N c w':=by
 obtain⟨x,wA,nb,no,nd,nc,tb,tf,td,tc,hx,rfl,rfl,fB,bA,hnc,htc,hnd,htd,hall⟩:=g.box p word on;obtain rfl:=htd (by simp);rw[show [s].length=1 from rfl] at *;have HA:Aside _:=hall;have HR:Aside _:=hR;have k9:Wt A wA wA.drew:=Wt.jy wA;have hX1:=hX wA.drew bA.drew;clear hX hR hall g;go_enter Tryz.func56,Tryz.ntmps56
 go_upto_region 1 with fail
 rw[<-fB,<-hx];clear fB hx;go_region_held (fun w'=>w'.cell? ⟨cb,0,none⟩=some (wp kb)/\w'.cell? ⟨x,0,none⟩=some (.int .i64 p)/\w'.cell? ⟨x,1,none⟩=some (tx word)/\w'.cell? ⟨x,2,none⟩=some (.slice nd ns.length nc)/\w'.cell? ⟨x,3,none⟩=some (.slice (some ⟨tb,tf,none⟩) 1 tc)/\w'.cell? ⟨x,4,none⟩=some (.bool on)/\w'.cell? ⟨tb,tf,none⟩=some (tx s)) (exact(HA.out _ k9).n01) (first
  |(go_at_call 103;refine hX1.mono ?_;rintro y w1 ⟨v,N,e,n0,rfl,hv,r1,k1⟩;have k9:=k1.gI;have hT:=told_none w1 (HA.out w1 k9).gl p word (.slice nd ns.length nc) (.slice (some ⟨tb,tf,none⟩) 1 tc) on e hw))
 all_goals
  obtain⟨c0,b0,b1,b2,b3,b4,_⟩:=(HA.out w1 k9).n01;by_cases he:e=0
  ·subst he;obtain⟨hrow,hN,hNl⟩:=hv rfl;have HJ:Aside (∀V,Below w1.heap.size w1 V->∃g cap w',(∀ty,(Builtin.append_ #[75,75] ty #[.slice (some ⟨V.heap.size,0,none⟩) 1 1,v]).run prog (V.alloc (.cells #[tx word] 9))=.ok (.slice (some ⟨g,0,none⟩) (N.length+1) cap) w')/\Below V.heap.size V w'/\Calls prog 104 #[.slice (some ⟨g,0,none⟩) (N.length+1) cap,tx [32]] w' fun e w'=>e=.returned (tx (uA (word::N)))/\Below V.heap.size V w'):=fun V b=>by
    obtain⟨g,cap,w',h1,h2,h3,h4,h5⟩:=Qq (rC hrow b) hN word;exact⟨g,cap,w',h1,h5,(XA (word::N) w' g cap h3 h2 (by simp;omega) h4 (by have:=Pq word N hNl;omega)).mono fun e w2 h=>⟨h.1,h5.trans (h.2.mono h5.size)⟩⟩
   clear hrow hN hNl hv;rw[aB] at hT ⊢;obtain⟨n9,I7⟩:∃n9,N.length+1=n9:=⟨_,rfl⟩;rw[I7] at HJ;clear I7;go_wp2_with (first
    |(go_at_call 85;refine hT.mono ?_;rintro y w2 ⟨⟨hc,rfl⟩|⟨hc,rfl⟩,b9⟩;rotate_left;exact absurd rfl hc;obtain⟨g9,Nn,w3,hr,b8,hJ⟩:=HJ.out w2 b9)
    |(at_builtin;refine gZ rfl _ _ 75 75 rfl _ _ _ w3 rfl rfl hr ?_)
    |(go_at_call 104;refine hJ.mono ?_;rintro y w4 ⟨rfl,b7⟩))
   go_ret;exact⟨N,0,.inl ⟨rfl,rfl⟩,HR.out _ _ _ _ r1 (b9.trans (b7.mono b9.size))⟩
  ·rw[ax he] at hT ⊢;go_wp2_with (go_at_call 85;refine hT.mono ?_;rintro y w2 ⟨⟨hc,rfl⟩|⟨hc,rfl⟩,b9⟩;exact absurd hc he)
   exact⟨rfl,N,e,.inr ⟨he,rfl⟩,HR.out _ _ _ _ r1 b9⟩
def Ro:az:=[102,114,101,101,32,104,97,115,32,104,101,108,112,32,110,101,119,32,112,105,100,115,32,47,32,97,100,106,117,115,116,32,99,108,111,115,101,32,100,117,112,32,100,117,112,50,32,101,120,101,99,32,101,120,105,116,32,102,111,114,107,32,105,103,110,111,114,101,32,107,105,108,108,32,108,105,109,105,116,32,108,105,110,107,32,108,105,115,116,32,108,111,97,100,32,109,97,112,32,109,97,114,107,32,109,107,100,105,114,32,111,112,101,110,32,112,105,112,101,32,112,114,111,116,101,99,116,32,114,101,97,100,32,114,101,110,97,109,101,32,115,101,101,107,32,115,116,111,114,101,32,117,110,108,105,110,107,32,117,110,109,97,112,32,119,97,105,116,32,119,114,105,116,101]
theorem abf:Calls prog 42 #[wp cb,gH p word nv tv on] w fun e a=>e=.returned (tx Ro)/\Below w.heap.size w a:=by
 go_enter Tryz.func42,Tryz.ntmps42
 go_wp2_with fail
 go_ret;exact⟨rfl,(Below.refl _ _).alloc (le_refl _) _⟩
end
end
section
open Go.RowKit
def mY(L:List Int)(st:Int->Int):List Int:=L.flatMap fun n=>[n,st n]
theorem Kg{L:List Int}{i:Nat}(st:Int->Int)(h:i<L.length):mY (L.take (i+1)) st=mY (L.take i) st++[L[i],st L[i]]:=by
 unfold mY;rw[List.take_succ_eq_append_getElem h,List.flatMap_append];simp
theorem wG(L:List Int)(st:Int->Int):(mY L st).length=2*L.length:=by
 unfold mY;induction L with
 |nil=>rfl
 |cons n L ih=>simp only[List.flatMap_cons,length_append,length_cons,length_nil,ih];omega
theorem U8{V:World}{n0:Nat}{v:Value}{l:List Int}(c:V.ownsRow n0 3 1 v l.length (l.map (Value.int .i64)))(s:n0<=V.heap.size)(a:List Int)(C:l.length+a.length<=1000000):∃g h,(∀p,(Builtin.append_ #[46,46] p #[v,.slice (some ⟨V.heap.size,0,none⟩) a.length a.length]).run prog (V.alloc (.cells (a.map (Value.int .i64)).toArray 3))=.ok g h)/\h.ownsRow n0 3 1 g (l++a).length ((l++a).map (Value.int .i64))/\Below n0 V h:=by
 obtain⟨q,A,n,m,i⟩:=info_parts (P:=prog) (e:=3) (z:=.int .i64 0) (size:=1) (bytes:=8) (by kernel_rfl);have B:(V.alloc (.cells (a.map (Value.int .i64)).toArray 3)).heap[V.heap.size]? = some (.cells (a.map (Value.int .i64)).toArray 3):=by
  show (V.heap.push _)[V.heap.size]? = _;rw[getElem?_push,if_pos rfl]
 obtain⟨g,o,f,b,d,_⟩:=run_append_own_at (P:=prog) (V.alloc (.cells (a.map (Value.int .i64)).toArray 3)) n0 46 46 3 q (.int .i64 0) 1 8 Tryz.underlying46 A n m i rfl (by decide) v l.length (l.map (Value.int .i64)) (c.alloc _) ⟨V.heap.size,0,none⟩ a.length a.length (a.map (Value.int .i64)) (by simp) (fun j u w=>by
  rw[show (⟨V.heap.size,0,none⟩:Addr).add j=⟨V.heap.size,j,none⟩ by simp[Addr.add_lit],Lib.cell_of_heap B,<-w];simp) (by intro x r;obtain⟨y,_,rfl⟩:=mem_map.1 r;rfl) (by unfold maxLen;omega) (by omega) (by simp;omega)
 rw[<-List.map_append,<-length_append] at b;exact⟨g,o,fun _=>f,b,((Below.refl _ V).alloc s _).grown d (by simp;omega) (fun k t=>(c.lt k t).1)⟩
section
variable {w:World}{A:Nat→Prop}{cb kb:Nat}{nv tv:Value}{ns:List Int}{ts:List az}{p a b c:Int}{word s t:az}{on:Bool}
theorem abg{l o n:Int}(g:Gv w A cb kb nv tv ns ts)(L:word.length<=100000)(G:∀V,Below w.heap.size w V->Calls prog 86 #[wp kb] V fun y a=>y=.returned (.int .i64 l)/\a=V)(E:∀V,Below w.heap.size w V->Calls prog 87 #[wp kb] V fun y a=>y=.returned (.int .i64 o)/\a=V)(F:∀V,Below w.heap.size w V->Calls prog 88 #[wp kb] V fun y a=>y=.returned (.int .i64 n)/\a=V)(C:∀z∈[l,o,n],dF z):Calls prog 40 #[wp cb,gH p word nv tv on] w fun e a=>e=.returned (tx (word++aQ [l,o,n]))/\Below w.heap.size w a:=by
 obtain⟨x,c,X,W,u,v,U,T,s,t,B,rfl,rfl,H,R,P,N,O,M,d⟩:=g.box p word on;have j:Aside _:=d;have i:Wt A c c.drew:=Wt.jy c;have h:=R.drew;have J:Wt A c (c.drew.alloc (.cells #[.int .i64 l,.int .i64 o,.int .i64 n] 3)):=i.trans (.below A ((Below.refl _ _).alloc (le_refl _) _));have q:=G c.drew h;have k:=E c.drew h;have m:=F c.drew h;have Q:=jE c.drew (j.out _ i).gl p word (.slice u ns.length v) (.slice s ts.length t) on [l,o,n] (by simp) 0 (fun _=>C) L;have S:Aside (∀f,Below c.drew.heap.size c.drew f->Below w.heap.size w f):=fun f b=>h.trans (b.mono h.size);clear G E F d g C;go_enter Tryz.func40,Tryz.ntmps40
 go_upto_region 1 with fail
 rw[<-H,<-B];clear H B;go_region_held3 (fun a=>a.cell? ⟨cb,0,none⟩=some (wp kb)/\a.cell? ⟨x,0,none⟩=some (.int .i64 p)/\a.cell? ⟨x,1,none⟩=some (tx word)/\a.cell? ⟨x,2,none⟩=some (.slice u ns.length v)/\a.cell? ⟨x,3,none⟩=some (.slice s ts.length t)/\a.cell? ⟨x,4,none⟩=some (.bool on)) (first|exact(j.out _ i).Zm|exact(j.out _ J).Zm|exact(j.out _ K).Zm) (first
  |(go_at_call 86;refine q.mono ?_;rintro y r ⟨rfl,rfl⟩)
  |(go_at_call 87;refine k.mono ?_;rintro y r ⟨rfl,rfl⟩)
  |(go_at_call 88;refine m.mono ?_;rintro y r ⟨rfl,rfl⟩)
  |(go_at_call 85;refine Q.mono ?_;rintro y f ⟨⟨D,rfl⟩|⟨D,rfl⟩,I⟩;rotate_left;exact absurd rfl D;have K:Wt A c f:=i.trans (.below A I)))
 all_goals
  go_wp2_with fail
  go_ret;exact⟨rfl,S.out _ I⟩
theorem MS{Rn:Nat->World->Prop}{N:Int->Prop}{Y:Prop}(g:Gv w A cb kb nv tv [a] ts)(W:w.frozen? ⟨cb,0,none⟩=false)(G:9<=cb)(Q:word.length<=100000)(n:(∃c,N c/\c≠0/\∀V,Below w.heap.size w V->Calls prog 6 #[.int .i64 a] V fun y l=>y=.returned (.tuple #[.pointer none,eF c])/\l=V)\/(Y/\∀V,Below w.heap.size w V->Calls prog 6 #[.int .i64 a] V fun y l=>∃k,y=.returned (.tuple #[wp k,.nilIface])/\Rn k l/\Below V.heap.size V l)):Calls prog 43 #[wp cb,gH p word nv tv on] w fun e l=>(∃c,N c/\e=thrown (eF c)/\Below w.heap.size w l)\/Y/\∃k V,e=.returned (tx word)/\Below w.heap.size w V/\Rn k V/\Below V.heap.size (V.setCell ⟨cb,0,none⟩ (wp k)) l:=by
 obtain⟨x,j,t,s,nd,D,tb,tf,B,C,u,rfl,rfl,v,o,U,S,F,R,h⟩:=g.box p word on;obtain rfl:=F (by simp);rw[show [a].length=1 from rfl] at *;have J:cb<w.heap.size:=block_lt_of_cell? w _ g.k;have HA:Aside _:=h;obtain⟨-,c0,b0,b1,b2,b3,b4,O,-⟩:=h j (Wt.below A (Below.refl _ _));have n0:j.cell? ⟨t,s,none⟩=some (.int .i64 a):=O 0 (by simp);clear O h;rcases n with⟨c,r,H,n⟩|⟨L,n⟩
 ·have m:=n j o;have I:=zP c;have HX:Aside (N c):=r;clear r;clear n g;go_enter Tryz.func43,Tryz.ntmps43
  go_upto_region 1 with fail
  rw[<-v,<-u];clear v u;go_wp2_with (first
   |(go_at_call 6;refine m.mono ?_;rintro y d ⟨rfl,rfl⟩)
   |(go_at_call 77;refine(I _).mono ?_;rintro y z ⟨rfl,E⟩;subst z))
  exact⟨rfl,.inl ⟨c,HX.out,rfl,o⟩⟩
 ·have m:=n j o;have I:=zO;have HN:Aside (∀k d,Below j.heap.size j d->d.cell? ⟨cb,0,none⟩=some (wp kb)/\d.frozen? ⟨cb,0,none⟩=false/\((d.setCell ⟨cb,0,none⟩ (wp k)).cell? ⟨x,0,none⟩=some (.int .i64 p)/\(d.setCell ⟨cb,0,none⟩ (wp k)).cell? ⟨x,1,none⟩=some (tx word)/\(d.setCell ⟨cb,0,none⟩ (wp k)).cell? ⟨x,2,none⟩=some (.slice (some ⟨t,s,none⟩) 1 D)/\(d.setCell ⟨cb,0,none⟩ (wp k)).cell? ⟨x,3,none⟩=some (.slice B ts.length C)/\(d.setCell ⟨cb,0,none⟩ (wp k)).cell? ⟨x,4,none⟩=some (.bool on))/\Calls prog 85 #[gH p word (.slice (some ⟨t,s,none⟩) 1 D) (.slice B ts.length C) on,aI 0,.slice none 0 0] (d.setCell ⟨cb,0,none⟩ (wp k)) fun e l=>TO word 0 e/\Below d.heap.size (d.setCell ⟨cb,0,none⟩ (wp k)) l):=fun k d b=>by
   have P:Wt A j d:=.below A b;have q:Wt (fun i=>i=cb) d (d.setCell ⟨cb,0,none⟩ (wp k)):=⟨rfl,rfl,rfl,by simp,fun i K Z=>Below.heap_setCell _ _ _ _ Z⟩;obtain⟨gl,e0,e1,e2,e3,e4,e5,_,_⟩:=HA.out d P;have f:¬x=cb:=by omega
   refine⟨e0,?_,⟨q.cell e1 f,q.cell e2 f,q.cell e3 f,q.cell e4 f,q.cell e5 f⟩,?_⟩
   ·have:=(o.trans (b.mono o.size)).frozen (p:=⟨cb,0,none⟩) J;rw[this];exact W
   ·have:=told_none (d.setCell ⟨cb,0,none⟩ (wp k)) (gl.wt q (fun i K=>by rw[K];exact G)) p word (.slice (some ⟨t,s,none⟩) 1 D) (.slice B ts.length C) on 0 Q;rwa[show (d.setCell ⟨cb,0,none⟩ (wp k)).heap.size=d.heap.size by simp[World.setCell]] at this
  have HB:Aside (∀d,Below j.heap.size j d->Below w.heap.size w d):=fun d b=>o.trans (b.mono o.size);have HY:Aside Y:=L;clear n g L;go_enter Tryz.func43,Tryz.ntmps43
  go_upto_region 1 with fail
  rw[<-v,<-u];clear v u;go_wp2_with (first
   |(go_at_call 6;refine m.mono ?_;rintro y d ⟨k,rfl,T,M⟩;obtain⟨m0,m1,⟨z0,z1,z2,z3,z4⟩,X⟩:=HN.out k d M)
   |(go_at_call 77;refine(I _).mono ?_;rintro y z ⟨rfl,E⟩;subst z)
   |(go_at_call 85;refine X.mono ?_;rintro y w3 ⟨⟨H,rfl⟩|⟨H,rfl⟩,b8⟩;rotate_left;exact absurd rfl H))
  go_ret;exact .inr ⟨HY.out,k,d,rfl,HB.out d M,T,b8⟩
theorem aba{L:List Int}{st:Int->Int}(g:Gv w A cb kb nv tv ns ts)(hw:word.length<=100000)(Y:∀V,Below w.heap.size w V->Calls prog 90 #[wp kb] V fun y k=>∃b f,y=.returned (.slice (some ⟨b,0,none⟩) L.length f)/\L.length<=f/\b<k.heap.size/\(∀i (m:i<L.length),k.cell? ⟨b,i,none⟩=some (.int .i64 L[i]))/\Below V.heap.size V k)(X:∀V n,n∈L->Below w.heap.size w V->Calls prog 91 #[wp kb,.int .i64 n] V fun y k=>y=.returned (.int .i64 (st n))/\Below V.heap.size V k)(hL:L.length<=100)(m:∀n∈L,dF n/\dF (st n)):Calls prog 44 #[wp cb,gH p word nv tv on] w fun e k=>e=.returned (tx (word++aQ (mY L st)))/\Below w.heap.size w k:=by
 obtain⟨x,j,nb,no,nd,nc,tb,tf,td,tc,T,rfl,rfl,fB,K,hnc,htc,hnd,htd,c⟩:=g.box p word on;have HA:Aside _:=c;obtain⟨-,c0,-,-,-,-,-,-,-⟩:=c j (Wt.below A (Below.refl _ _));have C:=Y j K;have HS:Aside _:=X;have HI:Aside (∀z∈mY L st,dF z):=fun z S=>by
  unfold mY at S;obtain⟨n,hn,h⟩:=List.mem_flatMap.1 S;have:=m n hn;simp only[List.mem_cons,not_mem_nil,or_false] at h;rcases h with rfl|rfl
  ·exact this.1
  ·exact this.2
 have HB:Aside (∀a,Below j.heap.size j a->Below w.heap.size w a):=fun a b=>K.trans (b.mono K.size);clear Y X c g m;go_enter Tryz.func44,Tryz.ntmps44
 go_upto_region 2 with fail
 rw[<-fB,<-T];clear fB T;go_upto_region 3 with (go_at_call 90;refine C.mono ?_;rintro y a ⟨R,pc,rfl,hpc,s,u,b9⟩)
 have O:Aside (∀V,Below a.heap.size a V->V.cell? ⟨cb,0,none⟩=some (wp kb)/\(∀i (m:i<L.length),V.cell? ⟨R,i,none⟩=some (.int .i64 L[i]))/\Below j.heap.size j V/\Wt A j V):=fun V b=>by
  have M:=b9.trans (b.mono b9.size);exact⟨(HA.out V (.below A M)).c0,fun i m=>by rw[b.cell (p:=⟨R,i,none⟩) s];exact u i m,M,.below A M⟩
 have r:Below a.heap.size a a:=Below.refl _ _;obtain⟨B,Z⟩:∃B,a.heap.size=B:=⟨_,rfl⟩;have D:∀V,Below B a V->B<=V.heap.size:=fun V b=>by rw[<-Z];exact b.size
 have HL:Aside _:=D;rw[Z] at O r;clear u C s D;go_loopg [5,14] L.length (fun mm s5 s14 wr=>∃i:Nat,i+mm=L.length/\s14=.int .i64 (i:Int)/\wr.ownsRow B 3 1 s5 (mY (L.take i) st).length ((mY (L.take i) st).map (Value.int .i64))/\Below B a wr)
 case atStart=>exact⟨0,by omega,rfl,World.ownsRow_nil _ _ _ _,r⟩
 case round=>
  obtain⟨i,hi9,rfl,d,H⟩:=hrel;by_cases hlt:(i:Int)<(L.length:Int)
  ·have o:i<L.length:=by omega
   have v:=Kg st o;have l:=wG (L.take i) st;rw[List.length_take] at l;obtain⟨z0,G,F,P⟩:=O.out wr H;have y0:=G i o;have J:=HS.out wr L[i] (List.getElem_mem o) (HB.out wr F);have HT:Aside _:=v;have hic:(i:Int)<(pc:Int):=by omega
   clear v G;generalize L[i]=q at *;have I:=HL.out wr H;go_upto_region 6 with (first
    |(go_at_call 91;refine J.mono ?_;rintro y Q ⟨rfl,N⟩;obtain⟨v3,w3,U,E,b3⟩:=U8 (rC d N) (by have:=N.size;omega) [q,st q] (by simp only[length_cons,length_nil];omega))
    |(at_builtin;refine gZ rfl _ _ 46 46 rfl _ _ _ w3 rfl rfl U ?_))
   clear U;rw[<-HT.out] at E;go_wp2_with fail
   go_roundg (gk-1)
   case measure=>omega
   case rel=>exact⟨i+1,by omega,by go_num,E,(H.trans (N.mono I)).trans b3⟩
  ·have o:i=L.length:=by omega
   rw[o,List.take_length] at d;clear o;obtain⟨z0,G,F,P⟩:=O.out wr H;obtain⟨gl,-,d0,d1,d2,d3,d4,-,-⟩:=HA.out wr P;obtain⟨ad,f,rfl,t⟩:=BO.row d;have l:=wG L st;have v:=uT wr gl p word (.slice nd ns.length nc) (.slice td ts.length tc) on ad (mY L st) f t (by omega) 0 (fun _=>HI.out) hw;clear G d gl t l;rw[aB] at v;go_wp2_with (go_at_call 85;refine v.mono ?_;rintro y Q ⟨⟨W,rfl⟩|⟨W,rfl⟩,b8⟩;rotate_left;exact absurd rfl W)
   go_ret;exact⟨rfl,HB.out Q (F.trans (b8.mono F.size))⟩
end
end
section
open Go.RowKit Go.Maps
structure Ck (w:World) (cb kb g1 g2:Nat):Prop where
 blk:w.heap[cb]? = some (.cells #[wp kb,.map (some g1),.map (some g2)] 70)
 t1:TM w cb g1 dH
 t2:TM w cb g2 df
theorem DL{w:World}{a g:Nat}{L:Lj}(h:TM w a g L)(i:Nat)(v:Value)(b:g≠a):TM (w.setCell ⟨a,i,none⟩ v) a g L:=h.keep (Below.heap_setCell _ _ _ _ b)
theorem Ip(w:World)(kb:Nat):Calls prog 7 #[wp kb] w fun e o=>∃a b c,e=.returned (wp a)/\Ck o a kb b c/\(w.heap.size<=a/\w.heap.size<=b/\w.heap.size<=c/\a≠b/\a≠c)/\Below w.heap.size w o:=by
 have C:=Fj;have D:=IM;obtain⟨a,t⟩:∃a,w.heap.size=a:=⟨_,rfl⟩;obtain⟨i,j⟩:∃i,w.alloc (.cells #[wp kb,.map none,.map none] 70)=i:=⟨_,rfl⟩;have v:Below w.heap.size w i:=by rw[<-j];exact(Below.refl _ _).alloc (le_refl _) _
 have u:i.heap[a]? = some (.cells #[wp kb,.map none,.map none] 70):=by
  rw[<-j,<-t];show (w.heap.push _)[w.heap.size]? = _;rw[getElem?_push,if_pos rfl]
 have F:Aside (∀h d b c,TM h a b dH->i.heap.size<=b->Below i.heap.size i h->TM d a c df->h.heap.size<=c->Below h.heap.size h d->(d.cell? ⟨a,1,none⟩=some (.map none)/\d.frozen? ⟨a,1,none⟩=false/\d.cell? ⟨a,2,none⟩=some (.map none)/\d.frozen? ⟨a,2,none⟩=false)/\Ck ((d.setCell ⟨a,1,none⟩ (.map (some b))).setCell ⟨a,2,none⟩ (.map (some c))) a kb b c/\(w.heap.size<=a/\w.heap.size<=b/\w.heap.size<=c/\a≠b/\a≠c)/\Below w.heap.size w ((d.setCell ⟨a,1,none⟩ (.map (some b))).setCell ⟨a,2,none⟩ (.map (some c)))):=fun h d b c n y m p x l=>by
  have s:=(Array.getElem?_eq_some_iff.1 u).1;have A:=v.size;have r:=m.size;have k:d.heap[a]? = some (.cells #[wp kb,.map none,.map none] 70):=(l.block a (by omega)).trans ((m.block a s).trans u);have q:=n.keep (w':=d) (l.block b n.lt);have g:b≠a:=by omega
  have f:c≠a:=by omega
  refine⟨⟨by rw[Lib.cell_of_heap k];rfl,Lib.frozen_of_heap k 1,by rw[Lib.cell_of_heap k];rfl,Lib.frozen_of_heap k 2⟩,⟨?_,DL (DL q 1 _ g) 2 _ g,DL (DL p 1 _ f) 2 _ f⟩,⟨by omega,by omega,by omega,fun e=>g e.symm,fun e=>f e.symm⟩,?_⟩
  ·simp[World.setCell,Array.getElem?_modify,k]
  ·exact((v.trans ((m.trans (l.mono r)).mono A)).setCell (by show w.heap.size<=a;omega) _).setCell (by show w.heap.size<=a;omega) _
 have B:∀V:World,V.heap.size=a->True:=fun _ _=>trivial;clear B v u;go_enter Tryz.func7,Tryz.ntmps7
 go_upto_region 2 with fail
 clear j;go_wp2_with (first
  |(go_at_call 21;refine(C _ a).mono ?_;rintro e h ⟨b,rfl,n,y,m⟩)
  |(go_at_call 22;refine(D _ a).mono ?_;rintro e d ⟨c,rfl,p,x,l⟩;obtain⟨⟨J,I,H,G⟩,z⟩:=F.out h d b c n y m p x l;have E:Aside _:=z;clear z))
 go_ret;exact⟨a,b,c,rfl,E.out⟩
end
end Go.Proofs.YtippochapiolpaaGreatDoor

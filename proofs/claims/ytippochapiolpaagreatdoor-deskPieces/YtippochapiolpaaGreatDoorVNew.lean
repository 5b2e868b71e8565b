/- Ours. -/
import Derived.Test.YtippochapiolpaaGreatDoorLefts
import Derived.Test.YtippochapiolpaaGreatDoorJAbs
import Derived.Test.YtippochapiolpaaGreatDoorNew
import Derived.Shelf.SlMaps.Clone
set_option maxHeartbeats 8000000
set_option maxRecDepth 100000
namespace Go.Proofs.YtippochapiolpaaGreatDoor
open Go.Proofs.Tryz(func169 func171 func178 func295 ntmps169 ntmps171 ntmps178 ntmps295 prog results241 underlying163 underlying97)
open Go.World(cell?_of_block frozen?)
open Nat(le_refl lt_of_lt_of_le)
open _root_.Array(getElem?_push)
section
open Go.RowKit Go.Shelf Go.Lib Go.Sort
theorem At.lt'{w:World}{b n:Nat}{U:Nat->Bool}{T:Int->Option Nat}{m:Nat}{A:Nat->Prop}(h:At w b n U T m A){i:Nat}(e:A i):i<w.heap.size:=by
 obtain⟨g,O,V,F,s,p,c,a,j,d,k,f⟩:=h;rcases (f i).1 e with h|rfl
 ·exact p.Jr h
 ·exact a.lt
theorem At.keep'{w w':World}{b n:Nat}{U:Nat->Bool}{T:Int->Option Nat}{m:Nat}{A:Nat->Prop}(h:At w b n U T m A)(e:∀i,A i->w'.heap[i]? = w.heap[i]?):At w' b n U T m A:=by
 obtain⟨g,O,V,F,s,p,c,f,j,a,k,d⟩:=h;exact⟨g,O,V,F,s,p.keep (fun i l=>e i ((d i).2 (.inl l))),c,f.keep (e g ((d g).2 (.inr rfl))),j,a,k,d⟩
theorem At.more'{w:World}{b n:Nat}{U:Nat->Bool}{T:Int->Option Nat}{m d:Nat}{A:Nat->Prop}(h:At w b n U T m A)(j:m<=d):At w b n U T d A:=by
 obtain⟨g,O,V,F,s,p,c,e,f,a,i,k⟩:=h;exact⟨g,O,V,F,s,p,c,e,Nat.le_trans f j,a,i,k⟩
theorem GI(F:Nat->List Int)(o:Nat):∀d,(∃j,o<=j/\j<=o+d/\F j≠[])->∃j,o<=j/\j<=o+d/\F j≠[]/\∀i,o<=i->i<j->F i=[]
 |0,⟨j,h1,h2,h3⟩=>⟨j,h1,h2,h3,fun i a b=>by omega⟩
 |d+1,⟨j,h1,h2,h3⟩=>by
  by_cases h:∃j,o<=j/\j<=o+d/\F j≠[]
  ·obtain⟨i,a,b,f,c⟩:=GI F o d h;exact⟨i,a,by omega,f,c⟩
  ·refine⟨j,h1,h2,h3,fun i a b=>?_⟩;by_cases e:F i=[]
   ·exact e
   ·exact absurd ⟨i,a,by omega,e⟩ h
theorem At.afP{w:World}{b n:Nat}{U:Nat->Bool}{T:Int->Option Nat}{m:Nat}{A:Nat->Prop}(h:At w b n U T m A)(o:Nat)(f:¬ ∀j r,ug U j r->j<o):∃k q,ZT U o (q*2^k) k/\T ((q*2^k:Nat):Int)=none:=by
 obtain⟨g,O,V,F,s,p,c,N,Q,d,R,S⟩:=h;have i:∃j,o<=j/\j<=o+6/\F j≠[]/\j<=6:=by
  refine Classical.byContradiction fun J=>f fun j r a=>?_;by_cases E:o<=j
  ·exfalso;have H:=a.1;have u:=((c j (by omega)).2 _).2 ⟨r,rfl,a⟩;exact J ⟨j,E,by omega,fun e=>(by rw[e] at u;cases u),H⟩
  ·omega
 obtain⟨j,x,L,v,W⟩:=i;obtain⟨k,C,P,B,t⟩:=GI F o 6 ⟨j,x,L,v⟩;have M:k<=6:=by
  by_cases e:k<=j
  ·omega
  ·exact absurd (t j x (by omega)) v
 obtain⟨z,l,G⟩:=List.exists_cons_of_ne_nil B;obtain⟨q,_,a,K⟩:=zR c C M t G;refine⟨k,q,K,?_⟩;cases hT:T ((q*2^k:Nat):Int) with
 |none=>rfl
 |some k'=>
  obtain⟨_,r,D,I⟩:=d.tk _ _ hT;have e:q*2^k=r*2^k':=Int.ofNat.inj D;have y:=a.2.1 _ (bG k q);rw[e,(I _ (bG k' r)).2] at y;cases y
end
section
open Go.RowKit Go.Shelf Go.Lib Go.Sort Go.Maps
theorem Hz{d:List Int}(h:d.Nodup):(d.mergeSort (fun x y=>decide (x<=y))).Pairwise (· < ·):=by
 have g:∀a b c:Int,decide (a<=b)=true->decide (b<=c)=true->decide (a<=c)=true:=fun a b c e f=>by simp only[decide_eq_true_eq] at *;omega
 have i:∀a b:Int,(decide (a<=b) || decide (b<=a))=true:=fun a b=>by simp only[Bool.or_eq_true,decide_eq_true_eq];omega
 have e:=List.pairwise_mergeSort g i d;have f:(d.mergeSort (fun x y=>decide (x<=y))).Nodup:=(List.mergeSort_perm d _).nodup_iff.2 h;exact e.imp₂ (fun {a b} e f=>by simp only[decide_eq_true_eq] at e;omega) f
theorem aK.Gf{w:World}{g s n:Nat}{T:Int->Option Nat}(m:aK w g s (tm T))(b:Within T n):s=num T n:=by
 obtain⟨D,_,_,a,d,e⟩:=m.data;have c:=Hz a;have f:Ks T ((Go.intKeys D).mergeSort (fun x y=>decide (x<=y))):=⟨c,fun x=>by
  rw[(List.mergeSort_perm _ _).mem_iff,e x];unfold tm;cases T x<;>simp⟩
 rw[<-TN f b,(List.mergeSort_perm _ _).length_eq,d]
theorem BInv.within{n:Nat}{U:Nat->Bool}{T:Int->Option Nat}(h:BInv n U T):Within T n:=fun x a=>by
 cases e:T x with
 |none=>rw[e] at a;cases a
 |some k=>
  obtain⟨_,q,c,b⟩:=h.tk x k e;have:=(b _ (bG k q)).1;omega
section
variable {w:World}{b n:Nat}{U:Nat→Bool}{T:Int→Option Nat}{m:Nat}{A:Nat→Prop}
theorem At.inv(h:At w b n U T m A):BInv n U T:=by obtain⟨g,O,V,F,s,p,c,d,e,a,f,i⟩:=h;exact a
theorem At.n256(h:At w b n U T m A):n<=256:=by obtain⟨g,O,V,F,s,p,c,e,f,a,d,i⟩:=h;exact d
theorem At.shrink(h:At w b n U T m A):At w b n U T 256 A:=by
 obtain⟨g,O,V,F,s,p,c,d,i,a,e,f⟩:=h;refine⟨g,O,V,F,s,p,c,d,?_,a,e,f⟩;rw[d.Gf a.within];exact Nat.le_trans (vU _ _) e
theorem give0(h:At w b n U T m A)(f:Nat)(d:T (f:Int)=some 0):Calls prog 330 #[pp b,.int .i64 (f:Int),.int .i64 0] w fun e a=>e=.returned .nilIface/\∃i,FU w b n A a i (fun z=>if z=(f:Int) then none else T z) m:=by
 have c:=Eu h f 0 (by simpa using d);simp only[Nat.pow_zero,Nat.mul_one] at c;refine c.mono ?_;rintro e a ⟨g,t⟩;exact⟨g,_,t⟩
theorem abr(h:At w b n U T m A)(p:m<10000):Calls prog 314 #[pp b,.int .i64 0] w fun e c=>(cnt U 0 n=0/\e=.returned (.tuple #[.int .i64 0,Li 12])/\c=w)\/
  ∃f:Nat,f<n/\T (f:Int)=none/\e=.returned (.tuple #[.int .i64 (f:Int),.nilIface])/\∃v,FU w b n A c v (fun z=>if z=(f:Int) then some 0 else T z) (m+1):=by
 by_cases a:∀j r,ug U j r->j<0
 ·refine(La h 0 (by omega) a).mono ?_;rintro e c ⟨g,o⟩;exact .inl ⟨PH h.inv.bound a,g,o⟩
 ·obtain⟨k,q,i,u⟩:=h.afP 0 a;refine(K9 h p 0 (by omega) k q i).mono ?_;rintro e c ⟨g,t⟩;have s:q*2^k<n:=by
   obtain⟨⟨x,d,l⟩,_,_⟩:=i;rw[d];exact h.inv.bound _ (l.2.1 _ (bG _ _))
  exact .inr ⟨q*2^k,s,u,g,_,t⟩
end
structure St where
 b:Nat
 bm:Nat
 sm:Nat
 bp:Nat
 g:Nat
 n:Nat
abbrev vp(b:Nat):Value:=.pointer (some ⟨b,0,none⟩)
structure Vs (E:St) (w:World) (D:Nat->Nat->Int) (R:Int->Option Nat) (A:Nat->Prop):Prop where
 head:w.heap[E.b]? = some (.cells #[mp E.bm,pp E.bp,.map (some E.g)] 99)
 mem:Mem w E.bm E.sm E.n D
 pool:∃U T,At w E.bp E.n U T 256 A/\ZQ R T
 map:aK w E.g (num R E.n) (tm R)
 small:∀x k,R x=some k->1<=k/\k<=1000
 Dw:¬A E.b
 FB:¬A E.bm
 Dv:¬A E.sm
 iN:¬A E.g
 Vm:E.b≠E.sm
 Ng:E.b≠E.g
 Vl:E.bm≠E.g
 Vb:E.sm≠E.g
 n1:1<=E.n
def bO(E:St)(A:Nat->Prop)(i:Nat):Prop:=A i\/i=E.sm\/i=E.g
def ou(E:St)(w:World)(A:Nat->Prop)(w':World)(D:Nat->Nat->Int)(R:Int->Option Nat):Prop:=
 ∃A',Vs E w' D R A'/\Fr (bO E A) w w'/\∀i,i<w.heap.size->A' i->A i
section
variable {E:St}{w w':World}{D:Nat→Nat→Int}{R:Int→Option Nat}{A:Nat→Prop}
theorem Vs.n256(h:Vs E w D R A):E.n<=256:=by obtain⟨U,T,a,_⟩:=h.pool;exact a.n256
theorem Vs.within(h:Vs E w D R A):Within R E.n:=by
 obtain⟨U,T,a,s⟩:=h.pool;intro x b;refine a.inv.within x ?_;rw[s x];cases e:R x with
 |none=>rw[e] at b;cases b
 |some k=>rfl
theorem Vs.lt(h:Vs E w D R A){i:Nat}(b:A i):i<w.heap.size:=by obtain⟨U,T,a,_⟩:=h.pool;exact a.lt' b
theorem Vs.blt(h:Vs E w D R A):E.b<w.heap.size:=lt_of_heap h.head
theorem Vs.slt(h:Vs E w D R A):E.sm<w.heap.size:=h.mem.acg h.n1
theorem Vs.mlt(h:Vs E w D R A):E.bm<w.heap.size:=h.mem.ach
theorem Vs.uk(h:Vs E w D R A):E.g<w.heap.size:=h.map.lt
theorem Vs.Dm(h:Vs E w D R A){i:Nat}(a:bO E A i):i<w.heap.size:=by
 rcases a with a|rfl|rfl
 ·exact h.lt a
 ·exact h.slt
 ·exact h.uk
theorem Vs.bno(h:Vs E w D R A):¬bO E A E.b:=by
 rintro (a|e|e)
 ·exact h.Dw a
 ·exact h.Vm e
 ·exact h.Ng e
theorem Vs.mno(h:Vs E w D R A):¬bO E A E.bm:=by
 rintro (a|e|e)
 ·exact h.FB a
 ·exact h.mem.ne e
 ·exact h.Vl e
theorem Vs.keep(h:Vs E w D R A)(b:∀i,bO E A i->w'.heap[i]? = w.heap[i]?)(e:w'.heap[E.b]? = w.heap[E.b]?)(c:w'.heap[E.bm]? = w.heap[E.bm]?):Vs E w' D R A:=by
 obtain⟨U,T,a,s⟩:=h.pool;exact⟨e.trans h.head,h.mem.keep c (b _ (.inr (.inl rfl))),⟨U,T,a.keep' (fun i d=>b i (.inl d)),s⟩,h.map.keep (b _ (.inr (.inr rfl))),h.small,h.Dw,h.FB,h.Dv,h.iN,h.Vm,h.Ng,h.Vl,h.Vb,h.n1⟩
theorem Vs.below(h:Vs E w D R A)(a:Below w.heap.size w w'):Vs E w' D R A:=
 h.keep (fun i b=>a.block i (h.Dm b)) (a.block _ h.blt) (a.block _ h.mlt)
theorem Vs.c0(h:Vs E w D R A):w.cell? ⟨E.b,0,none⟩=some (mp E.bm):=by rw[cell_of_row w E.b 0 _ _ _ h.head];rfl
theorem Vs.c1(h:Vs E w D R A):w.cell? ⟨E.b,1,none⟩=some (pp E.bp):=by rw[cell_of_row w E.b 1 _ _ _ h.head];rfl
theorem Vs.c2(h:Vs E w D R A):w.cell? ⟨E.b,2,none⟩=some (.map (some E.g)):=by rw[cell_of_row w E.b 2 _ _ _ h.head];rfl
theorem Vs.yP(h:Vs E w D R A)(x:Int):val R x<=1000:=by
 unfold val;cases e:R x with
 |none=>simp
 |some k=>exact(h.small x k e).2
theorem Vs.VR(h:Vs E w D R A){x:Int}(a:(R x).isSome=true):1<=val R x:=by
 unfold val;cases e:R x with
 |none=>rw[e] at a;cases a
 |some k=>exact(h.small x k e).1
theorem Vs.neg(h:Vs E w D R A){x:Int}(a:x<0):R x=none:=by
 cases e:R x with
 |none=>rfl
 |some k=>have:=h.within x (by rw[e];rfl);omega
theorem DK(R:Int->Option Nat)(x:Int):(tm R x).getD (.int .i64 0)=.int .i64 (val R x:Int):=by
 unfold tm val;cases R x<;>rfl
theorem wB(R:Int->Option Nat)(x:Int):(tm R x).isSome=(R x).isSome:=by unfold tm;cases R x<;>rfl
theorem Ea(R:Int->Option Nat)(x:Int)(k:Nat):(fun i=>if i=x then some (.int .i64 (k:Int)) else tm R i)=tm (jo R x k):=RB R x k
theorem ou.refl(h:Vs E w D R A):ou E w A w D R:=⟨A,h,Fr.refl _ _,fun _ _ h=>h⟩
theorem Vs.count(h:Vs E w D R A){b:Int->Option Nat}(g:w.grownBy w' (some E.g))(j:aK w' E.g (num b E.n) (tm b))(f:∀x k,b x=some k->1<=k/\k<=1000)(l:∀x,(b x).isSome=(R x).isSome):ou E w A w' D b:=by
 obtain⟨U,T,a,s⟩:=h.pool;have c:∀i,i<w.heap.size->i≠E.g->w'.heap[i]? = w.heap[i]? := fun i d m=>g.block i d (fun e=>m (Option.some.inj e));refine⟨A,⟨(c _ h.blt h.Ng).trans h.head,h.mem.keep (c _ h.mlt h.Vl) (c _ h.slt h.Vb),⟨U,T,a.keep' (fun i d=>c i (a.lt' d) (fun e=>h.iN (e ▸ d))),fun x=>?_⟩,j,f,h.Dw,h.FB,h.Dv,h.iN,h.Vm,h.Ng,h.Vl,h.Vb,h.n1⟩,(Fr.grown g).mono (fun i _ e=>.inr (.inr e)),fun _ _ h=>h⟩;rw[s x];have:=l x;cases e:b x<;>cases e':R x<;>rw[e,e'] at this<;>first|rfl|cases this
theorem Vs.left(h:Vs E w D R A):Calls prog 140 #[vp E.b] w fun e c=>e=.returned (.int .i64 ((E.n-num R E.n:Nat):Int))/\c=w:=by
 obtain⟨U,T,a,s⟩:=h.pool;have g:=GG a.inv s;have f:E.n-num R E.n=cnt U 0 E.n:=by omega
 have j:=h.c1;have d:=Xy a;rw[f];go_enter Tryz.func140,Tryz.ntmps140
 go_wp2_with (go_at_call 213;refine d.mono ?_;rintro e b ⟨rfl,i⟩;subst b)
 go_ret;exact⟨rfl,rfl⟩
theorem Vs.Y4(h:Vs E w D R A)(f:Int)(hf:(Lit.int .i64 f).wf=true):Calls prog 260 #[vp E.b,.int .i64 f] w fun e w'=>e=.returned (.bool (decide (val R f=1)))/\w'=w:=by
 have c2:=h.c2;have hv:=h.yP f;have hm:=h.map;have ht:=DK R f;go_enter Tryz.func260,Tryz.ntmps260
 go_wp2_with (at_lookup;refine iH rfl _ _ 97 rfl 3 underlying97 _ (lX _) E.g _ _ rfl hm f rfl hf ?_;rw[ht])
 go_ret;refine⟨?_,rfl⟩;by_cases e:val R f=1<;>simp[e]
 omega
theorem Vs.JY(_h:Vs E w D R A):Calls prog 296 #[vp E.b,.int .i64 (-1)] w fun e a=>e=.returned (.tuple #[])/\a=w:=by
 go_enter Tryz.func296,Tryz.ntmps296
 go_wp2_with fail
 go_end0
 exact⟨rfl,rfl⟩
theorem Vs.Tc(h:Vs E w D R A)(f:Int)(hf:(R f).isSome=true)(hv:val R f<1000):Calls prog 296 #[vp E.b,.int .i64 f] w fun e w'=>e=.returned (.tuple #[])/\ou E w A w' D (jo R f (val R f+1)):=by
 have c2:=h.c2;have hm:=h.map;have ht:=DK R f;have hw:=h.within f hf;have hn:=h.n256;have hwf:(Lit.int .i64 f).wf=true:=fJ hw.1 (by omega);have hne:¬f=-1:=by omega
 have hsz:num R E.n<maxLen:=by have:=vU R E.n;unfold maxLen;omega
 have hfin:∀w',aK w' E.g (if (tm R f).isSome then num R E.n else num R E.n+1) (fun i=>if i=f then some (.int .i64 ((val R f:Int)+1)) else tm R i)->w.grownBy w' (some E.g)->ou E w A w' D (jo R f (val R f+1)):=by
  intro w' pm hg;rw[wB,if_pos hf,show ((val R f:Int)+1)=((val R f+1:Nat):Int) by omega,Ea] at pm;refine h.count hg (by rw[xG hf];exact pm) (fun x k hk=>?_) (fun x=>?_)
  ·unfold jo at hk;split at hk
   ·cases hk;omega
   ·exact h.small x k hk
  ·unfold jo;split
   ·rename_i e;rw[e,hf];rfl
   ·rfl
 generalize val R f=v at *;go_enter Tryz.func296,Tryz.ntmps296
 go_wp2_with (first
  |(at_lookup;refine iH rfl _ _ 97 rfl 3 underlying97 _ (lX _) E.g _ _ rfl hm f rfl hwf ?_;rw[ht])
  |(at_mapUpdate;refine ib rfl _ _ _ 97 rfl 3 underlying97 E.g _ _ rfl hm hsz f rfl hwf (.int .i64 ((v:Int)+1)) rfl ?_;intro w1 yB g1))
 go_end0
 exact⟨rfl,hfin _ yB g1⟩
def di(R:Int->Option Nat)(f:Int):Int->Option Nat:=fun x=>if x=f then (if val R f<=1 then none else some (val R f-1)) else R x
theorem C8{R:Int->Option Nat}{f x:Int}:val (di R f) x=if x=f then val R f-1 else val R x:=by
 unfold val di;by_cases e:x=f
 ·simp only[if_pos e];split
  ·rename_i h;unfold val at h;rw[Option.getD_none];omega
  ·rfl
 ·simp only[if_neg e]
theorem rO{R:Int->Option Nat}(h:R (-1)=none):di R (-1)=R:=by
 funext x;unfold di;split
 ·rename_i e;rw[e,h];simp[val,h]
 ·rfl
theorem A8{R:Int->Option Nat}{n:Nat}{f:Int}(h:0<=f)(g:f<(n:Int))(b:(R f).isSome=true)(a:val R f<=1):num (di R f) n+1=num R n:=by
 have c:((f.toNat:Nat):Int)=f:=by omega
 refine(gB (f:=f.toNat) (d:=1) ?_ (fun i e=>?_) n 0 (by omega) (by omega)).symm
 ·simp[di,c,b,a]
 ·have:¬(i:Int)=f:=by omega
  simp[di,this]
theorem mM{R:Int->Option Nat}{f:Int}(a:1<val R f):di R f=jo R f (val R f-1):=by
 funext x;unfold di jo;split
 ·rw[if_neg (by omega)]
 ·rfl
theorem tT{R:Int->Option Nat}{f:Int}(a:val R f<=1):di R f=fun x=>if x=f then none else R x:=by
 funext x;unfold di;rw[if_pos a]
theorem drop_nil(b:Nat)(w:World):Calls prog 295 #[vp b,.int .i64 (-1)] w fun e a=>e=.returned (.tuple #[])/\a=w:=by
 go_enter func295,ntmps295
 go_wp2_with fail
 (try simp only[Exit.inBlock,Exit.then]);refine bodyPost_ret (results_none rfl _ _ _) rfl ?_
 exact⟨rfl,rfl⟩
theorem Vs.P9(h:Vs E w D R A):Calls prog 295 #[vp E.b,.int .i64 (-1)] w fun e a=>e=.returned (.tuple #[])/\ou E w A a D (di R (-1)):=by
 refine(drop_nil E.b w).mono ?_;rintro e a ⟨c,b⟩;subst b;exact⟨c,by rw[rO (h.neg (by omega:(-1:Int)<0))];exact ou.refl h⟩
theorem G5{b g s:Nat}(c2:w.cell? ⟨b,2,none⟩=some (.map (some g)))(hm:aK w g s (tm R))(hs:s<maxLen)(hbg:b≠g)(f:Int)(h0:0<=f)(h1:f<1000)(hv1:1<val R f)(hvl:val R f<=1000):Calls prog 295 #[vp b,.int .i64 f] w fun e w'=>e=.returned (.tuple #[])/\aK w' g s (tm (di R f))/\w.grownBy w' (some g):=by
 have hf:(tm R f).isSome=true:=by
  rw[wB];cases e:R f with
  |none=>rw[val,e] at hv1;simp at hv1
  |some k=>rfl
 have ht:=DK R f;have hwf:(Lit.int .i64 f).wf=true:=fJ h0 (by omega);have hne:¬f=-1:=by omega
 have hfin:∀w',aK w' g (if (tm R f).isSome then s else s+1) (fun i=>if i=f then some (.int .i64 ((val R f:Int)-1)) else tm R i)->aK w' g s (tm (di R f)):=by
  intro w' pm;rw[if_pos hf,show ((val R f:Int)-1)=((val R f-1:Nat):Int) by omega,Ea] at pm;rw[mM hv1];exact pm
 generalize val R f=v at *;have hbs:some b≠some g:=fun e=>hbg (Option.some.inj e);go_enter func295,ntmps295
 go_wp2_with (first
  |(at_lookup;refine iH rfl _ _ 97 rfl 3 underlying97 _ (lX _) g _ _ rfl hm f rfl hwf ?_;rw[ht])
  |(at_lookup;refine iH rfl _ _ 97 rfl 3 underlying97 _ (lX _) g _ _ rfl yB f rfl hwf ?_;simp only[if_true,Option.getD_some])
  |(at_mapUpdate;refine ib rfl _ _ _ 97 rfl 3 underlying97 g _ _ rfl hm hs f rfl hwf (.int .i64 ((v:Int)-1)) rfl ?_;intro w1 yB g1;have c2':=g1.cell c2 hbs))
 go_end0
 exact⟨rfl,hfin _ yB,g1⟩
theorem nH{R:Int->Option Nat}{f:Int}(a:1<=val R f):(R f).isSome=true:=by
 cases e:R f with
 |none=>rw[val,e] at a;simp at a
 |some k=>rfl
theorem A7{R:Int->Option Nat}{n:Nat}{f:Int}(a:1<val R f):num (di R f) n=num R n:=by
 rw[mM a];exact xG (nH (by omega))
theorem AU{R:Int->Option Nat}{f:Int}(a:1<val R f)(x:Int):(di R f x).isSome=(R x).isSome:=by
 rw[mM a];unfold jo;split
 ·rename_i e;rw[e,nH (by omega)];rfl
 ·rfl
theorem Vs.Qa(h:Vs E w D R A)(f:Int)(a:1<val R f):Calls prog 295 #[vp E.b,.int .i64 f] w fun e c=>e=.returned (.tuple #[])/\ou E w A c D (di R f):=by
 have g:=h.within f (nH (by omega));have l:=h.n256;refine(G5 h.c2 h.map (by have:=vU R E.n;unfold maxLen;omega) h.Ng f g.1 (by omega) a (h.yP f)).mono ?_;rintro e c ⟨j,d,i⟩;refine⟨j,h.count i (by rw[A7 a];exact d) (fun x k b=>?_) (AU a)⟩;rw[mM a] at b;unfold jo at b;split at b
 ·cases b;have:=h.yP f;omega
 ·exact h.small x k b
theorem Vs.Qb(h:Vs E w D R A)(f:Int)(hv1:val R f=1):Calls prog 295 #[vp E.b,.int .i64 f] w fun e w'=>e=.returned (.tuple #[])/\ou E w A w' D (di R f):=by
 have hf:(R f).isSome=true:=by
  cases e:R f with
  |none=>rw[val,e] at hv1;simp at hv1
  |some k=>rfl
 have c1:=h.c1;have c2:=h.c2;have hbg:=h.Ng;have hm:=h.map;have ht:=DK R f;have hw:=h.within f hf;have hn:=h.n256;have hwf:(Lit.int .i64 f).wf=true:=fJ hw.1 (by omega);have hne:¬f=-1:=by omega
 have hsz:num R E.n<maxLen:=by have:=vU R E.n;unfold maxLen;omega
 have Je:=A8 hw.1 hw.2 hf (by omega);have hfin:∀w2 s,aK w2 E.g s (fun i=>if i=f then none else if i=f then some (.int .i64 0) else tm R i)->s+1=num R E.n->Fr (·=E.g) w w2->Calls prog 330 #[pp E.bp,.int .i64 f,.int .i64 0] w2 fun e w'=>e=.returned .nilIface/\ou E w A w' D (di R f):=by
  intro w2 s pm hs fr;obtain⟨U,T,a,so⟩:=h.pool;have hT:T f=some 0:=by
   rw[so f];cases e:R f with
   |none=>rw[e] at hf;cases hf
   |some k=>rfl
  have hk:∀i,i<w.heap.size->i≠E.g->w2.heap[i]? = w.heap[i]? := fun i hi hn=>fr.block i hi hn;have a2:=a.keep' (fun i hi=>hk i (a.lt' hi) (fun e=>h.iN (e ▸ hi)));obtain⟨q,rfl⟩:∃q:Nat,f=(q:Int):=⟨f.toNat,by omega⟩;refine(give0 a2 q hT).mono ?_;rintro e w' ⟨he,U',A',a',fr',sub'⟩;have hl:∀i,i<w.heap.size->i<w2.heap.size:=fun i hi=>lt_of_lt_of_le hi fr.size;have hk':∀i,i<w.heap.size->i≠E.g->¬A i->w'.heap[i]? = w.heap[i]? := fun i hi hn hA=>(fr'.block i (hl i hi) hA).trans (hk i hi hn);have hpm:(fun i=>if i=(q:Int) then none else if i=(q:Int) then some (.int .i64 0) else tm R i)=tm (di R q):=by
   rw[tT (by omega)];funext i;unfold tm;by_cases e:i=(q:Int)<;>simp[e]
  rw[hpm] at pm;refine⟨he,A',⟨(hk' _ h.blt h.Ng h.Dw).trans h.head,h.mem.keep (hk' _ h.mlt h.Vl h.FB) (hk' _ h.slt h.Vb h.Dv),⟨U',_,a',fun x=>?_⟩,?_,fun x k hx=>?_,fun ha=>h.Dw (sub' _ (hl _ h.blt) ha),fun ha=>h.FB (sub' _ (hl _ h.mlt) ha),fun ha=>h.Dv (sub' _ (hl _ h.slt) ha),fun ha=>h.iN (sub' _ (hl _ h.uk) ha),h.Vm,h.Ng,h.Vl,h.Vb,h.n1⟩,?_,fun i hi ha=>sub' i (hl i hi) ha⟩
  ·rw[tT (by omega)];simp only;split
   ·rfl
   ·exact so x
  ·rw[show num (di R q) E.n=s by omega];exact pm.keep (fr'.block _ pm.lt h.iN)
  ·rw[tT (by omega)] at hx;simp only at hx;split at hx
   ·cases hx
   ·exact h.small x k hx
  ·exact(fr.mono (fun i _ e=>.inr (.inr e))).trans fr' (fun i _ ha=>.inl ha)
 have hsm:(tm R f).isSome=true:=by rw[wB];exact hf
 have hnp:1<=num R E.n:=by omega
 replace ht:(tm R f).getD (.int .i64 0)=.int .i64 1:=by rw[ht,hv1];rfl
 generalize num R E.n=nn at *;have hbs:some E.b≠some E.g:=fun e=>hbg (Option.some.inj e);go_enter func295,ntmps295
 go_wp2_with (first
  |(at_lookup;refine iH rfl _ _ 97 rfl 3 underlying97 _ (lX _) E.g _ _ rfl hm f rfl hwf ?_;rw[ht])
  |(at_lookup;refine iH rfl _ _ 97 rfl 3 underlying97 _ (lX _) E.g _ _ rfl yB f rfl hwf ?_;simp only[if_true,Option.getD_some])
  |(at_mapUpdate;refine ib rfl _ _ _ 97 rfl 3 underlying97 E.g _ _ rfl hm hsz f rfl hwf (.int .i64 0) rfl ?_;intro w1 yB g1;have c2':=g1.cell c2 hbs)
  |(at_delete;refine nE rfl _ _ 97 rfl 3 underlying97 E.g _ _ rfl yB f rfl hwf ?_;intro w2 wX g2;have c1':=g2.cell (g1.cell c1 hbs) hbs)
  |(go_at_call 330;refine(hfin _ _ wX (by simp[hsm];omega) ((Fr.grown g1).trans (Fr.grown g2) (fun _ _ h=>h))).mono ?_;rintro e w3 ⟨rfl,t3⟩))
 go_end0
 exact⟨rfl,t3⟩
theorem Vs.EC(h:Vs E w D R A)(f:Int)(a:f=-1\/(R f).isSome=true):Calls prog 295 #[vp E.b,.int .i64 f] w fun e b=>e=.returned (.tuple #[])/\ou E w A b D (di R f):=by
 rcases a with rfl|a
 ·exact h.P9
 ·by_cases c:val R f=1
  ·exact h.Qb f c
  ·exact h.Qa f (by have:=h.VR a;omega)
def eY(D:Nat->Nat->Int)(f:Int):Nat->Int:=fun j=>if f=-1 then 0 else D f.toNat j
theorem Vs.RS(h:Vs E w D R A)(f:Int)(hf:f=-1\/1<val R f):Calls prog 261 #[vp E.b,.int .i64 f] w fun e w'=>(num R E.n=E.n/\e=.returned (.tuple #[.int .i64 (-1),Li 12])/\w'=w)\/
  ∃k:Nat,k<E.n/\R (k:Int)=none/\e=.returned (.tuple #[.int .i64 (k:Int),.nilIface])/\ou E w A w' (row D k (eY D f)) (jo (di R f) (k:Int) 1):=by
 obtain⟨U,T,a,so⟩:=h.pool;have hn:=h.n256;have ajx:=GG a.inv so;have c0:=h.c0;have c1:=h.c1;have c2:=h.c2
 -- all that comes behind the afW answer
 have y:∀(k:Nat) (l g q d:World) (B:Nat->Prop) (K:Nat->Bool) (s:Nat),k<E.n->R (k:Int)=none->At l E.bp E.n K (fun z=>if z=(k:Int) then some 0 else T z) 257 B->Fr A w l->(∀i,i<w.heap.size->B i->A i)->
  Mem g E.bm E.sm E.n (row D k (eY D f))->l.grownBy g (some E.sm)->g.grownBy q (some E.g)->q.grownBy d (some E.g)->aK d E.g s (tm (jo (di R f) (k:Int) 1))->ou E w A d (row D k (eY D f)) (jo (di R f) (k:Int) 1):=by
  intro k l g q d B K s P n X t b L p J I Y;have l1:∀i,i<w.heap.size->i<l.heap.size:=fun i c=>lt_of_lt_of_le c t.size;have l2:∀i,i<l.heap.size->i<g.heap.size:=fun i c=>lt_of_lt_of_le c p.size;have l3:∀i,i<g.heap.size->i<q.heap.size:=fun i c=>lt_of_lt_of_le c J.size;have k4:∀i,i<g.heap.size->i≠E.g->d.heap[i]? = g.heap[i]? := fun i c Z=>(I.block i (l3 i c) (fun e=>Z (Option.some.inj e))).trans (J.block i c (fun e=>Z (Option.some.inj e)));have k2:∀i,i<l.heap.size->i≠E.g->i≠E.sm->d.heap[i]? = l.heap[i]? := fun i c Z hs=>(k4 i (l2 i c) Z).trans (p.block i c (fun e=>hs (Option.some.inj e)));have V:∀i,B i->i≠E.g/\i≠E.sm:=fun i c=>⟨fun e=>h.iN (b _ h.uk (e ▸ c)),fun e=>h.Dv (b _ h.slt (e ▸ c))⟩;have m:∀x,(di R f x).isSome=(R x).isSome:=by
   rcases hf with rfl|N
   ·intro x;rw[rO (h.neg (by omega))]
   ·exact AU N
  have hdk:di R f (k:Int)=none:=by
   have:=m k;rw[n] at this;cases e:di R f (k:Int) with
   |none=>rfl
   |some v=>rw[e] at this;cases this
  have hwi:Within (jo (di R f) (k:Int) 1) E.n:=by
   refine Within.put (fun x o=>h.within x (by rw[<-m];exact o)) (by omega) (by omega)
  refine⟨B,⟨?_,L.keep (k4 _ (l2 _ (l1 _ h.mlt)) h.Vl) (k4 _ (l2 _ (l1 _ h.slt)) h.Vb),⟨K,_,X.shrink.keep' (fun i c=>k2 i (X.lt' c) (V i c).1 (V i c).2),fun x=>?_⟩,?_,fun x v o=>?_,fun G=>h.Dw (b _ h.blt G),fun G=>h.FB (b _ h.mlt G),fun G=>h.Dv (b _ h.slt G),fun G=>h.iN (b _ h.uk G),h.Vm,h.Ng,h.Vl,h.Vb,h.n1⟩,?_,b⟩
  ·exact((k2 _ (l1 _ h.blt) h.Ng h.Vm).trans (t.block _ h.blt h.Dw)).trans h.head
  ·simp only[jo];split
   ·rfl
   ·rw[so x];have:=m x;cases e:di R f x<;>cases e':R x<;>rw[e,e'] at this<;>first|rfl|cases this
  ·rw[<-Y.Gf hwi];exact Y
  ·unfold jo at o;split at o
   ·cases o;omega
   ·rcases hf with rfl|N
    ·rw[rO (h.neg (by omega))] at o;exact h.small x v o
    ·rw[mM N] at o;unfold jo at o;split at o
     ·cases o;have:=h.yP f;omega
     ·exact h.small x v o
  ·exact(((t.mono (fun i _ h=>.inl h)).trans (Fr.grown p) (fun i _ e=>.inr (.inl e))).trans (Fr.grown J) (fun i _ e=>.inr (.inr e))).trans (Fr.grown I) (fun i _ e=>.inr (.inr e))
 have hbs:some E.b≠some E.g:=fun e=>h.Ng (Option.some.inj e);have F:some E.b≠some E.sm:=fun e=>h.Vm (Option.some.inj e);go_enter Tryz.func261,Tryz.ntmps261
 go_wp2_with fail
 refine(abr a (by omega)).mono ?_;rintro e l (⟨hcnt,rfl,hw⟩|⟨k,P,hT,rfl,K,B,X,t,b⟩)
 ·subst l;go_wp2_with fail
  go_ret2;exact .inl ⟨by omega,rfl,rfl⟩
 ·have n:R (k:Int)=none:=by
   have:=so k;rw[hT] at this;cases e:R (k:Int) with
   |none=>rfl
   |some v=>rw[e] at this;cases this
  have S:=t.block _ h.blt h.Dw;have d0:l.cell? ⟨E.b,0,none⟩=some (mp E.bm):=by rw[cell?_of_block (w:=w) (a:=⟨E.b,0,none⟩) S];exact c0
  have d2:l.cell? ⟨E.b,2,none⟩=some (.map (some E.g)):=by rw[cell?_of_block (w:=w) (a:=⟨E.b,2,none⟩) S];exact c2
  have m1:=h.mem.keep (t.block _ h.mlt h.FB) (t.block _ h.slt h.Dv);have yB:=h.map.keep (t.block _ h.uk h.iN);have aft:=h.Vb;have Q:some E.g≠some E.sm:=fun e=>aft (Option.some.inj e).symm;have VG:E.g<l.heap.size:=yB.lt;have Je:=vU R E.n;have r:num R E.n<maxLen:=by unfold maxLen;omega
  have W:(Lit.int .i64 (k:Int)).wf=true:=fJ (by omega) (by omega);have M:=h.within;have hvl:=h.yP f;have O:=h.neg (x:=-1) (by omega);have afu:=h.Ng;have u:∀(q d:World) (s:Nat),aK d E.g s (fun i=>if i=(k:Int) then some (.int .i64 1) else tm (di R f) i)->aK d E.g s (tm (jo (di R f) (k:Int) 1)):=fun q d s Y=>by
   rw[<-Ea];exact Y
  rcases hf with rfl|N
  ·have hZ:=VK m1 (k:Int) (by omega) (by omega);have e0:eY D (-1)=fun _=>0:=by funext j;simp[eY]
   have edr:di R (-1)=R:=rO O;go_wp2_with fail
   refine hZ.mono ?_;rintro e g ⟨rfl,L,_,p⟩;have d0':=p.cell d0 F;have H:=p.cell d2 F;have wX:=yB.keep (p.block _ VG Q);go_wp2_with (first
    |(go_at_call 295;refine(drop_nil _ _).mono ?_;rintro e q ⟨rfl,h3⟩;subst q)
    |(at_mapUpdate;refine ib rfl _ _ _ 97 rfl 3 underlying97 E.g _ _ rfl wX r (k:Int) rfl W _ rfl ?_;intro d Qw I))
   go_ret2;refine .inr ⟨k,P,n,rfl,y k l g g d B K _ P n X t b (by rw[e0];simpa using L) p (World.grownBy.refl g _) I (u g d _ (by rw[edr];exact Qw))⟩
  ·have C:=M f (nH (by omega));have hC:=Yd m1 (k:Int) f (by omega) (by omega) C.1 C.2;have hnf:¬f=-1:=by omega
   have e0:eY D f=D f.toNat:=by funext j;simp[eY,hnf]
   go_wp2_with fail
   refine hC.mono ?_;rintro e g ⟨rfl,L,_,p⟩;have H:=p.cell d2 F;have wX:=yB.keep (p.block _ VG Q);have hdr:=G5 H wX r afu f C.1 (by omega) N hvl;go_wp2_with fail
   refine hdr.mono ?_;rintro e q ⟨rfl,Zk,J⟩;have d3:=J.cell H hbs;go_wp2_with (at_mapUpdate;refine ib rfl _ _ _ 97 rfl 3 underlying97 E.g _ _ rfl Zk r (k:Int) rfl W _ rfl ?_;intro d Qw I)
   go_ret2;exact .inr ⟨k,P,n,rfl,y k l g q d B K _ P n X t b (by rw[e0];simpa using L) p J I (u q d _ Qw)⟩
end
def vO(P:PM):Int->Option Value:=fun a=>(P a).map fun p=>.agg #[.int .i64 p.1,.int .i64 p.2]
def pg(P:PM)(a:Int):Int×Int:=(P a).getD (0,0)
theorem El(P:PM)(a:Int):(vO P a).getD (.agg #[.int .i64 0,.int .i64 0])=.agg #[.int .i64 (pg P a).1,.int .i64 (pg P a).2]:=by
 unfold vO pg;cases P a<;>rfl
theorem mr(P:PM)(a:Int):(vO P a).isSome=(P a).isSome:=by unfold vO;cases P a<;>rfl
theorem Ej(P:PM)(a x y:Int):(fun i=>if i=a then some (.agg #[.int .i64 x,.int .i64 y]) else vO P i)=vO (dC P a (x,y)):=by
 funext i;unfold vO dC;split<;>rfl
theorem WH(P:PM)(a:Int):(fun i=>if i=a then none else vO P i)=vO (mV P a):=by
 funext i;by_cases e:i=a<;>simp[vO,mV,e]
theorem DN{P:PM}{a:Int}(h:(P a).isSome=true):(pg P a).2=aR P a:=by
 unfold pg aR;cases e:P a with
 |none=>rw[e] at h;cases h
 |some p=>rfl
theorem WI{P:PM}{a:Int}(h:(P a).isSome=true):P a=some (pg P a):=by
 unfold pg;cases e:P a with
 |none=>rw[e] at h;cases h
 |some p=>rfl
structure Sp (w:World) (c b gc:Nat) (P:PM):Prop where
 head:w.heap[c]? = some (.cells #[vp b,.map (some gc)] 165)
 map:aK w gc (bX P) (vO P)
theorem wh(w:World):(zeroValue 264).run prog w=.ok (.agg #[.int .i64 0,.int .i64 0]) w:=by kernel_rfl
theorem xE(x y:Int)(W:World):(Instr.field 264 (.agg #[.int .i64 x,.int .i64 y]) 1).run prog W=.ok (.int .i64 y) W:=by kernel_rfl
theorem pE(g:Nat->Nat):∀(m a:Nat),sumTo g a (m+1)=sumTo g a m+g (a+m)
 |0,a=>by simp[sumTo]
 |m+1,a=>by rw[sumTo,pE g m (a+1),sumTo];rw[show a+1+m=a+(m+1) by omega];omega
def iO(P:PM)(a:Int)(n:Nat):Nat:=sumTo (fun i=>if (P (a+i)).isSome then 1 else 0) 0 n
theorem wO(P:PM)(a:Int)(n:Nat):iO P a (n+1)=iO P a n+if (P (a+n)).isSome then 1 else 0:=by
 unfold iO;rw[pE,Nat.zero_add]
theorem MN(P:PM)(a:Int)(n:Nat):iO P a n<=n:=by
 have:=iw (g:=fun i:Nat=>if (P (a+i)).isSome then 1 else 0) (d:=1) n 0 (fun i=>by split<;>omega);unfold iO;omega
theorem rJ{P:PM}{a:Int}:∀ {n:Nat},iO P a n=0->∀i:Nat,i<n->P (a+i)=none
 |n+1,h,i,hi=>by
  rw[wO] at h;by_cases e:i=n
  ·subst e;cases e':P (a+i) with
   |none=>rfl
   |some p=>rw[e'] at h;simp at h
  ·exact rJ (n:=n) (by omega) i (by omega)
theorem u7{P:PM}{a:Int}:∀ {n:Nat},¬iO P a n<n->∀i:Nat,i<n->(P (a+i)).isSome=true
 |n+1,h,i,hi=>by
  rw[wO] at h;have:=MN P a n;by_cases e:i=n
  ·subst e;cases e':(P (a+i)).isSome with
   |true=>rfl
   |false=>rw[e'] at h;simp at h;omega
  ·refine u7 (n:=n) ?_ i (by omega);split at h<;>omega
section
variable {w w':World}{c b gc:Nat}{P:PM}
theorem Sp.lt(h:Sp w c b gc P):c<w.heap.size:=lt_of_heap h.head
theorem Sp.uk(h:Sp w c b gc P):gc<w.heap.size:=h.map.lt
theorem Sp.ne(h:Sp w c b gc P):c≠gc:=by
 rintro rfl;obtain⟨d,e,a⟩:=h.map.isMap;rw[h.head] at a;cases a
theorem Sp.keep(h:Sp w c b gc P)(d:w'.heap[c]? = w.heap[c]?)(a:w'.heap[gc]? = w.heap[gc]?):Sp w' c b gc P:=⟨d.trans h.head,h.map.keep a⟩
theorem Sp.below(h:Sp w c b gc P)(a:Below w.heap.size w w'):Sp w' c b gc P:=h.keep (a.block c h.lt) (a.block gc h.uk)
theorem Sp.c0(h:Sp w c b gc P):w.cell? ⟨c,0,none⟩=some (vp b):=by rw[cell_of_row w c 0 _ _ _ h.head];rfl
theorem Sp.c1(h:Sp w c b gc P):w.cell? ⟨c,1,none⟩=some (.map (some gc)):=by rw[cell_of_row w c 1 _ _ _ h.head];rfl
theorem find_ok(h:Sp w c b gc P)(a:Int)(k:(Lit.int .i64 a).wf=true):Calls prog 214 #[vp c,.int .i64 a] w fun e f=>e=.returned (.tuple #[.agg #[.int .i64 (pg P a).1,.int .i64 (pg P a).2],.bool (P a).isSome])/\Below w.heap.size w f:=by
 have l:=h.c1;have i:=h.map;have j:=El P a;have g:=mr P a;have d:=h.lt;have m:=h.uk;clear h;generalize (pg P a).1=x at *;generalize (pg P a).2=y at *;generalize (P a).isSome=t at *;have n:∀o,(w.alloc o).cell? ⟨c,1,none⟩=some (.map (some gc)):=fun o=>by rw[cell?_of_block (w:=w) (a:=⟨c,1,none⟩) (Below.heap_alloc _ _ _ d)];exact l
 go_enter Tryz.func214,Tryz.ntmps214
 go_wp2_with (at_lookup;refine xA rfl _ _ 163 rfl 264 underlying163 _ (wh _) gc _ _ rfl (i.keep (Below.heap_alloc _ _ _ m)) a rfl k ?_;rw[j,g])
 refine bodyPost_ret (v:=.tuple #[.agg #[.int .i64 x,.int .i64 y],.bool t]) (by simp[results,Tryz.results214,go_sem]) rfl ⟨rfl,?_⟩
 repeat first|exact Below.refl _ _|refine Below.alloc ?_ (by first|omega|(simp<;>omega)) _|refine Below.setCell ?_ (by first|omega|(simp<;>omega)) _
def Bl(a n:Int):Bool:=decide (1<=n)&&decide (0<=a)&&decide (a+n<=64)
def Vp(p:Int):Bool:=decide (1<=p)&&decide (p<=3)
theorem lK{a n:Int}:Bl a n=true↔1<=n/\0<=a/\a+n<=64:=by unfold Bl;simp[and_assoc]
theorem GM{p:Int}:Vp p=true↔1<=p/\p<=3:=by unfold Vp;simp
theorem qU(w:World)(a n:Int)(i:n<=9223372036854775807):Calls prog 243 #[.int .i64 a,.int .i64 n] w fun e c=>e=.returned (.bool (Bl a n))/\c=w:=by
 by_cases h:1<=n<;>by_cases g:0<=a<;>by_cases f:a+n<=64
 all_goals
  have b:Bl a n=(decide (1<=n)&&decide (0<=a)&&decide (a+n<=64)):=rfl;simp only[h,g,f,decide_true,decide_false,Bool.and_true,Bool.and_false] at b;rw[b];clear b;try have d:a<=64-n:=by omega
  try have d:¬a<=64-n:=by omega
  go_enter Tryz.func243,Tryz.ntmps243
  go_wp2_with fail
  go_ret;exact⟨rfl,rfl⟩
theorem CQ(w:World)(p:Int):Calls prog 244 #[.int .i64 p] w fun e b=>e=.returned (.bool (Vp p))/\b=w:=by
 by_cases d:1<=p<;>by_cases c:p<=3
 all_goals
  have a:Vp p=(decide (1<=p)&&decide (p<=3)):=rfl;simp only[d,c,decide_true,decide_false,Bool.and_true,Bool.and_false] at a;rw[a];clear a;go_enter Tryz.func244,Tryz.ntmps244
  go_wp2_with fail
  go_ret;exact⟨rfl,rfl⟩
theorem Sp.count(h:Sp w c b gc P)(a:Int)(n:Nat)(h0:0<=a)(h1:a+n<=64):Calls prog 245 #[vp c,.int .i64 a,.int .i64 (n:Int)] w fun e w'=>e=.returned (.int .i64 (iO P a n:Nat))/\Below w.heap.size w w':=by
 go_enter Tryz.func245,Tryz.ntmps245
 go_wp2_with fail
 go_loopg [7,12] n (fun mm s7 s12 wr=>∃i:Nat,i+mm=n/\s12=.int .i64 (i:Int)/\s7=.int .i64 (iO P a i:Nat)/\Below w.heap.size w wr)
 case atStart=>exact⟨0,by omega,rfl,rfl,Below.refl _ _⟩
 case round=>
  obtain⟨i,hi,rfl,rfl,hb⟩:=hrel;have hle:=MN P a i;by_cases hlt:(i:Int)<(n:Int)
  ·have hF:=find_ok (h.below hb) (a+i) (fJ (by omega) (by omega));have hnx:=wO P a i;have hbl:=hb.size;generalize (pg P (a+i)).1=x at *;generalize (pg P (a+i)).2=y at *;generalize hS1:iO P a (i+1)=S1 at *;generalize iO P a i=S0 at *;clear h;cases ht:(P (a+i)).isSome with
   |true=>
    rw[ht] at hF hnx;replace hnx:S1=S0+1:=hnx;go_wp2_with (go_at_call 214;refine hF.mono ?_;rintro e w1 ⟨rfl,b1⟩)
    go_roundg (n-(i+1))
    case measure=>omega
    case rel=>
     refine⟨i+1,by omega,by go_num,by rw[hS1,hnx];go_num,?_⟩;have b2:=hb.trans (b1.mono hb.size);have:=b2.size
     repeat first|exact b2|refine Below.alloc ?_ (by first|omega|(simp<;>omega)) _|refine Below.setCell ?_ (by first|omega|(simp<;>omega)) _
   |false=>
    rw[ht] at hF hnx;replace hnx:S1=S0:=hnx;go_wp2_with (go_at_call 214;refine hF.mono ?_;rintro e w1 ⟨rfl,b1⟩)
    go_roundg (n-(i+1))
    case measure=>omega
    case rel=>
     refine⟨i+1,by omega,by go_num,by rw[hS1,hnx],?_⟩;have b2:=hb.trans (b1.mono hb.size);have:=b2.size
     repeat first|exact b2|refine Below.alloc ?_ (by first|omega|(simp<;>omega)) _|refine Below.setCell ?_ (by first|omega|(simp<;>omega)) _
  ·have hin:i=n:=by omega
   subst hin;go_wp2_with fail
   go_ret;exact⟨rfl,hb⟩
def dL(P:PM)(a k use:Int):Int:=match P a with|none=>7|some p=>if 0<=k/\k<8 then (if p.1 / use % 2=0 then 13 else 0) else 2
theorem Yq{p a:Int}(c:1<=p/\p<=3)(b:a=1\/a=2):∃v,bits BinOp.and IntKind.i64 p a=v/\(v=0↔p / a % 2=0):=by
 obtain⟨e,d⟩:=c;have:p=1\/p=2\/p=3:=by omega
 rcases this with rfl|rfl|rfl<;>rcases b with rfl|rfl
 ·exact⟨1,by kernel_rfl,by decide⟩
 ·exact⟨0,by kernel_rfl,by decide⟩
 ·exact⟨0,by kernel_rfl,by decide⟩
 ·exact⟨2,by kernel_rfl,by decide⟩
 ·exact⟨1,by kernel_rfl,by decide⟩
 ·exact⟨2,by kernel_rfl,by decide⟩
theorem mD{W:World}{i:Nat}{x y:Int}(h:W.heap[i]? = some (.cells #[.int .i64 x,.int .i64 y] 264)):W.cell? ⟨i,0,none⟩=some (.int .i64 x)/\W.cell? ⟨i,1,none⟩=some (.int .i64 y)/\W.frozen? ⟨i,0,none⟩=false/\W.frozen? ⟨i,1,none⟩=false:=by
 refine⟨by rw[cell_of_row W i 0 _ _ _ h];rfl,by rw[cell_of_row W i 1 _ _ _ h];rfl,by simp[frozen?,h],by simp[frozen?,h]⟩
theorem qI(W:World)(o:Obj):(W.alloc o).heap[W.heap.size]? = some o:=by
 show (W.heap.push o)[W.heap.size]? = _;rw[getElem?_push,if_pos rfl]
theorem TB{W:World}{i:Nat}{x y:Value}{t:TypeId}(h:W.heap[i]? = some (.cells #[x,y] t))(u v:Value)(o:Obj):(((W.setCell ⟨i,0,none⟩ u).setCell ⟨i,1,none⟩ v).alloc o).heap[i]? = some (.cells #[u,v] t):=by
 have b:=heap_setCell_same W i 0 u _ _ _ h;have a:=heap_setCell_same _ i 1 v _ _ _ b;rw[Below.heap_alloc _ _ _ (lt_of_heap a),a];rfl
theorem qW{W:World}{i:Nat}{x y:Value}{t:TypeId}(h:W.heap[i]? = some (.cells #[x,y] t))(u v:Value)(o:Obj):(((W.setCell ⟨i,0,none⟩ u).setCell ⟨i,1,none⟩ v).alloc o).cell? ⟨i,0,none⟩=some u/\(((W.setCell ⟨i,0,none⟩ u).setCell ⟨i,1,none⟩ v).alloc o).cell? ⟨i,1,none⟩=some v:=by
 have a:=TB h u v o;exact⟨by rw[cell_of_row _ i 0 _ _ _ a];rfl,by rw[cell_of_row _ i 1 _ _ _ a];rfl⟩
theorem BZ{n:Nat}(h:Sp w c b gc P)(q:lN n P)(a k d:Int)(M:(Lit.int .i64 a).wf=true)(F:d=1\/d=2):Calls prog 241 #[vp c,.int .i64 a,.int .i64 k,.int .i64 d] w fun e E=>∃x y,e=.returned (.tuple #[.agg #[.int .i64 x,.int .i64 y],sD (dL P a k d)])/\(dL P a k d=0->P a=some (x,y))/\Below w.heap.size w E:=by
 have C:∀o,Below w.heap.size w (w.alloc o):=fun o=>(Below.refl _ w).alloc (le_refl _) _;have hF:=find_ok (h.below (C (.cells #[.int .i64 0,.int .i64 0] 264))) a M;have B:=qI w (.cells #[.int .i64 0,.int .i64 0] 264);have H:(w.alloc (.cells #[.int .i64 0,.int .i64 0] 264)).heap.size=w.heap.size+1:=by simp
 go_enter Tryz.func241,Tryz.ntmps241
 go_wp2_with fail
 refine hF.mono ?_;rintro e A ⟨rfl,z⟩;have r:Below w.heap.size w A:=(C _).trans (z.mono (by omega));have J:=z.size;have j:=(z.block w.heap.size (by omega)).trans B;obtain⟨O,N,R,Q⟩:=mD j;have s0:=fun u v o=>(qW j u v o).1;have s1:=fun u v o=>(qW j u v o).2;have I:w.heap.size<A.heap.size:=by omega
 have G:w.heap.size≠A.heap.size:=by omega
 cases hP:P a with
 |none=>
  have l:pg P a=(0,0):=by unfold pg;rw[hP];rfl
  have f:dL P a k d=7:=by unfold dL;rw[hP]
  rw[l];have D:=hide hP;simp only[Option.isSome_none];have i:=hide f;go_wp2_with fail
  refine bodyPost_ret (v:=.tuple #[.agg #[.int .i64 0,.int .i64 0],Li 7]) (by simp[results,results241,go_sem,s0,s1]) rfl ⟨0,0,by rw[i.out];rfl,fun h=>absurd (i.out.symm.trans h) (by decide),?_⟩
  repeat first|exact r|refine Below.alloc ?_ (by first|omega|(simp<;>omega)) _|refine Below.setCell ?_ (by first|omega|(simp<;>omega)) _
 |some p=>
  have l:pg P a=p:=by unfold pg;rw[hP];rfl
  have m:=q.af a p hP;obtain⟨v,t,g⟩:=Yq m F;have f:dL P a k d=if 0<=k/\k<8 then (if p.1 / d % 2=0 then 13 else 0) else 2:=by unfold dL;rw[hP]
  rw[l];have D:=hide hP;clear hP h q l hF B z;obtain⟨x,y⟩:=p;simp only[Option.isSome_some];simp only at f m t g;by_cases L:k<0
  ·rw[if_neg (by omega)] at f;clear t g;have i:=hide f;clear f;go_wp2_with fail
   refine bodyPost_ret (v:=.tuple #[.agg #[.int .i64 0,.int .i64 0],Li 2]) (by simp[results,results241,go_sem,s0,s1]) rfl ⟨0,0,by rw[i.out];rfl,fun h=>absurd (i.out.symm.trans h) (by decide),?_⟩
   repeat first|exact r|refine Below.alloc ?_ (by first|omega|(simp<;>omega)) _|refine Below.setCell ?_ (by first|omega|(simp<;>omega)) _
  ·by_cases K:8<=k
   ·rw[if_neg (by omega)] at f;clear t g;have i:=hide f;clear f;go_wp2_with fail
    refine bodyPost_ret (v:=.tuple #[.agg #[.int .i64 0,.int .i64 0],Li 2]) (by simp[results,results241,go_sem,s0,s1]) rfl ⟨0,0,by rw[i.out];rfl,fun h=>absurd (i.out.symm.trans h) (by decide),?_⟩
    repeat first|exact r|refine Below.alloc ?_ (by first|omega|(simp<;>omega)) _|refine Below.setCell ?_ (by first|omega|(simp<;>omega)) _
   ·rw[if_pos (by omega)] at f;by_cases s:v=0
    ·rw[if_pos (g.1 s)] at f;rw[s] at t;clear g s;have i:=hide f;clear f;go_wp2_with fail
     refine bodyPost_ret (v:=.tuple #[.agg #[.int .i64 0,.int .i64 0],Li 13]) (by simp[results,results241,go_sem,s0,s1]) rfl ⟨0,0,by rw[i.out];rfl,fun h=>absurd (i.out.symm.trans h) (by decide),?_⟩
     repeat first|exact r|refine Below.alloc ?_ (by first|omega|(simp<;>omega)) _|refine Below.setCell ?_ (by first|omega|(simp<;>omega)) _
    ·rw[if_neg (fun h=>s (g.2 h))] at f;clear g;have i:=hide f;clear f;go_wp2_with fail
     refine bodyPost_ret (v:=.tuple #[.agg #[.int .i64 x,.int .i64 y],.nilIface]) (by simp[results,results241,go_sem,s0,s1]) rfl ⟨x,y,by rw[i.out];rfl,fun _=>D.out,?_⟩
     repeat first|exact r|refine Below.alloc ?_ (by first|omega|(simp<;>omega)) _|refine Below.setCell ?_ (by first|omega|(simp<;>omega)) _
end
section
variable {w w':World}{c b gc:Nat}{P:PM}
theorem Sp.len(h:Sp w c b gc P):Calls prog 143 #[vp c] w fun e w'=>e=.returned (.int .i64 (bX P:Nat))/\w'=w:=by
 have c1:=h.c1;have hm:=h.map;go_enter Tryz.func143,Tryz.ntmps143
 go_wp2_with (at_len;refine ik rfl _ 163 rfl 264 underlying163 gc _ _ rfl hm ?_)
 go_ret;exact⟨rfl,rfl⟩
end
def gQ(t:Int->Nat):Int->Option Nat:=fun x=>if 0<=x/\t x≠0 then some (t x) else none
theorem pq{t:Int->Nat}{x:Int}(a:0<=x):val (gQ t) x=t x:=by
 unfold val gQ;by_cases h:t x=0<;>simp[h,a]
theorem abv{R:Int->Option Nat}{t:Int->Nat}(f:∀x,0<=x->val R x=t x)(d:∀x,x<0->R x=none)(c:∀x,R x≠some 0):R=gQ t:=by
 funext x;unfold gQ;by_cases a:0<=x
 ·have e:=f x a;cases hR:R x with
  |none=>rw[val,hR] at e;rw[if_neg];intro h;exact h.2 e.symm
  |some k=>
   rw[val,hR] at e;have b:k=t x:=e;have:k≠0:=fun g=>c x (by rw[hR,g]);rw[if_pos ⟨a,by omega⟩,b]
 ·rw[if_neg (fun h=>a h.1),d x (by omega)]
theorem gF{t t':Int->Nat}(h:∀x,0<=x->t x=t' x):gQ t=gQ t':=by
 funext x;unfold gQ;by_cases a:0<=x
 ·rw[h x a]
 ·rw[if_neg (fun h=>a h.1),if_neg (fun h=>a h.1)]
theorem Hl{t:Int->Nat}{x:Int}(a:0<=x):gQ t x=none↔t x=0:=by
 unfold gQ;by_cases h:t x=0<;>simp[h,a]
theorem Hg{t:Int->Nat}{x:Int}(a:0<=x)(h:t x≠0):(gQ t x).isSome=true:=by
 unfold gQ;rw[if_pos ⟨a,h⟩];rfl
section
variable {E:St}{w w':World}{D:Nat→Nat→Int}{R:Int→Option Nat}{A:Nat→Prop}
theorem Vs.rof(h:Vs E w D R A){t:Int->Nat}(b:∀x,0<=x->val R x=t x):R=gQ t:=
 abv b (fun x a=>h.neg a) (fun x e=>by have:=h.small x 0 e;omega)
end
structure VS (E:St) (w:World) (c gc:Nat) (D:Nat->Nat->Int) (A:Nat->Prop) (P:PM) (o:Int->Nat):Prop where
 st:Vs E w D (gQ fun f=>sh P f+o f) A
 sp:Sp w c E.b gc P
 ok:lN E.n P
 Bh:QO P
 mR:¬bO E A c
 iN:¬bO E A gc
 gb:gc≠E.b
 gm:gc≠E.bm
def aW(E:St)(w:World)(c gc:Nat)(A:Nat->Prop)(w':World)(D:Nat->Nat->Int)(P:PM)(o:Int->Nat):Prop:=
 ∃A',VS E w' c gc D A' P o/\Fr (fun i=>bO E A i\/i=gc) w w'/\∀i,i<w.heap.size->A' i->A i
section
variable {E:St}{w w':World}{c gc:Nat}{D:Nat→Nat→Int}{A:Nat→Prop}{P:PM}{o:Int→Nat}
theorem aW.refl(h:VS E w c gc D A P o):aW E w c gc A w D P o:=⟨A,h,Fr.refl _ _,fun _ _ h=>h⟩
theorem aW.trans{w1 w2:World}{A1:Nat->Prop}{D2:Nat->Nat->Int}{e:PM}(d:Fr (fun i=>bO E A i\/i=gc) w w1)(s1:∀i,i<w.heap.size->A1 i->A i)(t:aW E w1 c gc A1 w2 D2 e o):aW E w c gc A w2 D2 e o:=by
 obtain⟨h,v,f,s⟩:=t;refine⟨h,v,d.trans f (fun i b a=>?_),fun i b g=>s1 i b (s i (lt_of_lt_of_le b d.size) g)⟩;rcases a with (a|a) | a
 ·exact .inl (.inl (s1 i b a))
 ·exact .inl (.inr a)
 ·exact .inr a
theorem VS.keep(h:VS E w c gc D A P o)(b:∀i,bO E A i->w'.heap[i]? = w.heap[i]?)(f:w'.heap[E.b]? = w.heap[E.b]?)(a:w'.heap[E.bm]? = w.heap[E.bm]?)(e:w'.heap[c]? = w.heap[c]?)(d:w'.heap[gc]? = w.heap[gc]?):VS E w' c gc D A P o:=
 ⟨h.st.keep b f a,h.sp.keep e d,h.ok,h.Bh,h.mR,h.iN,h.gb,h.gm⟩
theorem VS.below(h:VS E w c gc D A P o)(a:Below w.heap.size w w'):VS E w' c gc D A P o:=
 ⟨h.st.below a,h.sp.below a,h.ok,h.Bh,h.mR,h.iN,h.gb,h.gm⟩
theorem VS.drewN(h:VS E w c gc D A P o)(q:Nat):VS E (w.drewN q) c gc D A P o:=h.keep (fun _ _=>rfl) rfl rfl rfl rfl
theorem VS.drew(h:VS E w c gc D A P o):VS E w.drew c gc D A P o:=h.keep (fun _ _=>rfl) rfl rfl rfl rfl
theorem VS.KF(h:VS E w c gc D A P o){a:Int}(b:aR P a≠-1):(gQ (fun f=>sh P f+o f) (aR P a)).isSome=true/\0<=aR P a/\aR P a<(E.n:Int):=by
 have d:0<=aR P a/\aR P a<(E.n:Int):=by rcases h.ok.frame a with e|e;exact absurd e b;exact e
 have:=yU h.ok b;exact⟨Hg d.1 (by omega),d⟩
theorem VS.pages(h:VS E w c gc D A P o){a:PM}(p:w.grownBy w' (some gc))(l:aK w' gc (bX a) (vO a))(b:∀f,0<=f->sh a f=sh P f)(j:lN E.n a):VS E w' c gc D A a o:=by
 have d:∀i,i<w.heap.size->i≠gc->w'.heap[i]? = w.heap[i]? := fun i g n=>p.block i g (fun e=>n (Option.some.inj e));have q:gQ (fun f=>sh a f+o f)=gQ (fun f=>sh P f+o f):=gF (fun x m=>by rw[b x m]);refine⟨by rw[q];exact h.st.keep (fun i g=>d i (h.st.Dm g) (fun e=>h.iN (e ▸ g))) (d _ h.st.blt (fun e=>h.gb e.symm)) (d _ h.st.mlt (fun e=>h.gm e.symm)),⟨(d c h.sp.lt h.sp.ne).trans h.sp.head,l⟩,j,fun f k=>by rw[b f k];exact h.Bh f k,h.mR,h.iN,h.gb,h.gm⟩
def uy(P:PM)(i:Nat):Nat:=sumTo (fun a=>if aR P a=-1 then 0 else 1) 0 i
theorem J3(P:PM)(i:Nat):uy P (i+1)=uy P i+if aR P i=-1 then 0 else 1:=by unfold uy;rw[pE,Nat.zero_add]
theorem Tm(P:PM)(i:Nat):uy P i<=i:=by
 have:=iw (g:=fun a:Nat=>if aR P a=-1 then 0 else 1) (d:=1) i 0 (fun i=>by split<;>omega);unfold uy;omega
theorem Sp.resident{b:Nat}(h:Sp w c b gc P):Calls prog 144 #[vp c] w fun e w'=>e=.returned (.int .i64 (gL P:Nat))/\Below w.heap.size w w':=by
 go_enter Tryz.func144,Tryz.ntmps144
 go_wp2_with fail
 go_loopg [3,7] 64 (fun mm s3 s7 wr=>∃i:Nat,i+mm=64/\s7=.int .i64 (i:Int)/\s3=.int .i64 (uy P i:Nat)/\Below w.heap.size w wr)
 case atStart=>exact⟨0,by omega,rfl,rfl,Below.refl _ _⟩
 case round=>
  obtain⟨i,hi,rfl,rfl,hb⟩:=hrel;have hle:=Tm P i;by_cases hlt:(i:Int)<64
  ·have hF:=find_ok (h.below hb) (i:Int) (fJ (by omega) (by omega));have hnx:=J3 P i;have hbl:=hb.size;have IV:=DN (P:=P) (a:=(i:Int));have hfn:=oG (P:=P) (a:=(i:Int));generalize (pg P (i:Int)).1=x at *;generalize (pg P (i:Int)).2=y at *;generalize hS1:uy P (i+1)=S1 at *;generalize uy P i=S0 at *;cases hP:P (i:Int) with
   |none=>
    rw[hP] at hF IV;rw[hfn hP,if_pos rfl] at hnx;simp only[Option.isSome_none] at hF;go_wp2_with (go_at_call 214;refine hF.mono ?_;rintro e w1 ⟨rfl,b1⟩)
    go_roundg (64-(i+1))
    case measure=>omega
    case rel=>
     refine⟨i+1,by omega,by go_num,by rw[hS1,hnx];rfl,?_⟩;have b2:=hb.trans (b1.mono hb.size);have:=b2.size
     repeat first|exact b2|refine Below.alloc ?_ (by first|omega|(simp<;>omega)) _|refine Below.setCell ?_ (by first|omega|(simp<;>omega)) _
   |some p=>
    rw[hP] at hF IV;simp only[Option.isSome_some,forall_const] at hF IV;rw[<-IV] at hnx;by_cases hy:y=-1
    ·rw[if_pos hy] at hnx;subst hy;go_wp2_with (go_at_call 214;refine hF.mono ?_;rintro e w1 ⟨rfl,b1⟩)
     go_roundg (64-(i+1))
     case measure=>omega
     case rel=>
      refine⟨i+1,by omega,by go_num,by rw[hS1,hnx];rfl,?_⟩;have b2:=hb.trans (b1.mono hb.size);have:=b2.size
      repeat first|exact b2|refine Below.alloc ?_ (by first|omega|(simp<;>omega)) _|refine Below.setCell ?_ (by first|omega|(simp<;>omega)) _
    ·rw[if_neg hy] at hnx;go_wp2_with (go_at_call 214;refine hF.mono ?_;rintro e w1 ⟨rfl,b1⟩)
     go_roundg (64-(i+1))
     case measure=>omega
     case rel=>
      refine⟨i+1,by omega,by go_num,by rw[hS1,hnx];go_num,?_⟩;have b2:=hb.trans (b1.mono hb.size);have:=b2.size
      repeat first|exact b2|refine Below.alloc ?_ (by first|omega|(simp<;>omega)) _|refine Below.setCell ?_ (by first|omega|(simp<;>omega)) _
  ·have hin:i=64:=by omega
   subst hin;have hr:gL P=uy P 64:=rfl;rw[<-hr];go_wp2_with fail
   go_ret;exact⟨rfl,hb⟩
def wd(P:PM)(D:Nat->Nat->Int)(a:Int)(k:Nat):Int:=if aR P a=-1 then 0 else D (aR P a).toNat k
def je(P:PM)(D:Nat->Nat->Int)(a k:Int):Int:=if dL P a k 1=0 then wd P D a k.toNat else 0
theorem VS.load(h:VS E w c gc D A P o)(a k:Int)(F:(Lit.int .i64 a).wf=true):Calls prog 167 #[vp c,.int .i64 a,.int .i64 k] w fun e l=>e=.returned (.tuple #[.int .i64 (je P D a k),sD (dL P a k 1)])/\Below w.heap.size w l:=by
 have G:=BZ h.sp h.ok a k 1 F (.inl rfl);obtain⟨V,f⟩:∃V,je P D a k=V:=⟨_,rfl⟩;rw[f];go_enter Tryz.func167,Tryz.ntmps167
 go_wp2_with fail
 refine G.mono ?_;rintro e p ⟨x,y,rfl,s,z⟩;have g:Below w.heap.size w (p.alloc (.cells #[.int .i64 x,.int .i64 y] 264)):=z.alloc z.size _;by_cases d:dL P a k 1=0
 ·have v:=s d;have j:=mh v;simp only at j;rw[je,if_pos d] at f;have m:0<=k/\k<8:=by
   apply Classical.byContradiction;intro m
   unfold dL at d;rw[v] at d;simp only[if_neg m] at d;omega
  have b:sD (dL P a k 1)=.nilIface:=by rw[d];rfl
  rw[b];have n:=hide b;by_cases r:y=-1
  ·rw[wd,if_pos (by rw[j];exact r)] at f;subst r;go_wp2_with fail
   go_ret2;exact⟨by rw[n.out,<-f];rfl,g⟩
  ·rw[wd,if_neg (by rw[j];exact r),j] at f;have i:0<=y/\y<(E.n:Int):=by rcases h.ok.frame a with e|e<;>rw[j] at e<;>omega
   have t:=h.below g;have J:=t.sp.c0;have I:=t.st.c0;have H:∀q,Calls prog 242 #[mp E.bm,.int .i64 y,.int .i64 k] ((p.alloc (.cells #[.int .i64 x,.int .i64 y] 264)).drewN q) fun e l=>e=.returned (.tuple #[.int .i64 V,.nilIface])/\∃B,l=((p.alloc (.cells #[.int .i64 x,.int .i64 y] 264)).drewN q).drewN B:=fun q=>by
    refine(aaW (t.drewN q).st.mem y k i.1 i.2 m.1 m.2).mono ?_;rintro e l ⟨u,C⟩;rw[f] at u;exact⟨u,0,C⟩
   go_upto_region 4 with fail
   go_quiet (first|(go_at_call 242;exact Calls.quiet_of (H _)))
   go_wp2_with fail
   go_ret2;exact⟨by rw[n.out];rfl,g.os,g.tape,g.output,g.size,g.block⟩
 ·rw[je,if_neg d] at f;have b:sD (dL P a k 1)=Li (dL P a k 1):=by unfold sD;rw[if_neg d]
  rw[b];have n:=hide b;go_wp2_with fail
  go_ret2;exact⟨by rw[n.out,<-f];rfl,g⟩
end
section
variable {E:St}{w w':World}{c gc:Nat}{D:Nat→Nat→Int}{A:Nat→Prop}{P:PM}{o:Int→Nat}
theorem VS.gone(h:VS E w c gc D A P o){a:Int}(r:(P a).isSome=true){w1 w2:World}{A1:Nat->Prop}(j:Vs E w1 D (di (gQ fun f=>sh P f+o f) (aR P a)) A1)(n:Fr (bO E A) w w1)(s1:∀i,i<w.heap.size->A1 i->A i)
 (t:w1.grownBy w2 (some gc)) {s:Nat}(u:aK w2 gc s (vO (mV P a))) (B:s+1=bX P):aW E w c gc A w2 D (mV P a) o:=by
 have k:=h.ok.key a r;have y:∀i,i<w.heap.size->i<w1.heap.size:=fun i g=>lt_of_lt_of_le g n.size;have l:∀i,i<w1.heap.size->i≠gc->w2.heap[i]? = w1.heap[i]? := fun i g v=>t.block i g (fun e=>v (Option.some.inj e));have z:di (gQ fun f=>sh P f+o f) (aR P a)=gQ fun f=>sh (mV P a) f+o f:=by
  refine j.rof (fun x m=>?_);have q:=RH (P:=P) k.1 k.2 m;rw[C8];by_cases e:x=aR P a
  ·rw[if_pos e.symm] at q;rw[if_pos e,pq (by rw[<-e];exact m),<-e];omega
  ·rw[if_neg (fun h=>e h.symm)] at q;rw[if_neg e,pq m];omega
 rw[z] at j;have b:∀i,i<w.heap.size->bO E A1 i->bO E A i:=fun i g d=>by
  rcases d with d|d
  ·exact .inl (s1 i g d)
  ·exact .inr d
 have p:=zH k.1 k.2 r;refine⟨A1,⟨j.keep (fun i g=>l i (j.Dm g) (fun e=>h.iN (b gc h.sp.uk (e ▸ g)))) (l _ j.blt (fun e=>h.gb e.symm)) (l _ j.mlt (fun e=>h.gm e.symm)),⟨?_,?_⟩,h.ok.del,h.Bh.del k.1 k.2,fun d=>h.mR (b c h.sp.lt d),fun d=>h.iN (b gc h.sp.uk d),h.gb,h.gm⟩,?_,s1⟩
 ·exact((l c (y c h.sp.lt) h.sp.ne).trans (n.block c h.sp.lt h.mR)).trans h.sp.head
 ·rw[show bX (mV P a)=s by omega];exact u
 ·exact(n.mono (fun i _ h=>.inl h)).trans (Fr.grown t) (fun i _ e=>.inr e)
theorem VS.remove(h:VS E w c gc D A P o)(a:Int)(j:(P a).isSome=true):Calls prog 226 #[vp c,.int .i64 a] w fun e b=>e=.returned (.tuple #[])/\aW E w c gc A b D (mV P a) o:=by
 have q:=h.ok.key a j;have l:(Lit.int .i64 a).wf=true:=fJ q.1 (by omega);have B:=DN j;have g:=El P a;rw[B] at g;have M:(Instr.lookup 163 (.map (some gc)) (.int .i64 a) false).run prog w.drew=.ok (.agg #[.int .i64 (pg P a).1,.int .i64 (aR P a)]) w.drew:=by
  rw[<-g];exact(h.sp.map.keep (w':=w.drew) rfl).look underlying163 (wh _) a l
 have J:Calls prog 295 #[vp E.b,.int .i64 (aR P a)] w.drew fun e b=>e=.returned (.tuple #[])/\(∃d,Vs E b D (di (gQ fun f=>sh P f+o f) (aR P a)) d/\Fr (bO E A) w b/\(∀i,i<w.heap.size->d i->A i))/\b.cell? ⟨c,1,none⟩=some (.map (some gc))/\aK b gc (bX P) (vO P):=by
  have G:=h.drew;refine(G.st.EC (aR P a) ?_).mono ?_
  ·by_cases e:aR P a=-1
   ·exact .inl e
   ·exact .inr (h.KF e).1
  ·rintro e b ⟨I,d,k,n,s1⟩;have z:Fr (bO E A) w b:=(Fr.drew _ w).trans n (fun _ _ h=>h);refine⟨I,⟨d,k,z,s1⟩,?_,h.sp.map.keep (z.block gc h.sp.uk h.iN)⟩;rw[cell?_of_block (w:=w) (a:=⟨c,1,none⟩) (z.block c h.sp.lt h.mR)];exact h.sp.c1
 have O:=h.sp.c0;have N:=h.sp.c1;have u:(vO P a).isSome=true:=by rw[mr];exact j
 have H:1<=bX P:=by have:=zH q.1 q.2 j;omega
 have m:=fun t r d k n s1 y s p F=>h.gone j (w1:=t) (w2:=r) (A1:=d) k n s1 y (s:=s) p F;have v:=WH P a;have L:=xE (pg P a).1 (aR P a);clear h B g q j;generalize hF:aR P a=f at *;generalize (pg P a).1=x at *;go_enter Tryz.func226,Tryz.ntmps226
 go_wp2_with fail
 go_region_with (go_at_call 295;refine J.mono ?_;rintro e t ⟨rfl,⟨d,k,n,s1⟩,K,C⟩)
 all_goals
  go_wp2_with (at_delete;refine nE rfl _ _ 163 rfl 264 underlying163 gc _ _ rfl C a rfl l ?_;intro r p y;rw[v] at p)
  go_end0
  exact⟨rfl,m _ _ _ k n s1 y _ p (by rw[if_pos u];omega)⟩
theorem oH{B:Nat->Prop}(a:Below w.heap.size w w'):Fr B w w':=⟨a.os,a.tape,a.output,a.size,fun i b _=>a.block i b⟩
theorem aW.below(h:VS E w c gc D A P o)(a:Below w.heap.size w w'):aW E w c gc A w' D P o:=⟨A,h.below a,oH a,fun _ _ h=>h⟩
def fo(P:PM)(a:Int)(i:Nat)(af:Int):PM:=fun x=>if a<=x/\x<a+i then some (af,-1) else P x
def jI(P:PM)(a:Int)(i:Nat):PM:=fun x=>if a<=x/\x<a+i then none else P x
def iL(P:PM)(a:Int)(i:Nat)(af:Int):PM:=fun x=>if a<=x/\x<a+i then (P x).map (fun p=>(af,p.2)) else P x
theorem Aq(P:PM)(a b:Int):fo P a 0 b=P:=by funext x;unfold fo;rw[if_neg (by omega)]
theorem wu(P:PM)(a:Int):jI P a 0=P:=by funext x;unfold jI;rw[if_neg (by omega)]
theorem J8(P:PM)(a b:Int):iL P a 0 b=P:=by funext x;unfold iL;rw[if_neg (by omega)]
theorem Ar(P:PM)(a:Int)(i:Nat)(b:Int):fo P a (i+1) b=dC (fo P a i b) (a+i) (b,-1):=by
 funext x;unfold fo dC;by_cases e:x=a+i
 ·rw[if_pos (by omega),if_pos e]
 ·rw[if_neg e];by_cases h:a<=x/\x<a+i
  ·rw[if_pos (by omega)];exact(if_pos h).symm
  ·rw[if_neg (by omega)];exact(if_neg h).symm
theorem wy(P:PM)(a:Int)(i:Nat):jI P a (i+1)=mV (jI P a i) (a+i):=by
 funext x;unfold jI mV;by_cases e:x=a+i
 ·rw[if_pos (by omega),if_pos e]
 ·rw[if_neg e];by_cases h:a<=x/\x<a+i
  ·rw[if_pos (by omega)];exact(if_pos h).symm
  ·rw[if_neg (by omega)];exact(if_neg h).symm
theorem J9{P:PM}{a:Int}{i:Nat}{b:Int}(h:(P (a+i)).isSome=true):iL P a (i+1) b=dC (iL P a i b) (a+i) (b,aR P (a+i)):=by
 funext x;unfold iL dC;by_cases e:x=a+i
 ·rw[if_pos (by omega),if_pos e,e,WI h,<-DN h];rfl
 ·rw[if_neg e];by_cases h:a<=x/\x<a+i
  ·rw[if_pos (by omega)];exact(if_pos h).symm
  ·rw[if_neg (by omega)];exact(if_neg h).symm
theorem Gz(P:PM)(a:Int)(i:Nat)(b:Int):fo P a i b (a+i)=P (a+i):=by unfold fo;rw[if_neg (by omega)]
theorem LP(P:PM)(a:Int)(i:Nat):jI P a i (a+i)=P (a+i):=by unfold jI;rw[if_neg (by omega)]
theorem Gp(P:PM)(a:Int)(i:Nat)(b:Int):iL P a i b (a+i)=P (a+i):=by unfold iL;rw[if_neg (by omega)]
def iV(P:PM)(a n af:Int):Int:=if Bl a n=false then 2 else if Vp af=false then 1 else if iO P a n.toNat=0 then 0 else 9
def ui(P:PM)(a n:Int):Int:=if Bl a n=false then 2 else if iO P a n.toNat<n.toNat then 7 else 0
def mQ(P:PM)(a n af:Int):Int:=if Bl a n=false then 2 else if Vp af=false then 1 else if iO P a n.toNat<n.toNat then 7 else 0
def jJ(P:PM)(a n af:Int):PM:=if iV P a n af=0 then fo P a n.toNat af else P
def Bc(P:PM)(a n:Int):PM:=if ui P a n=0 then jI P a n.toNat else P
def nR(P:PM)(a n af:Int):PM:=if mQ P a n af=0 then iL P a n.toNat af else P
theorem VS.Gn(h:VS E w c gc D A P o){x:Int}{p:Int×Int}(b:0<=x)(a:x<64)(i:1<=p.1/\p.1<=3)(g:p.2=aR P x)(j:w.grownBy w' (some gc))(d:aK w' gc (if (vO P x).isSome then bX P else bX P+1) (vO (dC P x p))):VS E w' c gc D A (dC P x p) o:=by
 refine h.pages j ?_ (fun f k=>?_) (h.ok.put b a i (by rw[g];exact h.ok.frame x))
 ·rw[mr] at d;cases e:P x with
  |none=>rw[e] at d;rw[vG b a e];exact d
  |some q=>rw[e] at d;rw[pM (by rw[e];rfl)];exact d
 ·have:=yT (P:=P) b a p f;rw[g] at this;omega
theorem VS.map_ok(h:VS E w c gc D A P o)(a n af:Int)(hn:n<=9223372036854775807):Calls prog 169 #[vp c,.int .i64 a,.int .i64 n,.int .i64 af] w fun e w'=>e=.returned (sD (iV P a n af))/\aW E w c gc A w' D (jJ P a n af) o:=by
 have hA:=qU w a n hn;have hU:=CQ w af;obtain⟨V,hV⟩:∃V,sD (iV P a n af)=V:=⟨_,rfl⟩;obtain⟨P2,hP2⟩:∃P2,jJ P a n af=P2:=⟨_,rfl⟩;rw[hV,hP2];cases ha:Bl a n with
 |false=>
  have e0:iV P a n af=2:=by unfold iV;rw[if_pos ha]
  rw[jJ,if_neg (by rw[e0];decide)] at hP2;rw[e0] at hV;rw[ha] at hA;clear e0 hU ha;subst hP2;subst hV;have ht:=aW.refl h;clear h;go_enter func169,ntmps169
  go_wp2_with (go_at_call 243;refine hA.mono ?_;rintro e w1 ⟨rfl,h1⟩;subst w1)
  go_ret;exact⟨rfl,ht⟩
 |true=>
  cases hu:Vp af with
  |false=>
   have e0:iV P a n af=1:=by unfold iV;rw[if_neg (by rw[ha];decide),if_pos hu]
   rw[jJ,if_neg (by rw[e0];decide)] at hP2;rw[e0] at hV;rw[ha] at hA;rw[hu] at hU;clear e0 ha hu;subst hP2;subst hV;have ht:=aW.refl h;clear h;go_enter func169,ntmps169
   go_wp2_with (first
    |(go_at_call 243;refine hA.mono ?_;rintro e w1 ⟨rfl,h1⟩;subst w1)
    |(go_at_call 244;refine hU.mono ?_;rintro e w1 ⟨rfl,h1⟩;subst w1))
   go_ret;exact⟨rfl,ht⟩
  |true=>
   obtain⟨hn1,ha0,Lh⟩:=lK.1 ha;obtain⟨k,rfl⟩:∃k:Nat,n=(k:Int):=⟨n.toNat,by omega⟩;have hC:=h.sp.count a k ha0 Lh;have hq:=fun w=>run_eql_map_nil_sl (P:=prog) w 163 _ _ (some gc) underlying163;have c1:=h.sp.c1;have hpr:=GM.1 hu;rw[ha] at hA;rw[hu] at hU;by_cases hz:iO P a k=0
   ·have e0:iV P a (k:Int) af=0:=by unfold iV;rw[if_neg (by rw[ha];decide),if_neg (by rw[hu];decide),Int.toNat_natCast,if_pos hz]
    rw[jJ,if_pos e0,Int.toNat_natCast] at hP2;rw[e0] at hV;have hnone:=rJ hz;rw[hz] at hC;subst hP2;subst hV;clear e0 hz ha hu;go_enter func169,ntmps169
    go_wp2_with (first
     |(go_at_call 243;refine hA.mono ?_;rintro e w1 ⟨rfl,h1⟩;subst w1)
     |(go_at_call 244;refine hU.mono ?_;rintro e w1 ⟨rfl,h1⟩;subst w1)
     |(go_at_call 245;refine hC.mono ?_;rintro e w1 ⟨rfl,b1⟩))
    clear hA hU hC hq c1;go_loopg [36] k (fun mm s36 wr=>∃i:Nat,i+mm=k/\s36=.int .i64 (i:Int)/\aW E w c gc A wr D (fo P a i af) o)
    case atStart=>exact⟨0,by omega,rfl,by rw[Aq];exact aW.below h b1⟩
    case round=>
     obtain⟨i,hi,rfl,A1,v1,f1,s1⟩:=hrel;by_cases hlt:(i:Int)<(k:Int)
     ·have c1:=v1.sp.c1;have hmp:=v1.sp.map;have hsz:bX (fo P a i af)<maxLen:=by have:=ry (fo P a i af);unfold maxLen;omega
      have hwf:(Lit.int .i64 (a+i)).wf=true:=fJ (by omega) (by omega);have hpp:=Ej (fo P a i af) (a+i) af (-1);have hfr:aR (fo P a i af) (a+i)=-1:=oG (by rw[Gz];exact hnone i (by omega));go_wp2_with (at_mapUpdate;refine ib rfl _ _ _ 163 rfl 264 underlying163 gc _ _ rfl hmp hsz (a+i) rfl hwf (.agg #[.int .i64 af,.int .i64 (-1)]) rfl ?_;intro w2 wX g2;rw[hpp] at wX)
      go_roundg (k-(i+1))
      case measure=>omega
      case rel=>
       refine⟨i+1,by omega,by go_num,?_⟩;rw[Ar];exact aW.trans f1 s1 ⟨A1,v1.Gn (by omega) (by omega) hpr hfr.symm g2 wX,(Fr.grown g2).mono (fun i _ e=>.inr e),fun _ _ h=>h⟩
     ·have hik:i=k:=by omega
      subst hik;go_wp2_with fail
      go_ret;exact⟨rfl,A1,v1,f1,s1⟩
   ·have e0:iV P a (k:Int) af=9:=by unfold iV;rw[if_neg (by rw[ha];decide),if_neg (by rw[hu];decide),Int.toNat_natCast,if_neg hz]
    rw[jJ,if_neg (by rw[e0];decide)] at hP2;rw[e0] at hV;subst hP2;subst hV;clear e0 ha hu;have hgt:(0:Int)<((iO P a k:Nat):Int):=by omega
    generalize iO P a k=hh at *;go_enter func169,ntmps169
    go_wp2_with (first
     |(go_at_call 243;refine hA.mono ?_;rintro e w1 ⟨rfl,h1⟩;subst w1)
     |(go_at_call 244;refine hU.mono ?_;rintro e w1 ⟨rfl,h1⟩;subst w1)
     |(go_at_call 245;refine hC.mono ?_;rintro e w1 ⟨rfl,b1⟩))
    go_ret;exact⟨rfl,aW.below h b1⟩
theorem VS.SB(h:VS E w c gc D A P o)(a n:Int)(hn:n<=9223372036854775807):Calls prog 171 #[vp c,.int .i64 a,.int .i64 n] w fun e w'=>e=.returned (sD (ui P a n))/\aW E w c gc A w' D (Bc P a n) o:=by
 have hA:=qU w a n hn;obtain⟨V,hV⟩:∃V,sD (ui P a n)=V:=⟨_,rfl⟩;obtain⟨P2,hP2⟩:∃P2,Bc P a n=P2:=⟨_,rfl⟩;rw[hV,hP2];cases ha:Bl a n with
 |false=>
  have e0:ui P a n=2:=by unfold ui;rw[if_pos ha]
  rw[Bc,if_neg (by rw[e0];decide)] at hP2;rw[e0] at hV;rw[ha] at hA;clear e0 ha;subst hP2;subst hV;have ht:=aW.refl h;clear h;go_enter func171,ntmps171
  go_wp2_with (go_at_call 243;refine hA.mono ?_;rintro e w1 ⟨rfl,h1⟩;subst w1)
  go_ret;exact⟨rfl,ht⟩
 |true=>
  obtain⟨hn1,ha0,Lh⟩:=lK.1 ha;obtain⟨k,rfl⟩:∃k:Nat,n=(k:Int):=⟨n.toNat,by omega⟩;have hC:=h.sp.count a k ha0 Lh;rw[ha] at hA;by_cases hz:iO P a k<k
  ·have e0:ui P a (k:Int)=7:=by unfold ui;rw[if_neg (by rw[ha];decide),Int.toNat_natCast,if_pos hz]
   rw[Bc,if_neg (by rw[e0];decide)] at hP2;rw[e0] at hV;subst hP2;subst hV;clear e0 ha;have hgt:((iO P a k:Nat):Int)<(k:Int):=by omega
   generalize iO P a k=hh at *;go_enter func171,ntmps171
   go_wp2_with (first
    |(go_at_call 243;refine hA.mono ?_;rintro e w1 ⟨rfl,h1⟩;subst w1)
    |(go_at_call 245;refine hC.mono ?_;rintro e w1 ⟨rfl,b1⟩))
   go_ret;exact⟨rfl,aW.below h b1⟩
  ·have e0:ui P a (k:Int)=0:=by unfold ui;rw[if_neg (by rw[ha];decide),Int.toNat_natCast,if_neg hz]
   rw[Bc,if_pos e0,Int.toNat_natCast] at hP2;rw[e0] at hV;have hall:=u7 hz;subst hP2;subst hV;clear e0 ha;have hgt:¬((iO P a k:Nat):Int)<(k:Int):=by omega
   generalize iO P a k=hh at *;go_enter func171,ntmps171
   go_wp2_with (first
    |(go_at_call 243;refine hA.mono ?_;rintro e w1 ⟨rfl,h1⟩;subst w1)
    |(go_at_call 245;refine hC.mono ?_;rintro e w1 ⟨rfl,b1⟩))
   clear hA hC hz hgt;go_loopg [21] k (fun mm s21 wr=>∃i:Nat,i+mm=k/\s21=.int .i64 (i:Int)/\aW E w c gc A wr D (jI P a i) o)
   case atStart=>exact⟨0,by omega,rfl,by rw[wu];exact aW.below h b1⟩
   case round=>
    obtain⟨i,hi,rfl,A1,v1,f1,s1⟩:=hrel;by_cases hlt:(i:Int)<(k:Int)
    ·have hR:=v1.remove (a+i) (by rw[LP];exact hall i (by omega));rw[<-wy] at hR;go_wp2_with (go_at_call 226;refine hR.mono ?_;rintro e w2 ⟨rfl,t2⟩)
     go_roundg (k-(i+1))
     case measure=>omega
     case rel=>exact⟨i+1,by omega,by go_num,aW.trans f1 s1 t2⟩
    ·have hik:i=k:=by omega
     subst hik;go_wp2_with fail
     go_ret;exact⟨rfl,A1,v1,f1,s1⟩
theorem VS.J7(h:VS E w c gc D A P o)(a n af:Int)(hn:n<=9223372036854775807):Calls prog 178 #[vp c,.int .i64 a,.int .i64 n,.int .i64 af] w fun e w'=>e=.returned (sD (mQ P a n af))/\aW E w c gc A w' D (nR P a n af) o:=by
 have hA:=qU w a n hn;have hU:=CQ w af;obtain⟨V,hV⟩:∃V,sD (mQ P a n af)=V:=⟨_,rfl⟩;obtain⟨P2,hP2⟩:∃P2,nR P a n af=P2:=⟨_,rfl⟩;rw[hV,hP2];cases ha:Bl a n with
 |false=>
  have e0:mQ P a n af=2:=by unfold mQ;rw[if_pos ha]
  rw[nR,if_neg (by rw[e0];decide)] at hP2;rw[e0] at hV;rw[ha] at hA;clear e0 hU ha;subst hP2;subst hV;have ht:=aW.refl h;clear h;go_enter func178,ntmps178
  go_wp2_with (go_at_call 243;refine hA.mono ?_;rintro e w1 ⟨rfl,h1⟩;subst w1)
  go_ret;exact⟨rfl,ht⟩
 |true=>
  cases hu:Vp af with
  |false=>
   have e0:mQ P a n af=1:=by unfold mQ;rw[if_neg (by rw[ha];decide),if_pos hu]
   rw[nR,if_neg (by rw[e0];decide)] at hP2;rw[e0] at hV;rw[ha] at hA;rw[hu] at hU;clear e0 ha hu;subst hP2;subst hV;have ht:=aW.refl h;clear h;go_enter func178,ntmps178
   go_wp2_with (first
    |(go_at_call 243;refine hA.mono ?_;rintro e w1 ⟨rfl,h1⟩;subst w1)
    |(go_at_call 244;refine hU.mono ?_;rintro e w1 ⟨rfl,h1⟩;subst w1))
   go_ret;exact⟨rfl,ht⟩
  |true=>
   obtain⟨hn1,ha0,Lh⟩:=lK.1 ha;obtain⟨k,rfl⟩:∃k:Nat,n=(k:Int):=⟨n.toNat,by omega⟩;have hC:=h.sp.count a k ha0 Lh;have hpr:=GM.1 hu;rw[ha] at hA;rw[hu] at hU;by_cases hz:iO P a k<k
   ·have e0:mQ P a (k:Int) af=7:=by unfold mQ;rw[if_neg (by rw[ha];decide),if_neg (by rw[hu];decide),Int.toNat_natCast,if_pos hz]
    rw[nR,if_neg (by rw[e0];decide)] at hP2;rw[e0] at hV;subst hP2;subst hV;clear e0 ha hu;have hgt:((iO P a k:Nat):Int)<(k:Int):=by omega
    generalize iO P a k=hh at *;go_enter func178,ntmps178
    go_wp2_with (first
     |(go_at_call 243;refine hA.mono ?_;rintro e w1 ⟨rfl,h1⟩;subst w1)
     |(go_at_call 244;refine hU.mono ?_;rintro e w1 ⟨rfl,h1⟩;subst w1)
     |(go_at_call 245;refine hC.mono ?_;rintro e w1 ⟨rfl,b1⟩))
    go_ret;exact⟨rfl,aW.below h b1⟩
   ·have e0:mQ P a (k:Int) af=0:=by unfold mQ;rw[if_neg (by rw[ha];decide),if_neg (by rw[hu];decide),Int.toNat_natCast,if_neg hz]
    rw[nR,if_pos e0,Int.toNat_natCast] at hP2;rw[e0] at hV;have hall:=u7 hz;subst hP2;subst hV;clear e0 ha hu;have hgt:¬((iO P a k:Nat):Int)<(k:Int):=by omega
    generalize iO P a k=hh at *;go_enter func178,ntmps178
    go_wp2_with (first
     |(go_at_call 243;refine hA.mono ?_;rintro e w1 ⟨rfl,h1⟩;subst w1)
     |(go_at_call 244;refine hU.mono ?_;rintro e w1 ⟨rfl,h1⟩;subst w1)
     |(go_at_call 245;refine hC.mono ?_;rintro e w1 ⟨rfl,b1⟩))
    clear hA hU hC hz hgt;go_loopg [27] k (fun mm s27 wr=>∃i:Nat,i+mm=k/\s27=.int .i64 (i:Int)/\aW E w c gc A wr D (iL P a i af) o)
    case atStart=>exact⟨0,by omega,rfl,by rw[J8];exact aW.below h b1⟩
    case round=>
     obtain⟨i,hi,rfl,A1,v1,f1,s1⟩:=hrel;by_cases hlt:(i:Int)<(k:Int)
     ·have c1:=v1.sp.c1;have hmp:=v1.sp.map;have hsz:bX (iL P a i af)<maxLen:=by have:=ry (iL P a i af);unfold maxLen;omega
      have hwf:(Lit.int .i64 (a+i)).wf=true:=fJ (by omega) (by omega);have hi':=hall i (by omega);have hia:(iL P a i af (a+i)).isSome=true:=by rw[Gp];exact hi'
      have hfe:aR (iL P a i af) (a+i)=aR P (a+i):=by unfold aR;rw[Gp]
      have hgt:=El (iL P a i af) (a+i);rw[DN hia,hfe] at hgt;have hl:(Instr.lookup 163 (.map (some gc)) (.int .i64 (a+i)) false).run prog wr.drew=.ok (.agg #[.int .i64 (pg (iL P a i af) (a+i)).1,.int .i64 (aR P (a+i))]) wr.drew:=by
       rw[<-hgt];exact(hmp.keep (w':=wr.drew) rfl).look underlying163 (wh _) (a+i) hwf
      obtain⟨w2,hrun,wX,g2⟩:=(hmp.keep (w':=wr.drew) rfl).put underlying163 hsz (a+i) hwf (.agg #[.int .i64 af,.int .i64 (aR P (a+i))]);rw[Ej] at wX;have hg2:wr.grownBy w2 (some gc):=⟨g2.os,g2.tape,g2.output,g2.size,g2.block⟩;have afo:=xE (pg (iL P a i af) (a+i)).1 (aR P (a+i));have hfin:aW E w c gc A w2 D (iL P a (i+1) af) o:=by
       rw[J9 hi'];exact aW.trans f1 s1 ⟨A1,v1.Gn (by omega) (by omega) hpr hfe.symm hg2 wX,(Fr.grown hg2).mono (fun i _ e=>.inr e),fun _ _ h=>h⟩
      clear v1 f1 s1 h hmp wX g2 hg2 hgt hfe hia hi' hall;generalize (pg (iL P a i af) (a+i)).1=x at *;generalize aR P (a+i)=y at *;go_wp2_with fail
      go_region
      go_wp2_with fail
      go_roundg (k-(i+1))
      case measure=>omega
      case rel=>exact⟨i+1,by omega,by go_num,hfin⟩
     ·have hik:i=k:=by omega
      subst hik;go_wp2_with fail
      go_ret;exact⟨rfl,A1,v1,f1,s1⟩
theorem SC(h:lN E.n P):jI P 0 64=fun _=>none:=by
 funext x;unfold jI;split
 ·rfl
 ·rename_i a
  cases e:P x with
  |none=>rfl
  |some p=>have:=h.key x (by rw[e];rfl);omega
theorem VS.zN(h:VS E w c gc D A P o):Calls prog 158 #[vp c] w fun e k=>e=.returned (.tuple #[])/\aW E w c gc A k D (fun _=>none) o:=by
 have g:=SC h.ok;go_enter Tryz.func158,Tryz.ntmps158
 go_wp2_with fail
 go_loopg [5] 64 (fun q s5 wr=>∃i:Nat,i+q=64/\s5=.int .i64 (i:Int)/\aW E w c gc A wr D (jI P 0 i) o)
 case atStart=>exact⟨0,by omega,rfl,by rw[wu];exact aW.refl h⟩
 case round=>
  clear h;obtain⟨i,F,rfl,B,f,j,s1⟩:=hrel;by_cases s:(i:Int)<64
  ·have hF:=find_ok f.sp (i:Int) (fJ (by omega) (by omega));have a:=wy P 0 i;rw[Int.zero_add] at a;generalize (pg (jI P 0 i) (i:Int)).1=x at *;generalize (pg (jI P 0 i) (i:Int)).2=y at *;cases hP:(jI P 0 i (i:Int)).isSome with
   |true=>
    rw[hP] at hF;have v:∀d,Below wr.heap.size wr d->Calls prog 226 #[vp c,.int .i64 (i:Int)] d fun e k=>e=.returned (.tuple #[])/\aW E w c gc A k D (jI P 0 (i+1)) o:=fun d b=>by
     refine((f.below b).remove (i:Int) hP).mono ?_;rintro e k ⟨u,t⟩;rw[<-a] at t;exact⟨u,aW.trans j s1 (aW.trans (oH b) (fun _ _ h=>h) t)⟩
    clear hP a f j s1;go_wp2_with (first
     |(go_at_call 214;refine hF.mono ?_;rintro e d ⟨rfl,b⟩)
     |(go_at_call 226;refine(v _ (Below.alloc b b.size _)).mono ?_;rintro e C ⟨rfl,n⟩))
    go_roundg (64-(i+1))
    case measure=>omega
    case rel=>exact⟨i+1,by omega,by go_num,n⟩
   |false=>
    rw[hP] at hF;have m:mV (jI P 0 i) (i:Int)=jI P 0 i:=by
     funext z;unfold mV;split
     ·rename_i e;rw[e];cases e':jI P 0 i (i:Int) with
      |none=>rfl
      |some p=>rw[e'] at hP;cases hP
     ·rfl
    have r:∀d,Below wr.heap.size wr d->aW E w c gc A d D (jI P 0 (i+1)) o:=fun d b=>by
     rw[a,m];exact aW.trans j s1 (aW.below f b)
    clear hP a f j s1 m;go_wp2_with (go_at_call 214;refine hF.mono ?_;rintro e d ⟨rfl,b⟩)
    go_roundg (64-(i+1))
    case measure=>omega
    case rel=>exact⟨i+1,by omega,by go_num,r _ (Below.alloc b b.size _)⟩
  ·have l:i=64:=by omega
   subst l;rw[g] at f;go_wp2_with fail
   go_end0
   exact⟨rfl,B,f,j,s1⟩
end
section
variable {E:St}{w w':World}{c gc:Nat}{D:Nat→Nat→Int}{A:Nat→Prop}{P:PM}{o:Int→Nat}
def used(t:Int->Nat)(n:Nat):Nat:=num (gQ t) n
theorem RV{R:Int->Option Nat}{n k:Nat}(a:k<n)(h:R (k:Int)=none):num R n<n:=by
 have c:=Ik (m:=1) a h;have b:=vU (jo R (k:Int) 1) n;omega
theorem Vs.words{R:Int->Option Nat}(h:Vs E w D R A){D':Nat->Nat->Int}(f:w.grownBy w' (some E.sm))(m:Mem w' E.bm E.sm E.n D'):Vs E w' D' R A:=by
 have c:∀i,i<w.heap.size->i≠E.sm->w'.heap[i]? = w.heap[i]? := fun i b d=>f.block i b (fun e=>d (Option.some.inj e));obtain⟨U,T,a,s⟩:=h.pool;exact⟨(c _ h.blt h.Vm).trans h.head,m,⟨U,T,a.keep' (fun i b=>c i (a.lt' b) (fun e=>h.Dv (e ▸ b))),s⟩,h.map.keep (c _ h.uk (fun e=>h.Vb e.symm)),h.small,h.Dw,h.FB,h.Dv,h.iN,h.Vm,h.Ng,h.Vl,h.Vb,h.n1⟩
theorem VS.words(h:VS E w c gc D A P o){D':Nat->Nat->Int}(b:w.grownBy w' (some E.sm))(m:Mem w' E.bm E.sm E.n D'):VS E w' c gc D' A P o:=by
 have a:∀i,i<w.heap.size->i≠E.sm->w'.heap[i]? = w.heap[i]? := fun i f d=>b.block i f (fun e=>d (Option.some.inj e));exact⟨h.st.words b m,h.sp.keep (a c h.sp.lt (fun e=>h.mR (.inr (.inl e)))) (a gc h.sp.uk (fun e=>h.iN (.inr (.inl e)))),h.ok,h.Bh,h.mR,h.iN,h.gb,h.gm⟩
theorem VS.stored(h:VS E w c gc D A P o){a x y:Int}(H:P a=some (x,y)){k:Nat}(hk:k<E.n)(W:sh P (k:Int)+o (k:Int)=0){j:Nat}(l:¬bO E A j)(F:j≠c)(_hig:j≠gc)(G:j≠E.b)(B:j≠E.bm)(C:j<w.heap.size)
 {w2 w3 w4 w5:World}{A2:Nat->Prop}{D2 O:Nat->Nat->Int}(p:Vs E w2 D2 (jo (di (gQ fun f=>sh P f+o f) y) (k:Int) 1) A2) (J:Fr (bO E A) w w2) (s2:∀i,i<w.heap.size->A2 i->A i)
 (I:Fr (·=j) w2 w3) (M:w3.grownBy w4 (some gc)) (N:aK w4 gc (if (vO P a).isSome then bX P else bX P+1) (vO (dC P a (x,(k:Int)))))
 (L:w4.grownBy w5 (some E.sm)) (T:Mem w5 E.bm E.sm E.n O) :
 ∃Q,VS E w5 c gc O Q (dC P a (x,(k:Int))) o/\Fr (fun i=>(bO E A i\/i=gc)\/i=j) w w5/\∀i,i<w.heap.size->Q i->A i:=by
 have d:(P a).isSome=true:=by rw[H];rfl
 have g:=h.ok.key a d;have v:=h.ok.af a _ H;have s:aR P a=y:=mh H;have b:∀i,i<w.heap.size->bO E A2 i->bO E A i:=fun i l m=>by
  rcases m with m|m
  ·exact .inl (s2 i l m)
  ·exact .inr m
 have V:∀i,i<w.heap.size->i<w2.heap.size:=fun i l=>lt_of_lt_of_le l J.size;have U:∀i,i<w2.heap.size->i<w3.heap.size:=fun i l=>lt_of_lt_of_le l I.size;have t:∀i,i<w2.heap.size->i≠j->i≠gc->w4.heap[i]? = w2.heap[i]? := fun i l Z Y=>(M.block i (U i l) (fun e=>Y (Option.some.inj e))).trans (I.block i l Z);have X:jo (di (gQ fun f=>sh P f+o f) y) (k:Int) 1=gQ fun f=>sh (dC P a (x,(k:Int))) f+o f:=by
  refine p.rof (fun z K=>?_);have r:=yT (P:=P) g.1 g.2 (x,(k:Int)) z;simp only at r;rw[LJ];by_cases e:z=(k:Int)
  ·subst e;rw[if_pos rfl];have:¬aR P a=(k:Int):=Wi (by omega) h.ok (by omega) a;rw[if_neg this,if_pos rfl] at r;omega
  ·rw[if_neg e,C8];have S:(if (k:Int)=z then 1 else 0)=0:=if_neg (fun h=>e h.symm);rw[S] at r;by_cases q:z=y
   ·rw[if_pos (by rw[s,q])] at r;rw[if_pos q,pq (by rw[<-q];exact K),<-q];omega
   ·rw[if_neg (by rw[s];exact fun h=>q h.symm)] at r;rw[if_neg q,pq K];omega
 rw[X] at p;have R:Vs E w4 D2 (gQ fun f=>sh (dC P a (x,(k:Int))) f+o f) A2:=by
  refine p.keep (fun i n=>t i (p.Dm n) (fun e=>l (b j C (e ▸ n))) (fun e=>h.iN (b gc h.sp.uk (e ▸ n)))) (t _ p.blt (fun e=>G e.symm) (fun e=>h.gb e.symm)) (t _ p.mlt (fun e=>B e.symm) (fun e=>h.gm e.symm))
 have ajD:gc≠E.sm:=fun e=>h.iN (.inr (.inl e));have u:Sp w4 c E.b gc (dC P a (x,(k:Int))):=by
  refine⟨((t c (V c h.sp.lt) (fun e=>F e.symm) h.sp.ne).trans (J.block c h.sp.lt h.mR)).trans h.sp.head,?_⟩;rw[pM d];rw[mr,if_pos d] at N;exact N
 have V4:VS E w4 c gc D2 A2 (dC P a (x,(k:Int))) o:=
  ⟨R,u,h.ok.put g.1 g.2 v (.inr ⟨by show (0:Int)<=(k:Int);omega,by show (k:Int)<(E.n:Int);omega⟩),h.Bh.put g.1 g.2 (.inr (.inl (by show sh P (k:Int)=0;omega))),fun m=>h.mR (b c h.sp.lt m),fun m=>h.iN (b gc h.sp.uk m),h.gb,h.gm⟩
 refine⟨A2,V4.words L T,?_,s2⟩;exact(((J.mono (fun i _ h=>.inl (.inl h))).trans I (fun i _ e=>.inr e)).trans (Fr.grown M) (fun i _ e=>.inl (.inr e))).trans (Fr.grown L) (fun i _ e=>.inl (.inl (.inr (.inl e))))
def uo(n:Nat)(P:PM)(o:Int->Nat)(D:Nat->Nat->Int)(a k v:Int)(er:Int)(P':PM)(D':Nat->Nat->Int):Prop:=
 (dL P a k 2≠0/\er=dL P a k 2/\P'=P/\D'=D)\/
 (dL P a k 2=0/\aR P a≠-1/\sh P (aR P a)+o (aR P a)=1/\er=0/\P'=P/\D'=upd D (aR P a).toNat k.toNat v)\/
 (dL P a k 2=0/\(aR P a=-1\/1<sh P (aR P a)+o (aR P a))/\used (fun f=>sh P f+o f) n=n/\er=12/\P'=P/\D'=D)\/
 (dL P a k 2=0/\(aR P a=-1\/1<sh P (aR P a)+o (aR P a))/\∃f:Nat,f<n/\sh P (f:Int)+o (f:Int)=0/\er=0/\P'=dC P a ((pg P a).1,(f:Int))/\D'=upd (row D f (eY D (aR P a))) f k.toNat v)
theorem VS.SS(h:VS E w c gc D A P o)(a k v:Int)(ha:(Lit.int .i64 a).wf=true):Calls prog 182 #[vp c,.int .i64 a,.int .i64 k,.int .i64 v] w fun e B=>∃er P' D',uo E.n P o D a k v er P' D'/\e=.returned (sD er)/\aW E w c gc A B D' P' o:=by
 have hU:=BZ h.sp h.ok a k 2 ha (.inr rfl);go_enter Tryz.func182,Tryz.ntmps182
 go_wp2_with fail
 refine hU.mono ?_;rintro e w1 ⟨x,y,rfl,O,b1⟩;clear hU;have U:Below w.heap.size w (w1.alloc (.cells #[.int .i64 x,.int .i64 y] 264)):=b1.alloc b1.size _;by_cases H:dL P a k 2=0
 ·have hP:=O H;have L:aR P a=y:=mh hP;have hk:0<=k/\k<8:=by
   apply Classical.byContradiction;intro hk
   unfold dL at H;rw[hP] at H;simp only[if_neg hk] at H;omega
  have C:sD (dL P a k 2)=.nilIface:=by rw[H];rfl
  rw[C];have acr:(pg P a).1=x:=by unfold pg;rw[hP];rfl
  have g:=h.below U;have F:=qI w1 (.cells #[.int .i64 x,.int .i64 y] 264);obtain⟨W,hW⟩:∃W,w1.alloc (.cells #[.int .i64 x,.int .i64 y] 264)=W:=⟨_,rfl⟩;obtain⟨m,hi0⟩:∃m,w1.heap.size=m:=⟨_,rfl⟩;have hW0:w.heap.size<=m:=by rw[<-hi0];exact b1.size
  rw[hW] at U g F;rw[hi0] at F;have hil:m<W.heap.size:=lt_of_heap F;obtain⟨p0,p1,pf0,pf1⟩:=mD F;have c0:=g.sp.c0;have c1:=g.sp.c1;have d0:=g.st.c0;have hwt:∀ {V:World}{P':PM}{D':Nat->Nat->Int},aW E W c gc A V D' P' o->aW E w c gc A V D' P' o:=fun t=>aW.trans (oH U) (fun _ _ h=>h) t;have s:y≠-1->val (gQ fun f=>sh P f+o f) y=sh P y+o y:=fun K=>pq (by rcases h.ok.frame a with e|e<;>rw[L] at e<;>omega);have I:y≠-1->1<=sh P y+o y:=fun K=>by
   have:=yU (a:=a) h.ok (by rw[L];exact K);rw[L] at this;omega
  have hyw:(Lit.int .i64 y).wf=true:=by
   rcases h.ok.frame a with e|e<;>rw[L] at e
   ·subst e;kernel_rfl
   ·have:=h.st.n256;exact fJ (by omega) (by omega)
  by_cases d:y≠-1/\sh P y+o y=1
  ·have R:∀q,Calls prog 260 #[vp E.b,.int .i64 y] (W.drewN q) fun e B=>e=.returned (.bool true)/\∃q',B=(W.drewN q).drewN q':=fun q=>by
    refine((g.drewN q).st.Y4 y hyw).mono ?_;rintro e B ⟨M,hw⟩;rw[s d.1,d.2] at M;exact⟨M,0,hw⟩
   have hfr:0<=y/\y<(E.n:Int):=by rcases h.ok.frame a with e|e<;>rw[L] at e<;>omega
   have ZN:∀q,Calls prog 262 #[mp E.bm,.int .i64 y,.int .i64 k,.int .i64 v] (W.drewN q) fun e B=>e=.returned .nilIface/\aW E w c gc A B (upd D y.toNat k.toNat v) P o:=fun q=>by
    have hq:=g.drewN q;refine(Mc hq.st.mem y k v hfr.1 hfr.2 hk.1 hk.2).mono ?_;rintro e B ⟨M,m',_,g'⟩;refine⟨M,hwt ⟨A,hq.words g' m',(Fr.drewN _ W q).trans (Fr.grown g') (fun i _ e=>.inl (.inr (.inl e))),fun _ _ h=>h⟩⟩
   have HR:Hid (uo E.n P o D a k v 0 P (upd D y.toNat k.toNat v)):=hide (.inr (.inl ⟨H,by rw[L];exact d.1,by rw[L];exact d.2,rfl,rfl,by rw[L]⟩));clear g O H hP L s I d hwt h F C;go_upto_region 4 with fail
   go_quiet (first|(go_at_call 260;exact Calls.quiet_of (R _)))
   go_wp2_with fail
   go_region_with (go_at_call 262;refine(ZN _).mono ?_;rintro e G ⟨rfl,t5⟩)
   all_goals
    go_wp2_with fail
    go_ret;exact⟨_,_,_,HR.out,rfl,t5⟩
  ·have J:y=-1\/1<sh P y+o y:=by
    by_cases K:y=-1
    ·exact .inl K
    ·have:=I K;exact .inr (by have:¬sh P y+o y=1:=fun e=>d ⟨K,e⟩;omega)
   have R:∀q,Calls prog 260 #[vp E.b,.int .i64 y] (W.drewN q) fun e B=>e=.returned (.bool false)/\∃q',B=(W.drewN q).drewN q':=fun q=>by
    refine((g.drewN q).st.Y4 y hyw).mono ?_;rintro e B ⟨M,hw⟩;have hne:¬val (gQ fun f=>sh P f+o f) y=1:=by
     by_cases K:y=-1
     ·rw[K,val,h.st.neg (by omega)];simp
     ·rw[s K];exact fun e=>d ⟨K,e⟩
    rw[decide_eq_false hne] at M;exact⟨M,0,hw⟩
   have hnR:y=-1\/1<val (gQ fun f=>sh P f+o f) y:=by
    rcases J with e|e
    ·exact .inl e
    ·by_cases K:y=-1
     ·exact .inl K
     ·exact .inr (by rw[s K];exact e)
   have LA:aR P a=-1\/1<sh P (aR P a)+o (aR P a):=by rw[L];exact J
   by_cases j:used (fun f=>sh P f+o f) E.n=E.n
   ·have VH:∀q,Calls prog 261 #[vp E.b,.int .i64 y] (W.drewN q) fun e B=>e=.returned (.tuple #[.int .i64 (-1),Li 12])/\∃q',B=(W.drewN q).drewN q':=fun q=>by
     refine((g.drewN q).st.RS y hnR).mono ?_;rintro e B (⟨_,M,hw⟩|⟨f,r,n,_⟩)
     ·exact⟨M,0,hw⟩
     ·have:=RV r n;unfold used at j;omega
    have HR:Hid (uo E.n P o D a k v 12 P D):=hide (.inr (.inr (.inl ⟨H,LA,j,rfl,rfl,rfl⟩)));have ht:∀q u,aW E w c gc A ((W.drewN q).setCell ⟨m,1,none⟩ u) D P o:=fun q u=>by
     refine aW.below h (Below.setCell (p:=⟨m,1,none⟩) ?_ hW0 u);exact⟨U.os,U.tape,U.output,U.size,U.block⟩
    clear g O H hP L s I d hwt h F C J hnR LA j;go_upto_region 4 with fail
    go_quiet (first|(go_at_call 260;exact Calls.quiet_of (R _)))
    go_wp2_with fail
    go_region_with (go_at_call 261;refine(VH _).mono ?_;rintro e b ⟨rfl,q2,rfl⟩)
    all_goals
     go_wp2_with fail
     go_ret;exact⟨_,_,_,HR.out,rfl,ht _ _⟩
   ·have hic:m≠c:=fun e=>by have:=h.sp.lt;omega
    have hig:m≠gc:=fun e=>by have:=h.sp.uk;omega
    have hib:m≠E.b:=fun e=>by have:=h.st.blt;omega
    have him:m≠E.bm:=fun e=>by have:=h.st.mlt;omega
    have hio:¬bO E A m:=fun ho=>by have:=h.st.Dm ho;omega
    have VH:∀q,Calls prog 261 #[vp E.b,.int .i64 y] (W.drewN q) fun e b=>∃f:Nat,e=.returned (.tuple #[.int .i64 (f:Int),.nilIface])/\f<E.n/\sh P (f:Int)+o (f:Int)=0/\
     (∃X,Vs E b (row D f (eY D y)) (jo (di (gQ fun f=>sh P f+o f) y) (f:Int) 1) X/\Fr (bO E A) W b/\(∀i,i<W.heap.size->X i->A i))/\
     b.cell? ⟨c,0,none⟩=some (vp E.b)/\b.cell? ⟨c,1,none⟩=some (.map (some gc))/\b.cell? ⟨E.b,0,none⟩=some (mp E.bm)/\b.heap[m]? = some (.cells #[.int .i64 x,.int .i64 y] 264)/\aK b gc (bX P) (vO P):=fun q=>by
     refine((g.drewN q).st.RS y hnR).mono ?_;rintro e b (⟨hn,_⟩|⟨f,r,n,M,X,Z,f2,s2⟩)
     ·exact absurd hn j
     ·have N:Fr (bO E A) W b:=(Fr.drewN _ W q).trans f2 (fun _ _ h=>h);refine⟨f,M,r,(Hl (t:=fun f=>sh P f+o f) (by omega)).1 n,⟨X,Z,N,s2⟩,?_,?_,?_,(N.block m hil hio).trans F,g.sp.map.keep (N.block gc g.sp.uk g.iN)⟩
      ·rw[cell?_of_block (w:=W) (a:=⟨c,0,none⟩) (N.block c g.sp.lt g.mR)];exact c0
      ·rw[cell?_of_block (w:=W) (a:=⟨c,1,none⟩) (N.block c g.sp.lt g.mR)];exact c1
      ·rw[cell?_of_block (w:=W) (a:=⟨E.b,0,none⟩) (N.block E.b g.st.blt g.st.bno)];exact d0
    have HR:Hid (∀f:Nat,f<E.n->sh P (f:Int)+o (f:Int)=0->uo E.n P o D a k v 0 (dC P a (x,(f:Int))) (upd (row D f (eY D y)) f k.toNat v)):=hide (fun f r n=>.inr (.inr (.inr ⟨H,LA,f,r,n,rfl,by rw[acr],by rw[L]⟩)));have hfin:=fun(f:Nat) (r:f<E.n) (n:sh P (f:Int)+o (f:Int)=0) (b w3 Y G:World) X (Z:Vs E b (row D f (eY D y)) _ X) f2 s2 T g4 Qw g5 (m5:Mem G E.bm E.sm E.n (upd (row D f (eY D y)) f k.toNat v))=>g.stored hP r n hio hic hig hib him hil (w2:=b) (w3:=w3) (w4:=Y) (w5:=G) (A2:=X) Z f2 s2 T g4 Qw g5 m5;have Y9:∀(f:Nat) (G:World),(∃A',VS E G c gc (upd (row D f (eY D y)) f k.toNat v) A' (dC P a (x,(f:Int))) o/\Fr (fun i=>(bO E A i\/i=gc)\/i=m) W G/\∀i,i<W.heap.size->A' i->A i)->aW E w c gc A G (upd (row D f (eY D y)) f k.toNat v) (dC P a (x,(f:Int))) o:=fun f G ⟨A',v',f',s'⟩=>by
     have fA:Fr (fun i=>bO E A i\/i=gc) w W:=oH U;exact⟨A',v',fA.trans f' (fun i hi ho=>by rcases ho with ho|ho;exact ho;omega) |> fun z=>z,fun i hi ha=>s' i (lt_of_lt_of_le hi U.size) ha⟩
    have hcg:c≠gc:=h.sp.ne;have hgb:=h.gb;have hgm:=h.gm;have his:E.sm≠m:=fun e=>hio (.inr (.inl e.symm));have hsg:E.sm≠gc:=fun e=>h.iN (.inr (.inl e.symm));have hsz:bX P<maxLen:=by have:=ry P;unfold maxLen;omega
    clear g O H hP L s I d hwt h C J hnR LA j acr;go_upto_region 4 with fail
    go_quiet (first|(go_at_call 260;exact Calls.quiet_of (R _)))
    go_wp2_with fail
    go_region_with (go_at_call 261;refine(VH _).mono ?_;rintro e b ⟨f,rfl,r,n,⟨X,Z,f2,s2⟩,cc0,cc1,dd0,Q,wX⟩;obtain⟨pp0,pp1,afd,afc⟩:=mD Q)
    all_goals
     have l:=heap_setCell_same b m 1 (.int .i64 (f:Int)) _ _ _ Q;have T:Fr (·=m) b (b.setCell ⟨m,1,none⟩ (.int .i64 (f:Int))):=(Fr.refl _ _).setCell m 1 _ (fun _=>rfl);obtain⟨W3,hW3⟩:∃W3,b.setCell ⟨m,1,none⟩ (.int .i64 (f:Int))=W3:=⟨_,rfl⟩;rw[hW3] at l T ⊢;replace l:W3.heap[m]? = some (.cells #[.int .i64 x,.int .i64 (f:Int)] 264):=l;obtain⟨q0,q1,_,_⟩:=mD l;have lc:c<b.heap.size:=World.block_lt_of_cell? b _ cc0;have lb:E.b<b.heap.size:=World.block_lt_of_cell? b _ dd0;have c0':W3.cell? ⟨c,0,none⟩=some (vp E.b):=by rw[cell?_of_block (w:=b) (a:=⟨c,0,none⟩) (T.block c lc (fun e=>hic e.symm))];exact cc0
     have c1':W3.cell? ⟨c,1,none⟩=some (.map (some gc)):=by rw[cell?_of_block (w:=b) (a:=⟨c,1,none⟩) (T.block c lc (fun e=>hic e.symm))];exact cc1
     have d0':W3.cell? ⟨E.b,0,none⟩=some (mp E.bm):=by rw[cell?_of_block (w:=b) (a:=⟨E.b,0,none⟩) (T.block E.b lb (fun e=>hib e.symm))];exact dd0
     have Zk:=wX.keep (T.block gc wX.lt (fun e=>hig e.symm));obtain⟨Y,hrun,Qw,g4⟩:=(Zk.keep (w':=W3.drew) rfl).put underlying163 hsz a ha (.agg #[.int .i64 x,.int .i64 (f:Int)]);rw[Ej] at Qw;have S:W3.grownBy Y (some gc):=⟨g4.os,g4.tape,g4.output,g4.size,g4.block⟩;have ajH:=S.cell c0' (fun e=>hcg (Option.some.inj e));have ajF:=S.cell d0' (fun e=>hgb (Option.some.inj e).symm);have ajo:=S.cell q1 (fun e=>hig (Option.some.inj e));have k4:∀i,i<b.heap.size->i≠m->i≠gc->Y.heap[i]? = b.heap[i]? := fun i hi g h2=>(S.block i (lt_of_lt_of_le hi T.size) (fun e=>h2 (Option.some.inj e))).trans (T.block i hi g);have m4:=Z.mem.keep (k4 _ Z.mlt (fun e=>him e.symm) (fun e=>hgm e.symm)) (k4 _ Z.slt his hsg);have ZN:∀q,Calls prog 262 #[mp E.bm,.int .i64 (f:Int),.int .i64 k,.int .i64 v] (Y.drewN q) fun e B=>e=.returned .nilIface/\aW E w c gc A B (upd (row D f (eY D y)) f k.toNat v) (dC P a (x,(f:Int))) o:=fun q=>by
      refine(Mc (m4.keep (w':=Y.drewN q) rfl rfl) (f:Int) k v (by omega) (by omega) hk.1 hk.2).mono ?_;rintro e G ⟨M,m5,_,g5⟩;have g5':Y.grownBy G (some E.sm):=⟨g5.os,g5.tape,g5.output,g5.size,g5.block⟩;exact⟨M,Y9 f G (hfin f r n b W3 Y G X Z f2 s2 T S Qw g5' (by simpa using m5))⟩
     have HF:Hid (uo E.n P o D a k v 0 (dC P a (x,(f:Int))) (upd (row D f (eY D y)) f k.toNat v)):=hide (HR.out f r n);clear hfin Y9 HR Z f2 s2 m4 k4 Qw Zk wX T g4 Q l hW3 cc0 cc1 dd0 pp0 pp1 afd afc VH R c0 c1 d0 p0 p1 pf0 pf1;go_wp2_with fail
     go_region
     go_wp2_with fail
     go_region_with (go_at_call 262;refine(ZN _).mono ?_;rintro e G ⟨rfl,t5⟩)
     all_goals
      go_wp2_with fail
      go_ret;exact⟨_,_,_,HF.out,rfl,t5⟩
 ·have C:sD (dL P a k 2)=Li (dL P a k 2):=by unfold sD;rw[if_neg H]
  rw[C];have HE:=hide C;have HZ:=hide H;have ht:=aW.below h U;clear O H h C;go_wp2_with fail
  go_ret;exact⟨_,_,_,.inl ⟨HZ.out,rfl,rfl,rfl⟩,by rw[HE.out];rfl,ht⟩
end
theorem Im(w:World)(n:Int)(h:¬(1<=n/\n<=256)):Calls prog 16 #[.int .i64 n] w fun e b=>e=.returned (.tuple #[.pointer none,Li 2])/\b=w:=by
 have c:=aaD w n h;go_enter Tryz.func16,Tryz.ntmps16
 go_wp2_with (go_at_call 35;refine c.mono ?_;rintro e a ⟨rfl,d⟩;subst a)
 go_ret2;exact⟨rfl,rfl⟩
theorem SX:ZQ (gQ fun _=>0) (fun _=>none):=fun x=>by
 unfold gQ;rw[if_neg (fun h=>h.2 rfl)];rfl
theorem Mk(n:Nat):num (gQ fun _=>0) n=0:=mq _ _ (fun i _ _=>by simp[gQ])
theorem EW(w:World)(n:Nat)(z:1<=n)(K:n<=256):Calls prog 16 #[.int .i64 (n:Int)] w fun e y=>∃b,e=.returned (.tuple #[vp b,.nilIface])/\∃E A,E.b=b/\E.n=n/\Vs E y (fun _ _=>0) (gQ fun _=>0) A/\Below w.heap.size w y/\(∀i,i<w.heap.size->¬bO E A i)/\w.heap.size<=b/\w.heap.size<=E.bm:=by
 have I:=@run_makeMap prog;go_enter Tryz.func16,Tryz.ntmps16
 go_wp2_with fail
 refine(Xf w n (by omega) (by omega)).mono ?_;rintro e m ⟨q,rfl,s,o,M,G,C⟩;rw[Int.toNat_natCast] at o;go_wp2_with fail
 refine(WC m n z K).mono ?_;rintro e a ⟨B,rfl,A,D,l,F⟩;have r:Below m.heap.size m a:=⟨l.os,l.tape,l.output,l.size,fun i d=>l.block i d (fun h=>h)⟩;have j:∀W:World,Below a.heap.size a W->W.heap[a.heap.size]? = some (.map #[] 0)->W.heap[a.heap.size+1]? = some (.cells #[mp q,pp B,.map (some a.heap.size)] 99)->
  ∃E A,E.b=a.heap.size+1/\E.n=n/\Vs E W (fun _ _=>0) (gQ fun _=>0) A/\Below w.heap.size w W/\(∀i,i<w.heap.size->¬bO E A i)/\w.heap.size<=a.heap.size+1/\w.heap.size<=E.bm:=by
  intro W p J H;have s1:=C.size;have s2:=r.size;have u:=o.ach;have t:=o.acg (by omega);have g:∀i,A i->i<a.heap.size/\m.heap.size<=i:=fun i d=>⟨D.lt' d,by
   apply Classical.byContradiction;intro N;exact F i (by omega) d⟩
  refine⟨⟨a.heap.size+1,q,s,B,a.heap.size,n⟩,A,rfl,rfl,⟨H,o.keep ((p.block q (by omega)).trans (r.block q u)) ((p.block s (by omega)).trans (r.block s t)),⟨_,_,(D.more' (by omega:0<=256)).keep' (fun i d=>p.block i (g i d).1),SX⟩,?_,fun x k v=>?_,fun f=>?_,fun f=>?_,fun f=>?_,fun f=>?_,?_,?_,?_,?_,z⟩,(C.trans (r.mono s1)).trans (p.mono (by omega)),fun i d c=>?_,by omega,G⟩
  ·show aK W a.heap.size (num (gQ fun _=>0) n) (tm (gQ fun _=>0));rw[Mk];have L:tm (gQ fun _=>0)=fun _=>none:=by funext x;unfold tm gQ;rw[if_neg (fun h=>h.2 rfl)];rfl
   rw[L];have:=aK.made a;refine this.keep (J.trans ?_);exact(qI a _).symm
  ·unfold gQ at v;rw[if_neg (fun h=>h.2 rfl)] at v;cases v
  ·have:=(g _ f).1;simp only at this;omega
  ·have:=(g _ f).2;simp only at this;omega
  ·have:=(g _ f).2;simp only at this;omega
  ·have:=(g _ f).1;simp only at this;omega
  ·simp only;omega
  ·simp only;omega
  ·simp only;omega
  ·simp only;omega
  ·rcases c with c|c|c
   ·have:=(g i c).2;omega
   ·simp only at c;omega
   ·simp only at c;omega
 go_wp2_with fail
 go_ret2;refine⟨a.heap.size+1,by simp,j _ ?_ ?_ ?_⟩
 ·exact((Below.refl _ a).alloc (le_refl _) _).alloc (by simp) _
 ·show ((a.heap.push _).push _)[a.heap.size]? = _;rw[getElem?_push,if_neg (by simp),getElem?_push,if_pos rfl]
 ·show ((a.heap.push _).push _)[a.heap.size+1]? = _;rw[getElem?_push,if_pos (by simp)]
theorem Io{E:St}{w:World}{D:Nat->Nat->Int}{A:Nat->Prop}{o:Int->Nat}(h:Vs E w D (gQ o) A):Calls prog 38 #[vp E.b] w fun e g=>∃c,e=.returned (.tuple #[vp c,.nilIface])/\∃i,VS E g c i D A (fun _=>none) o/\Below w.heap.size w g/\w.heap.size<=c/\w.heap.size<=i:=by
 have l:=@run_makeMap prog;have a:∀W:World,Below w.heap.size w W->W.heap[w.heap.size]? = some (.map #[] 0)->W.heap[w.heap.size+1]? = some (.cells #[vp E.b,.map (some w.heap.size)] 165)->VS E W (w.heap.size+1) w.heap.size D A (fun _=>none) o:=by
  intro W b m k;have n:gQ (fun f=>sh (fun _=>none) f+o f)=gQ o:=gF (fun x j=>by rw[qD j];omega);refine⟨by rw[n];exact h.below b,⟨k,?_⟩,lN.none _,QO.none,fun d=>?_,fun d=>?_,fun e=>?_,fun e=>?_⟩
  ·rw[rG];have p:vO (fun _=>none)=fun _=>none:=rfl;rw[p];exact(aK.made w).keep (m.trans (qI w _).symm)
  ·have:=h.Dm d;omega
  ·have:=h.Dm d;omega
  ·have:=h.blt;omega
  ·have:=h.mlt;omega
 go_enter Tryz.func38,Tryz.ntmps38
 go_wp2_with fail
 go_ret2;have b:Below w.heap.size w ((w.alloc (.map #[] 0)).alloc (.cells #[vp E.b,.map (some w.heap.size)] 165)):=((Below.refl _ w).alloc (le_refl _) _).alloc (by simp) _;refine⟨w.heap.size+1,by simp,w.heap.size,a _ b ?_ ?_,b,by omega,by omega⟩
 ·show ((w.heap.push _).push _)[w.heap.size]? = _;rw[getElem?_push,if_neg (by simp),getElem?_push,if_pos rfl]
 ·show ((w.heap.push _).push _)[w.heap.size+1]? = _;rw[getElem?_push,if_pos (by simp)]
end
end Go.Proofs.YtippochapiolpaaGreatDoor

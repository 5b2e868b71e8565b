/- Ours. -/
import Derived.Test.YtippochapiolpaaGreatDoorUTake
import Derived.Test.YtippochapiolpaaGreatDoorShelfV
import Derived.Test.YtippochapiolpaaGreatDoorDRw
import Derived.Lib.BufferRead
set_option maxHeartbeats 4000000
set_option maxRecDepth 100000
namespace Go.Proofs.YtippochapiolpaaGreatDoor
open Go.Proofs.Tryz(func164 func180 func185 func234 func246 func254 func256 func268 func273 func328 ntmps164 ntmps180 ntmps185 ntmps234 ntmps246 ntmps254 ntmps256 ntmps268 ntmps273 ntmps328 prog underlying102 underlying160 underlying34)
open Nat(le_refl le_trans lt_of_lt_of_le zero_le)
open Option(isSome_none isSome_some map_none map_some)
open Go.RowKit.Below(heap_alloc heap_setCell)
open List(length_cons length_set lookup mem_map range replicate)
open Go.World(alloc_heap_new frozen?)
open Go.RowKit Go.Maps
theorem Qj(z:List UInt8)(g:z.length<100000)(W:World):Calls prog 301 #[tx z] W fun e a=>e=.returned (tx z)/\Below W.heap.size W a:=by
 have b:(⟨z.toArray⟩:ByteArray).size=z.length:=by simp[ByteArray.size]
 have c:Calls prog 279 #[tx z] W fun e a=>e=.returned (tx z)/\Below W.heap.size W a:=Any.stringslite_Clone Tryz.cloneSL ⟨z.toArray⟩ W (by rw[b];omega);go_enter Tryz.func301,Tryz.ntmps301
 go_wp2_with (go_at_call 279;refine c.mono ?_;rintro e f ⟨rfl,d⟩)
 go_ret;exact⟨rfl,d⟩
section
variable {w w':World}
theorem F6{g n:Nat}{M:List UInt8->Option Value}(h:SMap w g n M)(nm:List UInt8)(k:nm.length<=1000)(m:(M nm).isSome=true):Calls prog 259 #[uj (some g) nm] w fun e d=>(∃v,e=.returned v)/\SMap d g (n-1) (fun i=>if i=nm then none else M i)/\w.grownBy d (some g):=by
 have j:nm.length<=maxLen:=by unfold maxLen;omega
 have o:SMap (w.alloc (.cells #[.map (some g),tx nm] 283)) g n M:=h.keep (heap_alloc _ _ _ h.lt);have p:∀b,(w.alloc (.cells #[.map (some g),tx nm] 283)).grownBy b (some g)->w.grownBy b (some g):=fun b a=>
  ⟨a.os,a.tape,a.output,by have:=a.size;simp at this;omega,fun i l c=>(a.block i (by simp;omega) c).trans (heap_alloc _ _ _ l)⟩
 go_enter Tryz.func259,Tryz.ntmps259
 go_wp2_with (refine Hr rfl _ _ 160 rfl 3 underlying160 g _ _ rfl o nm rfl j ?_;intro b f a;rw[if_pos m] at f)
 go_end0
 exact⟨⟨_,rfl⟩,f,p _ a⟩
theorem Jl{g n:Nat}{M:List UInt8->Option Value}(u:SMap w g n M)(E:n<maxLen)(nm:List UInt8)(D:nm.length<=1000)(F:M nm=none)(k:Int):Calls prog 236 #[uj (some g) nm,.int .i64 k] w fun e q=>(∃v,e=.returned v)/\SMap q g (n+1) (fun i=>if i=nm then some (.int .i64 k) else M i)/\w.grownBy q (some g):=by
 have B:nm.length<=maxLen:=by unfold maxLen;omega
 have m:=u.lt;have G:=Qj nm (by omega);have j:∀W a,Below W.heap.size W a->Below w.heap.size w W->∃c,(Instr.mapUpdate 160 (.map (some g)) (tx nm) (.int .i64 k)).run prog a=.ok () c/\SMap c g (n+1) (fun i=>if i=nm then some (.int .i64 k) else M i)/\w.grownBy c (some g):=fun W a d y=>by
  have b:Below w.heap.size w a:=y.trans (d.mono y.size);have C:SMap a g n M:=u.keep (b.block g m);obtain⟨c,A,r,f⟩:=C.put underlying160 E nm B (.int .i64 k);rw[F] at r;exact⟨c,A,r,⟨f.os.trans b.os,f.tape.trans b.tape,f.output.trans b.output,le_trans b.size f.size,fun i t l=>(f.block i (lt_of_lt_of_le t b.size) l).trans (b.block i t)⟩⟩
 have p:∀ {W a:World},Below W.heap.size W a->W.heap[w.heap.size]? = some (.cells #[.map (some g),tx nm] 283)->a.heap[w.heap.size]? = some (.cells #[.map (some g),tx nm] 283):=fun {W a} d h=>(d.block _ (Array.getElem?_eq_some_iff.1 h).1).trans h;have x:(w.alloc (.cells #[.map (some g),tx nm] 283)).heap[w.heap.size]? = some (.cells #[.map (some g),tx nm] 283):=alloc_heap_new _ _;have o:Below w.heap.size w (w.alloc (.cells #[.map (some g),tx nm] 283)):=(Below.refl _ _).alloc (le_refl _) _;go_enter Tryz.func236,Tryz.ntmps236
 go_wp2_with fail
 generalize w.alloc (.cells #[.map (some g),tx nm] 283)=WA at *;obtain⟨L,K,_,_⟩:=aN x
 go_region_with (go_at_call 301;refine(G _).mono ?_;rintro e a ⟨rfl,d⟩;obtain⟨c,s,z,H⟩:=j _ a d (by first|exact o|exact pK o _|exact xP o);obtain⟨J,I,_,_⟩:=aN (p d (by exact x)))
 all_goals
  go_wp2_with fail
  go_end0
  exact⟨⟨_,rfl⟩,z,H⟩
end
theorem qO{w:World}{j o:Nat}{a:Array MapEntry}{b:Nat}(h:w.heap[j]? = some (.map a b)):w.cell? ⟨j,o,none⟩=none:=by simp[World.cell?,h]
section
variable {w w':World}{r gN s:Nat}{T:Wd}{Z:Int→Nat}{B G:Int→Nat}{V:Int→Value}{O:Nat→Prop}
theorem Dat.grown{v:Value}{b:List UInt8}{j:Nat}(h:Dat w v b)(l:w.grownBy w' (some j))(m:∀x,w.cell? ⟨j,0,none⟩≠some (.int .u8 x)):Dat w' v b:=by
 rcases h with h|⟨g,c,rfl,n,f,k⟩
 ·exact .inl h
 ·refine .inr ⟨g,c,rfl,n,lt_of_lt_of_le f l.size,fun i h=>?_⟩;have d:g≠j:=fun e=>m _ (by rw[<-e];exact k 0 (by omega));rw[World.cell?_of_block (w:=w) (a:=⟨g,i,none⟩) (l.block g f (fun e=>d (Option.some.inj e)))];exact k i h
theorem dJ.YQ(h:dJ w r gN s T Z B G V O){d:Int}{C j:List (Nm×Int)}(g:T d=some (.dir C))(E:w.grownBy w' (some (G d)))
 (I:SMap w' (G d) j.length (fun i=>(j.lookup i).map (.int .i64 ·))):dJ w' r gN s (cB T d (.dir j)) Z B G V O:=by
 obtain⟨N,P,o⟩:=(h.ll d C g).isMap;have p:∀i,i<w.heap.size->i≠G d->w'.heap[i]? = w.heap[i]? := fun i A z=>E.block i A (fun e=>z (Option.some.inj e));have v:r≠G d:=fun e=>by rw[<-e,h.head] at o;cases o
 have q:∀k f,T k=some f->B k≠G d:=fun k f c e=>by rw[<-e,h.node k f c] at o;cases o
 have a:∀k f,cB T d (.dir j) k=some f->(k=d/\f=.dir j)\/(k≠d/\T k=some f):=fun k f e=>by
  by_cases c:k=d
  ·subst c;rw[aj] at e;cases e;exact .inl ⟨rfl,rfl⟩
  ·rw[ag _ c] at e;exact .inr ⟨c,e⟩
 have t:∀k D,cB T d (.dir j) k=some (.dir D)->∃n,T k=some (.dir n):=fun k D e=>by
  rcases a k _ e with⟨rfl,_⟩|⟨_,e⟩
  ·exact⟨C,g⟩
  ·exact⟨D,e⟩
 have l:∀k,(cB T d (.dir j) k).isSome=(T k).isSome:=fun k=>by
  by_cases c:k=d
  ·subst c;rw[aj,g];rfl
  ·rw[ag _ c]
 refine⟨(p r (h.lt _ h.yE) v).trans h.head,?_,fun k f e=>?_,fun k D e=>?_,fun k b x e=>?_,fun k D e=>?_,fun k u D n e m J=>?_,fun k u e m=>h.Np k u (by rw[<-l];exact e) (by rw[<-l];exact m),h.yE,h.sj,fun k e=>h.ownB k (by rw[<-l];exact e),fun k D e=>?_,fun k b x i e=>?_,fun i A=>lt_of_lt_of_le (h.lt i A) E.size⟩
 ·have e:(fun k=>(cB T d (.dir j) k).map (fun _=>wp (B k)))=fun k=>(T k).map (fun _=>wp (B k)):=by
   funext k;by_cases c:k=d
   ·subst c;rw[aj,g];rfl
   ·rw[ag _ c]
  rw[e];exact h.map.keep (p gN h.map.lt (fun e=>h.sep d C g e.symm))
 ·rcases a k f e with⟨rfl,rfl⟩|⟨_,e⟩
  ·exact(p _ (h.lt _ (h.ownB k (by rw[g];rfl))) (q k _ g)).trans (h.node k (.dir C) g)
  ·exact(p _ (h.lt _ (h.ownB k (by rw[e];rfl))) (q k _ e)).trans (h.node k _ e)
 ·rcases a k _ e with⟨rfl,K⟩|⟨c,e⟩
  ·cases K;exact I
  ·exact(h.ll k D e).keep (p _ (h.ll k D e).lt (fun F=>c (h.inj k d D C e g F)))
 ·rcases a k _ e with⟨_,e⟩|⟨_,e⟩
  ·cases e
  ·exact(h.data k b x e).grown E (fun y H=>by rw[qO o] at H;cases H)
 ·obtain⟨n,m⟩:=t k D e;exact h.sep k n m
 ·obtain⟨M,c⟩:=t k D e;obtain⟨L,F⟩:=t u n m;exact h.inj k u M L c F J
 ·obtain⟨n,m⟩:=t k D e;exact h.nT k n m
 ·rcases a k _ e with⟨_,e⟩|⟨_,e⟩
  ·cases e
  ·exact h.Fz k b x i e
theorem dJ.add(h:dJ w r gN s T Z B G V O){d n:Int}{nm:Nm}{C:List (Nm×Int)}(c:T d=some (.dir C))(e:w.grownBy w' (some (G d)))
 (b:SMap w' (G d) (C.length+1) (fun i=>if i=nm then some (.int .i64 n) else (C.lookup i).map (.int .i64 ·))):dJ w' r gN s (gq T d nm n) Z B G V O:=by
 rw[j5 c];refine h.YQ c e ?_;have f:(fun i=>if i=nm then some (.int .i64 n) else (C.lookup i).map (.int .i64 ·))=fun i=>(((nm,n)::C).lookup i).map (Value.int .i64 ·):=by
  funext i;by_cases a:i=nm
  ·subst a;simp[lookup]
  ·have:(i==nm)=false:=by simp[a]
   simp[lookup,this,a]
 rw[f] at b;exact b
theorem dJ.del(h:dJ w r gN s T Z B G V O)(f:TrOk T){d:Int}{nm:Nm}{C:List (Nm×Int)}(a:T d=some (.dir C))(c:(C.lookup nm).isSome=true)(e:w.grownBy w' (some (G d)))
 (b:SMap w' (G d) (C.length-1) (fun i=>if i=nm then none else (C.lookup i).map (.int .i64 ·))):dJ w' r gN s (aZ T d nm) Z B G V O:=by
 rw[jD a];refine h.YQ a e ?_;have j:(fun i=>if i=nm then none else (C.lookup i).map (.int .i64 ·))=fun i=>((C.filter (fun x=>x.1 != nm)).lookup i).map (Value.int .i64 ·):=by
  funext i;rw[pG];by_cases g:i=nm<;>simp[g]
 rw[j] at b;rw[AQ (f.nodup d C a) c];exact b
theorem dJ.apart(h:dJ w r gN s T Z B G V O){k:Int}{nd:Nd}(f:T k=some nd):r≠B k/\gN≠B k/\(∀i C,T i=some (.dir C)->G i≠B k)/\(∀i,(T i).isSome=true->i≠k->B i≠B k)/\∀x,w.cell? ⟨B k,0,none⟩≠some (.int .u8 x):=by
 have a:=h.node k nd f;refine⟨fun e=>?_,fun e=>?_,fun i C d e=>?_,fun i d c e=>c (h.Np i k d (by rw[f];rfl) e),fun x e=>?_⟩
 ·rw[<-e,h.head] at a;injection a with a;injection a with h1 h2;exact absurd h2 (by decide)
 ·obtain⟨g,j,b⟩:=h.map.isMap;rw[e,a] at b;cases b
 ·obtain⟨g,j,b⟩:=(h.ll i C d).isMap;rw[e,a] at b;cases b
 ·rw[cell_of_row w (B k) 0 _ _ _ a] at e;cases nd<;>(simp[dY] at e)
theorem dJ.Jp{mP:Nd}{Z':Int->Nat}{V':Int->Value}{O':Nat->Prop}(h:dJ w r gN s T Z B G V O){k:Int}{nd:Nd}(y:T k=some nd)(I:w.grownBy w' (some (B k)))
 (o:w'.heap[B k]? = some (.cells (dY G V' Z' k mP) 162)) (M:∀i,i≠k->Z' i=Z i) (F:∀i,i≠k->V' i=V i)
 (c:(∃C,nd=.dir C/\mP=.dir C)\/∃b x t u,nd=.file b x/\mP=.file t u/\Dat w' (V' k) t/\∀i,BN (V' k)=some i->O' i)
 (q:∀i,O i->O' i) (A:∀i,O' i->i<w'.heap.size):dJ w' r gN s (cB T k mP) Z' B G V' O':=by
 obtain⟨U,S,R,Q,P⟩:=h.apart y;have d:∀i,i<w.heap.size->i≠B k->w'.heap[i]? = w.heap[i]? := fun i L z=>I.block i L (fun e=>z (Option.some.inj e));have g:∀i,(cB T k mP i).isSome=(T i).isSome:=fun i=>by
  by_cases a:i=k
  ·subst a;rw[aj,y];rfl
  ·rw[ag _ a]
 have f:∀i D,cB T k mP i=some (.dir D)->T i=some (.dir D):=fun i D e=>by
  by_cases a:i=k
  ·subst a;rw[aj] at e;rcases c with⟨C,rfl,rfl⟩|⟨b,x,t,u,rfl,rfl,_⟩
   ·cases e;exact y
   ·cases e
  ·rw[ag _ a] at e;exact e
 have l:∀i m,i≠k->dY G V' Z' i m=dY G V Z i m:=fun i m e=>by
  cases m<;>simp[dY,M i e,F i e]
 refine⟨(d r (h.lt _ h.yE) U).trans h.head,?_,fun i m e=>?_,fun i D e=>(h.ll i D (f i D e)).keep (d _ (h.ll i D (f i D e)).lt (R i D (f i D e))),fun i b x e=>?_,fun i D e=>h.sep i D (f i D e),fun i v D J e H=>h.inj i v D J (f i D e) (f v J H),fun i v e H=>h.Np i v (by rw[<-g];exact e) (by rw[<-g];exact H),q _ h.yE,q _ h.sj,fun i e=>q _ (h.ownB i (by rw[<-g];exact e)),fun i D e=>q _ (h.nT i D (f i D e)),fun i b x j e E=>?_,A⟩
 ·have e:(fun i=>(cB T k mP i).map (fun _=>wp (B i)))=fun i=>(T i).map (fun _=>wp (B i)):=by
   funext i;by_cases a:i=k
   ·subst a;rw[aj,y];rfl
   ·rw[ag _ a]
  rw[e];exact h.map.keep (d gN h.map.lt S)
 ·by_cases a:i=k
  ·subst a;rw[aj] at e;cases e;exact o
  ·rw[ag _ a] at e;rw[l i m a];exact(d _ (h.lt _ (h.ownB i (by rw[e];rfl))) (Q i (by rw[e];rfl) a)).trans (h.node i m e)
 ·by_cases a:i=k
  ·subst a;rw[aj] at e;rcases c with⟨C,rfl,rfl⟩|⟨N,K,t,u,rfl,rfl,p,_⟩
   ·cases e
   ·cases e;exact p
  ·rw[ag _ a] at e;rw[F i a];exact(h.data i b x e).grown I P
 ·by_cases a:i=k
  ·subst a;rw[aj] at e;rcases c with⟨C,rfl,rfl⟩|⟨N,K,t,u,rfl,rfl,_,n⟩
   ·cases e
   ·exact n j E
  ·rw[ag _ a] at e;rw[F i a] at E;exact q _ (h.Fz i b x j e E)
theorem dJ.as{Z':Int->Nat}{T':Wd}(h:dJ w r gN s T Z B G V O)(c:T'=T)(b:∀k,(T k).isSome=true->Z' k=Z k):dJ w r gN s T' Z' B G V O:=by
 subst c;refine { h with node:=fun k a e=>?_ };have d:dY G V Z' k a=dY G V Z k a:=by cases a<;>simp[dY,b k (by rw[e];rfl)]
 rw[d];exact h.node k a e
theorem Ol{T:Wd}{k:Int}{nd:Nd}(h:T k=some nd):cB T k nd=T:=by
 funext i;by_cases e:i=k
 ·subst e;rw[aj,h]
 ·rw[ag _ e]
theorem dJ.count(h:dJ w r gN s T Z B G V O){k:Int}{nd:Nd}(a:T k=some nd)(z:Nat):dJ (w.setCell ⟨B k,2,none⟩ (.int .i64 (z:Int))) r gN s T (fun i=>if i=k then z else Z i) B G V O:=by
 have f:w.grownBy (w.setCell ⟨B k,2,none⟩ (.int .i64 (z:Int))) (some (B k)):=⟨rfl,rfl,rfl,by simp[World.setCell],fun i _ c=>heap_setCell _ _ _ _ (fun e=>c (by rw[e]))⟩;have g:(w.setCell ⟨B k,2,none⟩ (.int .i64 (z:Int))).heap.size=w.heap.size:=by simp
 have:=h.Jp (mP:=nd) (Z':=fun i=>if i=k then z else Z i) (V':=V) (O':=O) a f (by
  rw[aS w (B k) 2 _ _ _ _ (h.node k nd a)];cases nd<;>(simp[dY])) (fun i e=>if_neg e) (fun _ _=>rfl) (by
  cases nd with
  |dir C=>exact .inl ⟨C,rfl,rfl⟩
  |file b x=>exact .inr ⟨b,x,b,x,rfl,rfl,(h.data k b x a).grown f (h.apart a).2.2.2.2,fun i d=>h.Fz k b x i a d⟩) (fun _ h=>h) (fun i d=>by rw[g];exact h.lt i d)
 rw[Ol a] at this;exact this
theorem dJ.held(h:dJ w r gN s T Z B G V O){k:Int}{b:List UInt8}{x:Nat}(a:T k=some (.file b x))(z:Nat):dJ (w.setCell ⟨B k,3,none⟩ (.int .i64 (z:Int))) r gN s (cB T k (.file b z)) Z B G V O:=by
 have f:w.grownBy (w.setCell ⟨B k,3,none⟩ (.int .i64 (z:Int))) (some (B k)):=⟨rfl,rfl,rfl,by simp[World.setCell],fun i _ c=>heap_setCell _ _ _ _ (fun e=>c (by rw[e]))⟩;have g:(w.setCell ⟨B k,3,none⟩ (.int .i64 (z:Int))).heap.size=w.heap.size:=by simp
 exact h.Jp (mP:=.file b z) (Z':=Z) (V':=V) (O':=O) a f (by
  rw[aS w (B k) 3 _ _ _ _ (h.node k _ a)];simp[dY]) (fun _ _=>rfl) (fun _ _=>rfl) (.inr ⟨b,x,b,z,rfl,rfl,(h.data k b x a).grown f (h.apart a).2.2.2.2,fun i d=>h.Fz k b x i a d⟩) (fun _ h=>h) (fun i d=>by rw[g];exact h.lt i d)
theorem dJ.bytes(h:dJ w r gN s T Z B G V O){k:Int}{b b':List UInt8}{x:Nat}(d:T k=some (.file b x)){v:Value}(g:Dat w v b'):∃m j,dJ (w.setCell ⟨B k,1,none⟩ v) r gN s (cB T k (.file b' x)) Z B G m j/\∀i,j i↔O i\/BN v=some i:=by
 have f:w.grownBy (w.setCell ⟨B k,1,none⟩ v) (some (B k)):=⟨rfl,rfl,rfl,by simp[World.setCell],fun i _ c=>heap_setCell _ _ _ _ (fun e=>c (by rw[e]))⟩;have l:(w.setCell ⟨B k,1,none⟩ v).heap.size=w.heap.size:=by simp
 refine⟨fun i=>if i=k then v else V i,fun i=>O i\/BN v=some i,?_,fun _=>Iff.rfl⟩;refine h.Jp (mP:=.file b' x) (Z':=Z) d f (by
  rw[aS w (B k) 1 _ _ _ _ (h.node k _ d)];simp[dY]) (fun _ _=>rfl) (fun _ e=>if_neg e) (.inr ⟨b,x,b',x,rfl,rfl,?_,fun i a=>?_⟩) (fun _ h=>.inl h) (fun i a=>?_)
 ·rw[if_pos rfl];exact g.grown f (h.apart d).2.2.2.2
 ·rw[if_pos rfl] at a;exact .inr a
 ·rw[l];rcases a with a|a
  ·exact h.lt i a
  ·exact g.lt a
theorem dJ.era(h:dJ w r gN s T Z B G V O)(n:Int){t:Nat}(p:w.grownBy w' (some gN))(u:aK w' gN t (fun i=>if i=n then none else (T i).map (fun _=>wp (B i)))):dJ w' r gN t (pY T n) Z B G V O:=by
 obtain⟨C,E,l⟩:=h.map.isMap;have g:∀i,i<w.heap.size->i≠gN->w'.heap[i]? = w.heap[i]? := fun i o m=>p.block i o (fun e=>m (Option.some.inj e));have a:∀k f,pY T n k=some f->T k=some f:=fun k f e=>by
  by_cases d:k=n
  ·subst d;rw[jl] at e;cases e
  ·rw[fe d] at e;exact e
 have c:∀k,(pY T n k).isSome=true->(T k).isSome=true:=fun k e=>by
  by_cases d:k=n
  ·subst d;rw[jl] at e;cases e
  ·rw[fe d] at e;exact e
 refine⟨(g r (h.lt _ h.yE) (fun e=>by rw[<-e,h.head] at l;cases l)).trans h.head,?_,fun k f e=>(g _ (h.lt _ (h.ownB k (c k (by rw[e];rfl)))) (fun z=>by rw[<-z,h.node k f (a k f e)] at l;cases l)).trans (h.node k f (a k f e)),fun k D e=>(h.ll k D (a k _ e)).keep (g _ (h.ll k D (a k _ e)).lt (h.sep k D (a k _ e))),fun k b x e=>(h.data k b x (a k _ e)).grown p (fun y v=>by rw[qO l] at v;cases v),fun k D e=>h.sep k D (a k _ e),fun k j D A e q=>h.inj k j D A (a k _ e) (a j _ q),fun k j e q=>h.Np k j (c k e) (c j q),h.yE,h.sj,fun k e=>h.ownB k (c k e),fun k D e=>h.nT k D (a k _ e),fun k b x i e=>h.Fz k b x i (a k _ e),fun i o=>lt_of_lt_of_le (h.lt i o) p.size⟩;have e:(fun i=>if i=n then none else (T i).map (fun _=>wp (B i)))=fun k=>(pY T n k).map (fun _=>wp (B k)):=by
  funext k;by_cases d:k=n
  ·subst d;rw[jl,if_pos rfl];rfl
  ·rw[fe d,if_neg d]
 rw[e] at u;exact u
end
def dD(T:Wd)(s:Nat):Prop:=∃ks:List Int,ks.Nodup/\ks.length=s/\∀x,x∈ks↔(T x).isSome=true
theorem TA{a b:List Int}(d:a.Nodup)(c:b.Nodup)(h:∀x,x∈a↔x∈b):a.length=b.length:=((List.perm_ext_iff_of_nodup d c).2 h).length_eq
theorem dD.one{T:Wd}{s c:Nat}(h:dD T s)(i:dD T c):s=c:=by
 obtain⟨a,g,rfl,e⟩:=h;obtain⟨b,f,rfl,d⟩:=i;exact TA g f (fun x=>(e x).trans (d x).symm)
theorem aK.num{w:World}{g s:Nat}{T:Wd}{f:Int->Nd->Value}(h:aK w g s (fun k=>(T k).map (f k))):dD T s:=by
 obtain⟨D,_,_,a,c,b⟩:=h.data;exact⟨_,a,c,fun x=>by rw[b x];cases T x<;>rfl⟩
theorem dD.pos{T:Wd}{s:Nat}(h:dD T s)(a:TrOk T):1<=s:=by
 obtain⟨b,_,rfl,m⟩:=h;obtain⟨C,e⟩:=a.root;exact List.length_pos_of_mem ((m 0).2 (by rw[e];rfl))
theorem L6:∀ {a b:List Int},a.Nodup->a ⊆ b->a.length<=b.length
 | [],_,_,_=>zero_le _
 |x::t,b,hn,hs=>by
  rw[List.nodup_cons] at hn;have d:x∈b:=hs List.mem_cons_self;have h:=L6 (b:=b.erase x) hn.2 (fun y c=>(List.mem_erase_of_ne (fun e=>hn.1 (by rw[<-e];exact c))).2 (hs (List.mem_cons_of_mem _ c)));have g:=List.length_erase_of_mem d;have f:=List.length_pos_of_mem d;rw[length_cons];omega
theorem dD.free{T:Wd}{s:Nat}(h:dD T s){k:Nat}(j:∀i:Nat,i<k->(T i).isSome=true):k<=s:=by
 obtain⟨f,n,rfl,m⟩:=h;have c:((range k).map (fun i:Nat=>(i:Int))) ⊆ f:=fun x g=>by
  obtain⟨i,l,rfl⟩:=mem_map.1 g;exact(m _).2 (j i (List.mem_range.1 l))
 have d:((range k).map (fun i:Nat=>(i:Int))).Nodup:=List.pairwise_map.2 (List.nodup_range.imp (fun {a b} h e=>h (by omega)));have:=L6 d c;simpa using this
def PT(w:World)(r:Nat)(T:Wd)(O:Nat->Prop):Prop:=∃gN s B G V,dJ w r gN s T (aM T) B G V O
section
variable {w w':World}{r gN s:Nat}{T:Wd}{Z:Int→Nat}{B G:Int→Nat}{V:Int→Value}{O:Nat→Prop}
theorem PT.below(h:PT w r T O)(a:Below w.heap.size w w'):PT w' r T O:=by
 obtain⟨b,s,B,G,V,h⟩:=h;exact⟨b,s,B,G,V,h.below a⟩
theorem PT.keep(h:PT w r T O)(b:∀i,O i->w'.heap[i]? = w.heap[i]?)(a:w.heap.size<=w'.heap.size):PT w' r T O:=by
 obtain⟨c,s,B,G,V,h⟩:=h;exact⟨c,s,B,G,V,h.keep b a⟩
theorem PT.lt(h:PT w r T O)(i:Nat)(a:O i):i<w.heap.size:=by
 obtain⟨b,s,B,G,V,h⟩:=h;exact h.lt i a
theorem dJ.num(h:dJ w r gN s T Z B G V O):dD T s:=h.map.num (f:=fun k _=>wp (B k))
theorem PT.oC(h:PT w r T O){s:Nat}(b:dD T s):Calls prog 142 #[wp r] w fun e a=>e=.returned (.int .i64 (s:Int))/\a=w:=by
 obtain⟨d,c,B,G,V,h⟩:=h;rw[b.one h.num];exact h.oC
theorem PT.num(h:PT w r T O):∃s,dD T s:=by
 obtain⟨a,s,B,G,V,h⟩:=h;exact⟨s,h.num⟩
theorem RP(b:Nat)(w:World):(binOp BinOp.eql 100 (wp b) (.pointer none)).run prog w=.ok (.bool false) w:=by kernel_rfl
theorem Wy(w:World):(binOp BinOp.eql 100 (.pointer none) (.pointer none)).run prog w=.ok (.bool true) w:=by kernel_rfl
theorem dJ.kI(h:dJ w r gN s T Z B G V O)(n:Int)(i:(Lit.int .i64 n).wf=true)(f:bF T n≠0):Calls prog 234 #[wp r,.int .i64 n] w fun e c=>e=.returned (.tuple #[.pointer none,eF (bF T n)])/\c=w:=by
 have l:=h.c0;have a:=h.look n i;cases hn:T n with
 |none=>
  have e:bF T n=7:=by unfold bF;rw[hn]
  rw[e];rw[hn] at a;simp only[isSome_none,Bool.false_eq_true,if_false] at a;have j:=Wy;go_enter func234,ntmps234
  go_wp2_with fail
  go_ret2;exact⟨rfl,rfl⟩
 |some nd=>
  cases nd with
  |dir C=>
   have e:bF T n=6:=by unfold bF;rw[hn]
   rw[e];rw[hn] at a;simp only[isSome_some,if_true] at a;have j:=RP (B n);obtain⟨d,_⟩:=h.yK hn;have k:=rH d;go_enter func234,ntmps234
   go_wp2_with (go_at_call 237;refine k.mono ?_;rintro e c ⟨rfl,g⟩;subst c)
   go_ret2;exact⟨rfl,rfl⟩
  |file b x=>exact absurd (by unfold bF;rw[hn]) f
theorem dJ.nD(h:dJ w r gN s T Z B G V O)(n:Int)(i:(Lit.int .i64 n).wf=true){b:List UInt8}{x:Nat}(d:T n=some (.file b x)):Calls prog 234 #[wp r,.int .i64 n] w fun e c=>e=.returned (.tuple #[wp (B n),.nilIface])/\c=w:=by
 have l:=h.c0;have a:=h.look n i;rw[d] at a;simp only[isSome_some,if_true] at a;have k:=RP (B n);obtain⟨f,_⟩:=h.ql d;have j:=u6 f;go_enter func234,ntmps234
 go_wp2_with (go_at_call 237;refine j.mono ?_;rintro e c ⟨rfl,g⟩;subst c)
 go_ret2;exact⟨rfl,rfl⟩
theorem Dat.len{v:Value}{b:List UInt8}(h:Dat w v b):∃a c,v=.slice a b.length c:=by
 rcases h with⟨rfl,rfl⟩|⟨g,c,rfl,_⟩
 ·exact⟨none,0,rfl⟩
 ·exact⟨_,c,rfl⟩
end
inductive Tag
 |head
 |mp
 |gz (d:Int)
 |U9 (p:Int)
 |tree
structure QG where
 r:Nat
 gO:Nat
 K:Int->Option Int
 B:Int->Nat
 Q:Int->Nat
 dA:Nat->Option Tag
def pv(g:QG)(e:En):Value:=if e.kind=1 then .pointer none else wp (g.Q e.pipe)
abbrev kN(g:QG)(e:En)(c:Int):Array Value:=#[.int .i64 e.kind,.int .i64 e.af,.int .i64 c,.int .i64 e.node,.int .i64 e.pos,pv g e]
structure QF (w:World) (f:Nat) (D:DS) (g:QG) (n:Nat):Prop where
 head:w.heap[f]? = some (.cells #[wp g.r,.map (some g.gO)] 107)
 tree:∃O,PT w g.r D.T O/\∀i,O i->g.dA i=some .tree
 map:aK w g.gO n (fun k=>(g.K k).map (fun d=>wp (g.B d)))
 gz:∀d e,D.E d=some e->∃c,D.R d=some c/\w.heap[g.B d]? = some (.cells (kN g e c) 296)/\g.dA (g.B d)=some (.gz d)
 key:∀k d,g.K k=some d->(D.E d).isSome=true/\0<k/\k<100000
 has:∀d,(D.E d).isSome=true->∃k,g.K k=some d
 inj:∀k k' d,g.K k=some d->g.K k'=some d->k=k'
 pipe:∀p x,D.P p=some x->Tb w (g.Q p) x.2.1 x.2.2 x.1/\g.dA (g.Q p)=some (.U9 p)
 tf:g.dA f=some .head
 tm:g.dA g.gO=some .mp
 lt:∀i,(g.dA i).isSome=true->i<w.heap.size
structure dK (w:World) (b:Nat) (g:QG) (M N:Ns):Prop where
 tab:QT w b M
 off:g.dA b=none
 len:N.length=8
 rel:∀i (h:i<M.length) (h':i<N.length),N[i].2=M[i].2/\((M[i].1=0/\N[i].1=0)\/(0<N[i].1/\g.K M[i].1=some N[i].1))
structure Ext (w:World) (D':DS) (g g':QG):Prop where
 dA:∀i,i<w.heap.size->g'.dA i=g.dA i
 key:∀k d,g.K k=some d->(D'.E d).isSome=true->g'.K k=some d
 r:g'.r=g.r
structure dE (w w':World) (f:Nat) (D':DS) (g:QG) (b:Nat) (N':Ns):Prop where
 ex:∃g' n' M',QF w' f D' g' n'/\dK w' b g' M' N'/\Ext w D' g g'
 wt:Wt (fun i=>(g.dA i).isSome=true\/i=b) w w'
theorem oZ{κ:Nat->Option Tag}{i j:Nat}{s t:Tag}(a:κ i=some s)(b:κ j=some t)(h:s≠t):i≠j:=fun e=>h (by rw[e] at a;exact Option.some.inj (a.symm.trans b))
section
variable {w w' w2:World}{f b n:Nat}{D D':DS}{g g':QG}{M N N':Ns}{d k:Int}{e:En}
theorem Ext.refl(w:World)(D:DS)(g:QG):Ext w D g g:=⟨fun _ _=>rfl,fun _ _ h _=>h,rfl⟩
theorem QF.k0(h:QF w f D g n):g.K 0=none:=by
 cases e:g.K 0 with
 |none=>rfl
 |some d=>have:=(h.key 0 d e).2.1;omega
theorem QF.keep(h:QF w f D g n)(r:∀i,(g.dA i).isSome=true->w'.heap[i]? = w.heap[i]?)(l:w.heap.size<=w'.heap.size):QF w' f D g n:=by
 have a:∀ {i t},g.dA i=some t->w'.heap[i]? = w.heap[i]? := fun {i t} e=>r i (by rw[e];rfl);obtain⟨O,p,m⟩:=h.tree;refine⟨(a h.tf).trans h.head,⟨O,p.keep (fun i j=>a (m i j)) l,m⟩,h.map.keep (a h.tm),fun d e s=>?_,h.key,h.has,h.inj,fun p x q=>?_,h.tf,h.tm,fun i j=>lt_of_lt_of_le (h.lt i j) l⟩
 ·obtain⟨c,k,b,o⟩:=h.gz d e s;exact⟨c,k,(a o).trans b,o⟩
 ·obtain⟨k,b⟩:=h.pipe p x q;exact⟨k.keep (a b),b⟩
theorem QF.below(h:QF w f D g n)(a:Below w.heap.size w w'):QF w' f D g n:=h.keep (fun i b=>a.block i (h.lt i b)) a.size
theorem dK.keep(h:dK w b g M N)(a:w'.heap[b]? = w.heap[b]?):dK w' b g M N:=⟨h.tab.keep a,h.off,h.len,h.rel⟩
theorem dK.below(h:dK w b g M N)(a:Below w.heap.size w w'):dK w' b g M N:=h.keep (a.block b h.tab.lt)
theorem dK.other(h:dK w b g M N)(d:Ext w D' g g')(j:w'.heap[b]? = w.heap[b]?)(k:∀i (n:i<N.length),0<N[i].1->(D'.E N[i].1).isSome=true):dK w' b g' M N:=by
 refine⟨h.tab.keep j,(d.dA b h.tab.lt).trans h.off,h.len,fun i l e=>?_⟩;obtain⟨a,c⟩:=h.rel i l e;refine⟨a,?_⟩;rcases c with c|⟨f,m⟩
 ·exact .inl c
 ·exact .inr ⟨f,d.key _ _ m (k i e f)⟩
theorem QF.cells(h:QF w f D g n):w.cell? ⟨f,0,none⟩=some (wp g.r)/\w.cell? ⟨f,1,none⟩=some (.map (some g.gO)):=
 ⟨by rw[cell_of_row _ _ _ _ _ _ h.head];rfl,by rw[cell_of_row _ _ _ _ _ _ h.head];rfl⟩
theorem QF.lU(h:QF w f D g n)(i:D.E d=some e){c:Int}(j:D.R d=some c):w.cell? ⟨g.B d,0,none⟩=some (.int .i64 e.kind)/\w.cell? ⟨g.B d,1,none⟩=some (.int .i64 e.af)/\w.cell? ⟨g.B d,2,none⟩=some (.int .i64 c)/\w.cell? ⟨g.B d,3,none⟩=some (.int .i64 e.node)/\w.cell? ⟨g.B d,4,none⟩=some (.int .i64 e.pos)/\w.cell? ⟨g.B d,5,none⟩=some (pv g e)/\∀o,w.frozen? ⟨g.B d,o,none⟩=false:=by
 obtain⟨k,b,a,_⟩:=h.gz d e i;rw[j] at b;obtain rfl:=Option.some.inj b;refine⟨?_,?_,?_,?_,?_,?_,fun o=>by simp[frozen?,a]⟩<;>(rw[cell_of_row _ _ _ _ _ _ a];rfl)
theorem Sj(w:World):(zeroValue 272).run prog w=.ok (.pointer none) w:=by kernel_rfl
def gv(g:QG)(k:Int):Value:=match g.K k with
 |some d=>wp (g.B d)
 |none=>.pointer none
theorem uO(h:g.K k=some d):gv g k=wp (g.B d):=by unfold gv;rw[h]
theorem Et(h:g.K k=none):gv g k=.pointer none:=by unfold gv;rw[h]
theorem QF.look(h:QF w f D g n){k:Int}(a:0<=k)(b:k<100000):(Instr.lookup 105 (.map (some g.gO)) (.int .i64 k) false).run prog w=.ok (gv g k) w:=by
 rw[h.map.look Tryz.underlying105 (Sj _) k (gT a (by omega))];unfold gv;cases g.K k<;>rfl
theorem QF.cell(h:QF w f D g n)(B:D.E d=some e)(o:En)(y:Int)(I:w'.heap[g.B d]? = some (.cells (kN g o y) 296))(v:w.grownBy w' (some (g.B d))):QF w' f { D with E:=fun i=>if i=d then some o else D.E i,R:=fun i=>if i=d then some y else D.R i } g n:=by
 obtain⟨c,N,M,F⟩:=h.gz d e B;have m:∀ {i t},g.dA i=some t->t≠.gz d->w'.heap[i]? = w.heap[i]? := fun {i t} G J=>v.block i (h.lt i (by rw[G];rfl)) (fun x=>oZ G F J (Option.some.inj x));obtain⟨O,p,C⟩:=h.tree;have A:∀x,(if x=d then some o else D.E x).isSome=(D.E x).isSome:=fun x=>by
  by_cases j:x=d
  ·rw[if_pos j,j,B];rfl
  ·rw[if_neg j]
 refine⟨(m h.tf (by simp)).trans h.head,⟨O,p.keep (fun i u=>m (C i u) (by simp)) v.size,C⟩,h.map.keep (m h.tm (by simp)),fun x j l=>?_,fun k x l=>?_,fun x l=>h.has x (by rw[<-A x];exact l),h.inj,fun p x K=>?_,h.tf,h.tm,fun i u=>lt_of_lt_of_le (h.lt i u) v.size⟩
 ·have b:(if x=d then some o else D.E x)=some j:=l;by_cases r:x=d
  ·subst r;rw[if_pos rfl] at b;obtain rfl:=Option.some.inj b;exact⟨y,if_pos rfl,I,F⟩
  ·rw[if_neg r] at b;obtain⟨L,z,s,H⟩:=h.gz x j b;exact⟨L,(if_neg r).trans z,(m H (fun q=>r (by injection q))).trans s,H⟩
 ·obtain⟨a,c⟩:=h.key k x l;exact⟨by show (if x=d then some o else D.E x).isSome=true;rw[A];exact a,c⟩
 ·obtain⟨z,s⟩:=h.pipe p x K;exact⟨z.keep (m s (by simp)),s⟩
theorem QF.afa(h:QF w f D g n)(c:D.E d=some e)(b:Int)(j:w'.heap[g.B d]? = some (.cells (kN g e b) 296))(k:w.grownBy w' (some (g.B d))):QF w' f { D with R:=fun i=>if i=d then some b else D.R i } g n:=by
 have:=h.cell c e b j k;have l:(fun i=>if i=d then some e else D.E i)=D.E:=by
  funext i;by_cases a:i=d
  ·rw[if_pos a,a,c]
  ·rw[if_neg a]
 rw[l] at this;exact this
theorem QF.QS(h:QF w f D g n)(l:D.E d=some e){c:Int}(m:D.R d=some c)(b:En)(j:w'.heap[g.B d]? = some (.cells (kN g b c) 296))(k:w.grownBy w' (some (g.B d))):QF w' f { D with E:=fun i=>if i=d then some b else D.E i } g n:=by
 have:=h.cell l b c j k;have o:(fun i=>if i=d then some c else D.R i)=D.R:=by
  funext i;by_cases a:i=d
  ·rw[if_pos a,a,m]
  ·rw[if_neg a]
 rw[o] at this;exact this
theorem QT.put(h:QT w b M){i:Nat}(e:i<8)(x:Int×Bool)(d:0<=x.1/\x.1<100000/\(x.1=0->x.2=false)):QT ((w.setCell ⟨b,i*2,none⟩ (.int .i64 x.1)).setCell ⟨b,i*2+1,none⟩ (.bool x.2)) b (M.set i x):=by
 refine⟨?_,by rw[length_set];exact h.len,fun y c=>?_⟩
 ·have a:=aS w b (i*2) (.int .i64 x.1) _ _ _ h.blk;have f:=aS _ b (i*2+1) (.bool x.2) _ _ _ a;rw[f,<-Jt M i x (by rw[h.len];exact e),Nat.mul_comm];simp
 ·rcases List.mem_or_eq_of_mem_set c with a|a
  ·exact h.pos y a
  ·rw[a];exact d
theorem QT.mark(h:QT w b M){i:Nat}(d:i<8)(c:Bool)(k:(M[i]'(by rw[h.len];exact d)).1≠0):QT (w.setCell ⟨b,i*2+1,none⟩ (.bool c)) b (M.set i ((M[i]'(by rw[h.len];exact d)).1,c)):=by
 have a:i<M.length:=by rw[h.len];exact d
 refine⟨?_,by rw[length_set];exact h.len,fun y g=>?_⟩
 ·have l:=aS w b (i*2+1) (.bool c) _ _ _ h.blk;rw[l,<-Jt M i (M[i].1,c) a,Nat.mul_comm];have e:(nv M).set (2*i) (.int .i64 M[i].1)=nv M:=by
   obtain⟨m,_⟩:=Re M i a;obtain⟨n,j⟩:=List.getElem?_eq_some_iff.1 m;rw[<-j,List.set_getElem_self]
  simp[e]
 ·rcases List.mem_or_eq_of_mem_set g with f|f
  ·exact h.pos y f
  ·rw[f];exact⟨(h.nn a).1,(h.nn a).2.1,fun e=>absurd e k⟩
theorem dK.set(h:dK w b g M N){i:Nat}(x y:Int×Bool)(f:QT w' b (M.set i x))(a:y.2=x.2/\((x.1=0/\y.1=0)\/(0<y.1/\g.K x.1=some y.1))):dK w' b g (M.set i x) (N.set i y):=by
 refine⟨f,h.off,by rw[length_set];exact h.len,fun j d c=>?_⟩;rw[length_set] at d c;by_cases e:i=j
 ·subst e;simp only[List.getElem_set_self];exact a
 ·rw[List.getElem_set_ne e,List.getElem_set_ne e];exact h.rel j d c
end
section
variable {w w' w2:World}{f b n:Nat}{D D':DS}{g g':QG}{M N N':Ns}{d k:Int}{e:En}
theorem QF.gone(h:QF w f D g n)(C:g.K k=some d){v:Nat}(J:aK w' g.gO v (fun i=>if i=k then none else (g.K i).map (fun d=>wp (g.B d))))(z:w.grownBy w' (some g.gO)):QF w' f { D with E:=fun i=>if i=d then none else D.E i,R:=fun i=>if i=d then none else D.R i } { g with K:=fun i=>if i=k then none else g.K i } v:=by
 have r:∀ {i t},g.dA i=some t->t≠.mp->w'.heap[i]? = w.heap[i]? := fun {i t} H L=>z.block i (h.lt i (by rw[H];rfl)) (fun x=>oZ H h.tm L (Option.some.inj x));obtain⟨O,p,F⟩:=h.tree;have y:aK w' g.gO v (fun i=>(if i=k then none else g.K i).map (fun d=>wp (g.B d))):=by
  have s:(fun i=>(if i=k then none else g.K i).map (fun d=>wp (g.B d)))=fun i=>if i=k then none else (g.K i).map (fun d=>wp (g.B d)):=by
   funext i;split<;>rfl
  rw[s];exact J
 refine⟨(r h.tf (by simp)).trans h.head,⟨O,p.keep (fun i o=>r (F i o) (by simp)) z.size,F⟩,y,fun x G q=>?_,fun i x q=>?_,fun x q=>?_,fun i j x o N=>?_,fun p x M=>?_,h.tf,h.tm,fun i o=>lt_of_lt_of_le (h.lt i o) z.size⟩
 ·have b:(if x=d then none else D.E x)=some G:=q;by_cases e:x=d
  ·rw[if_pos e] at b;cases b
  ·rw[if_neg e] at b;obtain⟨P,B,u,I⟩:=h.gz x G b;exact⟨P,(if_neg e).trans B,(r I (by simp)).trans u,I⟩
 ·have b:(if i=k then none else g.K i)=some x:=q;by_cases e:i=k
  ·rw[if_pos e] at b;cases b
  ·rw[if_neg e] at b;obtain⟨a,c⟩:=h.key i x b;refine⟨?_,c⟩;show (if x=d then none else D.E x).isSome=true;rw[if_neg (fun A=>e (h.inj i k d (by rw[<-A];exact b) C))];exact a
 ·have b:(if x=d then none else D.E x).isSome=true:=q;by_cases e:x=d
  ·rw[if_pos e] at b;cases b
  ·rw[if_neg e] at b;obtain⟨i,o⟩:=h.has x b;refine⟨i,?_⟩;show (if i=k then none else g.K i)=some x;rw[if_neg (fun A=>e (by rw[A,C] at o;exact(Option.some.inj o).symm))];exact o
 ·have m:(if i=k then none else g.K i)=some x:=o;have l:(if j=k then none else g.K j)=some x:=N;by_cases e:i=k
  ·rw[if_pos e] at m;cases m
  ·by_cases s:j=k
   ·rw[if_pos s] at l;cases l
   ·rw[if_neg e] at m;rw[if_neg s] at l;exact h.inj i j x m l
 ·obtain⟨B,u⟩:=h.pipe p x M;exact⟨B.keep (r u (by simp)),u⟩
theorem QF.turn(h:QF w f D g n){O O':Nat->Prop}{T':Wd}(l:∀i,O i->g.dA i=some .tree)(p:PT w' g.r T' O')(st:Stp w w' O O'):∃g',QF w' f { D with T:=T' } g' n/\(∀i,i<w.heap.size->g'.dA i=g.dA i)/\g'.K=g.K/\g'.r=g.r/\g'.B=g.B:=by
 classical
 have e:∀ {i t},g.dA i=some t->t≠.tree->w'.heap[i]? = w.heap[i]? := fun {i t} d u=>st.wt.block i (h.lt i (by rw[d];rfl)) (fun o=>oZ d (l i o) u rfl);have a:∀ {i t},g.dA i=some t->(if i<w.heap.size then g.dA i else if O' i then some Tag.tree else none)=some t:=fun {i t} d=>by
  rw[if_pos (h.lt i (by rw[d];rfl))];exact d
 refine⟨{ g with dA:=fun i=>if i<w.heap.size then g.dA i else if O' i then some .tree else none },⟨(e h.tf (by simp)).trans h.head,⟨O',p,fun i c=>?_⟩,h.map.keep (e h.tm (by simp)),fun x y s=>?_,h.key,h.has,h.inj,fun p x v=>?_,a h.tf,a h.tm,fun i c=>?_⟩,fun i c=>if_pos c,rfl,rfl,rfl⟩
 ·show (if i<w.heap.size then g.dA i else if O' i then some Tag.tree else none)=some Tag.tree;rcases st.own i c with o|o
  ·exact a (l i o)
  ·rw[if_neg (by omega),if_pos c]
 ·obtain⟨z,k,j,r⟩:=h.gz x y s;exact⟨z,k,(e r (by simp)).trans j,a r⟩
 ·obtain⟨k,j⟩:=h.pipe p x v;exact⟨k.keep (e j (by simp)),a j⟩
 ·have b:(if i<w.heap.size then g.dA i else if O' i then some Tag.tree else none).isSome=true:=c;by_cases q:i<w.heap.size
  ·exact lt_of_lt_of_le q st.wt.size
  ·rw[if_neg q] at b;by_cases m:O' i
   ·exact p.lt i m
   ·rw[if_neg m] at b;cases b
theorem QF.piped(h:QF w f D g n){p:Int}{x:Pi}(A:D.P p=some x){x':Pi}(d:Tb w' (g.Q p) x'.2.1 x'.2.2 x'.1)(j:w.grownBy w' (some (g.Q p))):QF w' f { D with P:=fun i=>if i=p then some x' else D.P i } g n:=by
 obtain⟨E,o⟩:=h.pipe p x A;have b:∀ {i t},g.dA i=some t->t≠.U9 p->w'.heap[i]? = w.heap[i]? := fun {i t} r d=>j.block i (h.lt i (by rw[r];rfl)) (fun x=>oZ r o d (Option.some.inj x));obtain⟨O,q,m⟩:=h.tree;refine⟨(b h.tf (by simp)).trans h.head,⟨O,q.keep (fun i e=>b (m i e) (by simp)) j.size,m⟩,h.map.keep (b h.tm (by simp)),fun y B u=>?_,h.key,h.has,h.inj,fun q y v=>?_,h.tf,h.tm,fun i e=>lt_of_lt_of_le (h.lt i e) j.size⟩
 ·obtain⟨C,l,c,s⟩:=h.gz y B u;exact⟨C,l,(b s (by simp)).trans c,s⟩
 ·have a:(if q=p then some x' else D.P q)=some y:=v;by_cases k:q=p
  ·subst k;rw[if_pos rfl] at a;obtain rfl:=Option.some.inj a;exact⟨d,o⟩
  ·rw[if_neg k] at a;obtain⟨l,c⟩:=h.pipe q y a;exact⟨l.keep (b c (fun z=>k (by injection z))),c⟩
theorem QF.Xe(h:QF w f D g n){q:Nat}{p:Int}(J:w.heap.size<=q)(B:q<w'.heap.size)(C:Below w.heap.size w w')(K:D.P p=none)(F:∀d e,D.E d=some e->e.pipe≠p\/e.kind=1){x:Pi}(A:Tb w' q x.2.1 x.2.2 x.1)(z:Int):∃g',QF w' f { D with P:=fun i=>if i=p then some x else D.P i,nx:=z } g' n/\(∀i,i<w.heap.size->g'.dA i=g.dA i)/\g'.K=g.K/\g'.r=g.r/\g'.Q p=q:=by
 have k:=h.below C;have b:∀ {i t},g.dA i=some t->(if i=q then some (Tag.U9 p) else g.dA i)=some t:=fun {i t} u=>by
  have:=h.lt i (by rw[u];rfl);rw[if_neg (by omega)];exact u
 obtain⟨O,v,E⟩:=k.tree;refine⟨{ g with Q:=fun i=>if i=p then q else g.Q i,dA:=fun i=>if i=q then some (.U9 p) else g.dA i },⟨k.head,⟨O,v,fun i j=>b (E i j)⟩,k.map,fun y l s=>?_,h.key,h.has,h.inj,fun i y j=>?_,b h.tf,b h.tm,fun i j=>?_⟩,fun i j=>if_neg (by omega),rfl,rfl,if_pos rfl⟩
 ·obtain⟨H,r,o,I⟩:=k.gz y l s;refine⟨H,r,?_,b I⟩;have m:pv { g with Q:=fun i=>if i=p then q else g.Q i,dA:=fun i=>if i=q then some (.U9 p) else g.dA i } l=pv g l:=by
   unfold pv;rcases F y l s with c|c
   ·simp only[if_neg c]
   ·rw[if_pos c,if_pos c]
  show w'.heap[g.B y]? = _;rw[o,kN,kN,m]
 ·have a:(if i=p then some x else D.P i)=some y:=j;by_cases c:i=p
  ·subst c;rw[if_pos rfl] at a;obtain rfl:=Option.some.inj a;have G:(if i=i then q else g.Q i)=q:=if_pos rfl;show Tb w' (if i=i then q else g.Q i) x.2.1 x.2.2 x.1/\(if (if i=i then q else g.Q i)=q then some (Tag.U9 i) else g.dA (if i=i then q else g.Q i))=some (Tag.U9 i);rw[G,if_pos rfl];exact⟨A,rfl⟩
  ·rw[if_neg c] at a;obtain⟨r,o⟩:=k.pipe i y a;show Tb w' (if i=p then q else g.Q i) y.2.1 y.2.2 y.1/\(if (if i=p then q else g.Q i)=q then some (Tag.U9 p) else g.dA (if i=p then q else g.Q i))=some (Tag.U9 i);rw[if_neg c];exact⟨r,b o⟩
 ·have a:(if i=q then some (Tag.U9 p) else g.dA i).isSome=true:=j;by_cases c:i=q
  ·omega
  ·rw[if_neg c] at a;exact k.lt i a
def Jc(D:DS)(e:En):DS:={ D with E:=fun i=>if i=D.nx+1 then some e else D.E i,R:=fun i=>if i=D.nx+1 then some 0 else D.R i,nx:=D.nx+1 }
theorem QF.aaE(h:QF w f D g n){q:Nat}(hq:w.heap.size<=q)(Y:Below w.heap.size w w')(Z:D.E (D.nx+1)=none)(W:g.K k=none)(J:0<k)(I:k<100000)(M:w'.heap[q]? = some (.cells (kN g e 0) 296))(R:aK w2 g.gO (n+1) (fun i=>if i=k then some (wp q) else (g.K i).map (fun d=>wp (g.B d))))(z:w'.grownBy w2 (some g.gO)):∃g',QF w2 f (Jc D e) g' (n+1)/\(∀i,i<w.heap.size->g'.dA i=g.dA i)/\(g'.K=fun i=>if i=k then some (D.nx+1) else g.K i)/\g'.r=g.r/\g'.B (D.nx+1)=q/\g'.gO=g.gO/\g'.Q=g.Q:=by
 have v:=h.below Y;have G:q<w'.heap.size:=(Array.getElem?_eq_some_iff.1 M).1;have o:∀ {i t},g.dA i=some t->(if i=q then some (Tag.gz (D.nx+1)) else g.dA i)=some t:=fun {i t} r=>by
  have:=h.lt i (by rw[r];rfl);rw[if_neg (by omega)];exact r
 have A:∀ {i t},g.dA i=some t->t≠.mp->w2.heap[i]? = w'.heap[i]? := fun {i t} r U=>z.block i (v.lt i (by rw[r];rfl)) (fun x=>oZ r h.tm U (Option.some.inj x));have F:q≠g.gO:=fun e=>by have:=h.lt g.gO (by rw[h.tm];rfl);omega
 obtain⟨O,S,N⟩:=v.tree;have s:∀i x,g.K i=some x->x≠D.nx+1:=fun i x T e=>by
  have:=(h.key i x T).1;rw[e,Z] at this;cases this
 have H:aK w2 g.gO (n+1) (fun i=>(if i=k then some (D.nx+1) else g.K i).map (fun d=>wp (if d=D.nx+1 then q else g.B d))):=by
  have u:(fun i=>(if i=k then some (D.nx+1) else g.K i).map (fun d=>wp (if d=D.nx+1 then q else g.B d)))=fun i=>if i=k then some (wp q) else (g.K i).map (fun d=>wp (g.B d)):=by
   funext i;by_cases r:i=k
   ·rw[if_pos r,if_pos r];simp
   ·rw[if_neg r,if_neg r];cases hK:g.K i with
    |none=>rfl
    |some x=>simp[s i x hK]
  rw[u];exact R
 refine⟨{ g with K:=fun i=>if i=k then some (D.nx+1) else g.K i,B:=fun d=>if d=D.nx+1 then q else g.B d,dA:=fun i=>if i=q then some (.gz (D.nx+1)) else g.dA i },⟨(A h.tf (by simp)).trans v.head,⟨O,S.keep (fun i l=>A (N i l) (by simp)) z.size,fun i l=>o (N i l)⟩,H,fun y P E=>?_,fun i y l=>?_,fun y E=>?_,fun i j y l X=>?_,fun p x V=>?_,o h.tf,o h.tm,fun i l=>?_⟩,fun i l=>if_neg (by omega),rfl,rfl,if_pos rfl,rfl,rfl⟩
 ·have c:(if y=D.nx+1 then some e else D.E y)=some P:=E;by_cases b:y=D.nx+1
  ·rw[if_pos b] at c;obtain rfl:=Option.some.inj c;refine⟨0,if_pos b,?_,?_⟩
   ·show w2.heap[if y=D.nx+1 then q else g.B y]? = _;rw[if_pos b,z.block q G (fun x=>F (Option.some.inj x)),M];rfl
   ·show (if (if y=D.nx+1 then q else g.B y)=q then some (Tag.gz (D.nx+1)) else g.dA (if y=D.nx+1 then q else g.B y))=some (Tag.gz y);rw[if_pos b,if_pos rfl,b]
  ·rw[if_neg b] at c;obtain⟨c1,L,C,Q⟩:=v.gz y P c;refine⟨c1,(if_neg b).trans L,?_,?_⟩
   ·show w2.heap[if y=D.nx+1 then q else g.B y]? = _;rw[if_neg b,A Q (by simp),C];rfl
   ·show (if (if y=D.nx+1 then q else g.B y)=q then some (Tag.gz (D.nx+1)) else g.dA (if y=D.nx+1 then q else g.B y))=some (Tag.gz y);rw[if_neg b];exact o Q
 ·have a:(if i=k then some (D.nx+1) else g.K i)=some y:=l;show (if y=D.nx+1 then some e else D.E y).isSome=true/\0<i/\i<100000;by_cases b:i=k
  ·rw[if_pos b] at a;obtain rfl:=Option.some.inj a;rw[if_pos rfl,b];exact⟨rfl,J,I⟩
  ·rw[if_neg b] at a;rw[if_neg (s i y a)];exact h.key i y a
 ·have c:(if y=D.nx+1 then some e else D.E y).isSome=true:=E;by_cases b:y=D.nx+1
  ·exact⟨k,by show (if k=k then some (D.nx+1) else g.K k)=some y;rw[if_pos rfl,b]⟩
  ·rw[if_neg b] at c;obtain⟨i,l⟩:=h.has y c;refine⟨i,?_⟩;show (if i=k then some (D.nx+1) else g.K i)=some y;rw[if_neg (fun e9=>by rw[e9,W] at l;cases l)];exact l
 ·have a:(if i=k then some (D.nx+1) else g.K i)=some y:=l;have m:(if j=k then some (D.nx+1) else g.K j)=some y:=X;by_cases b:i=k
  ·by_cases u:j=k
   ·rw[b,u]
   ·rw[if_pos b] at a;rw[if_neg u] at m;exact absurd (Option.some.inj a).symm (s j y m)
  ·by_cases u:j=k
   ·rw[if_neg b] at a;rw[if_pos u] at m;exact absurd (Option.some.inj m).symm (s i y a)
   ·rw[if_neg b] at a;rw[if_neg u] at m;exact h.inj i j y a m
 ·obtain⟨L,C⟩:=v.pipe p x V;exact⟨L.keep (A C (by simp)),o C⟩
 ·have a:(if i=q then some (Tag.gz (D.nx+1)) else g.dA i).isSome=true:=l;by_cases b:i=q
  ·have:=z.size;omega
  ·rw[if_neg b] at a;exact lt_of_lt_of_le (v.lt i a) z.size
end
theorem Hf:∀ {M N:Ns},M.length=N.length->(∀i (h:i<M.length) (j:i<N.length),(0<M[i].1↔0<N[i].1)/\(M[i].1=0↔N[i].1=0))->ak M=ak N/\ai M=ai N
 | [],[],_,_=>⟨rfl,rfl⟩
 | [],_::_,h,_=>by simp at h
 |_::_,[],h,_=>by simp at h
 |x::M,y::N,h,k=>by
  obtain⟨d,g⟩:=Hf (M:=M) (N:=N) (by simpa using h) (fun i f c=>k (i+1) (by simpa using f) (by simpa using c));obtain⟨b,a⟩:=k 0 (by simp) (by simp);simp only[List.getElem_cons_zero] at b a;constructor
  ·unfold ak at d ⊢;by_cases e:0<x.1
   ·rw[List.filter_cons_of_pos (by simpa using e),List.filter_cons_of_pos (by simpa using b.1 e),length_cons,length_cons,d]
   ·rw[List.filter_cons_of_neg (by simpa using e),List.filter_cons_of_neg (by simpa using fun z=>e (b.2 z)),d]
  ·rw[ai,ai,g];by_cases e:x.1=0
   ·rw[if_pos e,if_pos (a.1 e)]
   ·rw[if_neg e,if_neg (fun z=>e (a.2 z))]
section
variable {w w' w2:World}{f b n:Nat}{D D':DS}{g g':QG}{M N N':Ns}{d k:Int}{e:En}
theorem dK.pos(t:dK w b g M N)(h:QF w f D g n)(i:Nat)(e:i<M.length)(d:i<N.length):(0<M[i].1↔0<N[i].1)/\(M[i].1=0↔N[i].1=0):=by
 rcases (t.rel i e d).2 with⟨a,c⟩|⟨a,c⟩
 ·rw[a,c];simp
 ·have:=(h.key _ _ c).2.1;omega
theorem dK.aff(t:dK w b g M N)(i:Nat)(a:i<N.length):0<=N[i].1:=by
 rcases (t.rel i (by rw[t.tab.len];have:=t.len;omega) a).2 with⟨_,c⟩|⟨c,_⟩
 ·omega
 ·omega
theorem dK.eqs(t:dK w b g M N)(h:QF w f D g n):ak M=ak N/\ai M=ai N:=Hf (t.tab.len.trans t.len.symm) (t.pos h)
theorem dK.Zb(t:dK w b g M N)(h:QF w f D g n)(x:Int):aJ M x=aJ N x:=by
 by_cases k:0<=x/\x<=7
 ·obtain⟨i,rfl⟩:∃i:Nat,x=i:=⟨x.toNat,by omega⟩;have d:i<M.length:=by have:=t.tab.len;omega
  have c:i<N.length:=by have:=t.len;omega
  have a:=(t.pos h i d c).1;unfold aJ;rw[getD_in d,getD_in c];by_cases e:0<M[i].1
  ·simp[e,a.1 e]
  ·simp[e,show ¬0<N[i].1 from fun z=>e (a.2 z)]
 ·unfold aJ;have j:(decide (0<=x)&&decide (x<=7))=false:=by
   simp only[Bool.and_eq_false_iff,decide_eq_false_iff_not];omega
  rw[j];rfl
theorem dK.keyOf(t:dK w b g M N){i:Nat}(e:i<M.length)(d:i<N.length)(f:0<N[i].1):g.K M[i].1=some N[i].1:=by
 rcases (t.rel i e d).2 with⟨a,c⟩|⟨a,c⟩
 ·omega
 ·exact c
theorem dK.xZ(t:dK w b g M N)(h:QF w f D g n):Calls prog 145 #[wp b] w fun e w'=>e=.returned (.int .i64 (ak N:Int))/\Below w.heap.size w w':=by
 rw[<- (t.eqs h).1];exact t.tab.xZ
theorem dK.JA(t:dK w b g M N)(h:QF w f D g n)(x:Int):Calls prog 153 #[wp f,wp b,.int .i64 x] w fun e a=>e=.returned (.bool (aJ N x))/\Below w.heap.size w a:=by
 rw[<-t.Zb h x];exact t.tab.JA f x
theorem sN(b:Nat)(w:World):(binOp BinOp.eql 56 (wp b) (.pointer none)).run prog w=.ok (.bool false) w:=by kernel_rfl
theorem DU(b:Nat)(w:World):(binOp BinOp.eql 272 (wp b) (.pointer none)).run prog w=.ok (.bool false) w:=by kernel_rfl
theorem Ez(w:World):(binOp BinOp.eql 272 (.pointer none) (.pointer none)).run prog w=.ok (.bool true) w:=by kernel_rfl
theorem OV(X:Int)(Y:Bool)(w:World):(Instr.field 113 (.agg #[.int .i64 X,.bool Y]) 0).run prog w=.ok (.int .i64 X) w:=by kernel_rfl
theorem zC(X:Int)(Y:Bool)(w:World):(Instr.field 113 (.agg #[.int .i64 X,.bool Y]) 1).run prog w=.ok (.bool Y) w:=by kernel_rfl
theorem QF.GU(h:QF w f D g n)(t:QT w b M)(x:Int)(v:Value)(m:gv g (IY M x).1=v)(d:0<=(IY M x).1/\(IY M x).1<100000)(z:Bool)(l:(∃q,v=wp q/\z=false)\/(v=.pointer none/\z=true)):Calls prog 219 #[wp f,wp b,.int .i64 x] w fun e a=>e=.returned (.tuple (if z=true then #[.pointer none,eF 7] else #[v,.nilIface]))/\Below w.heap.size w a:=by
 have k:∀V,Below w.heap.size w V->Calls prog 215 #[wp b,.int .i64 x] V fun e a=>e=.returned (nuv (IY M x))/\Below w.heap.size w a/\a.cell? ⟨f,1,none⟩=some (.map (some g.gO))/\(Instr.lookup 105 (.map (some g.gO)) (.int .i64 (IY M x).1) false).run prog a=.ok v a:=fun V i=>by
  refine((t.below i).xw x).mono ?_;rintro e E ⟨rfl,B⟩;have c:=i.trans (B.mono i.size);refine⟨rfl,c,(h.below c).cells.2,?_⟩;rw[(h.below c).look d.1 d.2,m]
 have A:=h.cells.2;have F:=sN f;generalize IY M x=y at *;obtain⟨X,Y⟩:=y;simp only[nuv] at k;have p:=OV X Y;have j:Aside ((∃q,v=wp q/\z=false)\/(v=.pointer none/\z=true)):=l;have r:=DU;have s:=Ez;go_enter Tryz.func219,Tryz.ntmps219
 go_upto_region 3 with fail
 go_region_held3 (fun a=>a.cell? ⟨f,1,none⟩=some (.map (some g.gO))) (first|exact A|exact u) (first
  |(go_at_call 215;refine(k _ ⟨by rfl,by rfl,by rfl,by exact le_refl _,fun _ _=>by rfl⟩).mono ?_;rintro e C ⟨rfl,c,u,o⟩))
 all_goals
  rcases j.out with⟨q,rfl,rfl⟩|⟨rfl,rfl⟩
  ·clear j;go_wp2_with fail
   go_ret2;exact⟨rfl,c⟩
  ·clear j;go_wp2_with fail
   go_ret2;exact⟨rfl,c⟩
theorem QF.ay(h:QF w f D g n)(t:dK w b g M N){i:Nat}(k:i<8)(m:i<N.length)(l:0<N[i].1):Calls prog 219 #[wp f,wp b,.int .i64 (i:Int)] w fun e d=>e=.returned (.tuple #[wp (g.B N[i].1),.nilIface])/\Below w.heap.size w d:=by
 have c:i<M.length:=by have:=t.tab.len;omega
 have j:=t.keyOf c m l;have a:=zf t.tab.len k;exact h.GU t.tab i _ (by rw[a,uO j]) (by rw[a];exact⟨(t.tab.nn c).1,(t.tab.nn c).2.1⟩) false (.inl ⟨_,rfl,rfl⟩)
theorem QF.j4(h:QF w f D g n)(t:dK w b g M N)(x:Int)(a:aJ N x=false):Calls prog 219 #[wp f,wp b,.int .i64 x] w fun e i=>e=.returned (.tuple #[.pointer none,eF 7])/\Below w.heap.size w i:=by
 have d:=acA t.tab.len (fun x a=>(t.tab.pos x a).1) x;rw[t.Zb h x,a] at d;have c:(IY M x).1=0:=by
  by_cases e:(IY M x).1=0
  ·exact e
  ·simp[e] at d
 exact h.GU t.tab x _ (by rw[c,Et h.k0]) (by rw[c];omega) true (.inr ⟨rfl,rfl⟩)
end
section
variable {w w' w2:World}{f b n:Nat}{D D':DS}{g g':QG}{M N N':Ns}{d k:Int}{e:En}
theorem CP(w:World)(X:Int)(Y:Bool):Calls prog 293 #[.agg #[.int .i64 X,.bool Y]] w fun e b=>e=.returned (.bool (X==0))/\Below w.heap.size w b:=by
 have a:Below w.heap.size w (w.alloc (.cells #[.int .i64 X,.bool Y] 113)):=(Below.refl _ w).alloc (le_refl _) _;obtain⟨g,f⟩:=zD w (.int .i64 X) (.bool Y) 113;go_enter Tryz.func293,Tryz.ntmps293
 go_wp2_with (go_at_call 216;refine(lJ _ X Y).mono ?_;rintro e d ⟨rfl,c⟩)
 go_ret;exact⟨rfl,a.trans (c.mono a.size)⟩
theorem QT.zI(h:QT w b M):Calls prog 292 #[.slice (some ⟨b,0,none⟩) 8 8,.func (.func 293) #[] #[]] w fun e z=>e=.returned (.int .i64 (ai M))/\Below w.heap.size w z:=by
 have t:Aside (M.length=8):=h.len;go_enter Tryz.func292,Tryz.ntmps292
 go_wp2_with fail
 go_loopg [5,8] 8 (fun g _ s8 v=>∃i:Nat,Aside (i+g=8)/\s8=.int .i64 (i:Int)/\Aside (∀j (a:j<M.length),j<i->M[j].1≠0)/\Below w.heap.size w v)
 case atStart=>exact⟨0,rfl,rfl,(fun j _ a=>by omega),Below.refl _ _⟩
 case round=>
  obtain⟨i,u,rfl,o,d⟩:=hrel;have D:i<=8:=by have:=u.out;omega
  have q:(i:Int)<=8:=by omega
  by_cases B:(i:Int)<8
  ·have s:i<M.length:=by have:=t.out;omega
   obtain⟨G,F⟩:=(h.below d).at (i:=i) (by omega);have n:Aside (M[i].1=0->ai M=i):=fun e=>GJ s (fun j a=>o.out j (by omega) a) e;have m:Aside (M[i].1≠0->∀j (a:j<M.length),j<i+1->M[j].1≠0):=fun e j a C=>by
    by_cases E:j=i
    ·subst E;exact e
    ·exact o.out j a (by omega)
   generalize M[i].1=X at *;generalize M[i].2=Y at *;have c:=d.size;clear h s;by_cases f:X=0
   ·have p:Aside (ai M=i):=n.out f;subst f;go_wp2_with (go_at_call 293;refine(CP _ 0 Y).mono ?_;rintro e y ⟨rfl,l⟩)
    go_ret;exact⟨by rw[p.out];rfl,d.trans (l.mono c)⟩
   ·have k:(X==0)=false:=by simpa using f
    clear f;go_wp2_with (go_at_call 293;refine(CP _ X Y).mono ?_;rintro e y ⟨rfl,l⟩)
    go_roundg (7-i)
    case measure=>have:=u.out;omega
    case rel=>exact⟨i+1,(show i+1+(7-i)=8 by omega),by rfl,m.out (by simpa using k),d.trans (l.mono c)⟩
  ·have r:ai M=-1:=Ay (fun x A=>by
    obtain⟨j,a,rfl⟩:=List.getElem_of_mem A;exact o.out j a (by have:=t.out;omega))
   have p:Aside (ai M=-1):=r;clear r;go_wp2_with fail
   go_ret;exact⟨by rw[p.out];rfl,d⟩
theorem QT.mf(h:QT w b M):Calls prog 223 #[wp b] w fun e a=>e=.returned (.tuple #[.int .i64 (ai M),.bool (decide (0<=ai M))])/\Below w.heap.size w a:=by
 have c:=h.zI;generalize ai M=L at *;clear h;go_enter Tryz.func223,Tryz.ntmps223
 go_wp2_with (go_at_call 292;refine c.mono ?_;rintro e f ⟨rfl,d⟩)
 go_ret2;exact⟨rfl,d⟩
theorem dK.mf(t:dK w b g M N)(h:QF w f D g n):Calls prog 223 #[wp b] w fun e a=>e=.returned (.tuple #[.int .i64 (ai N),.bool (decide (0<=ai N))])/\Below w.heap.size w a:=by
 rw[<- (t.eqs h).2];exact t.tab.mf
theorem QF.rf(h:QF w f D g n):Calls prog 141 #[wp f] w fun e a=>e=.returned (.int .i64 (n:Int))/\a=w:=by
 have d:=h.cells.2;have c:=sN f;have b:=h.map;go_enter Tryz.func141,Tryz.ntmps141
 go_wp2_with (refine ik rfl _ 105 rfl 272 Tryz.underlying105 g.gO _ _ rfl b ?_)
 go_ret;exact⟨rfl,rfl⟩
theorem aaL(g:Nat)(w:World):(binOp BinOp.eql 105 (.map (some g)) (.map none)).run prog w=.ok (.bool false) w:=by kernel_rfl
theorem QF.Md(h:QF w f D g n)(t:dK w b g M N)(x:Nat)(hx:x<=2)(hn:n<10000):Calls prog 248 #[wp f,wp b,.int .i64 (x:Int)] w fun e w'=>e=.returned (.bool (decide (ak N+x<=8)&&decide (n+x<=40)))/\Below w.heap.size w w':=by
 have hU:=t.xZ h;have YC:=yc N;rw[t.len] at YC;have c1:=h.cells.2;have h8:=RF b;have h9:=sN f;have h7:=aaL g.gO;have hO:∀V,Below w.heap.size w V->Calls prog 141 #[wp f] V fun e w'=>e=.returned (.int .i64 (n:Int))/\w'=V:=fun V hV=>(h.below hV).rf;generalize ak N=U at *;have hU8:(U:Int)<=8:=by omega
 have hx8:(x:Int)<=2:=by omega
 have hn8:(n:Int)<10000:=by omega
 by_cases hu:U+x<=8
 ·have e1:decide (U+x<=8)=true:=by simpa using hu
  have e2:(U:Int)+(x:Int)<=8:=by omega
  have E3:Aside (decide ((n:Int)+(x:Int)<=40)=decide (n+x<=40)):=by
   show decide ((n:Int)+(x:Int)<=40)=decide (n+x<=40);by_cases hh:n+x<=40
   ·rw[decide_eq_true hh,decide_eq_true (by omega)]
   ·rw[decide_eq_false hh,decide_eq_false (by omega)]
  rw[e1,Bool.true_and];rw[<-E3.out];clear h t YC hu e1 E3;go_enter Tryz.func248,Tryz.ntmps248
  go_wp2_with (first
   |(go_at_call 145;refine hU.mono ?_;rintro e w1 ⟨rfl,b1⟩)
   |(go_at_call 141;refine(hO _ b1).mono ?_;rintro e w2 ⟨rfl,hw2⟩;subst w2))
  go_ret;exact⟨rfl,b1⟩
 ·have e1:decide (U+x<=8)=false:=by simpa using hu
  have e2:¬((U:Int)+(x:Int)<=8):=by omega
  rw[e1,Bool.false_and];clear h t YC hu e1;go_enter Tryz.func248,Tryz.ntmps248
  go_wp2_with (go_at_call 145;refine hU.mono ?_;rintro e w1 ⟨rfl,b1⟩)
  go_ret;exact⟨rfl,b1⟩
theorem GK(w:World)(x:Int):Calls prog 247 #[.int .i64 x] w fun e a=>e=.returned (.bool (decide (1<=x)&&decide (x<=3)))/\a=w:=by
 go_enter Tryz.func247,Tryz.ntmps247
 by_cases b:1<=x
 ·go_wp2_with fail
  go_ret;exact⟨by simp[b],rfl⟩
 ·go_wp2_with fail
  go_ret;exact⟨by simp;omega,rfl⟩
theorem QF.oQ(h:QF w f D g n)(a:D.E d=some e):Calls prog 254 #[wp (g.B d)] w fun x b=>x=.returned (.bool (e.kind==1))/\b=w:=by
 obtain⟨c,i,_⟩:=h.gz d e a;obtain⟨j,_⟩:=h.lU a i;go_enter func254,ntmps254
 go_wp2_with fail
 go_ret;exact⟨rfl,rfl⟩
end
section
variable {w w':World}{r gN s:Nat}{T:Wd}{Z:Int→Nat}{B G:Int→Nat}{V:Int→Value}{O:Nat→Prop}
theorem Stp.grown{i:Nat}(b:w.grownBy w' (some i))(a:O i):Stp w w' O O:=⟨.grown b a,fun _ h=>.inl h⟩
theorem Stp.cell{b o:Nat}(v:Value)(c:O b):Stp w (w.setCell ⟨b,o,none⟩ v) O O:=
 .grown (i:=b) ⟨rfl,rfl,rfl,by simp[World.setCell],fun i _ a=>heap_setCell _ _ _ _ (fun e=>a (by rw[e]))⟩ c
theorem dJ.Lu(h:dJ w r gN s T Z B G V O){k:Int}{nd:Nd}(e:T k=some nd):w.cell? ⟨B k,2,none⟩=some (.int .i64 (Z k:Int))/\w.cell? ⟨B k,3,none⟩=some (.int .i64 (dW nd:Int)):=by
 cases nd with
 |dir C=>obtain⟨_,_,h2,h3⟩:=h.yK e;exact⟨h2,h3⟩
 |file b x=>obtain⟨_,_,h2,h3⟩:=h.ql e;exact⟨h2,h3⟩
theorem dJ.H7(h:dJ w r gN s T Z B G V O)(n:Int)(hw:(Lit.int .i64 n).wf=true){nd:Nd}(hn:T n=some nd)(hz:¬(Z n=0/\dW nd=0)):Calls prog 268 #[wp r,.int .i64 n] w fun e w'=>(∃v,e=.returned v)/\w'=w:=by
 have c0:=h.c0;have hlk:=h.look n hw;rw[hn] at hlk;simp only[isSome_some,if_true] at hlk;obtain⟨s2,s3⟩:=h.Lu hn;by_cases e1:Z n=0
 ·have e2:dW nd≠0:=fun e=>hz ⟨e1,e⟩;have e3:((dW nd:Int)==0)=false:=by simp;omega
  rw[e1] at s2;generalize dW nd=H at *;go_enter func268,ntmps268
  go_wp2_with fail
  go_end0
  exact⟨⟨_,rfl⟩,rfl⟩
 ·have e3:((Z n:Int)==0)=false:=by simp;omega
  generalize dW nd=H at *;generalize Z n=z at *;go_enter func268,ntmps268
  go_wp2_with fail
  go_end0
  exact⟨⟨_,rfl⟩,rfl⟩
theorem dJ.Oj(h:dJ w r gN s T Z B G V O)(n:Int)(hw:(Lit.int .i64 n).wf=true){nd:Nd}(hn:T n=some nd)(hz:Z n=0)(hh:dW nd=0):Calls prog 268 #[wp r,.int .i64 n] w fun e w'=>(∃v,e=.returned v)/\dJ w' r gN (s-1) (pY T n) Z B G V O/\Stp w w' O O:=by
 have c0:=h.c0;have hlk:=h.look n hw;rw[hn] at hlk;simp only[isSome_some,if_true] at hlk;obtain⟨s2,s3⟩:=h.Lu hn;rw[hz] at s2;rw[hh] at s3;have hmap:=h.map;have hM:((T n).map (fun _=>wp (B n))).isSome=true:=by rw[hn];rfl
 go_enter func268,ntmps268
 go_wp2_with (refine nE rfl _ _ 102 rfl 100 underlying102 gN _ _ rfl hmap n rfl hw ?_;intro w1 pm g1;rw[if_pos hM] at pm)
 go_end0
 exact⟨⟨_,rfl⟩,h.era n g1 pm,.grown g1 h.sj⟩
theorem bu.Ja(d:bu T){n:Int}{b b':List UInt8}{x x':Nat}(c:T n=some (.file b x))(j:b'.length<=256)(i:x'<=1000)(a:x'≠0\/aM T n≠0):bu (cB T n (.file b' x')):=
 { toTrOk:=d.toTrOk.Ja c j i
   nr:=by rw[kJ c];exact d.nr
   lv:=fun k h e=>by
    rw[kJ c];by_cases g:k=n
    ·subst g;rw[aj] at e;cases e
     rcases a with f|f
     ·exact .inr (.inr f)
     ·exact .inr (.inl f)
    ·rw[ag _ g] at e;exact d.lv k h e }
theorem PT.XH(h:PT w r T O)(t:bu T)(n:Int)(q:(Lit.int .i64 n).wf=true)(m:∀b x,T n=some (.file b x)->x+1<=1000):Calls prog 250 #[wp r,.int .i64 n] w fun e d=>e=.returned (aI (dV T n 1))/\PT d r (dh T n 1) O/\Stp w d O O:=by
 obtain⟨v,s,B,G,V,h⟩:=h;by_cases f:bF T n=0
 ·obtain⟨b,x,a⟩:=mJ f;have hF:=h.nD n q a;have y:=m b x a;have D:=(t.small n b x a).1;obtain⟨_,_,_,F⟩:=h.ql a;have E:=h.ru a 3;have p:dV T n 1=0:=by unfold dV;rw[a];simp only;rw[if_neg (by omega)]
  have i:=t.Ja (b':=b) (x':=x+1) a D y (.inl (by omega));have o:dh T n 1=cB T n (.file b (x+1)):=by
   unfold dh;rw[a];simp only;rw[if_neg (by omega),show ((x:Int)+1).toNat=x+1 by omega];exact zY i.toTrOk i.lv
  have u:=h.held a (x+1);have c:(((x+1:Nat):Int))=(x:Int)+1:=by omega
  rw[c] at u;have g:PT (w.setCell ⟨B n,3,none⟩ (.int .i64 ((x:Int)+1))) r (dh T n 1) O:=by
   rw[o];exact⟨v,s,B,G,V,u.as rfl (fun k _=>kJ a k)⟩
  have l:Stp w (w.setCell ⟨B n,3,none⟩ (.int .i64 ((x:Int)+1))) O O:=.cell _ (h.ownB n (by rw[a];rfl));have A:wrap64 ((x:Int)+1)=(x:Int)+1:=by unfold wrap64;omega
  rw[p,aB];go_enter Tryz.func250,Tryz.ntmps250
  go_wp2_with (go_at_call 234;refine hF.mono ?_;rintro e d ⟨rfl,j⟩;subst d)
  go_ret;exact⟨rfl,g,l⟩
 ·have hF:=h.kI n q f;have p:dV T n 1=bF T n:=by
   unfold dV;cases a:T n with
   |none=>rfl
   |some nd=>cases nd with
    |dir C=>rfl
    |file b x=>exact absurd (by unfold bF;rw[a]) f
  have o:dh T n 1=T:=by
   unfold dh;cases a:T n with
   |none=>rfl
   |some nd=>cases nd with
    |dir C=>rfl
    |file b x=>exact absurd (by unfold bF;rw[a]) f
  rw[p,o,ax f];generalize bF T n=z at *;go_enter Tryz.func250,Tryz.ntmps250
  go_wp2_with (go_at_call 234;refine hF.mono ?_;rintro e d ⟨rfl,j⟩;subst d)
  go_ret;exact⟨rfl,⟨v,s,B,G,V,h⟩,.refl _ _⟩
theorem TrOk.era(c:TrOk T){n:Int}(g:n≠0)(o:aM T n=0):TrOk (pY T n):=by
 have a:∀k d,pY T n k=some d->T k=some d:=fun k d e=>by
  by_cases j:k=n
  ·subst j;rw[jl] at e;cases e
  ·rw[fe j] at e;exact e
 have l:¬Led T n:=fun h=>by
  rcases (ny c n).1 h with e|e
  ·exact g e
  ·exact e o
 refine⟨?_,fun k e=>c.key k ?_,fun k C e=>c.nodup k C (a k _ e),fun k C f m e i=>?_,fun k C x e=>c.name k C x (a k _ e),fun k b x e=>c.small k b x (a k _ e)⟩
 ·obtain⟨C,e⟩:=c.root;exact⟨C,by rw[fe (Ne.symm g)];exact e⟩
 ·cases h:pY T n k with
  |none=>rw[h] at e;cases e
  |some d=>rw[a k d h];rfl
 ·have:=c.child k C f m (a k _ e) i;rw[fe (fun p=>l (.inr ⟨k,C,f,a k _ e,by rw[<-p];exact i⟩))];exact this
theorem bu.era(h:TrOk T)(a:aM T 0=0){n:Int}{nd:Nd}(f:∀k nd,k≠n->T k=some nd->k=0\/aM T k≠0\/dW nd≠0)(j:T n=some nd)(i:n≠0)(g:aM T n=0)(c:∀k,cnt1 (T n) k=0):bu (pY T n):=
 { toTrOk:=h.era i g
   nr:=by rw[EE c];exact a
   lv:=fun k d e=>by
    rw[EE c];by_cases b:k=n
    ·subst b;rw[jl] at e;cases e
    ·rw[fe b] at e;exact f k d b e }
end
section
variable {w w':World}{r gN s:Nat}{T:Wd}{Z:Int→Nat}{B G:Int→Nat}{V:Int→Value}{O:Nat→Prop}
theorem dJ.Ac(h:dJ w r gN s T Z B G V O)(n:Int)(hw:(Lit.int .i64 n).wf=true){nd:Nd}(hn:T n=some nd)(h1:∀k,cnt1 (T n) k=0)(hZ:∀k,(T k).isSome=true->Z k=aM T k):Calls prog 268 #[wp r,.int .i64 n] w fun e w'=>(∃v,e=.returned v)/\PT w' r (if aM T n=0/\dW nd=0 then pY T n else T) O/\Stp w w' O O:=by
 have hzn:=hZ n (by rw[hn];rfl);by_cases hz:aM T n=0/\dW nd=0
 ·rw[if_pos hz];refine(h.Oj n hw hn (hzn.trans hz.1) hz.2).mono ?_;rintro e w' ⟨hv,h',hs⟩;refine⟨hv,⟨gN,_,B,G,V,h'.as rfl (fun k hk=>?_)⟩,hs⟩;have hk':(T k).isSome=true:=by
   by_cases e1:k=n
   ·subst e1;rw[jl] at hk;cases hk
   ·rw[fe e1] at hk;exact hk
  rw[EE h1,hZ k hk']
 ·rw[if_neg hz];refine(h.H7 n hw hn (by rw[hzn];exact hz)).mono ?_;rintro e w' ⟨hv,rfl⟩;exact⟨hv,⟨gN,s,B,G,V,h.as rfl (fun k hk=>(hZ k hk).symm)⟩,.refl _ _⟩
theorem Ex(c:TrOk T){n:Int}{b:List UInt8}{x:Nat}(a:T n=some (.file b x)):n≠0:=by
 rintro rfl;obtain⟨C,e⟩:=c.root;rw[e] at a;cases a
theorem CZ(c:bu T){n:Int}{b:List UInt8}{x:Nat}(a:T n=some (.file b (x+1))):dV T n (-1)=0/\dh T n (-1)=(if aM (cB T n (.file b x)) n=0/\dW (.file b x)=0 then pY (cB T n (.file b x)) n else cB T n (.file b x))/\bu (dh T n (-1)):=by
 have f:=c.small n b (x+1) a;have g:TrOk (cB T n (.file b x)):=c.toTrOk.Ja a f.1 (by omega);have l:∀k i,k≠n->cB T n (.file b x) k=some i->k=0\/aM (cB T n (.file b x)) k≠0\/dW i≠0:=fun k i e h=>by
  rw[kJ a];rw[ag _ e] at h;exact c.lv k i h
 have o:=Ex c.toTrOk a;have m:dh T n (-1)=iP (cB T n (.file b x)):=by
  unfold dh;rw[a];simp only;rw[if_neg (by omega),show (((x+1:Nat):Int) + -1).toNat=x by omega]
 have d:=Ch g n l _ (aj T n (.file b x)) o;refine⟨by unfold dV;rw[a];simp only;rw[if_neg (by omega)],by rw[m,d],?_⟩;rw[m,d];by_cases j:aM (cB T n (.file b x)) n=0/\dW (.file b x)=0
 ·rw[if_pos j];exact bu.era g (by rw[kJ a];exact c.nr) l (aj _ _ _) o j.1 (fun k=>by rw[aj];rfl)
 ·rw[if_neg j];refine c.Ja a f.1 (by omega) ?_;by_cases e:aM T n=0
  ·exact .inl (fun p=>j ⟨by rw[kJ a];exact e,p⟩)
  ·exact .inr e
theorem PT.EC(h:PT w r T O)(q:bu T)(n:Int)(m:(Lit.int .i64 n).wf=true):Calls prog 328 #[wp r,.int .i64 n] w fun e c=>e=.returned (aI (dV T n (-1)))/\PT c r (dh T n (-1)) O/\Stp w c O O:=by
 obtain⟨u,s,B,G,V,h⟩:=h;by_cases d:bF T n=0
 ·obtain⟨b,x,a⟩:=mJ d;have hF:=h.nD n m a;obtain⟨_,_,_,I⟩:=h.ql a;have H:=h.ru a 3;cases x with
  |zero=>
   have j:dV T n (-1)=10:=by unfold dV;rw[a];simp only;rw[if_pos (by omega)]
   have i:dh T n (-1)=T:=by unfold dh;rw[a];simp only;rw[if_pos (by omega)]
   rw[j,i];have g:PT w r T O:=⟨u,s,B,G,V,h⟩;go_enter func328,ntmps328
   go_wp2_with (go_at_call 234;refine hF.mono ?_;rintro e c ⟨rfl,f⟩;subst c)
   go_ret;exact⟨rfl,g,.refl _ _⟩
  |succ x=>
   obtain⟨j,i,_⟩:=CZ q a;have J:=(q.small n b (x+1) a).2;have E:=h.held a x;have o:Stp w (w.setCell ⟨B n,3,none⟩ (.int .i64 (x:Int))) O O:=.cell _ (h.ownB n (by rw[a];rfl));have t:=E.Ac n m (aj _ _ _) (fun k=>by rw[aj];rfl) (fun k _=>(kJ a k).symm);rw[<-i] at t;rw[j,aB];have y:wrap64 (((x+1:Nat):Int)-1)=(x:Int):=by unfold wrap64;omega
   have A:(((x+1:Nat):Int)==0)=false:=by simp;omega
   have p:((x+1:Nat):Int)-1=(x:Int):=by omega
   generalize ((x+1:Nat):Int)=X at *;go_enter func328,ntmps328
   go_wp2_with (first
    |(go_at_call 234;refine hF.mono ?_;rintro e c ⟨rfl,f⟩;subst c)
    |(go_at_call 268;refine t.mono ?_;rintro e F ⟨⟨v,rfl⟩,D,l⟩))
   go_ret;exact⟨rfl,D,o.trans l⟩
 ·have hF:=h.kI n m d;have j:dV T n (-1)=bF T n:=by
   unfold dV;cases a:T n with
   |none=>rfl
   |some nd=>cases nd with
    |dir C=>rfl
    |file b x=>exact absurd (by unfold bF;rw[a]) d
  have i:dh T n (-1)=T:=by
   unfold dh;cases a:T n with
   |none=>rfl
   |some nd=>cases nd with
    |dir C=>rfl
    |file b x=>exact absurd (by unfold bF;rw[a]) d
  rw[j,i,ax d];generalize bF T n=z at *;go_enter func328,ntmps328
  go_wp2_with (go_at_call 234;refine hF.mono ?_;rintro e c ⟨rfl,f⟩;subst c)
  go_ret;exact⟨rfl,⟨u,s,B,G,V,h⟩,.refl _ _⟩
theorem xB (hT:bu T) {d n:Int}{nm:Nm}{C:List (Nm×Int)}(hd:T d=some (.dir C)) (hl:C.lookup nm=some n) (hm:pR T n=0) :
 n≠d∧n≠0∧(∀k,cnt1 (aZ T d nm n) k=0)∧aZ T d nm n=T n∧∀nd,T n=some nd→(iP (aZ T d nm)=(if aM (aZ T d nm) n=0∧dW nd=0 then pY (aZ T d nm) n else aZ T d nm)∧bu (iP (aZ T d nm))):=by
 have hnd:n≠d:=by
  rintro rfl
  unfold pR at hm;rw [hd] at hm
  have:=List.length_pos_of_mem (pF hl)
  simp only at hm;omega
 have hc:=EF hT.toTrOk hd hl
 have hn0:n≠0:=by
  rintro rfl
  have:=hc 0
  rw [if_pos rfl,hT.nr] at this;omega
 have hdn:aZ T d nm n=T n:=by rw [jD hd,ag _ hnd]
 have hsome:=hT.child d C nm n hd hl
 have h1:∀k,cnt1 (aZ T d nm n) k=0:=fun k=>by
  rw [hdn]
  cases e:T n with
  |none=>rfl
  |some nd=>cases nd with
   |file b x=>rfl
   |dir D=>
    unfold pR at hm;rw [e] at hm
    have:D=[]:=List.length_eq_zero_iff.1 hm
    subst this;rfl
 refine ⟨hnd,hn0,h1,hdn,fun nd hn=>?_⟩
 have hok:TrOk (aZ T d nm):=hT.toTrOk.del d nm
 have hlv:∀k nd,k≠n→aZ T d nm k=some nd→k=0∨aM (aZ T d nm) k≠0∨dW nd≠0:=fun k mP e h=>by
  have hck:=hc k
  rw [if_neg e] at hck
  rw [show aM (aZ T d nm) k=aM T k by omega]
  by_cases e1:k=d
  ·subst e1
   rw [jD hd,aj] at h;cases h
   rcases hT.lv k _ hd with e2|e2|e2
   ·exact .inl e2
   ·exact .inr (.inl e2)
   ·exact absurd rfl e2
  ·rw [jD hd,ag _ e1] at h;exact hT.lv k mP h
 have hnr:aM (aZ T d nm) 0=0:=by have:=hc 0;rw [hT.nr] at this;omega
 have hsw:=Ch hok n hlv nd (by rw [hdn];exact hn) hn0
 refine ⟨hsw,?_⟩
 rw [hsw]
 by_cases hz:aM (aZ T d nm) n=0∧dW nd=0
 ·rw [if_pos hz]
  exact bu.era hok hnr hlv (by rw [hdn];exact hn) hn0 hz.1 h1
 ·rw [if_neg hz]
  exact { toTrOk:=hok,nr:=hnr,lv:=fun k mP e=>by
           by_cases e1:k=n
           ·subst e1
            rw [hdn,hn] at e;cases e
            by_cases e2:aM (aZ T d nm) k=0
            ·exact .inr (.inr (fun e3=>hz ⟨e2,e3⟩))
            ·exact .inr (.inl e2)
           ·exact hlv k mP e1 e }
theorem bu.unlink(c:bu T)(p:List UInt8):bu (fC T p):=by
 unfold fC;by_cases a:dR T p=0
 ·rw[if_neg (fun e=>e a)];unfold dR at a;by_cases b:(ae T p).2.2=0
  ·rw[if_neg (fun e=>e b)] at a;obtain⟨⟨C,d⟩,_⟩:=eZ c.toTrOk b;rw[eU d] at a;cases hl:C.lookup (ae T p).2.1 with
   |none=>rw[hl] at a;simp at a
   |some n=>
    rw[hl] at a;simp only at a;by_cases g:pR T n=0
    ·obtain⟨_,_,_,_,h⟩:=xB c d hl g;have f:=c.child _ C _ n d hl;cases hn:T n with
     |none=>rw[hn] at f;cases f
     |some nd=>exact(h nd hn).2
    ·rw[if_pos g] at a;omega
  ·rw[if_pos b] at a;exact absurd a b
 ·rw[if_pos a];exact c
end
section
variable {w w' w2:World}{f b n:Nat}{D D':DS}{g g':QG}{M N N':Ns}{d k:Int}{e:En}
theorem GZ{W:World}{i:Nat}{a b c d e x:Value}{t:TypeId}(h:W.heap[i]? = some (.cells #[a,b,c,d,e,x] t))(v:Value):(W.setCell ⟨i,2,none⟩ v).heap[i]? = some (.cells #[a,b,v,d,e,x] t):=by
 rw[aS W i 2 v _ _ _ h];rfl
theorem UH{W:World}{i:Nat}{a b c d e x:Value}{t:TypeId}(h:W.heap[i]? = some (.cells #[a,b,c,d,e,x] t))(v:Value):(W.setCell ⟨i,4,none⟩ v).heap[i]? = some (.cells #[a,b,c,d,v,x] t):=by
 rw[aS W i 4 v _ _ _ h];rfl
theorem QF.count(h:QF w f D g n)(b:D.E d=some e)(a:Int):QF (w.setCell ⟨g.B d,2,none⟩ (.int .i64 a)) f { D with R:=fun i=>if i=d then some a else D.R i } g n:=by
 obtain⟨c,l,j,k⟩:=h.gz d e b;exact h.afa b a (GZ j _) (aV _ _ _ _)
theorem QF.place(h:QF w f D g n)(b:D.E d=some e)(a:Int):QF (w.setCell ⟨g.B d,4,none⟩ (.int .i64 a)) f { D with E:=fun i=>if i=d then some { e with pos:=a } else D.E i } g n:=by
 obtain⟨c,k,j,l⟩:=h.gz d e b;exact h.QS b k { e with pos:=a } (UH j _) (aV _ _ _ _)
theorem QF.DR(h:QF w f D g n)(d:g.dA b=none)(c:w.grownBy w' (some b)):QF w' f D g n:=
 h.keep (fun i a=>c.block i (h.lt i a) (fun x=>by rw[Option.some.inj x,d] at a;cases a)) c.size
theorem dK.sJ(t:dK w b g M N){x:Nat}(a:(g.dA x).isSome=true)(c:w.grownBy w' (some x)):dK w' b g M N:=
 t.keep (c.block b t.tab.lt (fun e=>by rw[<-Option.some.inj e,t.off] at a;cases a))
theorem QT.Cq(w:World)(b i:Nat)(u v:Value):w.grownBy ((w.setCell ⟨b,i*2,none⟩ u).setCell ⟨b,i*2+1,none⟩ v) (some b):=iI (aV _ _ _ _) (aV _ _ _ _)
theorem QF.Eu(h:QF w f D g n)(t:dK w b g M N){i:Nat}(p:i<8)(u:g.K k=some d)(G:0<d)(v:D.E d=some e){c:Int}(J:D.R d=some c)(I:0<=c)(H:c<100000):Calls prog 224 #[wp f,wp b,.int .i64 (i:Int),.int .i64 k] w fun x r=>x=.returned (.tuple #[])/\QF r f { D with R:=fun j=>if j=d then some (c+1) else D.R j } g n/\dK r b g (M.set i (k,false)) (N.set i (d,false))/\Wt (fun i=>(g.dA i).isSome=true\/i=b) w r:=by
 obtain⟨_,E,m⟩:=h.key k d u;obtain⟨U,T⟩:=t.tab.at p;have S:=t.tab.free (i*2);have Q:=t.tab.free (i*2+1);have a:=t.set (i:=i) (k,false) (d,false) (t.tab.put p (k,false) ⟨by omega,m,fun e=>by omega⟩) ⟨rfl,.inr ⟨G,u⟩⟩;have z:=QT.Cq w b i (.int .i64 k) (.bool false);have o:=h.DR t.off z;obtain⟨W,K⟩:∃W,(w.setCell ⟨b,i*2,none⟩ (.int .i64 k)).setCell ⟨b,i*2+1,none⟩ (.bool false)=W:=⟨_,rfl⟩;simp only at a;rw[K] at a z o;have Z:=o.cells.2;have s:=o.look (k:=k) (by omega) m;rw[uO u] at s;obtain⟨_,_,V,_,_,_,P⟩:=o.lU v J;have O:=P 2;have L:=o.count v (c+1);obtain⟨_,_,_,l⟩:=h.gz d e v;have A:=aV W (g.B d) 2 (.int .i64 (c+1));have y:=a.sJ (by rw[l];rfl) A;have B:Wt (fun i=>(g.dA i).isSome=true\/i=b) w (W.setCell ⟨g.B d,2,none⟩ (.int .i64 (c+1))):=(Wt.grown z (.inr rfl)).trans (Wt.grown A (.inl (by rw[l];rfl)));have C:wrap64 (c+1)=c+1:=by unfold wrap64;omega
 have F:(i:Int)<8:=by omega
 generalize N.set i (d,false)=N2 at *;generalize M.set i (k,false)=M2 at *;generalize (M[i]'(by rw[t.tab.len];exact p)).1=X at *;generalize (M[i]'(by rw[t.tab.len];exact p)).2=Y at *;generalize ({ D with R:=fun j=>if j=d then some (c+1) else D.R j }:DS)=D2 at *;generalize g.B d=q at *;go_enter Tryz.func224,Tryz.ntmps224
 go_upto_region 1 with fail
 go_wp2_with fail
 go_end0
 exact⟨rfl,L,y,B⟩
theorem QF.Oh(h:QF w f D g n){q:Nat}{v C R nd ps:Int}{E:Value}(J:w.heap[q]? = some (.cells #[.int .i64 v,.int .i64 C,.int .i64 R,.int .i64 nd,.int .i64 ps,E] 296))(c:g.dA q=some (.gz d))(r:v=1)(M:bu D.T)(m:0<=nd)(K:nd<100000):Calls prog 294 #[wp f,wp q] w fun x a=>x=.returned (.tuple #[])/\(∃g',QF a f { D with T:=dh D.T nd (-1) } g' n/\(∀i,i<w.heap.size->g'.dA i=g.dA i)/\g'.K=g.K/\g'.r=g.r)/\Wt (fun i=>(g.dA i).isSome=true) w a:=by
 subst r;have e:∀ {V:World},V.heap[q]? = w.heap[q]? -> V.cell? ⟨q,0,none⟩=some (.int .i64 1)/\V.cell? ⟨q,3,none⟩=some (.int .i64 nd):=fun {V} b=>by
  rw[J] at b;exact⟨by rw[cell_of_row _ _ _ _ _ _ b];rfl,by rw[cell_of_row _ _ _ _ _ _ b];rfl⟩
 obtain⟨Y,Q⟩:=e (V:=w) rfl;have S:=h.cells.1;have L:f<w.heap.size:=h.lt f (by rw[h.tf];rfl);have j:q<w.heap.size:=h.lt q (by rw[c];rfl);have u:∀V,Below w.heap.size w V->Calls prog 328 #[wp g.r,.int .i64 nd] V fun x a=>(∃z,x=.returned (aI z))/\((∃g',QF a f { D with T:=dh D.T nd (-1) } g' n/\(∀i,i<w.heap.size->g'.dA i=g.dA i)/\g'.K=g.K/\g'.r=g.r)/\Wt (fun i=>(g.dA i).isSome=true) w a)/\a.cell? ⟨f,0,none⟩=some (wp g.r)/\a.cell? ⟨q,3,none⟩=some (.int .i64 nd):=fun V b=>by
  have k:=h.below b;obtain⟨O,p,t⟩:=k.tree;refine(p.EC M nd (gT m (by omega))).mono ?_;rintro x a ⟨rfl,F,l⟩;obtain⟨g',A,W,U,y,_⟩:=k.turn t F l;refine⟨⟨_,rfl⟩,⟨⟨g',A,fun i s=>W i (lt_of_lt_of_le s b.size),U,y⟩,(Wt.below _ b).trans (l.wt.mono (fun i s=>by rw[t i s];rfl))⟩,?_,?_⟩
  ·have:=A.cells.1;rw[y] at this;exact this
  ·exact(e ((l.wt.block q (lt_of_lt_of_le j b.size) (fun o=>oZ c (t q o) (by simp) rfl)).trans (b.block q j))).2
 have P:Calls prog 254 #[wp q] w fun x a=>x=.returned (.bool true)/\a=w:=by
  go_enter func254,ntmps254
  go_wp2_with fail
  go_ret;exact⟨rfl,rfl⟩
 generalize ({ D with T:=dh D.T nd (-1) }:DS)=D2 at *;go_enter Tryz.func294,Tryz.ntmps294
 go_upto_region 1 with (go_at_call 254;refine P.mono ?_;rintro x B ⟨rfl,I⟩;subst B)
 go_region_held3 (fun a=>a.cell? ⟨f,0,none⟩=some (wp g.r)/\a.cell? ⟨q,3,none⟩=some (.int .i64 nd)) (first|exact⟨S,Q⟩|exact⟨H,G⟩) (first
  |(go_at_call 328;refine(u _ ⟨by rfl,by rfl,by rfl,by exact le_refl _,fun _ _=>by rfl⟩).mono ?_;rintro x X ⟨⟨z,rfl⟩,N,H,G⟩))
 all_goals
  go_wp2_with fail
  refine bodyPost_ret (results_none rfl _ _ _) rfl ?_;exact⟨rfl,N⟩
theorem QF.SY(h:QF w f D g n){q:Nat}{b E N nd ps p:Int}{x:Pi}(I:w.heap[q]? = some (.cells #[.int .i64 b,.int .i64 E,.int .i64 N,.int .i64 nd,.int .i64 ps,wp (g.Q p)] 296))(j:g.dA q=some (.gz d))(o:b≠1)(v:D.P p=some x)(hF:0<=x.2.1/\x.2.1<1000)(A:0<=x.2.2/\x.2.2<1000):Calls prog 294 #[wp f,wp q] w fun y a=>y=.returned (.tuple #[])/\QF a f { D with P:=fun i=>if i=p then some (rU x b) else D.P i } g n/\Wt (fun i=>(g.dA i).isSome=true) w a:=by
 have k:∀ {V:World},V.heap[q]? = w.heap[q]? -> V.cell? ⟨q,0,none⟩=some (.int .i64 b)/\V.cell? ⟨q,5,none⟩=some (wp (g.Q p)):=fun {V} c=>by
  rw[I] at c;exact⟨by rw[cell_of_row _ _ _ _ _ _ c];rfl,by rw[cell_of_row _ _ _ _ _ _ c];rfl⟩
 obtain⟨M,L⟩:=k (V:=w) rfl;have l:q<w.heap.size:=h.lt q (by rw[j];rfl);have t:∀V,Below w.heap.size w V->Calls prog 329 #[wp (g.Q p),.int .i64 b] V fun y a=>(∃z,y=.returned (aI z))/\(QF a f { D with P:=fun i=>if i=p then some (rU x b) else D.P i } g n/\Wt (fun i=>(g.dA i).isSome=true) w a)/\a.cell? ⟨q,0,none⟩=some (.int .i64 b)/\a.cell? ⟨q,5,none⟩=some (wp (g.Q p)):=fun V c=>by
  have m:=h.below c;obtain⟨C,u⟩:=m.pipe p x v;refine(C.zM b hF.1 hF.2 A.1 A.2).mono ?_;rintro y a ⟨rfl,R,r⟩;have J:a.heap[q]? = w.heap[q]? := (r.block q (lt_of_lt_of_le l c.size) (fun e=>oZ j u (by simp) (Option.some.inj e))).trans (c.block q l);exact⟨⟨_,rfl⟩,⟨m.piped v (x':=rU x b) R r,(Wt.below _ c).trans (Wt.grown r (by rw[u];rfl))⟩,k J⟩
 have O:(b==1)=false:=by simpa using o
 have s:Calls prog 254 #[wp q] w fun x a=>x=.returned (.bool false)/\a=w:=by
  go_enter func254,ntmps254
  go_wp2_with fail
  go_ret;exact⟨rfl,rfl⟩
 generalize ({ D with P:=fun i=>if i=p then some (rU x b) else D.P i }:DS)=D2 at *;generalize g.Q p=Q at *;go_enter Tryz.func294,Tryz.ntmps294
 go_upto_region 2 with (go_at_call 254;refine s.mono ?_;rintro x B ⟨rfl,H⟩;subst B)
 go_region_held3 (fun a=>a.cell? ⟨q,0,none⟩=some (.int .i64 b)/\a.cell? ⟨q,5,none⟩=some (wp Q)) (first|exact⟨M,L⟩|exact⟨G,F⟩) (first
  |(go_at_call 329;refine(t _ ⟨by rfl,by rfl,by rfl,by exact le_refl _,fun _ _=>by rfl⟩).mono ?_;rintro x S ⟨⟨z,rfl⟩,K,G,F⟩))
 all_goals
  go_wp2_with fail
  go_end0
  exact⟨rfl,K⟩
end
section
variable {w w':World}{r gN s:Nat}{T:Wd}{Z:Int→Nat}{B G:Int→Nat}{V:Int→Value}{O:Nat→Prop}
theorem Dc(a:∀k C,T k=some (.dir C)->C.length<=1000)(k:Int):aM T k<=64000:=by
 have d:∀i:Int,cnt1 (T i) k<=1000:=fun i=>by
  cases e:T i with
  |none=>exact zero_le _
  |some nd=>cases nd with
   |file b x=>exact zero_le _
   |dir C=>exact le_trans (List.length_filter_le _ _) (a i C e)
 have c:∀m:Nat,kX T k m<=m*1000:=fun m=>by
  induction m with
  |zero=>exact le_refl _
  |succ m ih=>rw[kX];have:=d m;omega
 exact c 64
theorem PT.NS(h:PT w r T O)(l:bu T)(p:List UInt8)(y:p.length<100000)(m:Int)(A:w.cell? ⟨4,0,none⟩=some (.int .i64 m))(g:dR T p≠0):Calls prog 185 #[wp r,tx p] w fun e C=>e=.returned (eF (dR T p))/\Below w.heap.size w C:=by
 obtain⟨K,s,B,G,V,h⟩:=h;have f:=h.num.pos l.toTrOk;unfold dR at g ⊢;by_cases i:(ae T p).2.2=0
 ·rw[if_neg (fun e=>e i)] at g ⊢;cases hh:og T (ae T p).1 (ae T p).2.1 with
  |none=>
   have q:=h.zV l.toTrOk f p y m A i hh;go_enter func185,ntmps185
   go_wp2_with (go_at_call 257;refine q.mono ?_;rintro e u ⟨rfl,c⟩)
   go_ret;refine⟨rfl,?_⟩
   repeat first|exact c|refine Below.alloc ?_ (by first|omega|(have:=c.size;omega) | (simp<;>omega)) _
  |some n=>
   rw[hh] at g;simp only at g ⊢;have a:pR T n≠0:=fun e=>g (by rw[if_neg (fun F=>F e)]);rw[if_pos a];have q:=h.pz l.toTrOk f p y m A i hh;obtain⟨D,o⟩:∃D,T n=some (.dir D):=by
    cases e:T n with
    |none=>exact absurd (by unfold pR;rw[e]) a
    |some nd=>cases nd with
     |file b x=>exact absurd (by unfold pR;rw[e]) a
     |dir D=>exact⟨D,rfl⟩
   have I:D.length≠0:=by unfold pR at a;rw[o] at a;exact a
   have k:=l.key n (by rw[o];rfl);have v:(Lit.int .i64 n).wf=true:=gT k.1 (by omega);have E:(0:Int)<(D.length:Int):=by omega
   generalize (ae T p).1=d at *;generalize (ae T p).2.1=nm at *;go_enter func185,ntmps185
   go_wp2_with (first
    |(go_at_call 257;refine q.mono ?_;rintro e u ⟨rfl,c⟩
      have t:=(h.below c).below ((Below.refl _ u).alloc (le_refl _) (.cells #[.map (some (G d)),tx nm] 283));have L:=t.c0;have j:=t.look n v;rw[o] at j;simp only[isSome_some,if_true] at j;obtain⟨J,_⟩:=t.yK o;have H:=t.ll n D o)
    |(refine xz rfl _ 160 rfl 3 underlying160 (G n) _ _ rfl H ?_))
   go_ret;refine⟨rfl,?_⟩
   repeat first|exact c|refine Below.alloc ?_ (by first|omega|(have:=c.size;omega) | (simp<;>omega)) _
 ·rw[if_pos i] at g ⊢;have q:=h.Cf l.toTrOk f p y m A i;generalize (ae T p).2.2=z at *;go_enter func185,ntmps185
  go_wp2_with (go_at_call 257;refine q.mono ?_;rintro e u ⟨rfl,c⟩)
  go_ret;refine⟨rfl,?_⟩
  repeat first|exact c|refine Below.alloc ?_ (by first|omega|(have:=c.size;omega) | (simp<;>omega)) _
theorem Pg(a:TypeId)(w:World):(Builtin.len_ #[160] a #[.map none]).run prog w=.ok (.int .i64 0) w:=by kernel_rfl
end
theorem EP{T:Wd}(f:TrOk T){p:List UInt8}(h:dR T p=0):(ae T p).2.2=0/\isName (ae T p).2.1=true/\∃C n,T (ae T p).1=some (.dir C)/\C.lookup (ae T p).2.1=some n/\pR T n=0:=by
 unfold dR at h;by_cases a:(ae T p).2.2=0
 ·rw[if_neg (fun e=>e a)] at h;obtain⟨⟨C,d⟩,b⟩:=eZ f a;rw[eU d] at h;cases hl:C.lookup (ae T p).2.1 with
  |none=>rw[hl] at h;simp at h
  |some n=>
   rw[hl] at h;simp only at h;refine⟨a,b,C,n,d,hl,?_⟩;by_cases c:pR T n=0
   ·exact c
   ·rw[if_pos c] at h;omega
 ·rw[if_pos a] at h;exact absurd h a
section
variable {w w':World}{r gN s:Nat}{T:Wd}{Z:Int→Nat}{B G:Int→Nat}{V:Int→Value}{O:Nat→Prop}
theorem PT.sV(h:PT w r T O)(hT:bu T)(p:List UInt8)(hp:p.length<100000)(m:Int)(hm:w.cell? ⟨4,0,none⟩=some (.int .i64 m))(hC:∀k C,T k=some (.dir C)->C.length<=1000)(hE:dR T p=0):Calls prog 185 #[wp r,tx p] w fun e w'=>e=.returned .nilIface/\PT w' r (fC T p) O/\Stp w w' O O:=by
 obtain⟨gN,s,B,G,V,h⟩:=h;have hs1:=h.num.pos hT.toTrOk;obtain⟨hz,hnm,C,n,hd,hl,hmz⟩:=EP hT.toTrOk hE;have hU:fC T p=iP (aZ T (ae T p).1 (ae T p).2.1):=by unfold fC;rw[if_neg (fun e=>e hE)]
 have Fu:=h.pz hT.toTrOk hs1 p hp m hm hz (n:=n) (by rw[eU hd];exact hl);obtain⟨hnd,hn0,hc1,hdn,ht⟩:=xB hT hd hl hmz;have hcd:=EF hT.toTrOk hd hl;have hsome:=hT.child _ C _ n hd hl;obtain⟨nd,hn⟩:∃nd,T n=some nd:=by
  cases e:T n with
  |none=>rw[e] at hsome;cases hsome
  |some nd=>exact⟨nd,rfl⟩
 obtain⟨hsw,_⟩:=ht nd hn;rw[hU,hsw];have hkey:=hT.key n hsome;have hwf:(Lit.int .i64 n).wf=true:=gT hkey.1 (by omega);have hcb:=Dc hC n;have hcn:=hcd n;rw[if_pos rfl] at hcn;have hnl:=dQ hnm;generalize (ae T p).1=d at *;generalize (ae T p).2.1=nm at *;have j6:=hT.toTrOk
 -- what lies behind the place's box
 have hstep:∀w1,Below w.heap.size w w1->Calls prog 259 #[uj (some (G d)) nm] w1 fun e w'=>(∃v,e=.returned v)/\dJ w' r gN s (aZ T d nm) (aM T) B G V O/\Stp w w' O O:=fun w1 b1=>by
  have h1:=h.below b1;refine(F6 (h1.ll d C hd) nm (by omega) (by simp only[hl,map_some,isSome_some])).mono ?_;rintro e w2 ⟨hv,sm,g2⟩;exact⟨hv,h1.del j6 hd (by rw[hl];rfl) g2 sm,(Stp.below b1).trans (.grown g2 (h1.nT d C hd))⟩
 have hZ:∀k,(aZ T d nm k).isSome=true->(if k=n then aM (aZ T d nm) n else aM T k)=aM (aZ T d nm) k:=fun k _=>by
  by_cases e:k=n
  ·rw[if_pos e,e]
  ·rw[if_neg e];have:=hcd k;rw[if_neg e] at this;omega
 have hset:∀w2,dJ w2 r gN s (aZ T d nm) (aM T) B G V O->Calls prog 268 #[wp r,.int .i64 n] (w2.setCell ⟨B n,2,none⟩ (.int .i64 (aM (aZ T d nm) n:Int))) fun e w'=>(∃v,e=.returned v)/\PT w' r (if aM (aZ T d nm) n=0/\dW nd=0 then pY (aZ T d nm) n else aZ T d nm) O/\Stp (w2.setCell ⟨B n,2,none⟩ (.int .i64 (aM (aZ T d nm) n:Int))) w' O O:=fun w2 h2=>by
  exact(h2.count (k:=n) (nd:=nd) (by rw[hdn];exact hn) (aM (aZ T d nm) n)).Ac n hwf (by rw[hdn];exact hn) hc1 hZ
 have hnc:∀w2,dJ w2 r gN s (aZ T d nm) (aM T) B G V O->w2.cell? ⟨B n,2,none⟩=some (.int .i64 (aM T n:Int))/\w2.frozen? ⟨B n,2,none⟩=false/\O (B n):=fun w2 h2=>⟨(h2.Lu (k:=n) (nd:=nd) (by rw[hdn];exact hn)).1,h2.ru (k:=n) (nd:=nd) (by rw[hdn];exact hn) 2,h2.ownB n (by rw[hdn,hn];rfl)⟩;have hsub:(aM T n:Int)-1=(aM (aZ T d nm) n:Int):=by omega
 have hwr:wrap64 ((aM T n:Int)-1)=(aM (aZ T d nm) n:Int):=by rw[hsub];unfold wrap64;omega
 generalize (if aM (aZ T d nm) n=0/\dW nd=0 then pY (aZ T d nm) n else aZ T d nm)=TT at *;have hlen:∀w1,Below w.heap.size w w1->(∃b x,nd=.file b x/\w1.cell? ⟨B n,0,none⟩=some (.map none))\/∃D,nd=.dir D/\w1.cell? ⟨B n,0,none⟩=some (.map (some (G n)))/\SMap w1 (G n) 0 (fun i=>(D.lookup i).map (.int .i64 ·)):=fun w1 b1=>by
  have h1:=h.below b1;cases nd with
  |file b x=>exact .inl ⟨b,x,rfl,(h1.ql hn).1⟩
  |dir D=>
   have h0:D.length=0:=by unfold pR at hmz;rw[hn] at hmz;exact hmz
   have:=h1.ll n D hn;rw[h0] at this;exact .inr ⟨D,rfl,(h1.yK hn).1,this⟩
 have Rm:∀w1,Below w.heap.size w w1->(Instr.lookup 102 (.map (some gN)) (.int .i64 n) false).run prog w1=.ok (wp (B n)) w1/\w1.cell? ⟨r,0,none⟩=some (.map (some gN)):=fun w1 b1=>by
  have h1:=h.below b1;have:=h1.look n hwf;rw[hn] at this;simp only[isSome_some,if_true] at this;exact⟨this,h1.c0⟩
 generalize (aM T n:Int)=ct at *;generalize (aM (aZ T d nm) n:Int)=cd at *;clear hcd hcb hcn hc1 hZ hl hmz hsome hdn j6 hT h hC hm hsub;go_enter func185,ntmps185
 go_upto_region 2 with (go_at_call 257;refine Fu.mono ?_;rintro e w1 ⟨rfl,b1⟩)
 have bA:Below w.heap.size w (w1.alloc (.cells #[.map (some (G d)),tx nm] 283)):=b1.alloc b1.size _;obtain⟨hlk,c0⟩:=Rm _ bA;have hU:=hstep _ bA;rcases hlen _ bA with⟨b,x,_,z0⟩|⟨D,_,z0,Be⟩
 ·have hl0:=Pg;go_wp2_with
   (first
     |(go_at_call 259;refine hU.mono ?_;rintro e w2 ⟨⟨v,rfl⟩,h2,st2⟩;obtain⟨y2,yf,yo⟩:=hnc w2 h2;have hS:=hset w2 h2)
     |(go_at_call 268;refine hS.mono ?_;rintro e w3 ⟨⟨v3,rfl⟩,h3,wW⟩))
  go_ret;exact⟨rfl,h3,(st2.trans (.cell _ yo)).trans wW⟩
 ·go_wp2_with
   (first
     |(go_at_call 259;refine hU.mono ?_;rintro e w2 ⟨⟨v,rfl⟩,h2,st2⟩;obtain⟨y2,yf,yo⟩:=hnc w2 h2;have hS:=hset w2 h2)
     |(go_at_call 268;refine hS.mono ?_;rintro e w3 ⟨⟨v3,rfl⟩,h3,wW⟩)
     |(refine xz rfl _ 160 rfl 3 underlying160 (G n) _ _ rfl Be ?_))
  go_ret;exact⟨rfl,h3,(st2.trans (.cell _ yo)).trans wW⟩
theorem PT.NR(h:PT w r T O)(g:bu T)(p:List UInt8)(d:p.length<100000)(m:Int)(f:w.cell? ⟨4,0,none⟩=some (.int .i64 m))(i:∀k C,T k=some (.dir C)->C.length<=1000):Calls prog 185 #[wp r,tx p] w fun e c=>e=.returned (aI (dR T p))/\PT c r (fC T p) O/\Stp w c O O:=by
 by_cases a:dR T p=0
 ·rw[a,aB];exact h.sV g p d m f i a
 ·rw[ax a,show fC T p=T by unfold fC;rw[if_pos a]];refine(h.NS g p d m f a).mono ?_;rintro e c ⟨rfl,b⟩;exact⟨rfl,h.below b,.below b⟩
end
theorem tL{T:Wd}{n:Int}(a:(T n).isSome=true)(h:¬nV T n=true):∃b x,T n=some (.file b x):=by
 unfold nV at h;cases e:T n with
 |none=>rw[e] at a;cases a
 |some nd=>cases nd with
  |dir C=>rw[e] at h;exact absurd rfl h
  |file b x=>exact⟨b,x,rfl⟩
theorem Pv{T:Wd}{n:Int}(h:nV T n=true):∃C,T n=some (.dir C):=by
 unfold nV at h;cases e:T n with
 |none=>rw[e] at h;cases h
 |some nd=>cases nd with
  |dir C=>exact⟨C,rfl⟩
  |file b x=>rw[e] at h;cases h
section
variable {T:Wd}
theorem Au(i:TrOk T){p q:List UInt8}(h:ky T p q=0):(aF T p).2=0/\(∃b x,T (aF T p).1=some (.file b x))/\(ae T q).2.2=0/\isName (ae T q).2.1=true/\∃C,T (ae T q).1=some (.dir C)/\C.lookup (ae T q).2.1=none:=by
 unfold ky at h;by_cases d:(aF T p).2=0
 ·rw[if_neg (fun e=>e d)] at h;by_cases a:nV T (aF T p).1=true
  ·rw[if_pos a] at h;omega
  ·rw[if_neg a] at h;by_cases c:(ae T q).2.2=0
   ·rw[if_neg (fun e=>e c)] at h;obtain⟨⟨C,g⟩,f⟩:=eZ i c;rw[eU g] at h;refine⟨d,tL (mH i d) a,c,f,C,g,?_⟩;cases hl:C.lookup (ae T q).2.1 with
    |none=>rfl
    |some n=>rw[hl] at h;simp at h
   ·rw[if_pos c] at h;exact absurd h c
 ·rw[if_pos d] at h;exact absurd h d
theorem bu.add(b:bu T){d n:Int}{nm:Nm}{C:List (Nm×Int)}(c:T d=some (.dir C))(j:C.lookup nm=none)(f:isName nm=true)(i:(T n).isSome=true)(l:n≠0):bu (gq T d nm n):=
 { toTrOk:=b.toTrOk.add c j f i
   nr:=by rw[qM b.toTrOk c,if_neg (Ne.symm l)];exact b.nr
   lv:=fun k h e=>by
    rw[qM b.toTrOk c];rw[j5 c] at e;by_cases g:k=d
    ·subst g;rw[aj] at e;cases e
     rcases b.lv k _ c with a|a|a
     ·exact .inl a
     ·exact .inr (.inl (by omega))
     ·exact absurd rfl a
    ·rw[ag _ g] at e;rcases b.lv k h e with a|a|a
     ·exact .inl a
     ·exact .inr (.inl (by omega))
     ·exact .inr (.inr a) }
theorem bu.link(a:bu T)(p q:List UInt8):bu (kS T p q):=by
 unfold kS;by_cases d:ky T p q=0
 ·rw[if_neg (fun e=>e d)];obtain⟨_,⟨b,x,f⟩,_,c,C,h,g⟩:=Au a.toTrOk d;exact a.add h g c (by rw[f];rfl) (Ex a.toTrOk f)
 ·rw[if_pos d];exact a
end
section
variable {w w':World}{r gN s:Nat}{T:Wd}{Z:Int→Nat}{B G:Int→Nat}{V:Int→Value}{O:Nat→Prop}
theorem dJ.new(h:dJ w r gN s T Z B G V O){k:Int}{b g z:Nat}{nd:Nd}(hk:T k=none)(K:w.grownBy w' (some gN))(Y:aK w' gN (s+1) (fun i=>if i=k then some (wp b) else (T i).map (fun _=>wp (B i))))
 (Y7:w.heap[b]? = some (.cells (dY (fun _=>g) (fun _=>.slice none 0 0) (fun _=>z) k nd) 162)) (W:¬O b) (o:(nd=.dir []/\SMap w g 0 (fun _=>none)/\¬O g)\/nd=.file [] 0) :
 dJ w' r gN (s+1) (cB T k nd) (fun i=>if i=k then z else Z i) (fun i=>if i=k then b else B i) (fun i=>if i=k then g else G i) (fun i=>if i=k then .slice none 0 0 else V i) (fun i=>O i\/i=b\/(i=g/\nd=.dir [])):=by
 obtain⟨es,cl,H⟩:=h.map.isMap;have q:∀i,i<w.heap.size->i≠gN->w'.heap[i]? = w.heap[i]? := fun i I F=>K.block i I (fun e=>F (Option.some.inj e));have M:b<w.heap.size:=(Array.getElem?_eq_some_iff.1 Y7).1;have S:b≠gN:=fun e=>W (by rw[e];exact h.sj);have F:∀i m,T i=some m->i≠k:=fun i m e a=>by rw[a,hk] at e;cases e
 have d:∀i m,cB T k nd i=some m->(i=k/\m=nd)\/(i≠k/\T i=some m):=fun i m e=>by
  by_cases a:i=k
  ·subst a;rw[aj] at e;cases e;exact .inl ⟨rfl,rfl⟩
  ·rw[ag _ a] at e;exact .inr ⟨a,e⟩
 have u:∀i,(cB T k nd i).isSome=true->i=k\/(i≠k/\(T i).isSome=true):=fun i e=>by
  by_cases a:i=k
  ·exact .inl a
  ·rw[ag _ a] at e;exact .inr ⟨a,e⟩
 refine⟨(q r (h.lt _ h.yE) (fun e=>by rw[<-e,h.head] at H;cases H)).trans h.head,?_,fun i m e=>?_,fun i C e=>?_,fun i c x e=>?_,fun i C e=>?_,fun i t C X e p A=>?_,fun i t e p E=>?_,.inl h.yE,.inl h.sj,fun i e=>?_,fun i C e=>?_,fun i c x j e v=>?_,fun i I=>?_⟩
 ·have e:(fun i=>if i=k then some (wp b) else (T i).map (fun _=>wp (B i)))=fun i=>(cB T k nd i).map (fun _=>wp (if i=k then b else B i)):=by
   funext i;by_cases a:i=k
   ·subst a;rw[aj,if_pos rfl];simp
   ·rw[ag _ a,if_neg a];simp[a]
  rw[e] at Y;exact Y
 ·rcases d i m e with⟨rfl,rfl⟩|⟨a,e⟩
  ·simp only[if_true];have U:dY (fun j=>if j=i then g else G j) (fun j=>if j=i then .slice none 0 0 else V j) (fun j=>if j=i then z else Z j) i m=dY (fun _=>g) (fun _=>.slice none 0 0) (fun _=>z) i m:=by cases m<;>simp[dY]
   rw[U];exact(q b M S).trans Y7
  ·simp only[if_neg a];have U:dY (fun j=>if j=k then g else G j) (fun j=>if j=k then .slice none 0 0 else V j) (fun j=>if j=k then z else Z j) i m=dY G V Z i m:=by cases m<;>simp[dY,a]
   rw[U];exact(q _ (h.lt _ (h.ownB i (by rw[e];rfl))) (fun e3=>by rw[<-e3,h.node i m e] at H;cases H)).trans (h.node i m e)
 ·rcases d i _ e with⟨rfl,f⟩|⟨a,e⟩
  ·simp only[if_true];rcases o with⟨l,R,Q⟩|l
   ·rw[l] at f;cases f
    exact R.keep (q g R.lt (fun P=>Q (by rw[P];exact h.sj)))
   ·rw[l] at f;cases f
  ·simp only[if_neg a];exact(h.ll i C e).keep (q _ (h.ll i C e).lt (h.sep i C e))
 ·rcases d i _ e with⟨rfl,f⟩|⟨a,e⟩
  ·simp only[if_true];rcases o with⟨l,_⟩|l
   ·rw[l] at f;cases f
   ·rw[l] at f;cases f;exact .inl ⟨rfl,rfl⟩
  ·simp only[if_neg a];exact(h.data i c x e).grown K (fun y hy=>by rw[qO H] at hy;cases hy)
 ·rcases d i _ e with⟨rfl,f⟩|⟨a,e⟩
  ·simp only[if_true];rcases o with⟨_,_,Q⟩|l
   ·exact fun P=>Q (by rw[P];exact h.sj)
   ·rw[l] at f;cases f
  ·simp only[if_neg a];exact h.sep i C e
 ·have J:∀j D,j≠k->T j=some (.dir D)->nd=.dir []->G j≠g:=fun j D _ v l P=>by
   rcases o with⟨_,_,Q⟩|f
   ·exact Q (by rw[<-P];exact h.nT j D v)
   ·rw[f] at l;cases l
  have L:∀D,Nd.dir D=nd->nd=.dir []:=fun D f=>by
   rcases o with⟨l,_⟩|l
   ·exact l
   ·rw[l] at f;cases f
  rcases d i _ e with⟨a,f⟩|⟨a,e⟩
  ·rcases d t _ p with⟨n,N⟩|⟨n,p⟩
   ·rw[a,n]
   ·rw[if_pos a,if_neg n] at A;exact absurd A.symm (J t X n p (L C f))
  ·rcases d t _ p with⟨n,N⟩|⟨n,p⟩
   ·rw[if_neg a,if_pos n] at A;exact absurd A (J i C a e (L X N))
   ·rw[if_neg a,if_neg n] at A;exact h.inj i t C X e p A
 ·rcases u i e with a|⟨a,e⟩
  ·rcases u t p with n | ⟨n,p⟩
   ·rw[a,n]
   ·simp only[if_pos a,if_neg n] at E;exact absurd (by rw[E];exact h.ownB t p) W
  ·rcases u t p with n | ⟨n,p⟩
   ·simp only[if_neg a,if_pos n] at E;exact absurd (by rw[<-E];exact h.ownB i e) W
   ·simp only[if_neg a,if_neg n] at E;exact h.Np i t e p E
 ·rcases u i e with a|⟨a,e⟩
  ·simp only[if_pos a];exact .inr (.inl trivial)
  ·simp only[if_neg a];exact .inl (h.ownB i e)
 ·rcases d i _ e with⟨a,f⟩|⟨a,e⟩
  ·simp only[if_pos a];rcases o with⟨l,_⟩|l
   ·exact .inr (.inr ⟨trivial,l⟩)
   ·rw[l] at f;cases f
  ·simp only[if_neg a];exact .inl (h.nT i C e)
 ·rcases d i _ e with⟨a,_⟩|⟨a,e⟩
  ·simp only[if_pos a] at v;cases v
  ·simp only[if_neg a] at v;exact .inl (h.Fz i c x j e v)
 ·rcases I with I|rfl|⟨rfl,l⟩
  ·exact lt_of_lt_of_le (h.lt i I) K.size
  ·exact lt_of_lt_of_le M K.size
  ·rcases o with⟨_,R,_⟩|f
   ·exact lt_of_lt_of_le R.lt K.size
   ·rw[f] at l;cases l
theorem UO(a:TrOk T){k:Int}(f:T k=none)(h:k≠0):aM T k=0:=by
 by_cases e:aM T k=0
 ·exact e
 ·rcases (ny a k).2 (.inr e) with i|⟨d,C,b,g,c⟩
  ·exact absurd i h
  ·have:=a.child d C b k g c;rw[f] at this;cases this
theorem O0(a:Bool)(k:Int):cnt1 (some (fO a)) k=0:=by cases a<;>rfl
theorem CG(f:bu T){d k:Int}{nm:Nm}{C:List (Nm×Int)}(a:Bool)(m:T d=some (.dir C))(t:C.lookup nm=none)(n:isName nm=true)(c:T k=none)(v:0<=k)(u:k<64):d≠k/\cB T k (fO a) d=some (.dir C)/\(∀i,aM (gq (cB T k (fO a)) d nm k) i=if i=k then 1 else aM T i)/\bu (gq (cB T k (fO a)) d nm k):=by
 have j:d≠k:=by rintro rfl;rw[c] at m;cases m
 have h:k≠0:=by rintro rfl;obtain⟨D,e⟩:=f.root;rw[e] at c;cases c
 have b:cB T k (fO a) d=some (.dir C):=by rw[ag _ j];exact m
 have g:=f.toTrOk.new c v u a;have o:=Ff (x:=fO a) c (O0 a);have p:∀i,aM (gq (cB T k (fO a)) d nm k) i=if i=k then 1 else aM T i:=fun i=>by
  rw[qM g b,o];by_cases e:i=k
  ·rw[if_pos e,if_pos e,e,UO f.toTrOk c h]
  ·rw[if_neg e,if_neg e,Nat.add_zero]
 refine⟨j,b,p,?_⟩;refine { toTrOk:=g.add b t n (by rw[aj];rfl),nr:=by rw[p,if_neg (Ne.symm h)];exact f.nr,lv:=fun i s e=>?_ };rw[p];by_cases q:i=k
 ·rw[if_pos q];exact .inr (.inl (by decide))
 ·rw[if_neg q];rw[j5 b] at e;by_cases r:i=d
  ·subst r;rw[aj] at e;cases e
   rcases f.lv i _ m with l|l|l
   ·exact .inl l
   ·exact .inr (.inl l)
   ·exact absurd rfl l
  ·rw[ag _ r,ag _ q] at e;exact f.lv i s e
end
section
variable {w w':World}{r gN s:Nat}{T:Wd}{Z:Int→Nat}{B G:Int→Nat}{V:Int→Value}{O:Nat→Prop}
theorem Wz(b:Nat)(w:World):(binOp BinOp.neq 100 (wp b) (.pointer none)).run prog w=.ok (.bool true) w:=by kernel_rfl
theorem Tw(w:World):(binOp BinOp.neq 100 (.pointer none) (.pointer none)).run prog w=.ok (.bool false) w:=by kernel_rfl
theorem dJ.zi(h:dJ w r gN s T Z B G V O)(k:TrOk T)(p:List UInt8)(b:Nat)(l:p.length<100000)(m:Int)(o:w.cell? ⟨4,0,none⟩=some (.int .i64 m))(f:aY T s p≠0):Calls prog 246 #[wp r,tx p,wp b] w fun e v=>e=.returned (.tuple #[.int .i64 0,eF (aY T s p)])/\Below w.heap.size w v:=by
 have c:=h.num.pos k;unfold aY at f ⊢;by_cases i:(ae T p).2.2=0
 ·rw[if_neg (fun e=>e i)] at f ⊢;cases hh:og T (ae T p).1 (ae T p).2.1 with
  |some n=>
   rw[if_pos (show (some n).isSome=true from rfl)];have g:=h.tQ k c p l m o i hh;go_enter func246,ntmps246
   go_wp2_with (go_at_call 235;refine g.mono ?_;rintro e t ⟨rfl,a⟩)
   go_ret2;refine⟨rfl,?_⟩
   repeat first|exact a|refine Below.alloc ?_ (by first|omega|(have:=a.size;omega) | (simp<;>omega)) _
  |none=>
   rw[hh] at f;simp only[isSome_none,Bool.false_eq_true,if_false] at f ⊢;have q:60<=s:=by
    by_cases e:60<=s
    ·exact e
    ·rw[if_neg e] at f;exact absurd rfl f
   rw[if_pos q];have g:=h.nC k c p l m o i hh;have x:(60:Int)<=(s:Int):=by omega
   generalize (ae T p).1=d at *;generalize (ae T p).2.1=nm at *;go_enter func246,ntmps246
   go_wp2_with (first
    |(go_at_call 235;refine g.mono ?_;rintro e t ⟨rfl,a⟩;have u:=h.below (a.alloc a.size (.cells #[.map (some (G d)),tx nm] 283));have y:=u.c0;have j:=u.map)
    |(refine ik rfl _ 102 rfl 100 underlying102 gN _ _ rfl j ?_))
   go_ret2;refine⟨rfl,?_⟩
   repeat first|exact a|refine Below.alloc ?_ (by first|omega|(have:=a.size;omega) | (simp<;>omega)) _
 ·rw[if_pos i] at f ⊢;have g:=h.zK k c p l m o i;generalize (ae T p).2.2=z at *;go_enter func246,ntmps246
  go_wp2_with (go_at_call 235;refine g.mono ?_;rintro e t ⟨rfl,a⟩)
  go_ret2;refine⟨rfl,?_⟩
  repeat first|exact a|refine Below.alloc ?_ (by first|omega|(have:=a.size;omega) | (simp<;>omega)) _
theorem Cz{b g:Nat}{k:Int}{a:Bool}(h:w.heap[b]? = some (.cells #[if a=true then .map (some g) else .map none,.slice none 0 0,.int .i64 0,.int .i64 0] 162)):(w.setCell ⟨b,2,none⟩ (.int .i64 1)).heap[b]? = some (.cells (dY (fun _=>g) (fun _=>.slice none 0 0) (fun _=>1) k (fO a)) 162)/\(w.cell? ⟨b,2,none⟩).isSome=true/\w.frozen? ⟨b,2,none⟩=false:=by
 refine⟨?_,?_,by simp[frozen?,h]⟩
 ·rw[aS w b 2 _ _ _ _ h];cases a<;>simp[dY,fO]
 ·rw[cell_of_row w b 2 _ _ _ h];rfl
theorem dJ.Na(h:dJ w r gN s T (aM T) B G V O)(hT:bu T)(p:List UInt8)(b g:Nat)(c:Bool)(hp:p.length<100000)(m:Int)(Y:w.cell? ⟨4,0,none⟩=some (.int .i64 m))(hC:∀k C,T k=some (.dir C)->C.length<=1000)
 (R:w.heap[b]? = some (.cells #[if c=true then .map (some g) else .map none,.slice none 0 0,.int .i64 0,.int .i64 0] 162)) (Zq:¬O b) (hgd:c=true->SMap w g 0 (fun _=>none)/\¬O g) (hE:aY T s p=0) :
 Calls prog 246 #[wp r,tx p,wp b] w fun e H=>∃k,fV T k/\k<64/\e=.returned (.tuple #[.int .i64 k,.nilIface])/\PT H r (jd T p c k) (fun i=>O i\/i=b\/(i=g/\fO c=.dir []))/\Wt (fun i=>O i\/i=b\/(i=g/\fO c=.dir [])) w H:=by
 have X:=hT.toTrOk;have hs1:=h.num.pos X;have Je:=h.num;obtain⟨hz,⟨C,hd,hl⟩,M,acp⟩:=mF X hE;have vQ:=h.nC X hs1 p hp m Y hz (by rw[eU hd];exact hl);have hnl:=dQ M;have hCl:=hC _ C hd;have h6:¬(60:Int)<=(s:Int):=by omega
 unfold jd;generalize (ae T p).1=d at *;generalize (ae T p).2.1=nm at *;obtain⟨x,u⟩:∃x:Nat->Prop,(fun i=>O i\/i=b\/(i=g/\fO c=.dir []))=x:=⟨_,rfl⟩;rw[u];have U:∀i,O i->x i:=fun i I=>by rw[<-u];exact .inl I
 have hOb:x b:=by rw[<-u];exact .inr (.inl rfl)
 -- the turns, ahead of the walk
 have L:∀(k:Int) f,Below w.heap.size w f->T k=none->0<=k->k<64->∃l,(Instr.mapUpdate 102 (.map (some gN)) (.int .i64 k) (wp b)).run prog (f.setCell ⟨b,2,none⟩ (.int .i64 1))=.ok () l/\
  dJ l r gN (s+1) (cB T k (fO c)) (fun i=>if i=k then 1 else aM T i) (fun i=>if i=k then b else B i) (fun i=>if i=k then g else G i) (fun i=>if i=k then .slice none 0 0 else V i) x/\Wt x w l/\∀i,w.heap.size<=i->i<f.heap.size->l.heap[i]? = f.heap[i]? := fun k f q Z h0 F=>by
  have E:b<w.heap.size:=(Array.getElem?_eq_some_iff.1 R).1;have hb1:=(q.block b E).trans R;obtain⟨hnc,_,_⟩:=Cz (k:=k) hb1;have gc:f.grownBy (f.setCell ⟨b,2,none⟩ (.int .i64 1)) (some b):=⟨rfl,rfl,rfl,by simp[World.setCell],fun i _ hne=>heap_setCell _ _ _ _ (fun e=>hne (by rw[e]))⟩;have W:dJ (f.setCell ⟨b,2,none⟩ (.int .i64 1)) r gN s T (aM T) B G V O:=(h.below q).keep (fun i I=>gc.block i (lt_of_lt_of_le (h.lt i I) q.size) (fun e=>Zq (by rw[<-Option.some.inj e];exact I))) gc.size;obtain⟨l,y,pm,g2⟩:=W.map.put underlying102 (by unfold maxLen;omega) k (gT h0 (by omega)) (wp b);rw[show ((T k).map (fun _=>wp (B k))).isSome=false by rw[Z];rfl] at pm;simp only[Bool.false_eq_true,if_false] at pm;refine⟨l,y,?_,?_,fun i I P=>?_⟩
  ·have J:=W.new (nd:=fO c) Z g2 pm hnc Zq (by
    cases c with
    |true=>
     obtain⟨S,Zp⟩:=hgd rfl;refine .inl ⟨rfl,(S.keep (q.block g S.lt)).keep (heap_setCell _ _ _ _ (fun e=>?_)),Zp⟩;obtain⟨es,cl,Y⟩:=S.isMap;rw[show g=b from e,R] at Y;cases Y
    |false=>exact .inr rfl)
   rw[u] at J;exact J
  ·refine(Wt.below _ q).trans ((Wt.grown gc hOb).trans (.grown g2 (U _ h.sj)))
  ·rw[g2.block i (by simpa using P) (fun e=>by have:=h.lt _ h.sj;rw[<-Option.some.inj e] at this;omega)];exact heap_setCell _ _ _ _ (by show i≠b;omega)
 have K:∀(k:Int) l,T k=none->0<=k->k<64->dJ l r gN (s+1) (cB T k (fO c)) (fun i=>if i=k then 1 else aM T i) (fun i=>if i=k then b else B i) (fun i=>if i=k then g else G i) (fun i=>if i=k then .slice none 0 0 else V i) x->
  Calls prog 236 #[uj (some (G d)) nm,.int .i64 k] l fun e H=>(∃v,e=.returned v)/\PT H r (gq (cB T k (fO c)) d nm k) x/\Wt x l H:=fun k l Z h0 F W=>by
  obtain⟨D,Q,hc,_⟩:=CG hT c hd hl M Z h0 F;have Be:=W.ll d C Q;rw[if_neg D] at Be;refine(Jl Be (by unfold maxLen;omega) nm (by omega) (by simp only[hl,map_none]) k).mono ?_;rintro e w3 ⟨hv,sm,g3⟩;have J:=W.add (d:=d) (nm:=nm) (n:=k) Q (w':=w3) (by rw[if_neg D];exact g3) (by rw[if_neg D];exact sm);exact⟨hv,⟨gN,s+1,_,_,_,J.as rfl (fun i _=>hc i)⟩,.grown g3 (U _ (h.nT d C hd))⟩
 have aaU:∀f,Below w.heap.size w f->∃v,f.cell? ⟨b,2,none⟩=some v/\f.frozen? ⟨b,2,none⟩=false:=fun f q=>by
  have E:b<w.heap.size:=(Array.getElem?_eq_some_iff.1 R).1;obtain⟨_,hs,hf⟩:=Cz (k:=0) ((q.block b E).trans R);obtain⟨v,hv⟩:=Option.isSome_iff_exists.1 hs;exact⟨v,hv,hf⟩
 have p1:=Wz;have p2:=Tw;obtain⟨C0,z⟩:=X.root;go_enter func246,ntmps246
 go_wp2_with (first
  |(go_at_call 235;refine vQ.mono ?_;rintro e f ⟨rfl,q⟩;have b8:=q.alloc q.size (.cells #[.map (some (G d)),tx nm] 283);have F:=h.below b8;have c0:=F.c0;have N:=F.map)
  |(refine ik rfl _ 102 rfl 100 underlying102 gN _ _ rfl N ?_))
 have q2:(f.alloc (.cells #[.map (some (G d)),tx nm] 283)).heap[f.heap.size]? = some (.cells #[.map (some (G d)),tx nm] 283):=alloc_heap_new _ _;have q3:f.heap.size<(f.alloc (.cells #[.map (some (G d)),tx nm] 283)).heap.size:=by simp
 generalize f.alloc (.cells #[.map (some (G d)),tx nm] 283)=l at *;go_loopg [10] 64 (fun mm s10 wr=>∃(i:Nat),i+mm=65/\s10=.int .i64 (i:Int)/\1<=i/\i<=s/\(∀j:Nat,j<i->(T j).isSome=true)/\wr=l)
 case atStart=>exact⟨1,by omega,rfl,by omega,by omega,fun j hj=>by
  have:j=0:=by omega
  subst this;rw[show ((0:Nat):Int)=0 from rfl,z];rfl,rfl⟩
 case round=>
  obtain⟨i,I,rfl,P,his,o,hw⟩:=hrel;subst hw;have hwf:(Lit.int .i64 (i:Int)).wf=true:=gT (by omega) (by omega);have t:=F.look (i:Int) hwf;cases hn:T (i:Int) with
  |some nd=>
   rw[hn] at t;simp only[isSome_some,if_true] at t;have hi2:i+1<=s:=Je.free (k:=i+1) (fun j hj=>by
    by_cases e:j=i
    ·rw[e,hn];rfl
    ·exact o j (by omega))
   go_wp2_with fail
   go_roundg (gk-1)
   case measure=>omega
   case rel=>exact⟨i+1,by omega,by go_num,by omega,hi2,fun j hj=>by
    by_cases e:j=i
    ·rw[e,hn];rfl
    ·exact o j (by omega),rfl⟩
  |none=>
   rw[hn] at t;simp only[isSome_none,Bool.false_eq_true,if_false] at t;have A:fV T (i:Int):=⟨by omega,hn,fun j h0 F=>by
    obtain⟨j',rfl⟩:∃j':Nat,j=j':=⟨j.toNat,by omega⟩;exact o j' (by omega)⟩
   obtain⟨w3,y,J,wt3,hk3⟩:=L (i:Int) _ b8 hn (by omega) (by omega);have S:=K (i:Int) w3 hn (by omega) (by omega) J;obtain⟨vb,bc,bf⟩:=aaU _ b8;obtain⟨x0,x1,_,_⟩:=aN ((hk3 _ q.size q3).trans q2);have hr0:(wr.setCell ⟨b,2,none⟩ (.int .i64 1)).cell? ⟨r,0,none⟩=some (.map (some gN)):=by
    rw[World.cell?_of_block (w:=wr) (a:=⟨r,0,none⟩) (heap_setCell wr ⟨b,2,none⟩ (.int .i64 1) r (fun e=>Zq ((show r=b from e) ▸ h.yE)))];exact c0
   have afy:(i:Int)<64:=by omega
   go_wp2_with (go_at_call 236;refine S.mono ?_;rintro e w4 ⟨⟨v,rfl⟩,h4,wt4⟩)
   go_ret2;exact⟨(i:Int),A,afy,rfl,h4,wt3.trans wt4⟩
end
section
variable {w w':World}{r gN s:Nat}{T:Wd}{Z:Int→Nat}{B G:Int→Nat}{V:Int→Value}{O:Nat→Prop}
theorem CB(w:World):Calls prog 37 #[] w fun e a=>e=.returned (wp (w.heap.size+1))/\a=(w.alloc (.map #[] 0)).alloc (.cells #[.map (some w.heap.size),.slice none 0 0,.int .i64 0,.int .i64 0] 162):=by
 have b:=@run_makeMap prog;go_enter Tryz.func37,Tryz.ntmps37
 go_wp2_with fail
 go_ret;exact⟨rfl,rfl⟩
def MkR(w:World)(r:Nat)(T:Wd)(O:Nat->Prop)(s:Nat)(p:List UInt8)(dir:Bool)(e:Ending)(w':World):Prop:=
 (aY T s p≠0/\e=.returned (.tuple #[.int .i64 0,eF (aY T s p)])/\PT w' r T O/\Stp w w' O O)\/
 (aY T s p=0/\∃k O',fV T k/\k<64/\e=.returned (.tuple #[.int .i64 k,.nilIface])/\PT w' r (jd T p dir k) O'/\Stp w w' O O')
theorem PT.Qe(h:PT w r T O)(t:bu T)(x:dD T s)(p:List UInt8)(q:p.length<100000)(m:Int)(A:w.cell? ⟨4,0,none⟩=some (.int .i64 m))(F:∀k C,T k=some (.dir C)->C.length<=1000):Calls prog 308 #[wp r,tx p] w (MkR w r T O s p false):=by
 obtain⟨I,L,B,G,V,h⟩:=h;obtain rfl:=x.one h.num;have d:Below w.heap.size w (w.alloc (.cells #[.map none,.slice none 0 0,.int .i64 0,.int .i64 0] 162)):=(Below.refl _ _).alloc (le_refl _) _;have u:=h.below d;have f:=aU A d;by_cases n:aY T s p=0
 ·have a:=u.Na t p w.heap.size 0 false q m f F (alloc_heap_new _ _) (fun c=>by have:=h.lt _ c;omega) (fun e=>by cases e) n;go_enter Tryz.func308,Tryz.ntmps308
  go_wp2_with (go_at_call 246;refine a.mono ?_;rintro e v ⟨k,D,K,rfl,H,j⟩)
  go_ret2;refine .inr ⟨n,k,_,D,K,rfl,H,⟨⟨j.os,j.tape,j.output,le_trans d.size j.size,fun i l y=>?_⟩,fun i l=>?_⟩⟩
  ·refine(j.block i (lt_of_lt_of_le l d.size) (fun c=>?_)).trans (d.block i l);rcases c with c|rfl|⟨_,e⟩
   ·exact y c
   ·omega
   ·cases e
  ·rcases l with c|rfl|⟨_,e⟩
   ·exact .inl c
   ·exact .inr (le_refl _)
   ·cases e
 ·have a:=u.zi t.toTrOk p w.heap.size q m f n;have g:∀e o,e=.returned (.tuple #[.int .i64 0,eF (aY T s p)])->Below w.heap.size w o->MkR w r T O s p false e o:=fun e o E b=>.inl ⟨n,E,⟨I,s,B,G,V,h.below b⟩,.below b⟩;generalize aY T s p=z at *;go_enter Tryz.func308,Tryz.ntmps308
  go_wp2_with (go_at_call 246;refine a.mono ?_;rintro e v ⟨rfl,J⟩)
  go_ret2;exact g _ _ rfl (d.trans (J.mono d.size))
def jc:Wd:=fun k=>if k=0 then some (.dir []) else none
theorem bE{k:Int}{nd:Nd}(h:jc k=some nd):k=0/\nd=.dir []:=by
 unfold jc at h;by_cases e:k=0
 ·rw[if_pos e] at h;cases h;exact⟨e,rfl⟩
 ·rw[if_neg e] at h;cases h
theorem Cy(k:Int):aM jc k=0:=by
 by_cases e:aM jc k=0
 ·exact e
 ·obtain⟨i,_,a⟩:=wS 64 e;exfalso;apply a
  cases h:jc (i:Int) with
  |none=>rfl
  |some nd=>obtain⟨_,rfl⟩:=bE h;rfl
theorem TP:bu jc:=
 { root:=⟨[],rfl⟩
   key:=fun k h=>by
    cases e:jc k with
    |none=>rw[e] at h;cases h
    |some a=>obtain⟨rfl,_⟩:=bE e;omega
   nodup:=fun k C h=>by obtain⟨_,e⟩:=bE h;cases e;exact List.nodup_nil
   child:=fun k C s n h d=>by obtain⟨_,e⟩:=bE h;cases e;cases d
   name:=fun k C x h c=>by obtain⟨_,e⟩:=bE h;cases e;cases c
   small:=fun k b x h=>by obtain⟨_,e⟩:=bE h;cases e
   nr:=Cy 0
   lv:=fun k a h=>.inl (bE h).1 }
theorem aaC(w:World):Calls prog 17 #[] w fun e n=>∃r O,e=.returned (wp r)/\PT n r jc O/\Below w.heap.size w n/\∀i,O i->w.heap.size<=i:=by
 have G:=@run_makeMap prog;have c:(w.alloc (.map #[] 0)).heap.size=w.heap.size+1:=by simp
 have l:=CB (w.alloc (.map #[] 0));rw[c] at l;have s:=aK.made w;have H:Below w.heap.size w (((w.alloc (.map #[] 0)).alloc (.map #[] 0)).alloc (.cells #[.map (some (w.heap.size+1)),.slice none 0 0,.int .i64 0,.int .i64 0] 162)):=(((Below.refl _ _).alloc (le_refl _) _).alloc (by rw[c];omega) _).alloc (by simp;omega) _;have g:(((w.alloc (.map #[] 0)).alloc (.map #[] 0)).alloc (.cells #[.map (some (w.heap.size+1)),.slice none 0 0,.int .i64 0,.int .i64 0] 162)).heap.size=w.heap.size+3:=by simp
 have q:aK (((w.alloc (.map #[] 0)).alloc (.map #[] 0)).alloc (.cells #[.map (some (w.heap.size+1)),.slice none 0 0,.int .i64 0,.int .i64 0] 162)) w.heap.size 0 (fun _=>none):=(s.keep (heap_alloc _ _ _ (by rw[c];omega))).keep (heap_alloc _ _ _ (by simp;omega));have p:SMap (((w.alloc (.map #[] 0)).alloc (.map #[] 0)).alloc (.cells #[.map (some (w.heap.size+1)),.slice none 0 0,.int .i64 0,.int .i64 0] 162)) (w.heap.size+1) 0 (fun _=>none):=by
  have:=SMap.made (w.alloc (.map #[] 0));rw[c] at this;exact this.keep (heap_alloc _ _ _ this.lt)
 have u:(((w.alloc (.map #[] 0)).alloc (.map #[] 0)).alloc (.cells #[.map (some (w.heap.size+1)),.slice none 0 0,.int .i64 0,.int .i64 0] 162)).heap[w.heap.size+2]? = some (.cells #[.map (some (w.heap.size+1)),.slice none 0 0,.int .i64 0,.int .i64 0] 162):=by
  have:=Cc (w.alloc (.map #[] 0)) (.map #[] 0) (.cells #[.map (some (w.heap.size+1)),.slice none 0 0,.int .i64 0,.int .i64 0] 162);rwa[c] at this
 generalize ((w.alloc (.map #[] 0)).alloc (.map #[] 0)).alloc (.cells #[.map (some (w.heap.size+1)),.slice none 0 0,.int .i64 0,.int .i64 0] 162)=wA at *;obtain⟨a,z,B,v⟩:=q.put underlying102 (by unfold maxLen;omega) 0 (by decide) (wp (w.heap.size+2));have h:∀i,i<w.heap.size+3->i≠w.heap.size->a.heap[i]? = wA.heap[i]? := fun i f t=>v.block i (by rw[g];exact f) (fun e=>t (Option.some.inj e));have A:Below w.heap.size w a:=H.grown v (by omega) (fun k e=>by cases e;omega);have E:w.heap.size+3<=a.heap.size:=by have:=v.size;omega
 have j:PT (a.alloc (.cells #[.map (some w.heap.size)] 104)) a.heap.size jc (fun i=>w.heap.size<=i/\i<a.heap.size+1):=by
  have d:∀i,i<a.heap.size->(a.alloc (.cells #[.map (some w.heap.size)] 104)).heap[i]? = a.heap[i]? := fun i f=>heap_alloc _ _ _ f;refine⟨w.heap.size,1,fun _=>w.heap.size+2,fun _=>w.heap.size+1,fun _=>.slice none 0 0,alloc_heap_new _ _,?_,fun k D e=>?_,fun k C e=>?_,fun k b x e=>?_,fun k C e=>by omega,fun k y C J e o _=>?_,fun k y e o _=>?_,⟨by omega,by omega⟩,⟨by omega,by omega⟩,fun k _=>⟨by omega,by omega⟩,fun k C _=>⟨by omega,by omega⟩,fun k b x i e=>?_,fun i f=>by simp;omega⟩
  ·have e:(fun i=>if i=(0:Int) then some (wp (w.heap.size+2)) else (fun _=>none) i)=fun k=>(jc k).map (fun _=>wp (w.heap.size+2)):=by
    funext i;unfold jc;by_cases e:i=0<;>simp[e]
   rw[<-e];exact B.keep (d _ (by omega))
  ·obtain⟨rfl,rfl⟩:=bE e;rw[d _ (by omega),h _ (by omega) (by omega),u];simp[dY,Cy]
  ·obtain⟨rfl,m⟩:=bE e;cases m
   exact(p.keep (h _ (by omega) (by omega))).keep (d _ (by omega))
  ·obtain⟨_,m⟩:=bE e;cases m
  ·rw[(bE e).1,(bE o).1]
  ·cases h1:jc k with
   |none=>rw[h1] at e;cases e
   |some D=>cases h2:jc y with
    |none=>rw[h2] at o;cases o
    |some mP=>rw[(bE h1).1,(bE h2).1]
  ·obtain⟨_,m⟩:=bE e;cases m
 have I:Below w.heap.size w (a.alloc (.cells #[.map (some w.heap.size)] 104)):=A.alloc A.size _;go_enter Tryz.func17,Tryz.ntmps17
 go_wp2_with (go_at_call 37;refine l.mono ?_;rintro e n ⟨rfl,F⟩;subst n)
 go_ret;exact⟨a.heap.size,_,rfl,j,I,fun i f=>f.1⟩
end
def I8(w:World)(v:Value)(l:List UInt8):Prop:=
 ∃a c,v=.slice a l.length c/\l.length<=c/\((a=none/\l=[]/\c=0)\/∃g o,a=some ⟨g,o,none⟩/\∀j (h:j<l.length),w.cell? ⟨g,o+j,none⟩=some (.int .u8 (l[j].toNat:Int)))
section
variable {w w':World}{v:Value}{l:List UInt8}
theorem Dat.rdb(h:Dat w v l):I8 w v l:=by
 rcases h with⟨rfl,rfl⟩|⟨g,c,rfl,d,_,b⟩
 ·exact⟨none,0,rfl,le_refl _,.inl ⟨rfl,rfl,rfl⟩⟩
 ·exact⟨_,c,rfl,d,.inr ⟨g,0,rfl,fun j a=>by rw[Nat.zero_add];exact b j a⟩⟩
theorem Ec(w:World):(sizeOf 5).run prog w=.ok 1 w:=by kernel_rfl
theorem yz:prog.elem 34=5:=by kernel_rfl
theorem zq:prog.underlying 34=some (.slice (prog.elem 34)):=by rw[yz];exact underlying34
theorem I8.from(h:I8 w v l)(k:Nat)(i:k<=l.length):∃d,(∀W,(Instr.slice 34 v (some (.int .i64 (k:Int))) none none).run prog W=.ok d W)/\I8 w d (l.drop k):=by
 obtain⟨a,c,rfl,p,f⟩:=h;refine⟨sliced a k l.length c 1,fun W=>?_,?_⟩
 ·rw[run_slice_l (P:=prog) W 34 a l.length c zq .i64 (k:Int) (by omega) (by omega),yz,Ec];simp[Result.andThen]
 ·unfold sliced;rcases f with⟨rfl,rfl,rfl⟩|⟨g,o,rfl,m⟩
  ·have:k=0:=by simpa using i
   subst this;exact⟨none,0,by simp,le_refl _,.inl ⟨rfl,rfl,rfl⟩⟩
  ·by_cases e:c=k
   ·have n:l.drop k=[]:=List.drop_eq_nil_of_le (by omega);rw[n,if_pos e];exact⟨some ⟨g,o,none⟩,c-k,by rw[show l.length-k=0 by omega];rfl,by simp,.inr ⟨g,o,rfl,fun j b=>by simp at b⟩⟩
   ·rw[if_neg e];refine⟨some ⟨g,o+k,none⟩,c-k,by simp[Addr.add],by simp;omega,.inr ⟨g,o+k,rfl,fun j b=>?_⟩⟩;have:=m (k+j) (by simp at b;omega);rw[Nat.add_assoc,this,List.getElem_drop]
theorem I8.upto(h:I8 w v l)(k:Nat)(f:k<=l.length):∃d,(∀W,(Instr.slice 34 v none (some (.int .i64 (k:Int))) none).run prog W=.ok d W)/\I8 w d (l.take k):=by
 obtain⟨a,c,rfl,n,e⟩:=h;refine⟨sliced a 0 k c 1,fun W=>?_,?_⟩
 ·rw[run_slice_h (P:=prog) W 34 a l.length c zq .i64 (k:Int) (by omega) (by omega),yz,Ec];simp[Result.andThen]
 ·unfold sliced;have b:(l.take k).length=k:=by simp;omega
  rcases e with⟨rfl,rfl,rfl⟩|⟨g,o,rfl,m⟩
  ·have:k=0:=by simpa using f
   subst this;exact⟨none,0,by simp,le_refl _,.inl ⟨rfl,rfl,rfl⟩⟩
  ·refine⟨some ⟨g,o,none⟩,c,?_,by rw[b];omega,.inr ⟨g,o,rfl,fun j i=>?_⟩⟩
   ·rw[b];split<;>simp[Addr.add]
   ·rw[b] at i;rw[m j (by omega),List.getElem_take]
theorem I8.text(h:I8 w v l):(convert 34 9 v).run prog w=.ok (tx l) w:=by
 obtain⟨a,c,rfl,f,b⟩:=h;rcases b with⟨rfl,rfl,rfl⟩|⟨g,o,rfl,e⟩
 ·exact Lib.run_convert_nil_bytes w 34 9 5 0 underlying34 Tryz.underlying5 Tryz.underlying9
 ·exact run_convert_bytes_back (P:=prog) w 34 9 5 ⟨g,o,none⟩ c l underlying34 Tryz.underlying5 Tryz.underlying9 (fun j d=>by rw[Addr.add_lit];exact e j d)
theorem I8.len(h:I8 w v l):∃a c,v=.slice a l.length c:=by
 obtain⟨a,c,rfl,_⟩:=h;exact⟨a,c,rfl⟩
end
section
variable {w w':World}{r gN s:Nat}{T:Wd}{Z:Int→Nat}{B G:Int→Nat}{V:Int→Value}{O:Nat→Prop}
theorem Mt(ts:Array TypeId)(a:TypeId)(x y:Int)(k:Nat)(h:(k:Int)=min x y)(W:World):(Builtin.min_ ts a #[.int .i64 x,.int .i64 y]).run prog W=.ok (.int .i64 (k:Int)) W:=by
 rw[run_min_int2];congr 2
 by_cases e:y<x
 ·rw[if_pos e];omega
 ·rw[if_neg e];omega
theorem PT.Eg(h:PT w r T O)(n a d:Int)(D:(Lit.int .i64 n).wf=true):Calls prog 256 #[wp r,.int .i64 n,.int .i64 a,.int .i64 d] w fun e g=>e=.returned (.tuple #[tx (eG T n a d),aI (jw T n a d)])/\∃q,g=w.drewN q:=by
 obtain⟨X,s,B,G,V,h⟩:=h;by_cases i:bF T n=0
 ·obtain⟨b,x,j⟩:=mJ i;have hF:=h.nD n D j;obtain⟨_,S,_⟩:=h.ql j;have H:=(h.data n b x j).rdb;generalize V n=v at *;by_cases F:a<0
  ·have o:jw T n a d=2:=by unfold jw;rw[if_neg (fun e=>e i),if_pos (.inl F)]
   have m:eG T n a d=[]:=by unfold eG;rw[j];simp only;rw[if_pos (.inl F)]
   rw[o,m];go_enter func256,ntmps256
   go_wp2_with (go_at_call 234;refine hF.mono ?_;rintro e g ⟨rfl,l⟩;subst g)
   go_ret2;exact⟨rfl,0,rfl⟩
  ·by_cases E:d<0
   ·have o:jw T n a d=2:=by unfold jw;rw[if_neg (fun e=>e i),if_pos (.inr E)]
    have m:eG T n a d=[]:=by unfold eG;rw[j];simp only;rw[if_pos (.inr E)]
    rw[o,m];go_enter func256,ntmps256
    go_wp2_with (go_at_call 234;refine hF.mono ?_;rintro e g ⟨rfl,l⟩;subst g)
    go_ret2;exact⟨rfl,0,rfl⟩
   ·have o:jw T n a d=0:=by unfold jw;rw[if_neg (fun e=>e i),if_neg (by omega)]
    obtain⟨f,y⟩:∃f,min a.toNat b.length=f:=⟨_,rfl⟩;obtain⟨k,u⟩:∃k,min d.toNat (b.length-f)=k:=⟨_,rfl⟩;have m:eG T n a d=(b.drop f).take k:=by
     unfold eG;rw[j];simp only;rw[if_neg (by omega),<-u,<-y];by_cases e:a.toNat<=b.length
     ·rw[Nat.min_eq_left e];by_cases L:d.toNat<=b.length-a.toNat
      ·rw[Nat.min_eq_left L]
      ·rw[Nat.min_eq_right (by omega),List.take_of_length_le (by simp;omega),List.take_of_length_le (by simp)]
     ·rw[show min a.toNat b.length=b.length by omega,List.drop_eq_nil_of_le (show b.length<=a.toNat by omega),List.drop_length];simp
    rw[o,m,aB];obtain⟨N,R,J⟩:=H.from f (by omega);obtain⟨K,Q,M⟩:=J.upto k (by simp;omega);have W:=fun t p=>Mt t p a (b.length:Int) f (by omega);have U:=fun t p=>Mt t p d ((b.length-f:Nat):Int) k (by omega);have P:(convert 34 9 K).run prog w.drew=.ok (tx ((b.drop f).take k)) w.drew:=I8.text (w:=w.drew) M;obtain⟨A,c,rfl⟩:=H.len;obtain⟨Z,Y,I⟩:=J.len;rw[List.length_drop] at I;subst I;generalize (b.drop f).take k=res at *;generalize b.length-f=L1 at *;go_enter func256,ntmps256
    go_wp2_with (go_at_call 234;refine hF.mono ?_;rintro e g ⟨rfl,l⟩;subst g)
    go_region
    go_wp2_with fail
    go_ret2;exact⟨rfl,1,rfl⟩
 ·have hF:=h.kI n D i;have o:jw T n a d=bF T n:=by unfold jw;rw[if_pos i]
  have m:eG T n a d=[]:=by
   unfold eG;cases j:T n with
   |none=>rfl
   |some nd=>cases nd with
    |dir C=>rfl
    |file b x=>exact absurd (by unfold bF;rw[j]) i
  rw[o,m,ax i];generalize bF T n=z at *;go_enter func256,ntmps256
  go_wp2_with (go_at_call 234;refine hF.mono ?_;rintro e g ⟨rfl,l⟩;subst g)
  go_ret2;exact⟨rfl,0,rfl⟩
end
section
variable {w w':World}{v:Value}{l:List UInt8}
theorem U5(w:World)(N:Nat)(m:N<=1000):∃w',(Instr.makeSlice 34 (.int .i64 (N:Int)) (.int .i64 (N:Int))).run prog w=.ok (.slice (some ⟨w.heap.size,0,none⟩) N N) w'/\Vi w' w.heap.size (.slice (some ⟨w.heap.size,0,none⟩) N N) (replicate N 0)/\Below w.heap.size w w':=by
 obtain⟨i,k,f,h,l⟩:=info_parts (P:=prog) (e:=5) (z:=.int .u8 0) (size:=1) (bytes:=1) (by kernel_rfl);have d:=run_make (P:=prog) w 34 5 i _ underlying34 k f .i64 .i64 (N:Int) (N:Int) (by omega) (by omega) (by rw[l];omega) (by omega);rw[h,Int.toNat_natCast,Nat.mul_one] at d;refine⟨_,d,?_,(Below.refl _ _).alloc (le_refl _) _⟩;have a:(w.alloc (.cells (madeCells (Value.int .u8 0).cells N) 5)).heap[w.heap.size]? = some (.cells (madeCells (Value.int .u8 0).cells N) 5):=alloc_heap_new _ _;have g:(madeCells (Value.int .u8 0).cells N).size=N:=size_madeCells _ _;have c:∀j (b:j<N),(madeCells (Value.int .u8 0).cells N)[j]? = some (.int .u8 0):=fun j b=>by
  simp[madeCells,Value.cells,b,Nat.mod_one]
 refine⟨w.heap.size,N,by simp,le_refl _,by simp,by simp,fun j b=>?_,fun j b=>⟨?_,?_⟩⟩
 ·rw[cell_of_row _ _ j _ _ _ a,c j (by simpa using b)];simp
 ·rw[cell_of_row _ _ j _ _ _ a,c j b];rfl
 ·unfold frozen?;simp only[a];simp
theorem Vi.adw{g cap B:Nat}{b:List UInt8}{u:Value}(h:Vi w B (.slice (some ⟨g,0,none⟩) l.length cap) l)(s:I8 w u b)(z:b.length<=l.length)(m:TypeId):(Builtin.copy_ #[34,34] m #[.slice (some ⟨g,0,none⟩) l.length cap,u]).run prog w=.ok (.int .i64 (b.length:Int)) (w.setCells g 0 (IP b)):=by
 obtain⟨F,r,e,D,t,p,E,q⟩:=h;cases e
 obtain⟨a,c,rfl,C,i⟩:=s;have k:(IP b).length=b.length:=by unfold IP;rw[List.length_map]
 have d:(prog.info? 5).map (·.size)=some 1:=by kernel_rfl
 rcases i with⟨rfl,rfl,rfl⟩|⟨A,o,rfl,v⟩
 ·exact run_copy_none (P:=prog) w 34 34 m 5 _ none l.length cap 0 0 underlying34 d (Nat.zero_min _)
 ·have:=run_copy_cells (P:=prog) w 34 34 m 5 g 0 l.length cap ⟨A,o,none⟩ b.length c (IP b) underlying34 d (by rw[k];exact(Nat.min_eq_left z).symm) (fun j x f=>by
   obtain⟨n,rfl⟩:=VV f;rw[Addr.add_lit];exact v j n) (fun j f=>(q _ (by rw[k] at f;omega)).1) (fun j f=>(q _ (by rw[k] at f;omega)).2) (fun x i=>by
   unfold IP at i;obtain⟨y,_,rfl⟩:=mem_map.1 i;rfl)
  rw[k] at this;exact this
theorem Vi.dat{B:Nat}(h:Vi w B v l):Dat w v l:=by
 obtain⟨g,b,rfl,_,a,c,d,_⟩:=h;exact .inr ⟨g,b,rfl,c,a,d⟩
end
theorem Xk(ts:Array TypeId)(a:TypeId)(x y:Int)(k:Nat)(h:(k:Int)=max x y)(W:World):(Builtin.max_ ts a #[.int .i64 x,.int .i64 y]).run prog W=.ok (.int .i64 (k:Int)) W:=by
 rw[run_max_int2];congr 2
 by_cases e:y > x
 ·rw[if_pos e];omega
 ·rw[if_neg e];omega
theorem Ho{w:World}{u:Value}{b x:List UInt8}(F:I8 w u b)(J:∀g o l c,u=.slice (some ⟨g,o,none⟩) l c->g<w.heap.size)(a:Nat)(r:x≠[])(K:b.length<=256)(H:a+x.length<=200):∃N w1 w2 w3,max b.length (a+x.length)=N/\(Instr.makeSlice 34 (.int .i64 (N:Int)) (.int .i64 (N:Int))).run prog w=.ok (.slice (some ⟨w.heap.size,0,none⟩) N N) w1/\
  (∀e,(Builtin.copy_ #[34,34] e #[.slice (some ⟨w.heap.size,0,none⟩) N N,u]).run prog w1=.ok (.int .i64 (b.length:Int)) w2)/\
  (∀W,(Instr.slice 34 (.slice (some ⟨w.heap.size,0,none⟩) N N) (some (.int .i64 (a:Int))) none none).run prog W=.ok (.slice (some ⟨w.heap.size,a,none⟩) (N-a) (N-a)) W)/\
  (∀e,(Builtin.copy_ #[34,9] e #[.slice (some ⟨w.heap.size,a,none⟩) (N-a) (N-a),tx x]).run prog w2=.ok (.int .i64 (x.length:Int)) w3)/\
  Dat w3 (.slice (some ⟨w.heap.size,0,none⟩) N N) (FL b a x)/\Below w.heap.size w w1/\Below w.heap.size w w2/\Below w.heap.size w w3:=by
 have C:1<=x.length:=List.length_pos_iff.2 r;obtain⟨N,A⟩:∃N,max b.length (a+x.length)=N:=⟨_,rfl⟩;obtain⟨w1,v,B,m⟩:=U5 w N (by omega);have d:(replicate N (0:UInt8)).length=N:=List.length_replicate;have i:Vi w1 w.heap.size (.slice (some ⟨w.heap.size,0,none⟩) (replicate N (0:UInt8)).length N) (replicate N 0):=by rw[d];exact B
 have s:I8 w1 u b:=by
  obtain⟨I,c,rfl,G,r⟩:=F;refine⟨I,c,rfl,G,?_⟩;rcases r with h|⟨g,o,rfl,E⟩
  ·exact .inl h
  ·exact .inr ⟨g,o,rfl,fun j D=>by rw[m.cell (p:=⟨g,o+j,none⟩) (J _ _ _ _ rfl)];exact E j D⟩
 have k:=fun e=>i.adw s (by rw[d];omega) e;rw[d] at k;have z:=(i.copy rfl 0 b (by rw[d];omega) 3).2.1;have y:(replicate N (0:UInt8)).take 0++b++(replicate N (0:UInt8)).drop (0+b.length)=Du b (a+x.length):=by
  unfold Du;simp only[List.take_zero,List.nil_append,Nat.zero_add,List.drop_replicate];rw[show N-b.length=a+x.length-b.length by omega]
 rw[y,d] at z;have f:(Du b (a+x.length)).length=N:=by rw[Gs];exact A
 have q:Vi (w1.setCells w.heap.size 0 (IP b)) w.heap.size (.slice (some ⟨w.heap.size,0,none⟩) (Du b (a+x.length)).length N) (Du b (a+x.length)):=by rw[f];exact z
 have n:=fun e=>q.copy rfl a x (by rw[f];omega) e;rw[f] at n;refine⟨N,w1,_,_,A,v,k,fun W=>?_,fun e=>(n e).1,(n 3).2.1.dat,m,gy (le_refl _) _ _ _ m,gy (le_refl _) _ _ _ (gy (le_refl _) _ _ _ m)⟩;rw[run_slice_l (P:=prog) W 34 _ N N zq .i64 (a:Int) (by omega) (by omega),yz,Ec];have t:¬N=a:=by omega
 simp[Result.andThen,sliced,t,Addr.add];omega
section
variable {w w':World}{r gN s:Nat}{T:Wd}{Z:Int→Nat}{B G:Int→Nat}{V:Int→Value}{O:Nat→Prop}
theorem PT.zk(h:PT w r T O)(hT:bu T)(n a:Int)(x:List UInt8)(S:(Lit.int .i64 n).wf=true)(hxl:x.length<100000):Calls prog 273 #[wp r,.int .i64 n,.int .i64 a,tx x] w fun e j=>e=.returned (aI (cZ T n a x))/\∃t,PT j r (fU T n a x) t/\Stp w j O t:=by
 have f:cZ T n a x≠0\/x=[]->∃t,PT w r (fU T n a x) t/\Stp w w O t:=fun hh=>⟨O,by unfold fU;rw[if_pos hh];exact h,.refl _ _⟩;obtain⟨gN,s,B,G,V,h⟩:=h;by_cases D:bF T n=0
 ·obtain⟨b,y,m⟩:=mJ D;have hF:=h.nD n S m;obtain⟨_,Q,_⟩:=h.ql m;have nf:=h.ru m 1;have d:cZ T n a x=if a<0 then 2 else if 200-(x.length:Int)<a then 4 else 0:=by
   unfold cZ;rw[if_neg (fun e=>e D)];by_cases C:a<0
   ·rw[if_pos C,if_pos C]
   ·rw[if_neg C,if_neg C];by_cases E:200-(x.length:Int)<a
    ·rw[if_pos (.inr E),if_pos E]
    ·rw[if_neg E,if_neg (fun e=>by rcases e with e|e<;>omega)]
  have hwr:wrap64 (200-(x.length:Int))=200-(x.length:Int):=by unfold wrap64;omega
  by_cases C:a<0
  ·rw[if_pos C] at d;rw[d];have v:=f (.inl (by rw[d];decide));go_enter func273,ntmps273
   go_wp2_with (go_at_call 234;refine hF.mono ?_;rintro e j ⟨rfl,u⟩;subst j)
   go_ret;exact⟨rfl,v⟩
  ·rw[if_neg C] at d;by_cases E:200-(x.length:Int)<a
   ·rw[if_pos E] at d;rw[d];have v:=f (.inl (by rw[d];decide));go_enter func273,ntmps273
    go_wp2_with (go_at_call 234;refine hF.mono ?_;rintro e j ⟨rfl,u⟩;subst j)
    go_ret;exact⟨rfl,v⟩
   ·rw[if_neg E] at d;rw[d,aB];by_cases F:x=[]
    ·have v:=f (.inr F);subst F;go_enter func273,ntmps273
     go_wp2_with (go_at_call 234;refine hF.mono ?_;rintro e j ⟨rfl,u⟩;subst j)
     go_ret;exact⟨rfl,v⟩
    ·have hxe:(x==[])=false:=by simp[F]
     obtain⟨A,rfl⟩:∃A:Nat,a=A:=⟨a.toNat,by omega⟩;have H:=hT.small n b y m;have q:=h.data n b y m;obtain⟨N,X,w2,P,hN,hmk,J,hsl,hc2,I,b1,b2,W⟩:=Ho q.rdb (fun g o l c e=>q.lt (i:=g) (by rw[e];rfl)) A F H.1 (by omega);obtain⟨u0,c0,U⟩:=q.len;have m1:=fun Z Y=>Xk Z Y (b.length:Int) ((A:Int)+(x.length:Int)) N (by omega);have R:wrap64 ((A:Int)+(x.length:Int))=(A:Int)+(x.length:Int):=by unfold wrap64;omega
     have L:=h.below W;obtain⟨V',t,h4,K⟩:=L.bytes m I;have hU:fU T n (A:Int) x=cB T n (.file (FL b A x) y):=by
      unfold fU;rw[if_neg (fun e=>e.elim (fun e=>e d) F),m];simp
     have M:∃t,PT (P.setCell ⟨B n,1,none⟩ (.slice (some ⟨w.heap.size,0,none⟩) N N)) r (fU T n (A:Int) x) t/\Stp w (P.setCell ⟨B n,1,none⟩ (.slice (some ⟨w.heap.size,0,none⟩) N N)) O t:=by
      rw[hU];refine⟨t,⟨gN,s,B,G,V',h4.as rfl (fun k _=>kJ m k)⟩,((Stp.below W).trans (.cell _ (h.ownB n (by rw[m];rfl)))).wt,fun i hi=>?_⟩;rcases (K i).1 hi with e|e
      ·exact .inl e
      ·right;cases e;exact le_refl _
     have c1:X.cell? ⟨B n,1,none⟩=some (.slice u0 b.length c0):=by rw[b1.cell (p:=⟨B n,1,none⟩) (h.lt _ (h.ownB n (by rw[m];rfl)))];rw[Q,U]
     have f3:=L.ru m 1;have c3:=(L.ql m).2.1;rw[U] at Q J c3;go_enter func273,ntmps273
     go_wp2_with (go_at_call 234;refine hF.mono ?_;rintro e j ⟨rfl,u⟩;subst j)
     go_ret;exact⟨rfl,M⟩
 ·have hF:=h.kI n S D;have d:cZ T n a x=bF T n:=by unfold cZ;rw[if_pos D]
  have v:=f (.inl (by rw[d];exact D));rw[d,ax D];generalize bF T n=z at *;go_enter func273,ntmps273
  go_wp2_with (go_at_call 234;refine hF.mono ?_;rintro e j ⟨rfl,u⟩;subst j)
  go_ret;exact⟨rfl,v⟩
end
section
variable {w w':World}{r gN s:Nat}{T:Wd}{Z:Int→Nat}{B G:Int→Nat}{V:Int→Value}{O:Nat→Prop}
theorem PT.Xw(h:PT w r T O)(k:bu T)(p q:List UInt8)(N:p.length<100000)(L:q.length<100000)(m:Int)(I:w.cell? ⟨4,0,none⟩=some (.int .i64 m))(f:ky T p q≠0):Calls prog 164 #[wp r,tx p,tx q] w fun e g=>e=.returned (eF (ky T p q))/\Below w.heap.size w g:=by
 obtain⟨R,s,B,G,V,h⟩:=h;have j:=h.num.pos k.toTrOk;have hF:=h.find_ok k.toTrOk j p N m I;have i:=mH k.toTrOk (p:=p);unfold ky at f ⊢;by_cases u:(aF T p).2=0
 ·rw[if_neg (fun e=>e u)] at f ⊢;have K:=i u;have t:=k.key _ K;have l:(Lit.int .i64 (aF T p).1).wf=true:=gT t.1 (by omega);rw[u,aB] at hF;generalize (aF T p).1=n at *;by_cases d:nV T n=true
  ·rw[if_pos d] at f ⊢;obtain⟨C,Q⟩:=Pv d;have M:bF T n=6:=by unfold bF;rw[Q]
   have y:=fun c (a:Below w.heap.size w c)=>(h.below a).kI n l (by rw[M];decide);rw[M] at y;go_enter func164,ntmps164
   go_wp2_with (first
    |(go_at_call 233;refine hF.mono ?_;rintro e c ⟨rfl,a⟩;have A:=y c a)
    |(go_at_call 234;refine A.mono ?_;rintro e g ⟨rfl,o⟩;subst g))
   go_ret;exact⟨rfl,a⟩
  ·rw[if_neg d] at f ⊢;obtain⟨b,x,P⟩:=tL K d;have y:=fun c (a:Below w.heap.size w c)=>(h.below a).nD n l P;by_cases D:(ae T q).2.2=0
   ·rw[if_neg (fun e=>e D)] at f ⊢;cases hh:og T (ae T q).1 (ae T q).2.1 with
    |none=>rw[hh] at f;exact absurd (by simp) f
    |some n'=>
     rw[show (if (some n').isSome=true then (9:Int) else 0)=9 from rfl];have H:=fun c (a:Below w.heap.size w c)=>(h.below a).tQ k.toTrOk j q L m (aU I a) D hh;go_enter func164,ntmps164
     go_wp2_with (first
      |(go_at_call 233;refine hF.mono ?_;rintro e c ⟨rfl,a⟩;have A:=y c a;have F:=H c a)
      |(go_at_call 234;refine A.mono ?_;rintro e g ⟨rfl,o⟩;subst g)
      |(go_at_call 235;refine F.mono ?_;rintro e E ⟨rfl,J⟩))
     go_ret;have v:Below w.heap.size w E:=a.trans (J.mono a.size);refine⟨rfl,?_⟩
     repeat first|exact v|refine Below.alloc ?_ (by first|omega|(have:=v.size;omega) | (simp<;>omega)) _
   ·rw[if_pos D] at f ⊢;have H:=fun c (a:Below w.heap.size w c)=>(h.below a).zK k.toTrOk j q L m (aU I a) D;generalize (ae T q).2.2=z at *;go_enter func164,ntmps164
    go_wp2_with (first
     |(go_at_call 233;refine hF.mono ?_;rintro e c ⟨rfl,a⟩;have A:=y c a;have F:=H c a)
     |(go_at_call 234;refine A.mono ?_;rintro e g ⟨rfl,o⟩;subst g)
     |(go_at_call 235;refine F.mono ?_;rintro e E ⟨rfl,J⟩))
    go_ret;have v:Below w.heap.size w E:=a.trans (J.mono a.size);refine⟨rfl,?_⟩
    repeat first|exact v|refine Below.alloc ?_ (by first|omega|(have:=v.size;omega) | (simp<;>omega)) _
 ·rw[if_pos u] at f ⊢;rw[ax u] at hF;generalize (aF T p).2=z at *;generalize (aF T p).1=n at *;go_enter func164,ntmps164
  go_wp2_with (go_at_call 233;refine hF.mono ?_;rintro e c ⟨rfl,a⟩)
  go_ret;exact⟨rfl,a⟩
theorem PT.zG(h:PT w r T O)(hT:bu T)(p q:List UInt8)(hp:p.length<100000)(hq:q.length<100000)(m:Int)(hm:w.cell? ⟨4,0,none⟩=some (.int .i64 m))(hC:∀k C,T k=some (.dir C)->C.length<=1000)(hE:ky T p q=0):Calls prog 164 #[wp r,tx p,tx q] w fun e w'=>e=.returned .nilIface/\PT w' r (kS T p q) O/\Stp w w' O O:=by
 obtain⟨gN,s,B,G,V,h⟩:=h;have hs1:=h.num.pos hT.toTrOk;have j6:=hT.toTrOk;have hF:=h.find_ok j6 hs1 p hp m hm;obtain⟨hf,⟨b,x,hn⟩,hz,hnm,C,hd,hl⟩:=Au j6 hE;have hU:kS T p q=gq T (ae T q).1 (ae T q).2.1 (aF T p).1:=by unfold kS;rw[if_neg (fun e=>e hE)]
 have hkey:=hT.key _ (show (T (aF T p).1).isSome=true by rw[hn];rfl);have hwf:(Lit.int .i64 (aF T p).1).wf=true:=gT hkey.1 (by omega);have QD:=fun w1 (b1:Below w.heap.size w w1)=>(h.below b1).nD _ hwf hn;have vQ:=fun w1 (b1:Below w.heap.size w w1)=>(h.below b1).nC j6 hs1 q hq m (aU hm b1) hz (by rw[eU hd];exact hl);have hcb:=Dc hC (aF T p).1;have hnl:=dQ hnm;have hCl:=hC _ C hd;rw[hf,aB] at hF;rw[hU];generalize (ae T q).1=d at *;generalize (ae T q).2.1=nm at *;generalize (aF T p).1=n at *;have hca:=qM j6 (nm:=nm) (n:=n) hd;have hnd:n≠d:=by rintro rfl;rw[hd] at hn;cases hn
 have Lh:gq T d nm n n=some (.file b x):=by rw[j5 hd,ag _ hnd];exact hn
 have hstep:∀w1,Below w.heap.size w w1->Calls prog 236 #[uj (some (G d)) nm,.int .i64 n] w1 fun e w'=>(∃v,e=.returned v)/\dJ w' r gN s (gq T d nm n) (aM T) B G V O/\Stp w w' O O:=fun w1 b1=>by
  have h1:=h.below b1;refine(Jl (h1.ll d C hd) (by unfold maxLen;omega) nm (by omega) (by simp only[hl,map_none]) n).mono ?_;rintro e w2 ⟨hv,sm,g2⟩;exact⟨hv,h1.add hd g2 sm,(Stp.below b1).trans (.grown g2 (h1.nT d C hd))⟩
 have hcn:=hca n;rw[if_pos rfl] at hcn;have hfin:∀w2,dJ w2 r gN s (gq T d nm n) (aM T) B G V O->PT (w2.setCell ⟨B n,2,none⟩ (.int .i64 (aM (gq T d nm n) n:Int))) r (gq T d nm n) O:=fun w2 h2=>
  ⟨gN,s,B,G,V,(h2.count Lh (aM (gq T d nm n) n)).as rfl (fun k _=>by
   by_cases e:k=n
   ·rw[if_pos e,e]
   ·rw[if_neg e];have:=hca k;rw[if_neg e] at this;omega)⟩
 have hnc:∀w2,dJ w2 r gN s (gq T d nm n) (aM T) B G V O->w2.cell? ⟨B n,2,none⟩=some (.int .i64 (aM T n:Int))/\w2.frozen? ⟨B n,2,none⟩=false/\O (B n):=fun w2 h2=>⟨(h2.Lu Lh).1,h2.ru Lh 2,h2.ownB n (by rw[Lh];rfl)⟩;have hsub:(aM T n:Int)+1=(aM (gq T d nm n) n:Int):=by omega
 have hwr:wrap64 ((aM T n:Int)+1)=(aM (gq T d nm n) n:Int):=by rw[hsub];unfold wrap64;omega
 generalize (aM T n:Int)=ct at *;generalize (aM (gq T d nm n) n:Int)=cd at *;generalize gq T d nm n=TT at *;clear hca hcb hcn j6 hT h hC hm hsub Lh hCl;go_enter func164,ntmps164
 go_wp2_with (first
  |(go_at_call 233;refine hF.mono ?_;rintro e w1 ⟨rfl,b1⟩;have Jg:=QD w1 b1;have vR:=vQ w1 b1)
  |(go_at_call 234;refine Jg.mono ?_;rintro e w' ⟨rfl,hw'⟩;subst w')
  |(go_at_call 235;refine vR.mono ?_;rintro e w2 ⟨rfl,b2⟩;have b9:Below w.heap.size w (w2.alloc (.cells #[.map (some (G d)),tx nm] 283)):=(b1.trans (b2.mono b1.size)).alloc (le_trans b1.size b2.size) _;have hS:=hstep _ b9)
  |(go_at_call 236;refine hS.mono ?_;rintro e w3 ⟨⟨v,rfl⟩,h3,wW⟩;obtain⟨y2,yf,yo⟩:=hnc w3 h3))
 go_ret;exact⟨rfl,hfin _ h3,wW.trans (.cell _ yo)⟩
theorem PT.Xv(h:PT w r T O)(i:bu T)(p q:List UInt8)(f:p.length<100000)(d:q.length<100000)(m:Int)(g:w.cell? ⟨4,0,none⟩=some (.int .i64 m))(j:∀k C,T k=some (.dir C)->C.length<=1000):Calls prog 164 #[wp r,tx p,tx q] w fun e c=>e=.returned (aI (ky T p q))/\PT c r (kS T p q) O/\Stp w c O O:=by
 by_cases a:ky T p q=0
 ·rw[a,aB];exact h.zG i p q f d m g j a
 ·rw[ax a,show kS T p q=T by unfold kS;rw[if_pos a]];refine(h.Xw i p q f d m g a).mono ?_;rintro e c ⟨rfl,b⟩;exact⟨rfl,h.below b,.below b⟩
end
theorem Ag(p q:List UInt8)(w:World):Calls prog 258 #[tx p,tx q] w fun e a=>e=.returned (.bool (q.isPrefixOf p))/\a=w:=
 Any.strings_HasPrefix Tryz.prefixUL ⟨p.toArray⟩ ⟨q.toArray⟩ w
theorem vB{T:Wd}(i:TrOk T){p q:List UInt8}(h:eQ T p q=0):(ae T p).2.2=0/\isName (ae T p).2.1=true/\(∃C n,T (ae T p).1=some (.dir C)/\C.lookup (ae T p).2.1=some n)/\(ae T q).2.2=0/\isName (ae T q).2.1=true/\(∃C,T (ae T q).1=some (.dir C)/\C.lookup (ae T q).2.1=none)/\(p++[47]).isPrefixOf q=false:=by
 unfold eQ at h;by_cases b:(ae T p).2.2=0
 ·rw[if_neg (fun e=>e b)] at h;obtain⟨⟨C,g⟩,f⟩:=eZ i b;by_cases d:og T (ae T p).1 (ae T p).2.1=none
  ·rw[if_pos d] at h;omega
  ·rw[if_neg d] at h;rw[eU g] at d;obtain⟨n,k⟩:∃n,C.lookup (ae T p).2.1=some n:=by
    cases e:C.lookup (ae T p).2.1 with
    |none=>exact absurd e d
    |some n=>exact⟨n,rfl⟩
   by_cases a:(ae T q).2.2=0
   ·rw[if_neg (fun e=>e a)] at h;obtain⟨⟨j,c⟩,l⟩:=eZ i a;rw[eU c] at h;cases hl2:j.lookup (ae T q).2.1 with
    |some n2=>rw[hl2] at h;simp at h
    |none=>
     rw[hl2] at h;simp only[isSome_none,Bool.false_eq_true,if_false] at h;refine⟨b,f,⟨C,n,g,k⟩,a,l,⟨j,c,hl2⟩,?_⟩;cases e:(p++[47]).isPrefixOf q with
     |false=>rfl
     |true=>rw[e] at h;simp at h
   ·rw[if_pos a] at h;exact absurd h a
 ·rw[if_pos b] at h;exact absurd h b
section
variable {w w':World}{r gN s:Nat}{T:Wd}{Z:Int→Nat}{B G:Int→Nat}{V:Int→Value}{O:Nat→Prop}
theorem Di(p:List UInt8):((⟨p.toArray⟩:ByteArray)++⟨#[47]⟩)=⟨(p++[47]).toArray⟩:=Nv p [47]
theorem PT.Oy(h:PT w r T O)(k:bu T)(p q:List UInt8)(H:p.length<100000)(F:q.length<100000)(m:Int)(t:w.cell? ⟨4,0,none⟩=some (.int .i64 m))(g:eQ T p q≠0):Calls prog 180 #[wp r,tx p,tx q] w fun e E=>e=.returned (eF (eQ T p q))/\Below w.heap.size w E:=by
 obtain⟨K,s,B,G,V,h⟩:=h;have c:=h.num.pos k.toTrOk;unfold eQ at g ⊢;by_cases A:(ae T p).2.2=0
 ·rw[if_neg (fun e=>e A)] at g ⊢;cases hh:og T (ae T p).1 (ae T p).2.1 with
  |none=>
   rw[if_pos rfl];have l:=h.zV k.toTrOk c p H m t A hh;go_enter func180,ntmps180
   go_wp2_with (go_at_call 257;refine l.mono ?_;rintro e b ⟨rfl,a⟩)
   go_ret;refine⟨rfl,?_⟩
   repeat first|exact a|refine Below.alloc ?_ (by first|omega|(have:=a.size;omega) | (simp<;>omega)) _
  |some n=>
   rw[hh] at g;rw[if_neg (by simp)] at g ⊢;have l:=h.pz k.toTrOk c p H m t A hh;have u:∀b,Below w.heap.size w b->∀o,Below w.heap.size w (b.alloc o):=fun b a o=>a.alloc a.size _;by_cases f:(ae T q).2.2=0
   ·rw[if_neg (fun e=>e f)] at g ⊢;cases hh2:og T (ae T q).1 (ae T q).2.1 with
    |some n'=>
     rw[if_pos (show (some n').isSome=true from rfl)];have y:=fun b (a:Below w.heap.size w b)=>(h.below a).tQ k.toTrOk c q F m (aU t a) f hh2;generalize (ae T p).1=d at *;generalize (ae T p).2.1=nm at *;go_enter func180,ntmps180
     go_wp2_with (first
      |(go_at_call 257;refine l.mono ?_;rintro e b ⟨rfl,a⟩;have x:=y _ (u b a (.cells #[.map (some (G d)),tx nm] 283)))
      |(go_at_call 235;refine x.mono ?_;rintro e v ⟨rfl,D⟩))
     go_ret;have j:=u b a (.cells #[.map (some (G d)),tx nm] 283);have i:Below w.heap.size w v:=j.trans (D.mono j.size);refine⟨rfl,?_⟩
     repeat first|exact i|refine Below.alloc ?_ (by first|omega|(have:=i.size;omega) | (simp<;>omega)) _
    |none=>
     rw[hh2] at g;simp only[isSome_none,Bool.false_eq_true,if_false] at g ⊢;cases hpx:(p++[47]).isPrefixOf q with
     |false=>rw[hpx] at g;exact absurd (by simp) g
     |true=>
      rw[if_pos rfl];have y:=fun b (a:Below w.heap.size w b)=>(h.below a).nC k.toTrOk c q F m (aU t a) f hh2;have C:=Ag q (p++[47]);rw[hpx] at C;have L:=Di p;have I:¬9223372036854775807<p.length+1:=by omega
      generalize (ae T p).1=d at *;generalize (ae T p).2.1=nm at *;generalize (ae T q).1=d2 at *;generalize (ae T q).2.1=Dn at *;generalize p++[47]=p2 at *;go_enter func180,ntmps180
      go_wp2_with (first
       |(go_at_call 257;refine l.mono ?_;rintro e b ⟨rfl,a⟩;have x:=y _ (u b a (.cells #[.map (some (G d)),tx nm] 283)))
       |(go_at_call 235;refine x.mono ?_;rintro e v ⟨rfl,D⟩)
       |(go_at_call 258;refine(C _).mono ?_;rintro e E ⟨rfl,J⟩;subst E))
      go_ret;have j:=u b a (.cells #[.map (some (G d)),tx nm] 283);have i:Below w.heap.size w v:=j.trans (D.mono j.size);refine⟨rfl,?_⟩
      repeat first|exact i|refine Below.alloc ?_ (by first|omega|(have:=i.size;omega) | (simp<;>omega)) _
   ·rw[if_pos f] at g ⊢;have y:=fun b (a:Below w.heap.size w b)=>(h.below a).zK k.toTrOk c q F m (aU t a) f;generalize (ae T p).1=d at *;generalize (ae T p).2.1=nm at *;generalize (ae T q).2.2=z at *;go_enter func180,ntmps180
    go_wp2_with (first
     |(go_at_call 257;refine l.mono ?_;rintro e b ⟨rfl,a⟩;have x:=y _ (u b a (.cells #[.map (some (G d)),tx nm] 283)))
     |(go_at_call 235;refine x.mono ?_;rintro e v ⟨rfl,D⟩))
    go_ret;have j:=u b a (.cells #[.map (some (G d)),tx nm] 283);have i:Below w.heap.size w v:=j.trans (D.mono j.size);refine⟨rfl,?_⟩
    repeat first|exact i|refine Below.alloc ?_ (by first|omega|(have:=i.size;omega) | (simp<;>omega)) _
 ·rw[if_pos A] at g ⊢;have l:=h.Cf k.toTrOk c p H m t A;generalize (ae T p).2.2=z at *;go_enter func180,ntmps180
  go_wp2_with (go_at_call 257;refine l.mono ?_;rintro e b ⟨rfl,a⟩)
  go_ret;refine⟨rfl,?_⟩
  repeat first|exact a|refine Below.alloc ?_ (by first|omega|(have:=a.size;omega) | (simp<;>omega)) _
theorem xC(p:bu T){d n g:Int}{nm h:Nm}{C x:List (Nm×Int)}(o:T d=some (.dir C))(y:C.lookup nm=some n)(t:T g=some (.dir x))(s:x.lookup h=none)(z:isName h=true):∃r,aZ T d nm g=some (.dir r)/\r.lookup h=none/\r.length<=x.length/\(∀k,aM (gq (aZ T d nm) g h n) k=aM T k)/\bu (gq (aZ T d nm) g h n):=by
 obtain⟨r,a,m,l⟩:=X8 (d:=d) (nm:=nm) t s;have j:TrOk (aZ T d nm):=p.toTrOk.del d nm;have u:∀k,aM (gq (aZ T d nm) g h n) k=aM T k:=fun k=>by
  rw[qM j a];exact EF p.toTrOk o y k
 have f:=p.child d C nm n o y;have i:∀k c,aZ T d nm k=some c->∃b,T k=some b/\dW b=dW c:=fun k c e=>by
  by_cases q:k=d
  ·subst q;rw[jD o,aj] at e;cases e;exact⟨_,o,rfl⟩
  ·rw[jD o,ag _ q] at e;exact⟨c,e,rfl⟩
 refine⟨r,a,m,l,u,?_⟩;refine { toTrOk:=j.add a m z (by rw[Qd];exact f),nr:=by rw[u];exact p.nr,lv:=fun k c e=>?_ };rw[u];have:∃b,T k=some b/\dW b=dW c:=by
  by_cases q:k=g
  ·subst q;rw[j5 a,aj] at e;cases e
   obtain⟨b,w,v⟩:=i k _ a;exact⟨b,w,v⟩
  ·rw[j5 a,ag _ q] at e;exact i k c e
 obtain⟨b,w,v⟩:=this;rw[<-v];exact p.lv k b w
theorem bu.rename(c:bu T)(p q:List UInt8):bu (fD T p q):=by
 unfold fD;by_cases d:eQ T p q=0
 ·rw[if_neg (fun e=>e d)];obtain⟨_,_,⟨C,n,g,f⟩,_,i,⟨j,b,a⟩,_⟩:=vB c.toTrOk d;rw[eU g,f];obtain⟨_,_,_,_,_,h⟩:=xC c g f b a i;exact h
 ·rw[if_pos d];exact c
theorem PT.sZ(h:PT w r T O)(U:bu T)(p q:List UInt8)(hp:p.length<100000)(hq:q.length<100000)(m:Int)(hm:w.cell? ⟨4,0,none⟩=some (.int .i64 m))(hC:∀k C,T k=some (.dir C)->C.length<=1000)(hE:eQ T p q=0):Calls prog 180 #[wp r,tx p,tx q] w fun e f=>e=.returned .nilIface/\PT f r (fD T p q) O/\Stp w f O O:=by
 obtain⟨X,s,B,G,V,h⟩:=h;have A:=h.num.pos U.toTrOk;have H:=U.toTrOk;obtain⟨hz,N,⟨C,n,y,E⟩,K,FC,⟨C2,x,D⟩,M⟩:=vB H hE;have hU:fD T p q=gq (aZ T (ae T p).1 (ae T p).2.1) (ae T q).1 (ae T q).2.1 n:=by unfold fD;rw[if_neg (fun e=>e hE),eU y,E];rfl
 have Fu:=h.pz H A p hp m hm hz (n:=n) (by rw[eU y];exact E);have vQ:=fun a (g:Below w.heap.size w a)=>(h.below g).nC H A q hq m (aU hm g) K (by rw[eU x];exact D);obtain⟨C3,u,Q,P,S,_⟩:=xC U y E x D FC;have F:=Ag q (p++[47]);rw[M] at F;have QX:=Di p;have hbig:¬9223372036854775807<p.length+1:=by omega
 have hnl:=dQ N;have ajw:=dQ FC;have hCl:=hC _ C2 x;rw[hU];have Vx:∀a,Below w.heap.size w a->∀o,Below w.heap.size w (a.alloc o):=fun a g o=>g.alloc g.size _;generalize (ae T p).1=d at *;generalize (ae T p).2.1=nm at *;generalize (ae T q).1=d2 at *;generalize (ae T q).2.1=Dn at *;generalize p++[47]=p2 at *;have t:∀a,Below w.heap.size w a->Calls prog 259 #[uj (some (G d)) nm] a fun e f=>(∃v,e=.returned v)/\dJ f r X s (aZ T d nm) (aM T) B G V O/\Stp w f O O/\Stp a f O O:=fun a g=>by
  have l:=h.below g;refine(F6 (l.ll d C y) nm (by omega) (by simp only[E,map_some,isSome_some])).mono ?_;rintro e b ⟨L,J,z⟩;exact⟨L,l.del H y (by rw[E];rfl) z J,(Stp.below g).trans (.grown z (l.nT d C y)),.grown z (l.nT d C y)⟩
 have j:∀a,dJ a r X s (aZ T d nm) (aM T) B G V O->Calls prog 236 #[uj (some (G d2)) Dn,.int .i64 n] a fun e f=>(∃v,e=.returned v)/\PT f r (gq (aZ T d nm) d2 Dn n) O/\Stp a f O O:=fun a l=>by
  refine(Jl (l.ll d2 C3 u) (by unfold maxLen;omega) Dn (by omega) (by simp only[Q,map_none]) n).mono ?_;rintro e b ⟨L,J,z⟩;exact⟨L,⟨X,s,B,G,V,(l.add u z J).as rfl (fun k _=>S k)⟩,.grown z (l.nT d2 C3 u)⟩
 have R:∀ {a b:World}{i:Nat}{c:Array Value},Stp a b O O->w.heap.size<=i->a.heap[i]? = some (.cells c 283)->b.heap[i]? = some (.cells c 283):=fun {a b i c} st hi hc=>
  (st.wt.block i (Array.getElem?_eq_some_iff.1 hc).1 (fun ho=>by have:=h.lt i ho;omega)).trans hc
 generalize gq (aZ T d nm) d2 Dn n=TT at *;generalize aZ T d nm=TD at *;go_enter func180,ntmps180
 go_wp2_with (first
  |(go_at_call 257;refine Fu.mono ?_;rintro e a ⟨rfl,g⟩;have Y:=Vx a g (.cells #[.map (some (G d)),tx nm] 283);have vR:=vQ _ Y)
  |(go_at_call 235;refine vR.mono ?_;rintro e b ⟨rfl,b2⟩
    have b9:Below w.heap.size w b:=Y.trans (b2.mono Y.size);have Z:=Vx b b9 (.cells #[.map (some (G d2)),tx Dn] 283);have q1:(b.alloc (.cells #[.map (some (G d2)),tx Dn] 283)).heap[a.heap.size]? = some (.cells #[.map (some (G d)),tx nm] 283):=lZ ((b2.block _ (by simp)).trans (alloc_heap_new _ _)) _;have q2:(b.alloc (.cells #[.map (some (G d2)),tx Dn] 283)).heap[b.heap.size]? = some (.cells #[.map (some (G d2)),tx Dn] 283):=alloc_heap_new _ _;obtain⟨x0,x1,_,_⟩:=aN q1;have hS:=t _ Z)
  |(go_at_call 258;refine(F _).mono ?_;rintro e f ⟨rfl,hw'⟩;subst f)
  |(go_at_call 259;refine hS.mono ?_;rintro e w3 ⟨⟨v,rfl⟩,h3,wW,ae9⟩;obtain⟨y0,y1,_,_⟩:=aN (R ae9 b9.size q2);have W:=j w3 h3)
  |(go_at_call 236;refine W.mono ?_;rintro e w4 ⟨⟨v,rfl⟩,h4,I⟩))
 go_ret;exact⟨rfl,h4,wW.trans I⟩
theorem PT.Ox(h:PT w r T O)(i:bu T)(p q:List UInt8)(f:p.length<100000)(d:q.length<100000)(m:Int)(g:w.cell? ⟨4,0,none⟩=some (.int .i64 m))(j:∀k C,T k=some (.dir C)->C.length<=1000):Calls prog 180 #[wp r,tx p,tx q] w fun e c=>e=.returned (aI (eQ T p q))/\PT c r (fD T p q) O/\Stp w c O O:=by
 by_cases a:eQ T p q=0
 ·rw[a,aB];exact h.sZ i p q f d m g j a
 ·rw[ax a,show fD T p q=T by unfold fD;rw[if_pos a]];refine(h.Oy i p q f d m g a).mono ?_;rintro e c ⟨rfl,b⟩;exact⟨rfl,h.below b,.below b⟩
end
section
variable {w w':World}{r gN s:Nat}{T:Wd}{Z:Int→Nat}{B G:Int→Nat}{V:Int→Value}{O:Nat→Prop}
theorem PT.TY(h:PT w r T O)(y:bu T)(E:dD T s)(p:List UInt8)(x:p.length<100000)(m:Int)(H:w.cell? ⟨4,0,none⟩=some (.int .i64 m))(L:∀k C,T k=some (.dir C)->C.length<=1000):Calls prog 173 #[wp r,tx p] w (MkR w r T O s p true):=by
 obtain⟨N,R,B,G,V,h⟩:=h;obtain rfl:=E.one h.num;have f:(w.alloc (.map #[] 0)).heap.size=w.heap.size+1:=by simp
 have c:Below w.heap.size w ((w.alloc (.map #[] 0)).alloc (.cells #[.map (some w.heap.size),.slice none 0 0,.int .i64 0,.int .i64 0] 162)):=((Below.refl _ _).alloc (le_refl _) _).alloc (by rw[f];omega) _;have A:=h.below c;have j:=aU H c;have n:=CB w;have K:=Cc w (.map #[] 0) (.cells #[.map (some w.heap.size),.slice none 0 0,.int .i64 0,.int .i64 0] 162);have v:SMap ((w.alloc (.map #[] 0)).alloc (.cells #[.map (some w.heap.size),.slice none 0 0,.int .i64 0,.int .i64 0] 162)) w.heap.size 0 (fun _=>none):=(SMap.made w).keep (heap_alloc _ _ _ (by rw[f];omega));generalize (w.alloc (.map #[] 0)).alloc (.cells #[.map (some w.heap.size),.slice none 0 0,.int .i64 0,.int .i64 0] 162)=wA at *;by_cases t:aY T s p=0
 ·have a:=A.Na y p (w.heap.size+1) w.heap.size true x m j L K (fun d=>by have:=h.lt _ d;omega) (fun _=>⟨v,fun d=>by have:=h.lt _ d;omega⟩) t;go_enter Tryz.func173,Tryz.ntmps173
  go_wp2_with (first
   |(go_at_call 37;refine n.mono ?_;rintro e g ⟨rfl,u⟩;subst g)
   |(go_at_call 246;refine a.mono ?_;rintro e D ⟨k,I,Q,rfl,M,o⟩))
  go_ret2;refine .inr ⟨t,k,_,I,Q,rfl,M,⟨⟨o.os.trans c.os,o.tape.trans c.tape,o.output.trans c.output,le_trans c.size o.size,fun i q F=>?_⟩,fun i q=>?_⟩⟩
  ·refine(o.block i (lt_of_lt_of_le q c.size) (fun d=>?_)).trans (c.block i q);rcases d with d|rfl|⟨rfl,e⟩
   ·exact F d
   ·omega
   ·omega
  ·rcases q with d|rfl|⟨rfl,e⟩
   ·exact .inl d
   ·exact .inr (by omega)
   ·exact .inr (le_refl _)
 ·have a:=A.zi y.toTrOk p (w.heap.size+1) x m j t;have l:∀e g,e=.returned (.tuple #[.int .i64 0,eF (aY T s p)])->Below w.heap.size w g->MkR w r T O s p true e g:=fun e g J b=>.inl ⟨t,J,⟨N,s,B,G,V,h.below b⟩,.below b⟩;generalize aY T s p=z at *;go_enter Tryz.func173,Tryz.ntmps173
  go_wp2_with (first
   |(go_at_call 37;refine n.mono ?_;rintro e g ⟨rfl,u⟩;subst g)
   |(go_at_call 246;refine a.mono ?_;rintro e D ⟨rfl,P⟩))
  go_ret2;exact l _ _ rfl (c.trans (P.mono c.size))
end
end Go.Proofs.YtippochapiolpaaGreatDoor

/- Ours. -/
import Derived.Test.YtippochapiolpaaGreatDoorJAbs
import Derived.Lib.ConvBytes
import Derived.Lib.LazyBuf
import Derived.Test.YtippochapiolpaaGreatDoorUPath
import Derived.BigQuiet
set_option maxHeartbeats 4000000
set_option maxRecDepth 100000
namespace Go.Proofs.YtippochapiolpaaGreatDoor
open Go.Proofs.Tryz(func235 func257 func300 ntmps235 ntmps257 ntmps300 prog results235 results257 results300 underlying160)
open List(filter_cons length_append length_cons length_drop length_take lookup map_cons)
open Option(getD_none getD_some isSome_none isSome_some map_none map_some)
open Nat(le_refl lt_of_lt_of_le)
section
open Go.RowKit Go.Maps
def cnt1:Option Nd->Int->Nat
 |some (.dir C),k=>(C.filter (fun x=>decide (x.2=k))).length
 |_,_=>0
def kX(T:Wd)(k:Int):Nat->Nat
 |0=>0
 |m+1=>kX T k m+cnt1 (T m) k
def aM(T:Wd)(k:Int):Nat:=kX T k 64
theorem tX{T T':Wd}{k:Int}:∀m:Nat,(∀i:Nat,i<m->cnt1 (T' i) k=cnt1 (T i) k)->kX T' k m=kX T k m
 |0,_=>rfl
 |m+1,h=>by rw[kX,kX,tX m (fun i a=>h i (by omega)),h m (by omega)]
theorem De{T T':Wd}{k:Int}{d:Nat}(a:∀i:Nat,i≠d->cnt1 (T' i) k=cnt1 (T i) k):∀m:Nat,d<m->kX T' k m+cnt1 (T d) k=kX T k m+cnt1 (T' d) k
 |0,h=>by omega
 |m+1,h=>by
  rw[kX,kX];by_cases e:m=d
  ·subst e;rw[tX m (fun i b=>a i (by omega))];omega
  ·have:=De a m (by omega);rw[a m e];omega
theorem G7{T T':Wd}{k d:Int}(c:0<=d)(b:d<64)(h:∀i,i≠d->cnt1 (T' i) k=cnt1 (T i) k):aM T' k+cnt1 (T d) k=aM T k+cnt1 (T' d) k:=by
 obtain⟨e,rfl⟩:∃e:Nat,d=e:=⟨d.toNat,by omega⟩;exact De (fun i a=>h i (by omega)) 64 (by omega)
theorem wT{T T':Wd}{k:Int}(h:∀i,cnt1 (T' i) k=cnt1 (T i) k):aM T' k=aM T k:=tX 64 (fun i _=>h i)
theorem wS{T:Wd}{k:Int}:∀m:Nat,kX T k m≠0->∃i:Nat,i<m/\cnt1 (T i) k≠0
 |0,h=>absurd rfl h
 |m+1,h=>by
  rw[kX] at h;by_cases e:cnt1 (T m) k=0
  ·obtain⟨i,c,a⟩:=wS (T:=T) (k:=k) m (fun b=>h (by rw[b,e]));exact⟨i,by omega,a⟩
  ·exact⟨m,by omega,e⟩
theorem G6{T:Wd}{k:Int}{i:Nat}:∀m:Nat,i<m->cnt1 (T i) k<=kX T k m
 |0,h=>by omega
 |m+1,h=>by
  rw[kX];by_cases e:i=m
  ·subst e;omega
  ·have:=G6 (T:=T) (k:=k) m (show i<m by omega);omega
theorem UR{C:List (Nm×Int)}{k:Int}(h:cnt1 (some (.dir C)) k≠0):∃s,(s,k)∈C:=by
 unfold cnt1 at h;obtain⟨⟨s,n⟩,a⟩:=List.exists_mem_of_length_pos (Nat.pos_of_ne_zero h);rw[List.mem_filter] at a;have e:n=k:=by simpa using a.2
 exact⟨s,by rw[<-e];exact a.1⟩
theorem UT{C:List (Nm×Int)}{s:Nm}{k:Int}(h:(s,k)∈C):cnt1 (some (.dir C)) k≠0:=by
 unfold cnt1;exact Nat.ne_of_gt (List.length_pos_of_mem (List.mem_filter.2 ⟨h,by simp⟩))
theorem tH:∀ {C:List (Nm×Int)}{s:Nm}{n:Int},(C.map (·.1)).Nodup->(s,n)∈C->C.lookup s=some n
 |(a,b)::C,s,n,hn,h=>by
  rw[map_cons,List.nodup_cons] at hn;rcases List.mem_cons.1 h with e|h
  ·cases e;simp[lookup]
  ·have c:s≠a:=fun e=>hn.1 (by rw[<-e];exact List.mem_map.2 ⟨(s,n),h,rfl⟩);have:(s==a)=false:=by simp[c]
   rw[lookup,this];exact tH hn.2 h
theorem ny{T:Wd}(f:TrOk T)(n:Int):Led T n↔n=0\/aM T n≠0:=by
 unfold Led;constructor
 ·rintro (h|⟨k,C,s,d,j⟩)
  ·exact .inl h
  ·right;have c:=f.key k (by rw[d];rfl);obtain⟨e,rfl⟩:∃e:Nat,k=e:=⟨k.toNat,by omega⟩;have m:=UT (pF j);have l:=G6 (T:=T) (k:=n) (i:=e) 64 (by omega);rw[d] at l;unfold aM;omega
 ·rintro (h|h)
  ·exact .inl h
  ·right;obtain⟨i,_,a⟩:=wS 64 h;cases hd:T (i:Int) with
   |none=>rw[hd] at a;exact absurd rfl a
   |some nd=>cases nd with
    |file b x=>rw[hd] at a;exact absurd rfl a
    |dir C=>
     rw[hd] at a;obtain⟨s,g⟩:=UR a;exact⟨i,C,s,hd,tH (f.nodup _ _ hd) g⟩
structure bu (T:Wd):Prop extends TrOk T where
 nr:aM T 0=0
 lv:∀k nd,T k=some nd->k=0\/aM T k≠0\/dW nd≠0
def pY(T:Wd)(n:Int):Wd:=fun k=>if k=n then none else T k
theorem fe{T:Wd}{n k:Int}(h:k≠n):pY T n k=T k:=if_neg h
theorem jl(T:Wd)(n:Int):pY T n n=none:=if_pos rfl
theorem Ff{T:Wd}{n:Int}{x:Nd}(h:T n=none)(a:∀k,cnt1 (some x) k=0)(k:Int):aM (cB T n x) k=aM T k:=wT (fun i=>by
 by_cases e:i=n
 ·subst e;rw[aj,h,a];rfl
 ·rw[ag _ e])
theorem kJ{T:Wd}{n:Int}{b b':List UInt8}{x x':Nat}(h:T n=some (.file b x))(k:Int):aM (cB T n (.file b' x')) k=aM T k:=wT (fun i=>by
 by_cases e:i=n
 ·subst e;rw[aj,h];rfl
 ·rw[ag _ e])
theorem EE{T:Wd}{n:Int}(h:∀k,cnt1 (T n) k=0)(k:Int):aM (pY T n) k=aM T k:=wT (fun i=>by
 by_cases e:i=n
 ·subst e;rw[jl,h];rfl
 ·rw[fe e])
theorem qM{T:Wd}(f:TrOk T){d n:Int}{nm:Nm}{C:List (Nm×Int)}(b:T d=some (.dir C))(k:Int):aM (gq T d nm n) k=aM T k+if k=n then 1 else 0:=by
 have a:=f.key d (by rw[b];rfl);rw[j5 b];have g:=G7 (T:=T) (T':=cB T d (.dir ((nm,n)::C))) (k:=k) a.1 a.2 (fun i c=>by rw[ag _ c]);rw[aj,b] at g;have h:cnt1 (some (.dir ((nm,n)::C))) k=cnt1 (some (.dir C)) k+if k=n then 1 else 0:=by
  simp only[cnt1,filter_cons];by_cases e:n=k
  ·subst e;simp
  ·simp[e,Ne.symm e]
 omega
theorem AR{nm:Nm}{n:Int}:∀ {C:List (Nm×Int)},(C.map (·.1)).Nodup->C.lookup nm=some n->∀k,((C.filter (fun x=>x.1 != nm)).filter (fun x=>decide (x.2=k))).length+(if k=n then 1 else 0)=(C.filter (fun x=>decide (x.2=k))).length
 |(a,b)::C,hn,hl,k=>by
  rw[map_cons,List.nodup_cons] at hn;by_cases e:nm=a
  ·subst e;have h:b=n:=by simpa[lookup] using hl
   subst h;have g:=qQ hn.1;simp only[filter_cons,bne_self_eq_false,Bool.false_eq_true,if_false,g];by_cases c:b=k
   ·simp[c]
   ·simp[c,Ne.symm c]
  ·have f:(nm==a)=false:=by simp[e]
   rw[lookup,f] at hl;have i:=AR hn.2 hl k;have d:(a != nm)=true:=by simp[Ne.symm e]
   simp only[filter_cons,d,if_true];by_cases c:b=k
   ·simp only[c,decide_true,if_true,length_cons];omega
   ·simp only[c,decide_false,Bool.false_eq_true,if_false];omega
theorem EF{T:Wd}(c:TrOk T){d n:Int}{nm:Nm}{C:List (Nm×Int)}(b:T d=some (.dir C))(f:C.lookup nm=some n)(k:Int):aM (aZ T d nm) k+(if k=n then 1 else 0)=aM T k:=by
 have a:=c.key d (by rw[b];rfl);rw[jD b];have e:=G7 (T:=T) (T':=cB T d (.dir (C.filter (fun x=>x.1 != nm)))) (k:=k) a.1 a.2 (fun i g=>by rw[ag _ g]);rw[aj,b] at e;have h:=AR (c.nodup d C b) f k;simp only[cnt1] at e;omega
theorem Ch{T:Wd}(b:TrOk T)(n:Int)(i:∀k nd,k≠n->T k=some nd->k=0\/aM T k≠0\/dW nd≠0)(nd:Nd)(d:T n=some nd)(j:n≠0):iP T=if aM T n=0/\dW nd=0 then pY T n else T:=by
 have c:∀k,k≠n->iP T k=T k:=fun k c=>qN (fun nd h=>by
  rcases i k nd c h with e|e|e
  ·exact .inl ((ny b k).2 (.inl e))
  ·exact .inl ((ny b k).2 (.inr e))
  ·exact .inr e)
 funext k;by_cases e:k=n
 ·subst e;by_cases a:aM T k=0/\dW nd=0
  ·rw[if_pos a,jl];exact NZ d (fun h=>by
    rcases h with h|h
    ·rcases (ny b k).1 h with e|e
     ·exact j e
     ·exact e a.1
    ·exact h a.2)
  ·rw[if_neg a];refine qN (fun m f=>?_);rw[d] at f;cases f
   by_cases g:aM T k=0
   ·exact .inr (fun l=>a ⟨g,l⟩)
   ·exact .inl ((ny b k).2 (.inr g))
 ·rw[c k e];split
  ·rw[fe e]
  ·rfl
theorem zY{T:Wd}(b:TrOk T)(c:∀k a,T k=some a->k=0\/aM T k≠0\/dW a≠0):iP T=T:=by
 funext k;exact qN (fun a h=>by
  rcases c k a h with e|e|e
  ·exact .inl ((ny b k).2 (.inl e))
  ·exact .inl ((ny b k).2 (.inr e))
  ·exact .inr e)
end
section
open Go.RowKit
def IP(l:List UInt8):List Value:=l.map fun x=>Value.int .u8 (x.toNat:Int)
def Vi(w:World)(B:Nat)(v:Value)(l:List UInt8):Prop:=
 ∃g cap,v=.slice (some ⟨g,0,none⟩) l.length cap/\B<=g/\g<w.heap.size/\l.length<=cap/\(∀j (h:j<l.length),w.cell? ⟨g,j,none⟩=some (.int .u8 (l[j].toNat:Int)))/\∀j,j<cap->(w.cell? ⟨g,j,none⟩).isSome=true/\w.frozen? ⟨g,j,none⟩=false
theorem VV{l:List UInt8}{j:Nat}{u:Value}(h:(IP l)[j]? = some u):∃a:j<l.length,u=.int .u8 (l[j].toNat:Int):=by
 unfold IP at h;rw[List.getElem?_map] at h;cases e:l[j]? with
 |none=>rw[e] at h;cases h
 |some x=>
  rw[e] at h;obtain⟨a,b⟩:=List.getElem?_eq_some_iff.1 e;exact⟨a,by rw[b];exact(Option.some.inj h).symm⟩
section
variable {w w':World}{B:Nat}{v:Value}{l:List UInt8}
end
theorem gy{B b:Nat}{a:World}(c:B<=b):∀(d:List Value) (o:Nat) (w:World),Below B a w->Below B a (w.setCells b o d)
 | [],_,_,h=>h
 |v::r,o,_,h=>gy c r (o+1) _ (h.setCell (p:=⟨b,o,none⟩) c v)
section
variable {w w':World}{B:Nat}{v:Value}{l:List UInt8}
end
end
section
open Go.RowKit Go.Maps
section
variable {w w':World}{B:Nat}{v:Value}{l:List UInt8}
theorem Vi.copy{g cap:Nat}(q:v=.slice (some ⟨g,0,none⟩) l.length cap)(h:Vi w B v l)(a:Nat)(x:List UInt8)(z:a+x.length<=l.length)(p:TypeId):(Builtin.copy_ #[34,9] p #[.slice (some ⟨g,a,none⟩) (l.length-a) (cap-a),tx x]).run prog w=.ok (.int .i64 (x.length:Int)) (w.setCells g a (IP x))/\Vi (w.setCells g a (IP x)) B v (l.take a++x++l.drop (a+x.length))/\B<=g:=by
 obtain⟨A,y,e,t,m,r,u,d⟩:=h;rw[q] at e;cases e
 have i:(⟨x.toArray⟩:ByteArray).size=x.length:=by simp[ByteArray.size]
 have f:(IP x).length=x.length:=by unfold IP;rw[List.length_map]
 have s:∀j,j<(IP x).length->(w.cell? ⟨g,a+j,none⟩).isSome=true:=fun j b=>(d _ (by omega)).1;refine⟨?_,⟨g,cap,?_,t,lt_of_lt_of_le m (gy (B:=0) (a:=w) (Nat.zero_le _) _ _ _ (Below.refl _ _)).size,?_,fun j b=>?_,fun j b=>?_⟩,t⟩
 ·have:=run_copy_string (P:=prog) w 34 9 p 5 g a (l.length-a) (cap-a) ⟨x.toArray⟩ Tryz.underlying34 (fun w=>by kernel_rfl) (by rw[i];omega) (fun j b=>(d _ (by rw[i] at b;omega)).1) (fun j b=>(d _ (by rw[i] at b;omega)).2);rw[i] at this;exact this
 ·rw[q,length_append,length_append,length_take,length_drop];congr 1;omega
 ·rw[length_append,length_append,length_take,length_drop];omega
 ·rw[length_append,length_append,length_take,length_drop] at b;by_cases n:j<a
  ·rw[World.cell?_setCells_out _ _ _ _ _ (fun _ _=>.inl n),List.getElem_append_left (by rw[length_append,length_take];omega),List.getElem_append_left (by rw[length_take];omega),List.getElem_take];exact u j (by omega)
  ·by_cases C:j<a+x.length
   ·obtain⟨k,rfl⟩:∃k,j=a+k:=⟨j-a,by omega⟩;have c:k<x.length:=by omega
    have e:(l.take a++x++l.drop (a+x.length))[a+k]? = some x[k]:=by
     rw[List.append_assoc,List.getElem?_append_right (by rw[length_take];omega),length_take,show a+k-min a l.length=k by omega,List.getElem?_append_left c,List.getElem?_eq_getElem c]
    obtain⟨_,o⟩:=List.getElem?_eq_some_iff.1 e;rw[World.cell?_setCells_in g (IP x) a w s k (by rw[f];omega),o];simp only[IP,List.getElem_map]
   ·have c:j<l.length:=by omega
    have e:(l.take a++x++l.drop (a+x.length))[j]? = some l[j]:=by
     rw[List.getElem?_append_right (by rw[length_append,length_take];omega),length_append,length_take,List.getElem?_drop,show a+x.length+(j-(min a l.length+x.length))=j by omega,List.getElem?_eq_getElem c]
    obtain⟨_,o⟩:=List.getElem?_eq_some_iff.1 e;rw[World.cell?_setCells_out _ _ _ _ _ (fun _ _=>.inr (by rw[f];show _<=j;omega)),o];exact u j c
 ·rw[World.frozen?_setCells];refine⟨?_,(d j b).2⟩;by_cases n:j<a\/a+x.length<=j
  ·rw[World.cell?_setCells_out _ _ _ _ _ (fun _ _=>by rw[f];exact n)];exact(d j b).1
  ·obtain⟨k,rfl⟩:∃k,j=a+k:=⟨j-a,by omega⟩;rw[World.cell?_setCells_in g (IP x) a w s k (by rw[f];omega)];rfl
end
structure afT (p:Prop):Prop where
 out:p
def Dat(w:World)(v:Value)(b:List UInt8):Prop:=
 (b=[]/\v=.slice none 0 0)\/∃g c,v=.slice (some ⟨g,0,none⟩) b.length c/\b.length<=c/\g<w.heap.size/\∀j (h:j<b.length),w.cell? ⟨g,j,none⟩=some (.int .u8 (b[j].toNat:Int))
def BN:Value->Option Nat
 |.slice (some a) _ _=>some a.block
 |_=>none
theorem Dat.keep{w w':World}{v:Value}{b:List UInt8}(h:Dat w v b)(d:∀i,BN v=some i->w'.heap[i]? = w.heap[i]?)(l:w.heap.size<=w'.heap.size):Dat w' v b:=by
 rcases h with h|⟨g,c,rfl,k,m,f⟩
 ·exact .inl h
 ·exact .inr ⟨g,c,rfl,k,by omega,fun j e=>by rw[World.cell?_of_block (w:=w) (a:=⟨g,j,none⟩) (d g rfl)];exact f j e⟩
theorem Dat.lt{w:World}{v:Value}{b:List UInt8}(h:Dat w v b){i:Nat}(a:BN v=some i):i<w.heap.size:=by
 rcases h with⟨_,rfl⟩|⟨g,c,rfl,_,d,_⟩
 ·cases a
 ·cases a;exact d
def dY(G:Int->Nat)(V:Int->Value)(Z:Int->Nat)(k:Int):Nd->Array Value
 |.dir _=>#[.map (some (G k)),.slice none 0 0,.int .i64 (Z k:Int),.int .i64 0]
 |.file _ h=>#[.map none,V k,.int .i64 (Z k:Int),.int .i64 (h:Int)]
structure dJ (w:World) (r gN s:Nat) (T:Wd) (Z:Int->Nat) (B G:Int->Nat) (V:Int->Value) (O:Nat->Prop):Prop where
 head:w.heap[r]? = some (.cells #[.map (some gN)] 104)
 map:aK w gN s (fun k=>(T k).map (fun _=>wp (B k)))
 node:∀k nd,T k=some nd->w.heap[B k]? = some (.cells (dY G V Z k nd) 162)
 ll:∀k C,T k=some (.dir C)->SMap w (G k) C.length (fun nm=>(C.lookup nm).map (.int .i64 ·))
 data:∀k b h,T k=some (.file b h)->Dat w (V k) b
 sep:∀k C,T k=some (.dir C)->G k≠gN
 inj:∀k k' C C',T k=some (.dir C)->T k'=some (.dir C')->G k=G k'->k=k'
 Np:∀k k',(T k).isSome=true->(T k').isSome=true->B k=B k'->k=k'
 yE:O r
 sj:O gN
 ownB:∀k,(T k).isSome=true->O (B k)
 nT:∀k C,T k=some (.dir C)->O (G k)
 Fz:∀k b h i,T k=some (.file b h)->BN (V k)=some i->O i
 lt:∀i,O i->i<w.heap.size
section
variable {w w':World}{r gN s:Nat}{T:Wd}{Z:Int→Nat}{B G:Int→Nat}{V:Int→Value}{O:Nat→Prop}
theorem dJ.keep(h:dJ w r gN s T Z B G V O)(a:∀i,O i->w'.heap[i]? = w.heap[i]?)(d:w.heap.size<=w'.heap.size):dJ w' r gN s T Z B G V O:=
 ⟨(a r h.yE).trans h.head,h.map.keep (a gN h.sj),fun k f e=>(a _ (h.ownB k (by rw[e];rfl))).trans (h.node k f e),fun k C e=>(h.ll k C e).keep (a _ (h.nT k C e)),fun k b x e=>(h.data k b x e).keep (fun i c=>a i (h.Fz k b x i e c)) d,h.sep,h.inj,h.Np,h.yE,h.sj,h.ownB,h.nT,h.Fz,fun i c=>lt_of_lt_of_le (h.lt i c) d⟩
theorem dJ.below(h:dJ w r gN s T Z B G V O)(a:Below w.heap.size w w'):dJ w' r gN s T Z B G V O:=h.keep (fun i b=>a.block i (h.lt i b)) a.size
theorem dJ.drew(h:dJ w r gN s T Z B G V O)(q:Nat):dJ (w.drewN q) r gN s T Z B G V O:=h.keep (fun _ _=>rfl) (le_refl _)
theorem dJ.c0(h:dJ w r gN s T Z B G V O):w.cell? ⟨r,0,none⟩=some (.map (some gN)):=by rw[cell_of_row w r 0 _ _ _ h.head];rfl
theorem dJ.yK(h:dJ w r gN s T Z B G V O){k:Int}{C:List (Nm×Int)}(e:T k=some (.dir C)):w.cell? ⟨B k,0,none⟩=some (.map (some (G k)))/\w.cell? ⟨B k,1,none⟩=some (.slice none 0 0)/\w.cell? ⟨B k,2,none⟩=some (.int .i64 (Z k:Int))/\w.cell? ⟨B k,3,none⟩=some (.int .i64 0):=by
 refine⟨?_,?_,?_,?_⟩<;>(rw[cell_of_row w (B k) _ _ _ _ (h.node k _ e)];rfl)
theorem dJ.ql(h:dJ w r gN s T Z B G V O){k:Int}{b:List UInt8}{x:Nat}(e:T k=some (.file b x)):w.cell? ⟨B k,0,none⟩=some (.map none)/\w.cell? ⟨B k,1,none⟩=some (V k)/\w.cell? ⟨B k,2,none⟩=some (.int .i64 (Z k:Int))/\w.cell? ⟨B k,3,none⟩=some (.int .i64 (x:Int)):=by
 refine⟨?_,?_,?_,?_⟩<;>(rw[cell_of_row w (B k) _ _ _ _ (h.node k _ e)];rfl)
theorem dJ.ru(h:dJ w r gN s T Z B G V O){k:Int}{nd:Nd}(e:T k=some nd)(j:Nat):w.frozen? ⟨B k,j,none⟩=false:=by simp[World.frozen?,h.node k nd e]
theorem JJ(w:World):(zeroValue 100).run prog w=.ok (.pointer none) w:=by kernel_rfl
theorem dJ.look(h:dJ w r gN s T Z B G V O)(n:Int)(a:(Lit.int .i64 n).wf=true):(Instr.lookup 102 (.map (some gN)) (.int .i64 n) false).run prog w=.ok (if (T n).isSome then wp (B n) else .pointer none) w:=by
 rw[h.map.look Tryz.underlying102 (JJ _) n a];cases T n<;>rfl
theorem dJ.oC(h:dJ w r gN s T Z B G V O):Calls prog 142 #[wp r] w fun e a=>e=.returned (.int .i64 (s:Int))/\a=w:=by
 have c:=h.c0;have b:=h.map;go_enter Tryz.func142,Tryz.ntmps142
 go_wp2_with (refine ik rfl _ 102 rfl 100 Tryz.underlying102 gN _ _ rfl b ?_)
 go_ret;exact⟨rfl,rfl⟩
theorem aa6(g:Nat)(w:World):(binOp BinOp.neq 160 (.map (some g)) (.map none)).run prog w=.ok (.bool true) w:=by kernel_rfl
theorem XP(w:World):(binOp BinOp.neq 160 (.map none) (.map none)).run prog w=.ok (.bool false) w:=by kernel_rfl
theorem rH{b:Nat}{g:Nat}(h:w.cell? ⟨b,0,none⟩=some (.map (some g))):Calls prog 237 #[wp b] w fun e a=>e=.returned (.bool true)/\a=w:=by
 have c:=aa6 g w;go_enter Tryz.func237,Tryz.ntmps237
 go_wp2_with fail
 go_ret;exact⟨rfl,rfl⟩
theorem u6{b:Nat}(h:w.cell? ⟨b,0,none⟩=some (.map none)):Calls prog 237 #[wp b] w fun e a=>e=.returned (.bool false)/\a=w:=by
 have c:=XP w;go_enter Tryz.func237,Tryz.ntmps237
 go_wp2_with fail
 go_ret;exact⟨rfl,rfl⟩
end
theorem abj(z:List UInt8)(d:z.length<100000)(w:World)(m:Int)(c:w.cell? ⟨4,0,none⟩=some (.int .i64 m)):Calls prog 334 #[tx z,.string ⟨#[47]⟩] w fun e a=>e=.returned (.tuple #[tx (Lib.cut z [47]).1,tx (Lib.cut z [47]).2.1,.bool (Lib.cut z [47]).2.2])/\∃n,a=w.drewN n:=by
 have b:(⟨z.toArray⟩:ByteArray).size=z.length:=by simp[ByteArray.size]
 exact Any.strings_Cut Tryz.cutL ⟨z.toArray⟩ ⟨#[47]⟩ m w (by rw[b];omega) c
theorem Da(w:World)(k j:Nat):(w.drewN k).drewN j=w.drewN (k+j):=by simp[World.drewN,Nat.add_assoc]
theorem UM{q:List UInt8}(h:q≠[]):(Lib.cut q [47]).2.1.length<q.length:=by
 have a:0<q.length:=List.length_pos_iff.2 h;unfold Lib.cut;split
 ·simp only[length_drop,length_cons,List.length_nil];omega
 ·exact a
section
variable {w w':World}{r gN s:Nat}{T:Wd}{Z:Int→Nat}{B G:Int→Nat}{V:Int→Value}{O:Nat→Prop}
theorem dJ.MH(h:dJ w r gN s T Z B G V O)(Y:TrOk T)(hs:1<=s)(q:List UInt8)(l:List Nm)(hq:Jn q l)(hn:∀x∈l,isName x=true)(hql:q.length<100000)(m:Int)(hm:w.cell? ⟨4,0,none⟩=some (.int .i64 m)):Calls prog 299 #[wp r,tx q] w fun e a=>e=.returned (.tuple #[.int .i64 (fG T 0 l).1,aI (fG T 0 l).2])/\∃n,a=w.drewN n:=by
 have hN:=h.oC;have hs0:((s:Int)==0)=false:=by simp;omega
 obtain⟨R,hR⟩:∃R,fG T 0 l=R:=⟨_,rfl⟩;rw[hR];go_enter Tryz.func299,Tryz.ntmps299
 go_wp2_with (go_at_call 142;refine hN.mono ?_;rintro e a ⟨rfl,b⟩;subst a)
 go_loopg [1,6] q.length (fun mm s1 s6 wr=>∃(c:List UInt8) (p:List Nm) (n:Int) (k:Nat),mm=c.length/\c.length<=q.length/\s1=tx c/\s6=.int .i64 n/\Jn c p/\(∀x∈p,isName x=true)/\(T n).isSome=true/\fG T n p=R/\wr=w.drewN k)
 case atStart=>exact⟨q,l,0,0,rfl,le_refl _,rfl,rfl,hq,hn,by obtain⟨C,e⟩:=Y.root;rw[e];rfl,hR,rfl⟩
 case round=>
  obtain⟨c,p,n,k,hmm,hle,rfl,rfl,D,g,d,f,M⟩:=hrel;have o:=h.drew k;have v:(w.drewN k).cell? ⟨4,0,none⟩=some (.int .i64 m):=hm;rw[<-M] at o v;have I:afT (wr=w.drewN k):=⟨M⟩;clear M;have c0:=o.c0;have z:=Y.key n d;have L:(Lit.int .i64 n).wf=true:=gT z.1 (by omega);have Q:=o.look n L;rw[if_pos d] at Q;cases p with
  |nil=>
   obtain rfl:=D.nil;rw[Pn] at f;subst f;go_wp2_with fail
   go_ret2;exact⟨rfl,k,I.out⟩
  |cons x t=>
   have hqe:(c==[])=false:=by simp[D.ne]
   have hx:=g x List.mem_cons_self;obtain⟨X,W⟩:=D.cut (fun y K=>CS (g y (List.mem_cons_of_mem _ K)));have S:=UM D.ne;have hcut:=abj c (by omega) wr m v;rw[X] at hcut;generalize (Lib.cut c [47]).2.1=q2 at *;generalize (Lib.cut c [47]).2.2=fnd at *;have u:x.length<=maxLen:=by have:=dQ hx;unfold maxLen;omega
   by_cases U:∃C,T n=some (.dir C)
   ·obtain⟨C,A⟩:=U;obtain⟨J,_⟩:=o.yK A;have H:=rH J;have Be:∀j,SMap (wr.drewN j) (G n) C.length (fun nm=>(C.lookup nm).map (.int .i64 ·)):=fun j=>(o.ll n C A).keep rfl;cases hlx:C.lookup x with
    |none=>
     rw[AA _ A hlx] at f;subst f;go_wp2_with (first
      |(go_at_call 237;refine H.mono ?_;rintro e a ⟨rfl,b⟩;subst a)
      |(go_at_call 334;refine hcut.mono ?_;rintro e a ⟨rfl,j,b⟩;subst a;have i:=Be j)
      |(at_lookup;refine fT rfl _ _ 160 rfl 3 underlying160 _ (zero_num _) (G n) _ _ rfl i x rfl u ?_;simp only[hlx,map_none,getD_none,isSome_none]))
     go_ret2;exact⟨rfl,k+j,by rw[I.out];exact Da w k j⟩
    |some n'=>
     rw[Az _ A hlx] at f;have P:=Y.child n C x n' A hlx;have N:∀y∈t,isName y=true:=fun y K=>g y (List.mem_cons_of_mem _ K);go_wp2_with (first
      |(go_at_call 237;refine H.mono ?_;rintro e a ⟨rfl,b⟩;subst a)
      |(go_at_call 334;refine hcut.mono ?_;rintro e a ⟨rfl,j,b⟩;subst a;have i:=Be j)
      |(at_lookup;refine fT rfl _ _ 160 rfl 3 underlying160 _ (zero_num _) (G n) _ _ rfl i x rfl u ?_;simp only[hlx,map_some,getD_some,isSome_some]))
     go_roundg (q2.length)
     case measure=>omega
     case rel=>exact⟨q2,t,n',k+j,rfl,by omega,rfl,rfl,W,N,P,f,by rw[I.out];exact Da w k j⟩
   ·rw[AB _ (fun C e=>U ⟨C,e⟩)] at f;subst f;obtain⟨F,E,hF⟩:∃F E,T n=some (.file F E):=by
     cases e:T n with
     |none=>rw[e] at d;cases d
     |some nd=>cases nd with
      |dir C=>exact absurd ⟨C,e⟩ U
      |file F E=>exact⟨F,E,rfl⟩
    obtain⟨J,_⟩:=o.ql hF;have H:=u6 J;go_wp2_with (go_at_call 237;refine H.mono ?_;rintro e a ⟨rfl,b⟩;subst a)
    go_ret2;exact⟨rfl,k,I.out⟩
end
theorem Br(z:List UInt8)(W:World):Calls prog 336 #[tx z,.string ⟨#[47]⟩] W fun e a=>e=.returned (tx (Lib.trimPrefix z [47]))/\a=W:=
 Any.strings_TrimPrefix Tryz.trimPrefixL ⟨z.toArray⟩ ⟨#[47]⟩ W
theorem Iu(z:List UInt8)(c:z.length<100000)(W:World):Calls prog 335 #[tx z,.int .u8 47] W fun e a=>e=.returned (.int .i64 (Lib.lastIndexByte ⟨z.toArray⟩ 47))/\a=W:=by
 have b:(⟨z.toArray⟩:ByteArray).size=z.length:=by simp[ByteArray.size]
 exact Any.strings_LastIndexByte Tryz.lastByteL ⟨z.toArray⟩ 47 (by rw[b];omega) W
theorem SF(p:List UInt8)(i:Nat):(Lib.trimPrefix (p.take i) [47]).length<=p.length:=by
 unfold Lib.trimPrefix;split
 ·simp;omega
 ·simp;omega
section
variable {w w':World}{r gN s:Nat}{T:Wd}{Z:Int→Nat}{B G:Int→Nat}{V:Int→Value}{O:Nat→Prop}
theorem xP{B:Nat}(h:Below B w w'):Below B w w'.drew:=⟨h.os,h.tape,h.output,h.size,h.block⟩
theorem pK{B:Nat}(h:Below B w w')(n:Nat):Below B w (w'.drewN n):=⟨h.os,h.tape,h.output,h.size,h.block⟩
theorem dJ.find_ok(h:dJ w r gN s T Z B G V O)(A:TrOk T)(v:1<=s)(p:List UInt8)(i:p.length<100000)(m:Int)(x:w.cell? ⟨4,0,none⟩=some (.int .i64 m)):Calls prog 233 #[wp r,tx p] w fun e t=>e=.returned (.tuple #[.int .i64 (aF T p).1,aI (aF T p).2])/\Below w.heap.size w t:=by
 have d:=CR p i w;cases hn:dS p with
 |none=>
  have e:aF T p=(0,1):=by unfold aF;rw[hn]
  rw[e];rw[hn] at d;go_enter Tryz.func233,Tryz.ntmps233
  go_wp2_with (go_at_call 298;refine d.mono ?_;rintro e b ⟨rfl,a⟩)
  go_ret2;exact⟨rfl,a⟩
 |some l=>
  have e:aF T p=fG T 0 l:=by unfold aF;rw[hn]
  obtain⟨q,rfl,y,f⟩:=EY hn;rw[e];rw[hn] at d;have s1:=uE (47::q) 1 (by simp);have z:(47::q).drop 1=q:=rfl;rw[z] at s1;have k:∀b,Below w.heap.size w b->_:=fun b a=>(h.below a).MH A v q l y f (by simp at i;omega) m (aU x a);have j:(1:Int)<=((47::q).length:Int):=by simp;omega
  have g:=Rq (47::q) 1;rw[length_cons] at g;go_enter Tryz.func233,Tryz.ntmps233
  go_wp2_with (go_at_call 298;refine d.mono ?_;rintro e b ⟨rfl,a⟩;have c:=k b a)
  refine c.mono ?_;rintro e o ⟨rfl,n,u⟩;subst o;clear c d k;go_wp2_with fail
  go_ret2;exact⟨rfl,pK a n⟩
abbrev uj(m:Option Nat)(nm:List UInt8):Value:=.agg #[.map m,tx nm]
theorem aN{W:World}{i:Nat}{a b:Value}(h:W.heap[i]? = some (.cells #[a,b] 283)):W.cell? ⟨i,0,none⟩=some a/\W.cell? ⟨i,1,none⟩=some b/\W.frozen? ⟨i,0,none⟩=false/\W.frozen? ⟨i,1,none⟩=false:=by
 refine⟨?_,?_,by simp[World.frozen?,h],by simp[World.frozen?,h]⟩<;>(rw[cell_of_row W i _ _ _ _ h];rfl)
theorem jC{W:World}{i:Nat}{a b:Value}(h:W.heap[i]? = some (.cells #[a,b] 283))(x y:Value):((W.setCell ⟨i,0,none⟩ x).setCell ⟨i,1,none⟩ y).heap[i]? = some (.cells #[x,y] 283):=by
 have d:=aS W i 0 x _ _ _ h;have c:=aS _ i 1 y _ _ _ d;rw[c];rfl
theorem dJ.jU(h:dJ w r gN s T Z B G V O)(P:TrOk T)(hs:1<=s)(p:List UInt8)(hp:p.length<100000)(m:Int)(hm:w.cell? ⟨4,0,none⟩=some (.int .i64 m)):Calls prog 300 #[wp r,tx p] w fun e f=>e=.returned (.tuple #[if (ae T p).2.2=0 then uj (some (G (ae T p).1)) (ae T p).2.1 else uj none [],aI (ae T p).2.2])/\Below w.heap.size w f:=by
 have H:=CR p hp (w.alloc (.cells #[.map none,tx []] 283));have bA:Below w.heap.size w (w.alloc (.cells #[.map none,tx []] 283)):=(Below.refl _ _).alloc (le_refl _) _;have VI:(w.alloc (.cells #[.map none,tx []] 283)).heap.size=w.heap.size+1:=by simp
 have b:∀a,Below (w.alloc (.cells #[.map none,tx []] 283)).heap.size (w.alloc (.cells #[.map none,tx []] 283)) a->a.heap[w.heap.size]? = some (.cells #[.map none,tx []] 283):=fun a d=>(d.block _ (by rw[VI];omega)).trans (World.alloc_heap_new _ _);obtain⟨R,E⟩:∃R,ae T p=R:=⟨_,rfl⟩;rw[E];cases hn:dS p with
 |none=>
  have e:R=(0,[],1):=by rw[<-E];unfold ae;rw[hn]
  subst e;rw[hn] at H;clear hn E;go_enter func300,ntmps300
  go_wp2_with (go_at_call 298;refine H.mono ?_;rintro e a ⟨rfl,d⟩;obtain⟨c0,c1,f0,f1⟩:=aN (b a d))
  obtain⟨o,k,_,_⟩:=aN (jC (b a d) (.map none) (tx []));have F:Below w.heap.size w a:=bA.trans (d.mono (by omega));refine bodyPost_ret (v:=.tuple #[uj none [],eF 1]) (by simp[results,results300,go_sem,o,k]) rfl ⟨rfl,?_⟩
  repeat first|exact F|refine Below.setCell ?_ (by first|omega|(simp<;>omega)) _
 |some l=>
  rw[hn] at H;by_cases I:p=[47]
  ·have e:R=(0,[],1):=by rw[<-E];unfold ae;rw[I,vF];rfl
   subst e;have hq:(p==[47])=true:=by simp[I]
   clear hn E I;go_enter func300,ntmps300
   go_wp2_with (go_at_call 298;refine H.mono ?_;rintro e a ⟨rfl,d⟩;obtain⟨c0,c1,f0,f1⟩:=aN (b a d))
   obtain⟨o,k,_,_⟩:=aN (jC (b a d) (.map none) (tx []));have F:Below w.heap.size w a:=bA.trans (d.mono (by omega));refine bodyPost_ret (v:=.tuple #[uj none [],eF 1]) (by simp[results,results300,go_sem,o,k]) rfl ⟨rfl,?_⟩
   repeat first|exact F|refine Below.setCell ?_ (by first|omega|(simp<;>omega)) _
  ·have hq:(p==[47])=false:=by simp[I]
   obtain⟨i,M,hi,g,hj⟩:=EX hn I;have K:∀x∈l.dropLast,isName x=true:=fun x hx=>rY hn x (List.dropLast_subset l hx);have hl0:l≠[]:=by
    obtain⟨q,_,_,hl,_⟩:=lF hn I;exact hl
   have Q:=Iu p hp;rw[M] at Q;have hTP:=Br (p.take i);have htl:=SF p i;obtain⟨N,Y⟩:∃N,fG T 0 l.dropLast=N:=⟨_,rfl⟩;have u:=P.lead l.dropLast 0 (by obtain⟨C,e⟩:=P.root;rw[e];rfl);rw[Y] at u;have c:R=if N.2≠0 then (0,[],N.2) else match T N.1 with
    |some (.dir _)=>(N.1,p.drop (i+1),0)
    |_=>(0,[],6):=by
    rw[<-E];unfold ae;rw[hn,g];simp only[hl0,if_false,Y];rfl
   have hL:∀a,Below w.heap.size w a->Calls prog 299 #[wp r,tx (Lib.trimPrefix (p.take i) [47])] a fun e f=>e=.returned (.tuple #[.int .i64 N.1,aI N.2])/\∃n,f=a.drewN n:=fun a d=>by
    have:=(h.below d).MH P hs _ _ hj K (by omega) m (aU hm d);rw[Y] at this;exact this
   have s1:=DZ p i (by omega);have s2:=uE p (i+1) (by omega);have hex:=ado p i;have afB:=Rq p (i+1);generalize Lib.trimPrefix (p.take i) [47]=tq at *;obtain⟨y,N2⟩:=N;simp only at c u hL;clear hj K g M hn E Y htl;go_enter func300,ntmps300
   go_wp2_with (first
    |(go_at_call 298;refine H.mono ?_;rintro e a ⟨rfl,d⟩;have hb:=b a d;have F:Below w.heap.size w a:=bA.trans (d.mono (by omega));have S:=hL a F)
    |(go_at_call 335;refine(Q _).mono ?_;rintro e f ⟨rfl,D⟩;subst f)
    |(go_at_call 336;refine(hTP _).mono ?_;rintro e f ⟨rfl,D⟩;subst f))
   refine S.mono ?_;rintro e z ⟨rfl,nq,A⟩;have j:z.heap[w.heap.size]? = some (.cells #[.map none,tx []] 283):=by rw[A];exact hb
   have U:Below w.heap.size w z:=by rw[A];exact pK F nq
   have h2:=h.below U;obtain⟨c0,c1,f0,f1⟩:=aN j;clear S hL H hb F d A b;by_cases X:N2=0
   ·subst X;rw[if_neg (fun e=>e rfl)] at c;have t:=u rfl;have L:=P.key y t;have hwf:(Lit.int .i64 y).wf=true:=gT L.1 (by omega);have hlk:=h2.look y hwf;rw[if_pos t] at hlk;have t0:=h2.c0;rw[aB];by_cases hd:∃C,T y=some (.dir C)
    ·obtain⟨C,hC⟩:=hd;rw[hC] at c;subst c;obtain⟨n0,_⟩:=h2.yK hC;have Qz:=rH n0;have hile:(i:Int)+1<=(p.length:Int):=by omega
     have s3:∀q,(Instr.slice 9 (tx p) (some (.int .i64 ((i:Int)+1))) none none).run prog (z.drewN q)=.ok (tx (p.drop (i+1))) (z.drewN q):=fun q=>uE p (i+1) (by omega) _;clear s2 afB;have e9:∀q,Below w.heap.size w (z.drewN q):=fun q=>pK U q;clear P hm u;go_wp2_with (go_at_call 237;refine Qz.mono ?_;rintro e f ⟨rfl,D⟩;subst f)
     have cq:∀q,(z.drewN q).heap[w.heap.size]? = some (.cells #[.map none,tx []] 283):=fun q=>j
     go_region
     go_wp2_with fail
     rw[Rq p (i+1)];obtain⟨o,k,_,_⟩:=aN (W:=((z.setCell ⟨w.heap.size,0,none⟩ (.map (some (G y)))).setCell ⟨w.heap.size,1,none⟩ (tx (p.drop (i+1)))).drew) (jC j (.map (some (G y))) (tx (p.drop (i+1))));refine bodyPost_ret (v:=.tuple #[uj (some (G y)) (p.drop (i+1)),.nilIface]) (by simp[results,results300,go_sem,o,k]) rfl ⟨rfl,xP ?_⟩
     repeat first|exact U|refine Below.setCell ?_ (by first|omega|(simp<;>omega)) _
    ·obtain⟨fb,fh,hF⟩:∃fb fh,T y=some (.file fb fh):=by
      cases e:T y with
      |none=>rw[e] at t;cases t
      |some nd=>cases nd with
       |dir C=>exact absurd ⟨C,e⟩ hd
       |file fb fh=>exact⟨fb,fh,rfl⟩
     rw[hF] at c;subst c;obtain⟨n0,_⟩:=h2.ql hF;have Qz:=u6 n0;go_wp2_with (go_at_call 237;refine Qz.mono ?_;rintro e f ⟨rfl,D⟩;subst f)
     obtain⟨o,k,_,_⟩:=aN (jC j (.map none) (tx []));refine bodyPost_ret (v:=.tuple #[uj none [],eF 6]) (by simp[results,results300,go_sem,o,k]) rfl ⟨rfl,?_⟩
     repeat first|exact U|refine Below.setCell ?_ (by first|omega|(simp<;>omega)) _
   ·rw[if_pos X] at c;subst c;have hue:=ax X;rw[hue];have J:(if N2=0 then uj (some (G 0)) [] else uj none [])=uj none []:=if_neg X;simp only;clear J;go_wp2_with fail
    obtain⟨o,k,_,_⟩:=aN (jC j (.map none) (tx []));refine bodyPost_ret (v:=.tuple #[uj none [],eF N2]) (by simp[results,results300,go_sem,o,k]) rfl ⟨rfl,?_⟩
    repeat first|exact U|refine Below.setCell ?_ (by first|omega|(simp<;>omega)) _
end
section
variable {w w':World}{r gN s:Nat}{T:Wd}{Z:Int→Nat}{B G:Int→Nat}{V:Int→Value}{O:Nat→Prop}
theorem q9{w1:World}(h:Below (w.alloc (.cells #[.map none,tx []] 283)).heap.size (w.alloc (.cells #[.map none,tx []] 283)) w1):w1.heap[w.heap.size]? = some (.cells #[.map none,tx []] 283)/\Below w.heap.size w w1/\w.heap.size<w1.heap.size:=by
 have a:(w.alloc (.cells #[.map none,tx []] 283)).heap.size=w.heap.size+1:=by simp
 have b:Below w.heap.size w (w.alloc (.cells #[.map none,tx []] 283)):=(Below.refl _ _).alloc (le_refl _) _;exact⟨(h.block _ (by rw[a];omega)).trans (World.alloc_heap_new _ _),b.trans (h.mono (by omega)),by have:=h.size;rw[a] at this;omega⟩
theorem lZ{W:World}{i:Nat}{c:Array Value}{t:TypeId}(h:W.heap[i]? = some (.cells c t))(o:Obj):(W.alloc o).heap[i]? = some (.cells c t):=(Below.heap_alloc _ _ _ (Array.getElem?_eq_some_iff.1 h).1).trans h
theorem dJ.Cf(h:dJ w r gN s T Z B G V O)(o:TrOk T)(j:1<=s)(p:List UInt8)(k:p.length<100000)(m:Int)(l:w.cell? ⟨4,0,none⟩=some (.int .i64 m))(a:(ae T p).2.2≠0):Calls prog 257 #[wp r,tx p] w fun e f=>e=.returned (.tuple #[uj none [],.int .i64 0,eF (ae T p).2.2])/\Below w.heap.size w f:=by
 have d:Below w.heap.size w (w.alloc (.cells #[.map none,tx []] 283)):=(Below.refl _ _).alloc (le_refl _) _;have c:=(h.below d).jU o j p k m (aU l d);rw[if_neg a,ax a] at c;generalize (ae T p).2.2=z at *;go_enter func257,ntmps257
 go_wp2_with (go_at_call 300;refine c.mono ?_;rintro e u ⟨rfl,t⟩;obtain⟨b,q,n⟩:=q9 t;obtain⟨C,A,y,x⟩:=aN b)
 obtain⟨i,g,_,_⟩:=aN (lZ (jC b (.map none) (tx [])) (.cells #[.map none,tx []] 283));refine bodyPost_ret (v:=.tuple #[uj none [],.int .i64 0,eF z]) (by simp[results,results257,go_sem,i,g]) rfl ⟨rfl,?_⟩
 repeat first|exact q|refine Below.alloc ?_ (by first|omega|(simp<;>omega)) _|refine Below.setCell ?_ (by first|omega|(simp<;>omega)) _
theorem dJ.zV(h:dJ w r gN s T Z B G V O)(q:TrOk T)(D:1<=s)(p:List UInt8)(E:p.length<100000)(m:Int)(H:w.cell? ⟨4,0,none⟩=some (.int .i64 m))(c:(ae T p).2.2=0)(n:og T (ae T p).1 (ae T p).2.1=none):Calls prog 257 #[wp r,tx p] w fun e y=>e=.returned (.tuple #[uj none [],.int .i64 0,eF 7])/\Below w.heap.size w y:=by
 have u:Below w.heap.size w (w.alloc (.cells #[.map none,tx []] 283)):=(Below.refl _ _).alloc (le_refl _) _;have t:=(h.below u).jU q D p E m (aU H u);rw[if_pos c,c,aB] at t;obtain⟨⟨C,b⟩,g⟩:=eZ q c;rw[eU b] at n;generalize (ae T p).1=d at *;generalize (ae T p).2.1=a at *;have F:=dQ g;have f:a.length<=maxLen:=by unfold maxLen;omega
 have M:∀W,(∀i,O i->W.heap[i]? = w.heap[i]?)->SMap W (G d) C.length (fun a=>(C.lookup a).map (.int .i64 ·)):=fun W J=>(h.ll d C b).keep (J _ (h.nT d C b));have K:=h.lt _ (h.nT d C b);go_enter func257,ntmps257
 go_wp2_with (first
  |(go_at_call 300;refine t.mono ?_;rintro e x ⟨rfl,L⟩;obtain⟨o,k,I⟩:=q9 L;obtain⟨R,Q,P,N⟩:=aN o;have j:SMap (x.alloc (.cells #[.map (some (G d)),tx a] 283)) (G d) C.length (fun a=>(C.lookup a).map (.int .i64 ·)):=M _ (fun i l=>(Below.heap_alloc _ _ _ (lt_of_lt_of_le (h.lt i l) k.size)).trans (k.block i (h.lt i l))))
  |(at_lookup;refine fT rfl _ _ 160 rfl 3 underlying160 _ (zero_num _) (G d) _ _ rfl j a rfl f ?_;simp only[n,map_none,getD_none,isSome_none]))
 obtain⟨A,z,_,_⟩:=aN (lZ (jC o (.map none) (tx [])) (.cells #[.map (some (G d)),tx a] 283));refine bodyPost_ret (v:=.tuple #[uj none [],.int .i64 0,eF 7]) (by simp[results,results257,go_sem,A,z]) rfl ⟨rfl,?_⟩
 repeat first|exact k|refine Below.alloc ?_ (by first|omega|(simp<;>omega)) _|refine Below.setCell ?_ (by first|omega|(simp<;>omega)) _
theorem dJ.pz(h:dJ w r gN s T Z B G V O)(t:TrOk T)(E:1<=s)(p:List UInt8)(F:p.length<100000)(m:Int)(I:w.cell? ⟨4,0,none⟩=some (.int .i64 m))(c:(ae T p).2.2=0){n:Int}(o:og T (ae T p).1 (ae T p).2.1=some n):Calls prog 257 #[wp r,tx p] w fun e z=>e=.returned (.tuple #[uj (some (G (ae T p).1)) (ae T p).2.1,.int .i64 n,.nilIface])/\Below w.heap.size w z:=by
 have x:Below w.heap.size w (w.alloc (.cells #[.map none,tx []] 283)):=(Below.refl _ _).alloc (le_refl _) _;have u:=(h.below x).jU t E p F m (aU I x);rw[if_pos c,c,aB] at u;obtain⟨⟨C,b⟩,g⟩:=eZ t c;rw[eU b] at o;generalize (ae T p).1=d at *;generalize (ae T p).2.1=a at *;have H:=dQ g;have f:a.length<=maxLen:=by unfold maxLen;omega
 have N:∀W,(∀i,O i->W.heap[i]? = w.heap[i]?)->SMap W (G d) C.length (fun a=>(C.lookup a).map (.int .i64 ·)):=fun W K=>(h.ll d C b).keep (K _ (h.nT d C b));have L:=h.lt _ (h.nT d C b);go_enter func257,ntmps257
 go_wp2_with (first
  |(go_at_call 300;refine u.mono ?_;rintro e y ⟨rfl,M⟩;obtain⟨q,k,J⟩:=q9 M;obtain⟨S,R,Q,P⟩:=aN q;have j:SMap (y.alloc (.cells #[.map (some (G d)),tx a] 283)) (G d) C.length (fun a=>(C.lookup a).map (.int .i64 ·)):=N _ (fun i l=>(Below.heap_alloc _ _ _ (lt_of_lt_of_le (h.lt i l) k.size)).trans (k.block i (h.lt i l))))
  |(at_lookup;refine fT rfl _ _ 160 rfl 3 underlying160 _ (zero_num _) (G d) _ _ rfl j a rfl f ?_;simp only[o,map_some,getD_some,isSome_some]))
 obtain⟨D,A,_,_⟩:=aN (lZ (jC q (.map (some (G d))) (tx a)) (.cells #[.map (some (G d)),tx a] 283));refine bodyPost_ret (v:=.tuple #[uj (some (G (d))) a,.int .i64 n,.nilIface]) (by simp[results,results257,go_sem,D,A]) rfl ⟨rfl,?_⟩
 repeat first|exact k|refine Below.alloc ?_ (by first|omega|(simp<;>omega)) _|refine Below.setCell ?_ (by first|omega|(simp<;>omega)) _
theorem dJ.zK(h:dJ w r gN s T Z B G V O)(o:TrOk T)(j:1<=s)(p:List UInt8)(k:p.length<100000)(m:Int)(l:w.cell? ⟨4,0,none⟩=some (.int .i64 m))(a:(ae T p).2.2≠0):Calls prog 235 #[wp r,tx p] w fun e f=>e=.returned (.tuple #[uj none [],eF (ae T p).2.2])/\Below w.heap.size w f:=by
 have d:Below w.heap.size w (w.alloc (.cells #[.map none,tx []] 283)):=(Below.refl _ _).alloc (le_refl _) _;have c:=(h.below d).jU o j p k m (aU l d);rw[if_neg a,ax a] at c;generalize (ae T p).2.2=z at *;go_enter func235,ntmps235
 go_wp2_with (go_at_call 300;refine c.mono ?_;rintro e u ⟨rfl,t⟩;obtain⟨b,q,n⟩:=q9 t;obtain⟨C,A,y,x⟩:=aN b)
 obtain⟨i,g,_,_⟩:=aN (lZ (jC b (.map none) (tx [])) (.cells #[.map none,tx []] 283));refine bodyPost_ret (v:=.tuple #[uj none [],eF z]) (by simp[results,results235,go_sem,i,g]) rfl ⟨rfl,?_⟩
 repeat first|exact q|refine Below.alloc ?_ (by first|omega|(simp<;>omega)) _|refine Below.setCell ?_ (by first|omega|(simp<;>omega)) _
theorem dJ.tQ(h:dJ w r gN s T Z B G V O)(t:TrOk T)(E:1<=s)(p:List UInt8)(F:p.length<100000)(m:Int)(I:w.cell? ⟨4,0,none⟩=some (.int .i64 m))(c:(ae T p).2.2=0){n:Int}(o:og T (ae T p).1 (ae T p).2.1=some n):Calls prog 235 #[wp r,tx p] w fun e z=>e=.returned (.tuple #[uj none [],eF 9])/\Below w.heap.size w z:=by
 have x:Below w.heap.size w (w.alloc (.cells #[.map none,tx []] 283)):=(Below.refl _ _).alloc (le_refl _) _;have u:=(h.below x).jU t E p F m (aU I x);rw[if_pos c,c,aB] at u;obtain⟨⟨C,b⟩,g⟩:=eZ t c;rw[eU b] at o;generalize (ae T p).1=d at *;generalize (ae T p).2.1=a at *;have H:=dQ g;have f:a.length<=maxLen:=by unfold maxLen;omega
 have N:∀W,(∀i,O i->W.heap[i]? = w.heap[i]?)->SMap W (G d) C.length (fun a=>(C.lookup a).map (.int .i64 ·)):=fun W K=>(h.ll d C b).keep (K _ (h.nT d C b));have L:=h.lt _ (h.nT d C b);go_enter func235,ntmps235
 go_wp2_with (first
  |(go_at_call 300;refine u.mono ?_;rintro e y ⟨rfl,M⟩;obtain⟨q,k,J⟩:=q9 M;obtain⟨S,R,Q,P⟩:=aN q;have j:SMap (y.alloc (.cells #[.map (some (G d)),tx a] 283)) (G d) C.length (fun a=>(C.lookup a).map (.int .i64 ·)):=N _ (fun i l=>(Below.heap_alloc _ _ _ (lt_of_lt_of_le (h.lt i l) k.size)).trans (k.block i (h.lt i l))))
  |(at_lookup;refine fT rfl _ _ 160 rfl 3 underlying160 _ (zero_num _) (G d) _ _ rfl j a rfl f ?_;simp only[o,map_some,getD_some,isSome_some]))
 obtain⟨D,A,_,_⟩:=aN (lZ (jC q (.map none) (tx [])) (.cells #[.map (some (G d)),tx a] 283));refine bodyPost_ret (v:=.tuple #[uj none [],eF 9]) (by simp[results,results235,go_sem,D,A]) rfl ⟨rfl,?_⟩
 repeat first|exact k|refine Below.alloc ?_ (by first|omega|(simp<;>omega)) _|refine Below.setCell ?_ (by first|omega|(simp<;>omega)) _
theorem dJ.nC(h:dJ w r gN s T Z B G V O)(q:TrOk T)(D:1<=s)(p:List UInt8)(E:p.length<100000)(m:Int)(H:w.cell? ⟨4,0,none⟩=some (.int .i64 m))(c:(ae T p).2.2=0)(n:og T (ae T p).1 (ae T p).2.1=none):Calls prog 235 #[wp r,tx p] w fun e y=>e=.returned (.tuple #[uj (some (G ((ae T p).1))) ((ae T p).2.1),.nilIface])/\Below w.heap.size w y:=by
 have u:Below w.heap.size w (w.alloc (.cells #[.map none,tx []] 283)):=(Below.refl _ _).alloc (le_refl _) _;have t:=(h.below u).jU q D p E m (aU H u);rw[if_pos c,c,aB] at t;obtain⟨⟨C,b⟩,g⟩:=eZ q c;rw[eU b] at n;generalize (ae T p).1=d at *;generalize (ae T p).2.1=a at *;have F:=dQ g;have f:a.length<=maxLen:=by unfold maxLen;omega
 have M:∀W,(∀i,O i->W.heap[i]? = w.heap[i]?)->SMap W (G d) C.length (fun a=>(C.lookup a).map (.int .i64 ·)):=fun W J=>(h.ll d C b).keep (J _ (h.nT d C b));have K:=h.lt _ (h.nT d C b);go_enter func235,ntmps235
 go_wp2_with (first
  |(go_at_call 300;refine t.mono ?_;rintro e x ⟨rfl,L⟩;obtain⟨o,k,I⟩:=q9 L;obtain⟨R,Q,P,N⟩:=aN o;have j:SMap (x.alloc (.cells #[.map (some (G d)),tx a] 283)) (G d) C.length (fun a=>(C.lookup a).map (.int .i64 ·)):=M _ (fun i l=>(Below.heap_alloc _ _ _ (lt_of_lt_of_le (h.lt i l) k.size)).trans (k.block i (h.lt i l))))
  |(at_lookup;refine fT rfl _ _ 160 rfl 3 underlying160 _ (zero_num _) (G d) _ _ rfl j a rfl f ?_;simp only[n,map_none,getD_none,isSome_none]))
 obtain⟨A,z,_,_⟩:=aN (lZ (jC o (.map (some (G d))) (tx a)) (.cells #[.map (some (G d)),tx a] 283));refine bodyPost_ret (v:=.tuple #[uj (some (G (d))) (a),.nilIface]) (by simp[results,results235,go_sem,A,z]) rfl ⟨rfl,?_⟩
 repeat first|exact k|refine Below.alloc ?_ (by first|omega|(simp<;>omega)) _|refine Below.setCell ?_ (by first|omega|(simp<;>omega)) _
end
end
end Go.Proofs.YtippochapiolpaaGreatDoor

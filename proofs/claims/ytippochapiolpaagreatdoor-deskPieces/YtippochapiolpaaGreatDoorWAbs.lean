/- Ours. -/
import Derived.Test.YtippochapiolpaaGreatDoorWood
import Derived.WalkLawsBesides
import Derived.Deep.LoopGhost
import Derived.Test.YtippochapiolpaaGreatDoorSKeys
namespace Go.Proofs.YtippochapiolpaaGreatDoor
open List(extract length_append lookup map_cons mem_cons)
section
open Go.RowKit Go.Maps
theorem DZ(s:List UInt8)(n:Nat)(b:n<=s.length)(w:World):(Instr.slice 9 (tx s) none (some (.int .i64 (n:Int))) none).run Tryz.prog w=.ok (tx (s.take n)) w:=by
 have a:(⟨s.toArray⟩:ByteArray).size=s.length:=by simp[ByteArray.size]
 have e:(⟨s.toArray⟩:ByteArray).extract 0 n=⟨(s.take n).toArray⟩:=by apply ByteArray.ext;simp
 simp[Instr.slice,run_underlying Tryz.underlying9,Instr.sliceBounds,run_sliceBound,a,b,e]
theorem Nv(a b:List UInt8):((⟨a.toArray⟩:ByteArray)++⟨b.toArray⟩)=⟨(a++b).toArray⟩:=by apply ByteArray.ext;simp
theorem uE(s:List UInt8)(n:Nat)(b:n<=s.length)(w:World):(Instr.slice 9 (tx s) (some (.int .i64 (n:Int))) none none).run Tryz.prog w=.ok (tx (s.drop n)) w:=by
 have a:(⟨s.toArray⟩:ByteArray).size=s.length:=by simp[ByteArray.size]
 have e:(⟨s.toArray⟩:ByteArray).extract n s.length=⟨(s.drop n).toArray⟩:=by
  apply ByteArray.ext
  simp only[ByteArray.data_extract,List.extract_toArray,extract];rw[List.take_of_length_le (by simp)]
 simp[Instr.slice,run_underlying Tryz.underlying9,Instr.sliceBounds,run_sliceBound,a,b,e]
theorem Rq(s:List UInt8)(n:Nat):(⟨s.toArray⟩:ByteArray).extract n s.length=⟨(s.drop n).toArray⟩:=by
 apply ByteArray.ext
 simp only[ByteArray.data_extract,List.extract_toArray,extract];rw[List.take_of_length_le (by simp)]
theorem ado(s:List UInt8)(n:Nat):(⟨s.toArray⟩:ByteArray).extract 0 n=⟨(s.take n).toArray⟩:=by apply ByteArray.ext;simp
end
section
open Go.RowKit Go.Maps
section
variable {w w':World}{T:Wd}
theorem dQ{x:Nm}(h:isName x=true):1<=x.length/\x.length<=12:=by
 unfold isName at h;simp only[Bool.and_eq_true,decide_eq_true_eq] at h;exact⟨h.1.1.1,h.1.1.2⟩
theorem rY{p:List UInt8}{l:List Nm}(h:dS p=some l):∀x∈l,isName x=true:=by
 unfold dS at h;split at h
 ·cases h;intro x a;cases a
 ·split at h
  ·split at h
   ·rename_i b;cases h;exact fun x a=>List.all_eq_true.1 b x a
   ·cases h
  ·cases h
def aF(T:Wd)(p:List UInt8):Int×Int:=match dS p with
 |none=>(0,1)
 |some l=>fG T 0 l
def ae(T:Wd)(p:List UInt8):Int×Nm×Int:=match dS p with
 |none=>(0,[],1)
 |some l=>if l=[] then (0,[],1) else if (fG T 0 l.dropLast).2≠0 then (0,[],(fG T 0 l.dropLast).2) else match T (fG T 0 l.dropLast).1 with
  |some (.dir _)=>((fG T 0 l.dropLast).1,l.getLastD [],0)
  |_=>(0,[],6)
def cB(T:Wd)(n:Int)(x:Nd):Wd:=fun k=>if k=n then some x else T k
theorem aj(T:Wd)(n:Int)(x:Nd):cB T n x n=some x:=if_pos rfl
theorem ag{T:Wd}{n k:Int}(x:Nd)(h:k≠n):cB T n x k=T k:=if_neg h
def bF(T:Wd)(n:Int):Int:=match T n with
 |none=>7
 |some (.dir _)=>6
 |some (.file _ _)=>0
def ajG(T:Wd)(n size:Int):Wd:=match T n with
 |some (.file b x)=>if size<0 then T else cB T n (.file (b.take size.toNat) x)
 |_=>T
def jw(T:Wd)(n a m:Int):Int:=if bF T n≠0 then bF T n else if a<0\/m<0 then 2 else 0
def eG(T:Wd)(n a m:Int):List UInt8:=match T n with
 |some (.file b _)=>if a<0\/m<0 then [] else (b.drop a.toNat).take m.toNat
 |_=>[]
theorem mJ{T:Wd}{n:Int}(h:bF T n=0):∃b x,T n=some (.file b x):=by
 unfold bF at h;cases e:T n with
 |none=>rw[e] at h;simp at h
 |some nd=>cases nd with
  |dir C=>rw[e] at h;simp at h
  |file b x=>exact⟨b,x,rfl⟩
theorem aS(w:World)(s o:Nat)(v:Value)(c:Array Value)(t:TypeId)(a:Nat×Nat)(h:w.heap[s]? = some (.cells c t a)):(w.setCell ⟨s,o,none⟩ v).heap[s]? = some (.cells (c.setIfInBounds o v) t a):=by
 rw[setCell_eq_setRow w s o c t a v h];exact setRow_heap w s c _ t a h
def og(T:Wd)(d:Int)(nm:Nm):Option Int:=match T d with
 |some (.dir C)=>C.lookup nm
 |_=>none
def nV(T:Wd)(n:Int):Bool:=match T n with
 |some (.dir _)=>true
 |_=>false
def gq(T:Wd)(d:Int)(nm:Nm)(n:Int):Wd:=match T d with
 |some (.dir C)=>cB T d (.dir ((nm,n)::C))
 |_=>T
def aZ(T:Wd)(d:Int)(nm:Nm):Wd:=match T d with
 |some (.dir C)=>cB T d (.dir (C.filter (fun x=>x.1 != nm)))
 |_=>T
theorem j5{T:Wd}{d:Int}{C:List (Nm×Int)}(h:T d=some (.dir C))(nm:Nm)(n:Int):gq T d nm n=cB T d (.dir ((nm,n)::C)):=by unfold gq;rw[h]
theorem jD{T:Wd}{d:Int}{C:List (Nm×Int)}(h:T d=some (.dir C))(nm:Nm):aZ T d nm=cB T d (.dir (C.filter (fun x=>x.1 != nm))):=by unfold aZ;rw[h]
theorem eU{T:Wd}{d:Int}{C:List (Nm×Int)}(h:T d=some (.dir C))(nm:Nm):og T d nm=C.lookup nm:=by unfold og;rw[h]
theorem eZ{T:Wd}(_:TrOk T){p:List UInt8}(h:(ae T p).2.2=0):(∃C,T (ae T p).1=some (.dir C))/\isName (ae T p).2.1=true:=by
 unfold ae at h ⊢;cases hn:dS p with
 |none=>rw[hn] at h;simp at h
 |some l=>
  rw[hn] at h;simp only at h ⊢;by_cases a:l=[]
  ·rw[if_pos a] at h;simp at h
  ·rw[if_neg a] at h ⊢;by_cases c:(fG T 0 l.dropLast).2≠0
   ·rw[if_pos c] at h;exact absurd h c
   ·rw[if_neg c] at h ⊢;cases hd:T (fG T 0 l.dropLast).1 with
    |none=>rw[hd] at h;simp at h
    |some nd=>cases nd with
     |file b x=>rw[hd] at h;simp at h
     |dir C=>
      refine⟨⟨C,hd⟩,?_⟩;show isName (l.getLastD [])=true;have d:l.getLastD []∈l:=by
       rw[List.getLastD_eq_getLast?,List.getLast?_eq_some_getLast a];exact List.getLast_mem a
      exact rY hn _ d
theorem mH{T:Wd}(a:TrOk T){p:List UInt8}(h:(aF T p).2=0):(T (aF T p).1).isSome=true:=by
 unfold aF at h ⊢;cases hn:dS p with
 |none=>rw[hn] at h;simp at h
 |some l=>
  rw[hn] at h;exact a.lead l 0 (by obtain⟨C,e⟩:=a.root;rw[e];rfl) h
def ky(T:Wd)(p q:List UInt8):Int:=if (aF T p).2≠0 then (aF T p).2 else if nV T (aF T p).1=true then 6 else if (ae T q).2.2≠0 then (ae T q).2.2 else if (og T (ae T q).1 (ae T q).2.1).isSome=true then 9 else 0
def kS(T:Wd)(p q:List UInt8):Wd:=if ky T p q≠0 then T else gq T (ae T q).1 (ae T q).2.1 (aF T p).1
theorem aU{m:Int}{g:Nat}(a:w.cell? ⟨g,0,none⟩=some (.int .i64 m))(b:Below w.heap.size w w'):w'.cell? ⟨g,0,none⟩=some (.int .i64 m):=by
 rw[<-a];exact b.cell (World.block_lt_of_cell? w _ a)
structure fV (T:Wd) (k:Int):Prop where
 pos:0<=k
 none:T k=none
 least:∀j,0<=j->j<k->(T j).isSome=true
theorem fV.same{T:Wd}{k k':Int}(h:fV T k)(a:fV T k'):k=k':=by
 rcases Int.lt_trichotomy k k' with e|e|e
 ·have:=a.least k h.pos e;rw[h.none] at this;cases this
 ·exact e
 ·have:=h.least k' a.pos e;rw[a.none] at this;cases this
def fO(dir:Bool):Nd:=if dir=true then .dir [] else .file [] 0
def aY(T:Wd)(s:Nat)(p:List UInt8):Int:=if (ae T p).2.2≠0 then (ae T p).2.2 else if (og T (ae T p).1 (ae T p).2.1).isSome=true then 9 else if 60<=s then 12 else 0
def jd(T:Wd)(p:List UInt8)(dir:Bool)(k:Int):Wd:=gq (cB T k (fO dir)) (ae T p).1 (ae T p).2.1 k
theorem mF{T:Wd}{s:Nat}{p:List UInt8}(d:TrOk T)(h:aY T s p=0):(ae T p).2.2=0/\(∃C,T (ae T p).1=some (.dir C)/\C.lookup (ae T p).2.1=none)/\isName (ae T p).2.1=true/\s<60:=by
 unfold aY at h;by_cases a:(ae T p).2.2=0
 ·rw[if_neg (fun e=>e a)] at h;obtain⟨⟨C,b⟩,c⟩:=eZ d a;rw[eU b] at h;cases hl:C.lookup (ae T p).2.1 with
  |some n=>rw[hl] at h;simp at h
  |none=>
   rw[hl] at h;simp only[Option.isSome_none,Bool.false_eq_true,if_false] at h;refine⟨a,⟨C,b,hl⟩,c,?_⟩;by_cases e:60<=s
   ·rw[if_pos e] at h;omega
   ·omega
 ·rw[if_pos a] at h;exact absurd h a
theorem Cc(wr:World)(A B:Obj):((wr.alloc A).alloc B).heap[wr.heap.size+1]? = some B:=by
 show ((wr.heap.push A).push B)[wr.heap.size+1]? = _;rw[Array.getElem?_push,if_pos (by simp)]
def Led(T:Wd)(n:Int):Prop:=n=0\/∃k C s,T k=some (.dir C)/\C.lookup s=some n
def dW:Nd->Nat
 |.dir _=>0
 |.file _ h=>h
open Classical in
noncomputable def iP(T:Wd):Wd:=fun n=>match T n with
 |none=>none
 |some nd=>if Led T n\/dW nd≠0 then some nd else none
theorem zZ{T:Wd}{n:Int}{nd:Nd}(h:iP T n=some nd):T n=some nd:=by
 unfold iP at h;split at h
 ·cases h
 ·split at h
  ·rename_i e _;rw[e];exact h
  ·cases h
theorem qN{T:Wd}{n:Int}(h:∀a,T n=some a->Led T n\/dW a≠0):iP T n=T n:=by
 unfold iP;split
 ·rename_i e;exact e.symm
 ·rename_i a e;rw[if_pos (h a e),e]
theorem NZ{T:Wd}{n:Int}{nd:Nd}(a:T n=some nd)(h:¬(Led T n\/dW nd≠0)):iP T n=none:=by
 unfold iP;rw[a];simp only;rw[if_neg h]
theorem pG(nm:Nm):∀(C:List (Nm×Int)) (i:Nm),(C.filter (fun x=>x.1 != nm)).lookup i=if i=nm then none else C.lookup i
 | [],i=>by simp
 |(a,n)::C,i=>by
  have c:=pG nm C i;by_cases e:a=nm
  ·subst e;rw[List.filter_cons_of_neg (by simp),c];by_cases b:i=a
   ·simp[b]
   ·have:(i==a)=false:=by simp[b]
    simp[b,lookup,this]
  ·rw[List.filter_cons_of_pos (by simp[e])];by_cases b:i=a
   ·subst b;simp[lookup,e]
   ·have:(i==a)=false:=by simp[b]
    simp only[lookup,this];exact c
theorem pF:∀ {C:List (Nm×Int)}{i:Nm}{n:Int},C.lookup i=some n->(i,n)∈C
 | [],i,n,h=>by simp at h
 |(a,m)::C,i,n,h=>by
  by_cases e:i=a
  ·subst e;simp[lookup] at h;simp[h]
  ·have:(i==a)=false:=by simp[e]
   simp only[lookup,this] at h;exact List.mem_cons_of_mem _ (pF h)
theorem xH:∀ {C:List (Nm×Int)}{i:Nm},C.lookup i=none->i∉C.map (·.1)
 | [],i,h=>by simp
 |(a,m)::C,i,h=>by
  by_cases e:i=a
  ·subst e;simp[lookup] at h
  ·have:(i==a)=false:=by simp[e]
   simp only[lookup,this] at h;simp only[map_cons,mem_cons,not_or];exact⟨e,xH h⟩
theorem qQ{nm:Nm}:∀ {C:List (Nm×Int)},nm∉C.map (·.1)->C.filter (fun x=>x.1 != nm)=C
 | [],_=>rfl
 |(a,m)::C,h=>by
  simp only[map_cons,mem_cons,not_or] at h;rw[List.filter_cons_of_pos (by simp;exact fun e=>h.1 e.symm),qQ h.2]
theorem AQ{nm:Nm}:∀ {C:List (Nm×Int)},(C.map (·.1)).Nodup->(C.lookup nm).isSome=true->(C.filter (fun x=>x.1 != nm)).length=C.length-1
 | [],_,h=>by simp at h
 |(a,m)::C,hn,h=>by
  simp only[map_cons,List.nodup_cons] at hn;by_cases e:a=nm
  ·subst e;rw[List.filter_cons_of_neg (by simp),qQ hn.1];simp
  ·have b:(nm==a)=false:=by simp;exact fun c=>e c.symm
   simp only[lookup,b] at h;rw[List.filter_cons_of_pos (by simp[e]),List.length_cons,AQ hn.2 h];cases C with
   |nil=>simp at h
   |cons _ _=>simp
theorem TrOk.del{T:Wd}(h:TrOk T)(d:Int)(nm:Nm):TrOk (aZ T d nm):=by
 cases hd:T d with
 |none=>rw[show aZ T d nm=T by unfold aZ;rw[hd]];exact h
 |some nd=>cases nd with
  |file b x=>rw[show aZ T d nm=T by unfold aZ;rw[hd]];exact h
  |dir C=>
   rw[jD hd];have f:∀k D,cB T d (.dir (C.filter (fun x=>x.1 != nm))) k=some (.dir D)->(k=d/\D=C.filter (fun x=>x.1 != nm))\/(k≠d/\T k=some (.dir D)):=fun k D e=>by
    by_cases a:k=d
    ·subst a;rw[aj] at e;cases e;exact .inl ⟨rfl,rfl⟩
    ·rw[ag _ a] at e;exact .inr ⟨a,e⟩
   have c:∀k,(cB T d (.dir (C.filter (fun x=>x.1 != nm))) k).isSome=(T k).isSome:=fun k=>by
    by_cases a:k=d
    ·subst a;rw[aj,hd];rfl
    ·rw[ag _ a]
   refine⟨?_,fun k e=>h.key k (by rw[<-c];exact e),fun k D e=>?_,fun k D s n e g=>?_,fun k D x e g=>?_,fun k b x e=>?_⟩
   ·obtain⟨l,j⟩:=h.root;by_cases a:(0:Int)=d
    ·rw[<-a,aj];exact⟨_,rfl⟩
    ·rw[ag _ a];exact⟨l,j⟩
   ·rcases f k D e with⟨_,rfl⟩|⟨_,e⟩
    ·exact(List.filter_sublist.map _).nodup (h.nodup d C hd)
    ·exact h.nodup k D e
   ·rw[c];rcases f k D e with⟨_,rfl⟩|⟨_,e⟩
    ·rw[pG] at g;by_cases i:s=nm
     ·rw[if_pos i] at g;cases g
     ·rw[if_neg i] at g;exact h.child d C s n hd g
    ·exact h.child k D s n e g
   ·rcases f k D e with⟨_,rfl⟩|⟨_,e⟩
    ·exact h.name d C x hd (List.mem_filter.1 g).1
    ·exact h.name k D x e g
   ·by_cases a:k=d
    ·subst a;rw[aj] at e;cases e
    ·rw[ag _ a] at e;exact h.small k b x e
def pR(T:Wd)(n:Int):Nat:=match T n with
 |some (.dir C)=>C.length
 |_=>0
def dR(T:Wd)(p:List UInt8):Int:=if (ae T p).2.2≠0 then (ae T p).2.2 else match og T (ae T p).1 (ae T p).2.1 with
 |none=>7
 |some n=>if pR T n≠0 then 6 else 0
noncomputable def fC(T:Wd)(p:List UInt8):Wd:=if dR T p≠0 then T else iP (aZ T (ae T p).1 (ae T p).2.1)
theorem Wt.mono{A B:Nat->Prop}(h:Wt A w w')(d:∀i,A i->B i):Wt B w w':=⟨h.os,h.tape,h.output,h.size,fun i c b=>h.block i c (fun a=>b (d i a))⟩
def dV(T:Wd)(n by':Int):Int:=match T n with
 |some (.file _ x)=>if (x:Int)+by'<0 then 10 else 0
 |_=>bF T n
noncomputable def dh(T:Wd)(n by':Int):Wd:=match T n with
 |some (.file b x)=>if (x:Int)+by'<0 then T else iP (cB T n (.file b ((x:Int)+by').toNat))
 |_=>T
theorem TrOk.Ja{T:Wd}(h:TrOk T){n:Int}{b b':List UInt8}{x x':Nat}(f:T n=some (.file b x))(j:b'.length<=256)(i:x'<=1000):TrOk (cB T n (.file b' x')):=by
 have g:∀k C,cB T n (.file b' x') k=some (.dir C)->T k=some (.dir C):=fun k C e=>by
  by_cases d:k=n
  ·subst d;rw[aj] at e;cases e
  ·rw[ag _ d] at e;exact e
 have a:∀k,(cB T n (.file b' x') k).isSome=(T k).isSome:=fun k=>by
  by_cases d:k=n
  ·subst d;rw[aj,f];rfl
  ·rw[ag _ d]
 refine⟨?_,fun k e=>h.key k (by rw[<-a];exact e),fun k C e=>h.nodup k C (g k C e),fun k C s m e l=>by rw[a];exact h.child k C s m (g k C e) l,fun k C y e=>h.name k C y (g k C e),fun k c y e=>?_⟩
 ·obtain⟨C,e⟩:=h.root;refine⟨C,?_⟩;rw[ag];exact e;intro d;rw[<-d,e] at f;cases f
 ·by_cases d:k=n
  ·subst d;rw[aj] at e;cases e;exact⟨j,i⟩
  ·rw[ag _ d] at e;exact h.small k c y e
def eQ(T:Wd)(p q:List UInt8):Int:=if (ae T p).2.2≠0 then (ae T p).2.2 else if og T (ae T p).1 (ae T p).2.1=none then 7 else
 if (ae T q).2.2≠0 then (ae T q).2.2 else if (og T (ae T q).1 (ae T q).2.1).isSome=true then 9 else if (p++[47]).isPrefixOf q=true then 6 else 0
def fD(T:Wd)(p q:List UInt8):Wd:=if eQ T p q≠0 then T else
 gq (aZ T (ae T p).1 (ae T p).2.1) (ae T q).1 (ae T q).2.1 ((og T (ae T p).1 (ae T p).2.1).getD 0)
theorem X8{T:Wd}{d f:Int}{nm i:Nm}{a:List (Nm×Int)}(h:T f=some (.dir a))(c:a.lookup i=none):∃g,aZ T d nm f=some (.dir g)/\g.lookup i=none/\g.length<=a.length:=by
 cases hd:T d with
 |none=>exact⟨a,by rw[show aZ T d nm=T by unfold aZ;rw[hd]];exact h,c,Nat.le_refl _⟩
 |some nd=>cases nd with
  |file b x=>exact⟨a,by rw[show aZ T d nm=T by unfold aZ;rw[hd]];exact h,c,Nat.le_refl _⟩
  |dir C=>
   rw[jD hd];by_cases e:f=d
   ·subst e;rw[hd] at h;cases h
    refine⟨_,aj _ _ _,?_,List.length_filter_le _ _⟩;rw[pG,c];split<;>rfl
   ·exact⟨a,by rw[ag _ e];exact h,c,Nat.le_refl _⟩
def Du(b:List UInt8)(n:Nat):List UInt8:=b++List.replicate (n-b.length) 0
def FL(b:List UInt8)(a:Nat)(x:List UInt8):List UInt8:=(Du b (a+x.length)).take a++x++(Du b (a+x.length)).drop (a+x.length)
theorem Gs(b:List UInt8)(n:Nat):(Du b n).length=max b.length n:=by unfold Du;rw[length_append,List.length_replicate];omega
theorem Cw(b:List UInt8)(a:Nat)(x:List UInt8):(FL b a x).length=max b.length (a+x.length):=by
 unfold FL;rw[length_append,length_append,List.length_take,List.length_drop,Gs];omega
def cZ(T:Wd)(n a:Int)(x:List UInt8):Int:=if bF T n≠0 then bF T n else if a<0 then 2 else if (200:Int)<x.length\/200-(x.length:Int)<a then 4 else 0
def fU(T:Wd)(n a:Int)(x:List UInt8):Wd:=if cZ T n a x≠0\/x=[] then T else match T n with
 |some (.file b h)=>cB T n (.file (FL b a.toNat x) h)
 |_=>T
theorem TrOk.add{T:Wd}(h:TrOk T){d n:Int}{nm:Nm}{C:List (Nm×Int)}(i:T d=some (.dir C))(p:C.lookup nm=none)(j:isName nm=true)(o:(T n).isSome=true):TrOk (gq T d nm n):=by
 rw[j5 i];have f:∀k D,cB T d (.dir ((nm,n)::C)) k=some (.dir D)->(k=d/\D=(nm,n)::C)\/(k≠d/\T k=some (.dir D)):=fun k D e=>by
  by_cases a:k=d
  ·subst a;rw[aj] at e;cases e;exact .inl ⟨rfl,rfl⟩
  ·rw[ag _ a] at e;exact .inr ⟨a,e⟩
 have c:∀k,(cB T d (.dir ((nm,n)::C)) k).isSome=(T k).isSome:=fun k=>by
  by_cases a:k=d
  ·subst a;rw[aj,i];rfl
  ·rw[ag _ a]
 refine⟨?_,fun k e=>h.key k (by rw[<-c];exact e),fun k D e=>?_,fun k D s m e g=>?_,fun k D x e g=>?_,fun k b x e=>?_⟩
 ·obtain⟨r,q⟩:=h.root;by_cases a:(0:Int)=d
  ·rw[<-a,aj];exact⟨_,rfl⟩
  ·rw[ag _ a];exact⟨r,q⟩
 ·rcases f k D e with⟨_,rfl⟩|⟨_,e⟩
  ·rw[map_cons,List.nodup_cons];exact⟨xH p,h.nodup d C i⟩
  ·exact h.nodup k D e
 ·rw[c];rcases f k D e with⟨_,rfl⟩|⟨_,e⟩
  ·by_cases l:s=nm
   ·subst l;simp[lookup] at g;rw[<-g];exact o
   ·have:(s==nm)=false:=by simp[l]
    simp only[lookup,this] at g;exact h.child d C s m i g
  ·exact h.child k D s m e g
 ·rcases f k D e with⟨_,rfl⟩|⟨_,e⟩
  ·rcases mem_cons.1 g with rfl|g
   ·exact j
   ·exact h.name d C x i g
  ·exact h.name k D x e g
 ·by_cases a:k=d
  ·subst a;rw[aj] at e;cases e
  ·rw[ag _ a] at e;exact h.small k b x e
theorem TrOk.new{T:Wd}(h:TrOk T){k:Int}(n:T k=none)(q:0<=k)(p:k<64)(d:Bool):TrOk (cB T k (fO d)):=by
 have g:∀i j,T i=some j->i≠k:=fun i j e a=>by rw[a,n] at e;cases e
 have c:∀i D,cB T k (fO d) i=some (.dir D)->(i=k/\D=[])\/(i≠k/\T i=some (.dir D)):=fun i D e=>by
  by_cases a:i=k
  ·subst a;rw[aj] at e;cases d with
   |true=>simp[fO] at e;exact .inl ⟨rfl,e⟩
   |false=>simp[fO] at e
  ·rw[ag _ a] at e;exact .inr ⟨a,e⟩
 refine⟨?_,fun i e=>?_,fun i D e=>?_,fun i D s m e f=>?_,fun i D x e f=>?_,fun i b x e=>?_⟩
 ·obtain⟨o,l⟩:=h.root;exact⟨o,by rw[ag _ (g 0 _ l)];exact l⟩
 ·by_cases a:i=k
  ·omega
  ·rw[ag _ a] at e;exact h.key i e
 ·rcases c i D e with⟨_,rfl⟩|⟨_,e⟩
  ·simp
  ·exact h.nodup i D e
 ·rcases c i D e with⟨_,rfl⟩|⟨_,e⟩
  ·simp at f
  ·have:=h.child i D s m e f;by_cases a:m=k
   ·subst a;rw[aj];rfl
   ·rw[ag _ a];exact this
 ·rcases c i D e with⟨_,rfl⟩|⟨_,e⟩
  ·cases f
  ·exact h.name i D x e f
 ·by_cases a:i=k
  ·subst a;rw[aj] at e;cases d with
   |true=>simp[fO] at e
   |false=>simp[fO] at e;obtain⟨rfl,rfl⟩:=e;simp
  ·rw[ag _ a] at e;exact h.small i b x e
theorem Qd(T:Wd)(d:Int)(nm:Nm)(k:Int):(aZ T d nm k).isSome=(T k).isSome:=by
 cases hd:T d with
 |none=>rw[show aZ T d nm=T by unfold aZ;rw[hd]]
 |some nd=>cases nd with
  |file b x=>rw[show aZ T d nm=T by unfold aZ;rw[hd]]
  |dir C=>
   rw[jD hd];by_cases a:k=d
   ·subst a;rw[aj,hd];rfl
   ·rw[ag _ a]
abbrev uN(L:List Nm):List Nm:=L.mergeSort fun x y=>decide (x<=y)
def mZ(T:Wd)(p:List UInt8):Int:=if (aF T p).2≠0 then (aF T p).2 else if nV T (aF T p).1=true then 0 else 6
theorem Kl{T:Wd}{p:List UInt8}(h:mZ T p=0):(aF T p).2=0/\∃C,T (aF T p).1=some (.dir C):=by
 unfold mZ at h;by_cases a:(aF T p).2=0
 ·rw[if_neg (fun e=>e a)] at h;refine⟨a,?_⟩;unfold nV at h;cases hn:T (aF T p).1 with
  |none=>rw[hn] at h;simp at h
  |some nd=>cases nd with
   |dir C=>exact⟨C,rfl⟩
   |file b x=>rw[hn] at h;simp at h
 ·rw[if_pos a] at h;exact absurd h a
end
end
end Go.Proofs.YtippochapiolpaaGreatDoor

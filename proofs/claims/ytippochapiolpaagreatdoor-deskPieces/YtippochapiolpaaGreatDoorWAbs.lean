/- Parts of a text, by the model's own slices. -/
import Derived.Test.YtippochapiolpaaGreatDoorWood
import Derived.Test.YtippochapiolpaaGreatDoorRows
import Derived.WalkLawsBesides
import Derived.Outline
import Derived.Deep.LoopGhost
import Derived.Test.YtippochapiolpaaGreatDoorSKeys
import Derived.RegionTactic
import Derived.ChangeAlike
namespace Go.Proofs.YtippochapiolpaaGreatDoor
open Go.RowKit Go.Maps
theorem DZ (s:List UInt8) (n:Nat) (hn:n≤s.length) (w:World):(Instr.slice 9 (tx s) none (some (.int .i64 (n:Int))) none).run Tryz.prog w=.ok (tx (s.take n)) w:=by
 have hs:(⟨s.toArray⟩:ByteArray).size=s.length:=by simp [ByteArray.size]
 have e:(⟨s.toArray⟩:ByteArray).extract 0 n=⟨(s.take n).toArray⟩:=by apply ByteArray.ext;simp
 simp [Instr.slice,run_underlying Tryz.underlying9,Instr.sliceBounds,run_sliceBound,hs,hn,e]
theorem Nw (a b:List UInt8):((⟨a.toArray⟩:ByteArray) ++ ⟨b.toArray⟩)=⟨(a ++ b).toArray⟩:=by apply ByteArray.ext;simp
theorem uE (s:List UInt8) (n:Nat) (hn:n≤s.length) (w:World):(Instr.slice 9 (tx s) (some (.int .i64 (n:Int))) none none).run Tryz.prog w=.ok (tx (s.drop n)) w:=by
 have hs:(⟨s.toArray⟩:ByteArray).size=s.length:=by simp [ByteArray.size]
 have e:(⟨s.toArray⟩:ByteArray).extract n s.length=⟨(s.drop n).toArray⟩:=by
  apply ByteArray.ext
  simp only [ByteArray.data_extract,List.extract_toArray,List.extract]
  rw [List.take_of_length_le (by simp)]
 simp [Instr.slice,run_underlying Tryz.underlying9,Instr.sliceBounds,run_sliceBound,hs,hn,e]
theorem Rs (s:List UInt8) (n:Nat):(⟨s.toArray⟩:ByteArray).extract n s.length=⟨(s.drop n).toArray⟩:=by
 apply ByteArray.ext
 simp only [ByteArray.data_extract,List.extract_toArray,List.extract]
 rw [List.take_of_length_le (by simp)]
theorem ady (s:List UInt8) (n:Nat):(⟨s.toArray⟩:ByteArray).extract 0 n=⟨(s.take n).toArray⟩:=by apply ByteArray.ext;simp
end Go.Proofs.YtippochapiolpaaGreatDoor
namespace Go.Proofs.YtippochapiolpaaGreatDoor
open Go.RowKit Go.Maps
section
variable {w w':World}{T:Wd}
theorem dU {x:Nm}(h:isName x=true):1≤x.length∧x.length≤12:=by
 unfold isName at h
 simp only [Bool.and_eq_true,decide_eq_true_eq] at h
 exact ⟨h.1.1.1,h.1.1.2⟩
theorem rY {p:List UInt8}{l:List Nm}(h:dW p=some l):∀x∈l,isName x=true:=by
 unfold dW at h
 split at h
 ·cases h;intro x hx;cases hx
 ·split at h
  ·split at h
   ·rename_i ha;cases h;exact fun x hx=>List.all_eq_true.1 ha x hx
   ·cases h
  ·cases h
def aF (T:Wd) (p:List UInt8):Int×Int:=match dW p with
 |none=>(0,1)
 |some l=>fJ T 0 l
def ae (T:Wd) (p:List UInt8):Int×Nm×Int:=match dW p with
 |none=>(0,[],1)
 |some l=>if l=[] then (0,[],1) else if (fJ T 0 l.dropLast).2≠0 then (0,[],(fJ T 0 l.dropLast).2) else match T (fJ T 0 l.dropLast).1 with
  |some (.dir _)=>((fJ T 0 l.dropLast).1,l.getLastD [],0)
  |_=>(0,[],6)
def cB (T:Wd) (n:Int) (x:Nd):Wd:=fun k=>if k=n then some x else T k
theorem aj (T:Wd) (n:Int) (x:Nd):cB T n x n=some x:=if_pos rfl
theorem ag {T:Wd}{n k:Int}(x:Nd) (h:k≠n):cB T n x k=T k:=if_neg h
def bF (T:Wd) (n:Int):Int:=match T n with
 |none=>7
 |some (.dir _)=>6
 |some (.file _ _)=>0
def ajQ (T:Wd) (n size:Int):Wd:=match T n with
 |some (.file b x)=>if size<0 then T else cB T n (.file (b.take size.toNat) x)
 |_=>T
def jy (T:Wd) (n a m:Int):Int:=if bF T n≠0 then bF T n else if a<0∨m<0 then 2 else 0
def eU (T:Wd) (n a m:Int):List UInt8:=match T n with
 |some (.file b _)=>if a<0∨m<0 then [] else (b.drop a.toNat).take m.toNat
 |_=>[]
theorem mJ {T:Wd}{n:Int}(h:bF T n=0):∃b x,T n=some (.file b x):=by
 unfold bF at h
 cases e:T n with
 |none=>rw [e] at h;simp at h
 |some nd=>cases nd with
  |dir C=>rw [e] at h;simp at h
  |file b x=>exact ⟨b,x,rfl⟩
theorem aS (w:World) (s o:Nat) (v:Value) (c:Array Value) (t:TypeId) (fr:Nat×Nat) (h:w.heap[s]? = some (.cells c t fr)):(w.setCell ⟨s,o,none⟩ v).heap[s]? = some (.cells (c.setIfInBounds o v) t fr):=by
 rw [setCell_eq_setRow w s o c t fr v h];exact setRow_heap w s c _ t fr h
def og (T:Wd) (d:Int) (nm:Nm):Option Int:=match T d with
 |some (.dir C)=>C.lookup nm
 |_=>none
def nV (T:Wd) (n:Int):Bool:=match T n with
 |some (.dir _)=>true
 |_=>false
def gz (T:Wd) (d:Int) (nm:Nm) (n:Int):Wd:=match T d with
 |some (.dir C)=>cB T d (.dir ((nm,n) :: C))
 |_=>T
def aZ (T:Wd) (d:Int) (nm:Nm):Wd:=match T d with
 |some (.dir C)=>cB T d (.dir (C.filter (fun x=>x.1 != nm)))
 |_=>T
theorem j5 {T:Wd}{d:Int}{C:List (Nm×Int)}(h:T d=some (.dir C)) (nm:Nm) (n:Int):gz T d nm n=cB T d (.dir ((nm,n) :: C)):=by unfold gz;rw [h]
theorem jD {T:Wd}{d:Int}{C:List (Nm×Int)}(h:T d=some (.dir C)) (nm:Nm):aZ T d nm=cB T d (.dir (C.filter (fun x=>x.1 != nm))):=by unfold aZ;rw [h]
theorem fe {T:Wd}{d:Int}{C:List (Nm×Int)}(h:T d=some (.dir C)) (nm:Nm):og T d nm=C.lookup nm:=by unfold og;rw [h]
theorem fu {T:Wd}(_:TrOk T) {p:List UInt8}(h:(ae T p).2.2=0):(∃C,T (ae T p).1=some (.dir C))∧isName (ae T p).2.1=true:=by
 unfold ae at h ⊢
 cases hn:dW p with
 |none=>rw [hn] at h;simp at h
 |some l=>
  rw [hn] at h
  simp only at h ⊢
  by_cases h0:l=[]
  ·rw [if_pos h0] at h;simp at h
  ·rw [if_neg h0] at h ⊢
   by_cases h1:(fJ T 0 l.dropLast).2≠0
   ·rw [if_pos h1] at h;exact absurd h h1
   ·rw [if_neg h1] at h ⊢
    cases hd:T (fJ T 0 l.dropLast).1 with
    |none=>rw [hd] at h;simp at h
    |some nd=>cases nd with
     |file b x=>rw [hd] at h;simp at h
     |dir C=>
      refine ⟨⟨C,hd⟩,?_⟩
      show isName (l.getLastD [])=true
      have hm:l.getLastD []∈l:=by
       rw [List.getLastD_eq_getLast?,List.getLast?_eq_some_getLast h0]
       exact List.getLast_mem h0
      exact rY hn _ hm
theorem mH {T:Wd}(hT:TrOk T) {p:List UInt8}(h:(aF T p).2=0):(T (aF T p).1).isSome=true:=by
 unfold aF at h ⊢
 cases hn:dW p with
 |none=>rw [hn] at h;simp at h
 |some l=>
  rw [hn] at h
  exact hT.lead l 0 (by obtain ⟨C,e⟩:=hT.root;rw [e];rfl) h
def ky (T:Wd) (p q:List UInt8):Int:=if (aF T p).2≠0 then (aF T p).2 else if nV T (aF T p).1=true then 6 else if (ae T q).2.2≠0 then (ae T q).2.2 else if (og T (ae T q).1 (ae T q).2.1).isSome=true then 9 else 0
def kS (T:Wd) (p q:List UInt8):Wd:=if ky T p q≠0 then T else gz T (ae T q).1 (ae T q).2.1 (aF T p).1
theorem aU {m:Int}{g:Nat}(hm:w.cell? ⟨g,0,none⟩=some (.int .i64 m)) (hb:Below w.heap.size w w'):w'.cell? ⟨g,0,none⟩=some (.int .i64 m):=by
 rw [←hm];exact hb.cell (World.block_lt_of_cell? w _ hm)
structure gq (T:Wd) (k:Int):Prop where
 pos:0≤k
 none:T k=none
 least:∀j,0≤j→j<k→(T j).isSome=true
theorem gq.same {T:Wd}{k k':Int}(h:gq T k) (h':gq T k'):k=k':=by
 rcases Int.lt_trichotomy k k' with e|e|e
 ·have:=h'.least k h.pos e;rw [h.none] at this;cases this
 ·exact e
 ·have:=h.least k' h'.pos e;rw [h'.none] at this;cases this
def fT (dir:Bool):Nd:=if dir=true then .dir [] else .file [] 0
def aY (T:Wd) (s:Nat) (p:List UInt8):Int:=if (ae T p).2.2≠0 then (ae T p).2.2 else if (og T (ae T p).1 (ae T p).2.1).isSome=true then 9 else if 60≤s then 12 else 0
def je (T:Wd) (p:List UInt8) (dir:Bool) (k:Int):Wd:=gz (cB T k (fT dir)) (ae T p).1 (ae T p).2.1 k
theorem mF {T:Wd}{s:Nat}{p:List UInt8}(hT:TrOk T) (h:aY T s p=0):(ae T p).2.2=0∧(∃C,T (ae T p).1=some (.dir C)∧C.lookup (ae T p).2.1=none)∧isName (ae T p).2.1=true∧s<60:=by
 unfold aY at h
 by_cases h1:(ae T p).2.2=0
 ·rw [if_neg (fun e=>e h1)] at h
  obtain ⟨⟨C,hd⟩,hn⟩:=fu hT h1
  rw [fe hd] at h
  cases hl:C.lookup (ae T p).2.1 with
  |some n=>rw [hl] at h;simp at h
  |none=>
   rw [hl] at h
   simp only [Option.isSome_none,Bool.false_eq_true,if_false] at h
   refine ⟨h1,⟨C,hd,hl⟩,hn,?_⟩
   by_cases e:60≤s
   ·rw [if_pos e] at h;omega
   ·omega
 ·rw [if_pos h1] at h;exact absurd h h1
theorem Cc (wr:World) (A B:Obj):((wr.alloc A).alloc B).heap[wr.heap.size+1]? = some B:=by
 show ((wr.heap.push A).push B)[wr.heap.size+1]? = _
 rw [Array.getElem?_push,if_pos (by simp)]
def Led (T:Wd) (n:Int):Prop:=n=0∨∃k C s,T k=some (.dir C)∧C.lookup s=some n
def dZ:Nd→Nat
 |.dir _=>0
 |.file _ h=>h
open Classical in
noncomputable def iQ (T:Wd):Wd:=fun n=>match T n with
 |none=>none
 |some nd=>if Led T n∨dZ nd≠0 then some nd else none
theorem zZ {T:Wd}{n:Int}{nd:Nd}(h:iQ T n=some nd):T n=some nd:=by
 unfold iQ at h
 split at h
 ·cases h
 ·split at h
  ·rename_i e _;rw [e];exact h
  ·cases h
theorem qN {T:Wd}{n:Int}(h:∀nd,T n=some nd→Led T n∨dZ nd≠0):iQ T n=T n:=by
 unfold iQ
 split
 ·rename_i e;exact e.symm
 ·rename_i nd e;rw [if_pos (h nd e),e]
theorem N7 {T:Wd}{n:Int}{nd:Nd}(hn:T n=some nd) (h:¬(Led T n∨dZ nd≠0)):iQ T n=none:=by
 unfold iQ;rw [hn];simp only;rw [if_neg h]
theorem pG (nm:Nm):∀(C:List (Nm×Int)) (i:Nm),(C.filter (fun x=>x.1 != nm)).lookup i=if i=nm then none else C.lookup i
 | [],i=>by simp
 |(a,n) :: C,i=>by
  have ih:=pG nm C i
  by_cases e:a=nm
  ·subst e
   rw [List.filter_cons_of_neg (by simp),ih]
   by_cases ei:i=a
   ·simp [ei]
   ·have:(i == a)=false:=by simp [ei]
    simp [ei,List.lookup,this]
  ·rw [List.filter_cons_of_pos (by simp [e])]
   by_cases ei:i=a
   ·subst ei;simp [List.lookup,e]
   ·have:(i == a)=false:=by simp [ei]
    simp only [List.lookup,this]
    exact ih
theorem pF:∀ {C:List (Nm×Int)}{i:Nm}{n:Int},C.lookup i=some n→(i,n)∈C
 | [],i,n,h=>by simp at h
 |(a,m) :: C,i,n,h=>by
  by_cases e:i=a
  ·subst e;simp [List.lookup] at h;simp [h]
  ·have:(i == a)=false:=by simp [e]
   simp only [List.lookup,this] at h
   exact List.mem_cons_of_mem _ (pF h)
theorem xH:∀ {C:List (Nm×Int)}{i:Nm},C.lookup i=none→i∉C.map (·.1)
 | [],i,h=>by simp
 |(a,m) :: C,i,h=>by
  by_cases e:i=a
  ·subst e;simp [List.lookup] at h
  ·have:(i == a)=false:=by simp [e]
   simp only [List.lookup,this] at h
   simp only [List.map_cons,List.mem_cons,not_or]
   exact ⟨e,xH h⟩
theorem qQ {nm:Nm}:∀ {C:List (Nm×Int)},nm∉C.map (·.1)→C.filter (fun x=>x.1 != nm)=C
 | [],_=>rfl
 |(a,m) :: C,h=>by
  simp only [List.map_cons,List.mem_cons,not_or] at h
  rw [List.filter_cons_of_pos (by simp;exact fun e=>h.1 e.symm),qQ h.2]
theorem AQ {nm:Nm}:∀ {C:List (Nm×Int)},(C.map (·.1)).Nodup→(C.lookup nm).isSome=true→(C.filter (fun x=>x.1 != nm)).length=C.length-1
 | [],_,h=>by simp at h
 |(a,m) :: C,hn,h=>by
  simp only [List.map_cons,List.nodup_cons] at hn
  by_cases e:a=nm
  ·subst e
   rw [List.filter_cons_of_neg (by simp),qQ hn.1];simp
  ·have e2:(nm == a)=false:=by simp;exact fun e'=>e e'.symm
   simp only [List.lookup,e2] at h
   rw [List.filter_cons_of_pos (by simp [e]),List.length_cons,AQ hn.2 h]
   cases C with
   |nil=>simp at h
   |cons _ _=>simp
theorem TrOk.del {T:Wd}(h:TrOk T) (d:Int) (nm:Nm):TrOk (aZ T d nm):=by
 cases hd:T d with
 |none=>rw [show aZ T d nm=T by unfold aZ;rw [hd]];exact h
 |some nd=>cases nd with
  |file b x=>rw [show aZ T d nm=T by unfold aZ;rw [hd]];exact h
  |dir C=>
   rw [jD hd]
   have hold:∀k D,cB T d (.dir (C.filter (fun x=>x.1 != nm))) k=some (.dir D)→(k=d∧D=C.filter (fun x=>x.1 != nm))∨(k≠d∧T k=some (.dir D)):=fun k D e=>by
    by_cases e1:k=d
    ·subst e1;rw [aj] at e;cases e;exact .inl ⟨rfl,rfl⟩
    ·rw [ag _ e1] at e;exact .inr ⟨e1,e⟩
   have hsome:∀k,(cB T d (.dir (C.filter (fun x=>x.1 != nm))) k).isSome=(T k).isSome:=fun k=>by
    by_cases e1:k=d
    ·subst e1;rw [aj,hd];rfl
    ·rw [ag _ e1]
   refine ⟨?_,fun k e=>h.key k (by rw [←hsome];exact e),fun k D e=>?_,fun k D s n e e2=>?_,fun k D x e e2=>?_,fun k b x e=>?_⟩
   ·obtain ⟨C0,e0⟩:=h.root
    by_cases e1:(0:Int)=d
    ·rw [←e1,aj];exact ⟨_,rfl⟩
    ·rw [ag _ e1];exact ⟨C0,e0⟩
   ·rcases hold k D e with ⟨_,rfl⟩|⟨_,e⟩
    ·exact (List.filter_sublist.map _).nodup (h.nodup d C hd)
    ·exact h.nodup k D e
   ·rw [hsome]
    rcases hold k D e with ⟨_,rfl⟩|⟨_,e⟩
    ·rw [pG] at e2
     by_cases es:s=nm
     ·rw [if_pos es] at e2;cases e2
     ·rw [if_neg es] at e2;exact h.child d C s n hd e2
    ·exact h.child k D s n e e2
   ·rcases hold k D e with ⟨_,rfl⟩|⟨_,e⟩
    ·exact h.name d C x hd (List.mem_filter.1 e2).1
    ·exact h.name k D x e e2
   ·by_cases e1:k=d
    ·subst e1;rw [aj] at e;cases e
    ·rw [ag _ e1] at e;exact h.small k b x e
def pR (T:Wd) (n:Int):Nat:=match T n with
 |some (.dir C)=>C.length
 |_=>0
def dV (T:Wd) (p:List UInt8):Int:=if (ae T p).2.2≠0 then (ae T p).2.2 else match og T (ae T p).1 (ae T p).2.1 with
 |none=>7
 |some n=>if pR T n≠0 then 6 else 0
noncomputable def fF (T:Wd) (p:List UInt8):Wd:=if dV T p≠0 then T else iQ (aZ T (ae T p).1 (ae T p).2.1)
theorem Wt.mono {A B:Nat→Prop}(h:Wt A w w') (hB:∀i,A i→B i):Wt B w w':=⟨h.os,h.tape,h.output,h.size,fun i hi hn=>h.block i hi (fun a=>hn (hB i a))⟩
def dY (T:Wd) (n by':Int):Int:=match T n with
 |some (.file _ x)=>if (x:Int)+by'<0 then 10 else 0
 |_=>bF T n
noncomputable def dh (T:Wd) (n by':Int):Wd:=match T n with
 |some (.file b x)=>if (x:Int)+by'<0 then T else iQ (cB T n (.file b ((x:Int)+by').toNat))
 |_=>T
theorem TrOk.Ja {T:Wd}(h:TrOk T) {n:Int}{b b':List UInt8}{x x':Nat}(hn:T n=some (.file b x)) (hb:b'.length≤256) (hx:x'≤1000):TrOk (cB T n (.file b' x')):=by
 have hd:∀k C,cB T n (.file b' x') k=some (.dir C)→T k=some (.dir C):=fun k C e=>by
  by_cases e1:k=n
  ·subst e1;rw [aj] at e;cases e
  ·rw [ag _ e1] at e;exact e
 have hsome:∀k,(cB T n (.file b' x') k).isSome=(T k).isSome:=fun k=>by
  by_cases e1:k=n
  ·subst e1;rw [aj,hn];rfl
  ·rw [ag _ e1]
 refine ⟨?_,fun k e=>h.key k (by rw [←hsome];exact e),fun k C e=>h.nodup k C (hd k C e),fun k C s m e e2=>by rw [hsome];exact h.child k C s m (hd k C e) e2,fun k C y e=>h.name k C y (hd k C e),fun k c y e=>?_⟩
 ·obtain ⟨C,e⟩:=h.root
  refine ⟨C,?_⟩
  rw [ag];exact e
  intro e1;rw [←e1,e] at hn;cases hn
 ·by_cases e1:k=n
  ·subst e1;rw [aj] at e;cases e;exact ⟨hb,hx⟩
  ·rw [ag _ e1] at e;exact h.small k c y e
def eZ (T:Wd) (p q:List UInt8):Int:=if (ae T p).2.2≠0 then (ae T p).2.2 else if og T (ae T p).1 (ae T p).2.1=none then 7 else
 if (ae T q).2.2≠0 then (ae T q).2.2 else if (og T (ae T q).1 (ae T q).2.1).isSome=true then 9 else if (p ++ [47]).isPrefixOf q=true then 6 else 0
def fG (T:Wd) (p q:List UInt8):Wd:=if eZ T p q≠0 then T else
 gz (aZ T (ae T p).1 (ae T p).2.1) (ae T q).1 (ae T q).2.1 ((og T (ae T p).1 (ae T p).2.1).getD 0)
theorem Ye {T:Wd}{d d2:Int}{nm Dn:Nm}{C2:List (Nm×Int)}(h:T d2=some (.dir C2)) (hl:C2.lookup Dn=none):∃C3,aZ T d nm d2=some (.dir C3)∧C3.lookup Dn=none∧C3.length≤C2.length:=by
 cases hd:T d with
 |none=>exact ⟨C2,by rw [show aZ T d nm=T by unfold aZ;rw [hd]];exact h,hl,Nat.le_refl _⟩
 |some nd=>cases nd with
  |file b x=>exact ⟨C2,by rw [show aZ T d nm=T by unfold aZ;rw [hd]];exact h,hl,Nat.le_refl _⟩
  |dir C=>
   rw [jD hd]
   by_cases e:d2=d
   ·subst e;rw [hd] at h;cases h
    refine ⟨_,aj _ _ _,?_,List.length_filter_le _ _⟩
    rw [pG,hl];split<;>rfl
   ·exact ⟨C2,by rw [ag _ e];exact h,hl,Nat.le_refl _⟩
def Du (b:List UInt8) (n:Nat):List UInt8:=b ++ List.replicate (n-b.length) 0
def FL (b:List UInt8) (a:Nat) (x:List UInt8):List UInt8:=(Du b (a+x.length)).take a ++ x ++ (Du b (a+x.length)).drop (a+x.length)
theorem Gs (b:List UInt8) (n:Nat):(Du b n).length=max b.length n:=by unfold Du;rw [List.length_append,List.length_replicate];omega
theorem Cw (b:List UInt8) (a:Nat) (x:List UInt8):(FL b a x).length=max b.length (a+x.length):=by
 unfold FL
 rw [List.length_append,List.length_append,List.length_take,List.length_drop,Gs];omega
def cZ (T:Wd) (n a:Int) (x:List UInt8):Int:=if bF T n≠0 then bF T n else if a<0 then 2 else if (200:Int)<x.length∨200-(x.length:Int)<a then 4 else 0
def gp (T:Wd) (n a:Int) (x:List UInt8):Wd:=if cZ T n a x≠0∨x=[] then T else match T n with
 |some (.file b h)=>cB T n (.file (FL b a.toNat x) h)
 |_=>T
theorem TrOk.add {T:Wd}(h:TrOk T) {d n:Int}{nm:Nm}{C:List (Nm×Int)}(hd:T d=some (.dir C)) (hl:C.lookup nm=none) (hnm:isName nm=true) (hn:(T n).isSome=true):TrOk (gz T d nm n):=by
 rw [j5 hd]
 have hold:∀k D,cB T d (.dir ((nm,n) :: C)) k=some (.dir D)→(k=d∧D=(nm,n) :: C)∨(k≠d∧T k=some (.dir D)):=fun k D e=>by
  by_cases e1:k=d
  ·subst e1;rw [aj] at e;cases e;exact .inl ⟨rfl,rfl⟩
  ·rw [ag _ e1] at e;exact .inr ⟨e1,e⟩
 have hsome:∀k,(cB T d (.dir ((nm,n) :: C)) k).isSome=(T k).isSome:=fun k=>by
  by_cases e1:k=d
  ·subst e1;rw [aj,hd];rfl
  ·rw [ag _ e1]
 refine ⟨?_,fun k e=>h.key k (by rw [←hsome];exact e),fun k D e=>?_,fun k D s m e e2=>?_,fun k D x e e2=>?_,fun k b x e=>?_⟩
 ·obtain ⟨C0,e0⟩:=h.root
  by_cases e1:(0:Int)=d
  ·rw [←e1,aj];exact ⟨_,rfl⟩
  ·rw [ag _ e1];exact ⟨C0,e0⟩
 ·rcases hold k D e with ⟨_,rfl⟩|⟨_,e⟩
  ·rw [List.map_cons,List.nodup_cons];exact ⟨xH hl,h.nodup d C hd⟩
  ·exact h.nodup k D e
 ·rw [hsome]
  rcases hold k D e with ⟨_,rfl⟩|⟨_,e⟩
  ·by_cases es:s=nm
   ·subst es;simp [List.lookup] at e2;rw [←e2];exact hn
   ·have:(s == nm)=false:=by simp [es]
    simp only [List.lookup,this] at e2
    exact h.child d C s m hd e2
  ·exact h.child k D s m e e2
 ·rcases hold k D e with ⟨_,rfl⟩|⟨_,e⟩
  ·rcases List.mem_cons.1 e2 with rfl|e2
   ·exact hnm
   ·exact h.name d C x hd e2
  ·exact h.name k D x e e2
 ·by_cases e1:k=d
  ·subst e1;rw [aj] at e;cases e
  ·rw [ag _ e1] at e;exact h.small k b x e
theorem TrOk.new {T:Wd}(h:TrOk T) {k:Int}(hk:T k=none) (h0:0≤k) (h1:k<64) (dir:Bool):TrOk (cB T k (fT dir)):=by
 have hne:∀i nd,T i=some nd→i≠k:=fun i nd e e1=>by rw [e1,hk] at e;cases e
 have hold:∀i D,cB T k (fT dir) i=some (.dir D)→(i=k∧D=[])∨(i≠k∧T i=some (.dir D)):=fun i D e=>by
  by_cases e1:i=k
  ·subst e1;rw [aj] at e
   cases dir with
   |true=>simp [fT] at e;exact .inl ⟨rfl,e⟩
   |false=>simp [fT] at e
  ·rw [ag _ e1] at e;exact .inr ⟨e1,e⟩
 refine ⟨?_,fun i e=>?_,fun i D e=>?_,fun i D s m e e2=>?_,fun i D x e e2=>?_,fun i b x e=>?_⟩
 ·obtain ⟨C0,e0⟩:=h.root
  exact ⟨C0,by rw [ag _ (hne 0 _ e0)];exact e0⟩
 ·by_cases e1:i=k
  ·omega
  ·rw [ag _ e1] at e;exact h.key i e
 ·rcases hold i D e with ⟨_,rfl⟩|⟨_,e⟩
  ·simp
  ·exact h.nodup i D e
 ·rcases hold i D e with ⟨_,rfl⟩|⟨_,e⟩
  ·simp at e2
  ·have:=h.child i D s m e e2
   by_cases e1:m=k
   ·subst e1;rw [aj];rfl
   ·rw [ag _ e1];exact this
 ·rcases hold i D e with ⟨_,rfl⟩|⟨_,e⟩
  ·cases e2
  ·exact h.name i D x e e2
 ·by_cases e1:i=k
  ·subst e1;rw [aj] at e
   cases dir with
   |true=>simp [fT] at e
   |false=>simp [fT] at e;obtain ⟨rfl,rfl⟩:=e;simp
  ·rw [ag _ e1] at e;exact h.small i b x e
theorem Qe (T:Wd) (d:Int) (nm:Nm) (k:Int):(aZ T d nm k).isSome=(T k).isSome:=by
 cases hd:T d with
 |none=>rw [show aZ T d nm=T by unfold aZ;rw [hd]]
 |some nd=>cases nd with
  |file b x=>rw [show aZ T d nm=T by unfold aZ;rw [hd]]
  |dir C=>
   rw [jD hd]
   by_cases e1:k=d
   ·subst e1;rw [aj,hd];rfl
   ·rw [ag _ e1]
abbrev uN (L:List Nm):List Nm:=L.mergeSort fun x y=>decide (x≤y)
def mZ (T:Wd) (p:List UInt8):Int:=if (aF T p).2≠0 then (aF T p).2 else if nV T (aF T p).1=true then 0 else 6
theorem Kl {T:Wd}{p:List UInt8}(h:mZ T p=0):(aF T p).2=0∧∃C,T (aF T p).1=some (.dir C):=by
 unfold mZ at h
 by_cases h1:(aF T p).2=0
 ·rw [if_neg (fun e=>e h1)] at h
  refine ⟨h1,?_⟩
  unfold nV at h
  cases hn:T (aF T p).1 with
  |none=>rw [hn] at h;simp at h
  |some nd=>cases nd with
   |dir C=>exact ⟨C,rfl⟩
   |file b x=>rw [hn] at h;simp at h
 ·rw [if_pos h1] at h;exact absurd h h1
end
end Go.Proofs.YtippochapiolpaaGreatDoor

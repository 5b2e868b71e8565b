/- Paths plainly: a text's parts between slashes; the names of a PATH. -/
import Derived.WalkKit
import Derived.Lib.SplitLaws
import Derived.Test.YtcfhanoekniaaaaGreatDoorRows
import Derived.WalkLawsBesides
import Derived.Outline
import Derived.Deep.LoopGhost
import Derived.Test.YtcfhanoekniaaaaGreatDoorSKeys
import Derived.RegionTactic
import Derived.ChangeAlike
namespace Go.Proofs.YtcfhanoekniaaaaGreatDoor
open Go.RowKit
abbrev Nm:=List UInt8
abbrev tx (l:List UInt8):Value:=.string ⟨l.toArray⟩
def parts:List UInt8→List Nm
 | []=>[[]]
 |b :: l=>if b=47 then [] :: parts l else match parts l with
  | []=>[[b]]
  |h :: t=>(b :: h) :: t
theorem rO (l:List UInt8):parts l≠[]:=by
 cases l with
 |nil=>simp [parts]
 |cons b l=>
  unfold parts;split
  ·simp
  ·split<;>simp
theorem fV (l:List UInt8):parts (47 :: l)=[] :: parts l:=by simp [parts]
theorem lC {b:UInt8}(l:List UInt8) (h:b≠47) {x:Nm}{t:List Nm}(e:parts l=x :: t):parts (b :: l)=(b :: x) :: t:=by
 rw [parts,if_neg h,e]
def isName (s:Nm):Bool:=decide (1≤s.length) && decide (s.length≤12) && !(s == [46]) && !(s == [46,46])
def dE (p:List UInt8):Option (List Nm):=
 if p=[47] then some [] else match parts p with
 | [] :: x :: t=>if (x :: t).all isName then some (x :: t) else none
 |_=>none
inductive Nd where
 |dir (C:List (Nm×Int))
 |file (b:List UInt8) (h:Nat)
abbrev Wd:=Int→Option Nd
theorem gW {n:Int}(h0:0≤n) (h1:n<1000000):(Lit.int .i64 n).wf=true:=by
 have a:IntKind.max .i64=9223372036854775807:=rfl
 have b:IntKind.min .i64=-9223372036854775808:=rfl
 simp only [Lit.wf,a,b,Bool.and_eq_true,decide_eq_true_eq];omega
def fE (T:Wd):Int→List Nm→Int×Int
 |a,[]=>(a,0)
 |a,s :: r=>match T a with
  |some (.dir C)=>match C.lookup s with
   |some n=>fE T n r
   |none=>(0,7)
  |_=>(0,6)
theorem Km (T:Wd) (a:Int):fE T a []=(a,0):=rfl
theorem xR {T:Wd}{a n:Int}{s:Nm}{C:List (Nm×Int)}(r:List Nm) (h:T a=some (.dir C)) (hl:C.lookup s=some n):fE T a (s :: r)=fE T n r:=by rw [fE,h];simp only [hl]
theorem xS {T:Wd}{a:Int}{s:Nm}{C:List (Nm×Int)}(r:List Nm) (h:T a=some (.dir C)) (hl:C.lookup s=none):fE T a (s :: r)=(0,7):=by rw [fE,h];simp only [hl]
theorem xU {T:Wd}{a:Int}{s:Nm}(r:List Nm) (h:∀C,T a≠some (.dir C)):fE T a (s :: r)=(0,6):=by
 rw [fE]
 split
 ·rename_i C e;exact absurd e (h C)
 ·rfl
structure TrOk (T:Wd):Prop where
 root:∃C,T 0=some (.dir C)
 key:∀k,(T k).isSome=true→0≤k∧k<64
 nodup:∀k C,T k=some (.dir C)→(C.map (·.1)).Nodup
 child:∀k C s n,T k=some (.dir C)→C.lookup s=some n→(T n).isSome=true
 name:∀k C x,T k=some (.dir C)→x∈C→isName x.1=true
 small:∀k b h,T k=some (.file b h)→b.length≤256∧h≤1000
theorem TrOk.lead {T:Wd}(h:TrOk T):∀(l:List Nm) (a:Int),(T a).isSome=true→(fE T a l).2=0→(T (fE T a l).1).isSome=true
 | [],a,ha,_=>ha
 |s :: r,a,ha,he=>by
  by_cases hd:∃C,T a=some (.dir C)
  ·obtain ⟨C,hC⟩:=hd
   cases hl:C.lookup s with
   |none=>rw [xS r hC hl] at he;simp at he
   |some n=>
    rw [xR r hC hl] at he ⊢
    exact TrOk.lead h r n (h.child a C s n hC hl) he
  ·rw [xU r (fun C e=>hd ⟨C,e⟩)] at he;simp at he
end Go.Proofs.YtcfhanoekniaaaaGreatDoor
namespace Go.Proofs.YtcfhanoekniaaaaGreatDoor
open Go.RowKit Go.Maps
theorem G6 (s:List UInt8) (n:Nat) (hn:n≤s.length) (w:World):(Instr.slice 9 (tx s) none (some (.int .i64 (n:Int))) none).run Tryz.prog w=.ok (tx (s.take n)) w:=by
 have hs:(⟨s.toArray⟩:ByteArray).size=s.length:=by simp [ByteArray.size]
 have e:(⟨s.toArray⟩:ByteArray).extract 0 n=⟨(s.take n).toArray⟩:=by apply ByteArray.ext;simp
 simp [Instr.slice,run_underlying Tryz.underlying9,Instr.sliceBounds,run_sliceBound,hs,hn,e]
theorem Jc (a b:List UInt8):((⟨a.toArray⟩:ByteArray) ++ ⟨b.toArray⟩)=⟨(a ++ b).toArray⟩:=by apply ByteArray.ext;simp
theorem vg (s:List UInt8) (n:Nat) (hn:n≤s.length) (w:World):(Instr.slice 9 (tx s) (some (.int .i64 (n:Int))) none none).run Tryz.prog w=.ok (tx (s.drop n)) w:=by
 have hs:(⟨s.toArray⟩:ByteArray).size=s.length:=by simp [ByteArray.size]
 have e:(⟨s.toArray⟩:ByteArray).extract n s.length=⟨(s.drop n).toArray⟩:=by
  apply ByteArray.ext
  simp only [ByteArray.data_extract,List.extract_toArray,List.extract]
  rw [List.take_of_length_le (by simp)]
 simp [Instr.slice,run_underlying Tryz.underlying9,Instr.sliceBounds,run_sliceBound,hs,hn,e]
theorem MB (s:List UInt8) (n:Nat):(⟨s.toArray⟩:ByteArray).extract n s.length=⟨(s.drop n).toArray⟩:=by
 apply ByteArray.ext
 simp only [ByteArray.data_extract,List.extract_toArray,List.extract]
 rw [List.take_of_length_le (by simp)]
theorem Xw (s:List UInt8) (n:Nat):(⟨s.toArray⟩:ByteArray).extract 0 n=⟨(s.take n).toArray⟩:=by apply ByteArray.ext;simp
end Go.Proofs.YtcfhanoekniaaaaGreatDoor
namespace Go.Proofs.YtcfhanoekniaaaaGreatDoor
open Go.RowKit Go.Maps
section
variable {w w':World}{T:Wd}
theorem dQ {x:Nm}(h:isName x=true):1≤x.length∧x.length≤12:=by
 unfold isName at h
 simp only [Bool.and_eq_true,decide_eq_true_eq] at h
 exact ⟨h.1.1.1,h.1.1.2⟩
theorem qd {p:List UInt8}{l:List Nm}(h:dE p=some l):∀x∈l,isName x=true:=by
 unfold dE at h
 split at h
 ·cases h;intro x hx;cases hx
 ·split at h
  ·split at h
   ·rename_i ha;cases h;exact fun x hx=>List.all_eq_true.1 ha x hx
   ·cases h
  ·cases h
def aO (T:Wd) (p:List UInt8):Int×Int:=match dE p with
 |none=>(0,1)
 |some l=>fE T 0 l
def ae (T:Wd) (p:List UInt8):Int×Nm×Int:=match dE p with
 |none=>(0,[],1)
 |some l=>if l=[] then (0,[],1) else if (fE T 0 l.dropLast).2≠0 then (0,[],(fE T 0 l.dropLast).2) else match T (fE T 0 l.dropLast).1 with
  |some (.dir _)=>((fE T 0 l.dropLast).1,l.getLastD [],0)
  |_=>(0,[],6)
def bN (T:Wd) (n:Int) (x:Nd):Wd:=fun k=>if k=n then some x else T k
theorem ak (T:Wd) (n:Int) (x:Nd):bN T n x n=some x:=if_pos rfl
theorem ag {T:Wd}{n k:Int}(x:Nd) (h:k≠n):bN T n x k=T k:=if_neg h
def bF (T:Wd) (n:Int):Int:=match T n with
 |none=>7
 |some (.dir _)=>6
 |some (.file _ _)=>0
def adD (T:Wd) (n size:Int):Wd:=match T n with
 |some (.file b x)=>if size<0 then T else bN T n (.file (b.take size.toNat) x)
 |_=>T
def ji (T:Wd) (n a m:Int):Int:=if bF T n≠0 then bF T n else if a<0∨m<0 then 2 else 0
def dS (T:Wd) (n a m:Int):List UInt8:=match T n with
 |some (.file b _)=>if a<0∨m<0 then [] else (b.drop a.toNat).take m.toNat
 |_=>[]
theorem kG {T:Wd}{n:Int}(h:bF T n=0):∃b x,T n=some (.file b x):=by
 unfold bF at h
 cases e:T n with
 |none=>rw [e] at h;simp at h
 |some nd=>cases nd with
  |dir C=>rw [e] at h;simp at h
  |file b x=>exact ⟨b,x,rfl⟩
theorem aN (w:World) (s o:Nat) (v:Value) (c:Array Value) (t:TypeId) (fr:Nat×Nat) (h:w.heap[s]? = some (.cells c t fr)):(w.setCell ⟨s,o,none⟩ v).heap[s]? = some (.cells (c.setIfInBounds o v) t fr):=by
 rw [setCell_eq_setRow w s o c t fr v h];exact setRow_heap w s c _ t fr h
def lM (T:Wd) (d:Int) (nm:Nm):Option Int:=match T d with
 |some (.dir C)=>C.lookup nm
 |_=>none
def qA (T:Wd) (n:Int):Bool:=match T n with
 |some (.dir _)=>true
 |_=>false
def fI (T:Wd) (d:Int) (nm:Nm) (n:Int):Wd:=match T d with
 |some (.dir C)=>bN T d (.dir ((nm,n) :: C))
 |_=>T
def aW (T:Wd) (d:Int) (nm:Nm):Wd:=match T d with
 |some (.dir C)=>bN T d (.dir (C.filter (fun x=>x.1 != nm)))
 |_=>T
theorem jf {T:Wd}{d:Int}{C:List (Nm×Int)}(h:T d=some (.dir C)) (nm:Nm) (n:Int):fI T d nm n=bN T d (.dir ((nm,n) :: C)):=by unfold fI;rw [h]
theorem iJ {T:Wd}{d:Int}{C:List (Nm×Int)}(h:T d=some (.dir C)) (nm:Nm):aW T d nm=bN T d (.dir (C.filter (fun x=>x.1 != nm))):=by unfold aW;rw [h]
theorem dK {T:Wd}{d:Int}{C:List (Nm×Int)}(h:T d=some (.dir C)) (nm:Nm):lM T d nm=C.lookup nm:=by unfold lM;rw [h]
theorem dP {T:Wd}(_:TrOk T) {p:List UInt8}(h:(ae T p).2.2=0):(∃C,T (ae T p).1=some (.dir C))∧isName (ae T p).2.1=true:=by
 unfold ae at h ⊢
 cases hn:dE p with
 |none=>rw [hn] at h;simp at h
 |some l=>
  rw [hn] at h
  simp only at h ⊢
  by_cases h0:l=[]
  ·rw [if_pos h0] at h;simp at h
  ·rw [if_neg h0] at h ⊢
   by_cases h1:(fE T 0 l.dropLast).2≠0
   ·rw [if_pos h1] at h;exact absurd h h1
   ·rw [if_neg h1] at h ⊢
    cases hd:T (fE T 0 l.dropLast).1 with
    |none=>rw [hd] at h;simp at h
    |some nd=>cases nd with
     |file b x=>rw [hd] at h;simp at h
     |dir C=>
      refine ⟨⟨C,hd⟩,?_⟩
      show isName (l.getLastD [])=true
      have hm:l.getLastD []∈l:=by
       rw [List.getLastD_eq_getLast?,List.getLast?_eq_some_getLast h0]
       exact List.getLast_mem h0
      exact qd hn _ hm
theorem nH {T:Wd}(hT:TrOk T) {p:List UInt8}(h:(aO T p).2=0):(T (aO T p).1).isSome=true:=by
 unfold aO at h ⊢
 cases hn:dE p with
 |none=>rw [hn] at h;simp at h
 |some l=>
  rw [hn] at h
  exact hT.lead l 0 (by obtain ⟨C,e⟩:=hT.root;rw [e];rfl) h
def nO (T:Wd) (p q:List UInt8):Int:=if (aO T p).2≠0 then (aO T p).2 else if qA T (aO T p).1=true then 6 else if (ae T q).2.2≠0 then (ae T q).2.2 else if (lM T (ae T q).1 (ae T q).2.1).isSome=true then 9 else 0
def lS (T:Wd) (p q:List UInt8):Wd:=if nO T p q≠0 then T else fI T (ae T q).1 (ae T q).2.1 (aO T p).1
theorem aR {m:Int}{g:Nat}(hm:w.cell? ⟨g,0,none⟩=some (.int .i64 m)) (hb:Below w.heap.size w w'):w'.cell? ⟨g,0,none⟩=some (.int .i64 m):=by
 rw [←hm];exact hb.cell (World.block_lt_of_cell? w _ hm)
structure gP (T:Wd) (k:Int):Prop where
 pos:0≤k
 none:T k=none
 least:∀j,0≤j→j<k→(T j).isSome=true
def eH (dir:Bool):Nd:=if dir=true then .dir [] else .file [] 0
def aZ (T:Wd) (s:Nat) (p:List UInt8):Int:=if (ae T p).2.2≠0 then (ae T p).2.2 else if (lM T (ae T p).1 (ae T p).2.1).isSome=true then 9 else if 60≤s then 12 else 0
def gZ (T:Wd) (p:List UInt8) (dir:Bool) (k:Int):Wd:=fI (bN T k (eH dir)) (ae T p).1 (ae T p).2.1 k
theorem kF {T:Wd}{s:Nat}{p:List UInt8}(hT:TrOk T) (h:aZ T s p=0):(ae T p).2.2=0∧(∃C,T (ae T p).1=some (.dir C)∧C.lookup (ae T p).2.1=none)∧isName (ae T p).2.1=true∧s<60:=by
 unfold aZ at h
 by_cases h1:(ae T p).2.2=0
 ·rw [if_neg (fun e=>e h1)] at h
  obtain ⟨⟨C,hd⟩,hn⟩:=dP hT h1
  rw [dK hd] at h
  cases hl:C.lookup (ae T p).2.1 with
  |some n=>rw [hl] at h;simp at h
  |none=>
   rw [hl] at h
   simp only [Option.isSome_none,Bool.false_eq_true,if_false] at h
   refine ⟨h1,⟨C,hd,hl⟩,hn,?_⟩
   by_cases e:60≤s
   ·rw [if_pos e] at h;omega
   ·omega
 ·rw [if_pos h1] at h;exact absurd h h1
theorem yU (wr:World) (A B:Obj):((wr.alloc A).alloc B).heap[wr.heap.size+1]? = some B:=by
 show ((wr.heap.push A).push B)[wr.heap.size+1]? = _
 rw [Array.getElem?_push,if_pos (by simp)]
def VT (T:Wd) (n:Int):Prop:=n=0∨∃k C s,T k=some (.dir C)∧C.lookup s=some n
def dF:Nd→Nat
 |.dir _=>0
 |.file _ h=>h
open Classical in
noncomputable def gL (T:Wd):Wd:=fun n=>match T n with
 |none=>none
 |some nd=>if VT T n∨dF nd≠0 then some nd else none
theorem xz {T:Wd}{n:Int}{nd:Nd}(h:gL T n=some nd):T n=some nd:=by
 unfold gL at h
 split at h
 ·cases h
 ·split at h
  ·rename_i e _;rw [e];exact h
  ·cases h
theorem oL {T:Wd}{n:Int}(h:∀nd,T n=some nd→VT T n∨dF nd≠0):gL T n=T n:=by
 unfold gL
 split
 ·rename_i e;exact e.symm
 ·rename_i nd e;rw [if_pos (h nd e),e]
theorem Jy {T:Wd}{n:Int}{nd:Nd}(hn:T n=some nd) (h:¬(VT T n∨dF nd≠0)):gL T n=none:=by
 unfold gL;rw [hn];simp only;rw [if_neg h]
theorem nE (nm:Nm):∀(C:List (Nm×Int)) (i:Nm),(C.filter (fun x=>x.1 != nm)).lookup i=if i=nm then none else C.lookup i
 | [],i=>by simp
 |(a,n) :: C,i=>by
  have ih:=nE nm C i
  by_cases e:a=nm
  ·subst e
   rw [List.filter_cons_of_neg (by simp),ih]
   by_cases ei:i=a
   ·simp [ei]
   ·have:(i == a)=false:=by simp [ei]
    simp [ei,List.lookup,this]
  ·rw [List.filter_cons_of_pos (by simp [e])]
   by_cases ei:i=a
   ·subst ei;simp [List.lookup,e]
   ·have:(i == a)=false:=by simp [ei]
    simp only [List.lookup,this]
    exact ih
theorem qG:∀ {C:List (Nm×Int)}{i:Nm}{n:Int},C.lookup i=some n→(i,n)∈C
 | [],i,n,h=>by simp at h
 |(a,m) :: C,i,n,h=>by
  by_cases e:i=a
  ·subst e;simp [List.lookup] at h;simp [h]
  ·have:(i == a)=false:=by simp [e]
   simp only [List.lookup,this] at h
   exact List.mem_cons_of_mem _ (qG h)
theorem uL:∀ {C:List (Nm×Int)}{i:Nm},C.lookup i=none→i∉C.map (·.1)
 | [],i,h=>by simp
 |(a,m) :: C,i,h=>by
  by_cases e:i=a
  ·subst e;simp [List.lookup] at h
  ·have:(i == a)=false:=by simp [e]
   simp only [List.lookup,this] at h
   simp only [List.map_cons,List.mem_cons,not_or]
   exact ⟨e,uL h⟩
theorem oN {nm:Nm}:∀ {C:List (Nm×Int)},nm∉C.map (·.1)→C.filter (fun x=>x.1 != nm)=C
 | [],_=>rfl
 |(a,m) :: C,h=>by
  simp only [List.map_cons,List.mem_cons,not_or] at h
  rw [List.filter_cons_of_pos (by simp;exact fun e=>h.1 e.symm),oN h.2]
theorem xZ {nm:Nm}:∀ {C:List (Nm×Int)},(C.map (·.1)).Nodup→(C.lookup nm).isSome=true→(C.filter (fun x=>x.1 != nm)).length=C.length-1
 | [],_,h=>by simp at h
 |(a,m) :: C,hn,h=>by
  simp only [List.map_cons,List.nodup_cons] at hn
  by_cases e:a=nm
  ·subst e
   rw [List.filter_cons_of_neg (by simp),oN hn.1];simp
  ·have e2:(nm == a)=false:=by simp;exact fun e'=>e e'.symm
   simp only [List.lookup,e2] at h
   rw [List.filter_cons_of_pos (by simp [e]),List.length_cons,xZ hn.2 h]
   cases C with
   |nil=>simp at h
   |cons _ _=>simp
theorem TrOk.del {T:Wd}(h:TrOk T) (d:Int) (nm:Nm):TrOk (aW T d nm):=by
 cases hd:T d with
 |none=>rw [show aW T d nm=T by unfold aW;rw [hd]];exact h
 |some nd=>cases nd with
  |file b x=>rw [show aW T d nm=T by unfold aW;rw [hd]];exact h
  |dir C=>
   rw [iJ hd]
   have hold:∀k D,bN T d (.dir (C.filter (fun x=>x.1 != nm))) k=some (.dir D)→(k=d∧D=C.filter (fun x=>x.1 != nm))∨(k≠d∧T k=some (.dir D)):=fun k D e=>by
    by_cases e1:k=d
    ·subst e1;rw [ak] at e;cases e;exact .inl ⟨rfl,rfl⟩
    ·rw [ag _ e1] at e;exact .inr ⟨e1,e⟩
   have hsome:∀k,(bN T d (.dir (C.filter (fun x=>x.1 != nm))) k).isSome=(T k).isSome:=fun k=>by
    by_cases e1:k=d
    ·subst e1;rw [ak,hd];rfl
    ·rw [ag _ e1]
   refine ⟨?_,fun k e=>h.key k (by rw [←hsome];exact e),fun k D e=>?_,fun k D s n e e2=>?_,fun k D x e e2=>?_,fun k b x e=>?_⟩
   ·obtain ⟨C0,e0⟩:=h.root
    by_cases e1:(0:Int)=d
    ·rw [←e1,ak];exact ⟨_,rfl⟩
    ·rw [ag _ e1];exact ⟨C0,e0⟩
   ·rcases hold k D e with ⟨_,rfl⟩|⟨_,e⟩
    ·exact (List.filter_sublist.map _).nodup (h.nodup d C hd)
    ·exact h.nodup k D e
   ·rw [hsome]
    rcases hold k D e with ⟨_,rfl⟩|⟨_,e⟩
    ·rw [nE] at e2
     by_cases es:s=nm
     ·rw [if_pos es] at e2;cases e2
     ·rw [if_neg es] at e2;exact h.child d C s n hd e2
    ·exact h.child k D s n e e2
   ·rcases hold k D e with ⟨_,rfl⟩|⟨_,e⟩
    ·exact h.name d C x hd (List.mem_filter.1 e2).1
    ·exact h.name k D x e e2
   ·by_cases e1:k=d
    ·subst e1;rw [ak] at e;cases e
    ·rw [ag _ e1] at e;exact h.small k b x e
def nN (T:Wd) (n:Int):Nat:=match T n with
 |some (.dir C)=>C.length
 |_=>0
def dZ (T:Wd) (p:List UInt8):Int:=if (ae T p).2.2≠0 then (ae T p).2.2 else match lM T (ae T p).1 (ae T p).2.1 with
 |none=>7
 |some n=>if nN T n≠0 then 6 else 0
noncomputable def dY (T:Wd) (p:List UInt8):Wd:=if dZ T p≠0 then T else gL (aW T (ae T p).1 (ae T p).2.1)
theorem Wt.mono {A B:Nat→Prop}(h:Wt A w w') (hB:∀i,A i→B i):Wt B w w':=⟨h.os,h.tape,h.output,h.size,fun i hi hn=>h.block i hi (fun a=>hn (hB i a))⟩
def dU (T:Wd) (n by':Int):Int:=match T n with
 |some (.file _ x)=>if (x:Int)+by'<0 then 10 else 0
 |_=>bF T n
noncomputable def bP (T:Wd) (n by':Int):Wd:=match T n with
 |some (.file b x)=>if (x:Int)+by'<0 then T else gL (bN T n (.file b ((x:Int)+by').toNat))
 |_=>T
theorem TrOk.EM {T:Wd}(h:TrOk T) {n:Int}{b b':List UInt8}{x x':Nat}(hn:T n=some (.file b x)) (hb:b'.length≤256) (hx:x'≤1000):TrOk (bN T n (.file b' x')):=by
 have hd:∀k C,bN T n (.file b' x') k=some (.dir C)→T k=some (.dir C):=fun k C e=>by
  by_cases e1:k=n
  ·subst e1;rw [ak] at e;cases e
  ·rw [ag _ e1] at e;exact e
 have hsome:∀k,(bN T n (.file b' x') k).isSome=(T k).isSome:=fun k=>by
  by_cases e1:k=n
  ·subst e1;rw [ak,hn];rfl
  ·rw [ag _ e1]
 refine ⟨?_,fun k e=>h.key k (by rw [←hsome];exact e),fun k C e=>h.nodup k C (hd k C e),fun k C s m e e2=>by rw [hsome];exact h.child k C s m (hd k C e) e2,fun k C y e=>h.name k C y (hd k C e),fun k c y e=>?_⟩
 ·obtain ⟨C,e⟩:=h.root
  refine ⟨C,?_⟩
  rw [ag];exact e
  intro e1;rw [←e1,e] at hn;cases hn
 ·by_cases e1:k=n
  ·subst e1;rw [ak] at e;cases e;exact ⟨hb,hx⟩
  ·rw [ag _ e1] at e;exact h.small k c y e
def eY (T:Wd) (p q:List UInt8):Int:=if (ae T p).2.2≠0 then (ae T p).2.2 else if lM T (ae T p).1 (ae T p).2.1=none then 7 else
 if (ae T q).2.2≠0 then (ae T q).2.2 else if (lM T (ae T q).1 (ae T q).2.1).isSome=true then 9 else if (p ++ [47]).isPrefixOf q=true then 6 else 0
def ek (T:Wd) (p q:List UInt8):Wd:=if eY T p q≠0 then T else
 fI (aW T (ae T p).1 (ae T p).2.1) (ae T q).1 (ae T q).2.1 ((lM T (ae T p).1 (ae T p).2.1).getD 0)
theorem RU {T:Wd}{d d2:Int}{nm Ae:Nm}{C2:List (Nm×Int)}(h:T d2=some (.dir C2)) (hl:C2.lookup Ae=none):∃C3,aW T d nm d2=some (.dir C3)∧C3.lookup Ae=none∧C3.length≤C2.length:=by
 cases hd:T d with
 |none=>exact ⟨C2,by rw [show aW T d nm=T by unfold aW;rw [hd]];exact h,hl,Nat.le_refl _⟩
 |some nd=>cases nd with
  |file b x=>exact ⟨C2,by rw [show aW T d nm=T by unfold aW;rw [hd]];exact h,hl,Nat.le_refl _⟩
  |dir C=>
   rw [iJ hd]
   by_cases e:d2=d
   ·subst e;rw [hd] at h;cases h
    refine ⟨_,ak _ _ _,?_,List.length_filter_le _ _⟩
    rw [nE,hl];split<;>rfl
   ·exact ⟨C2,by rw [ag _ e];exact h,hl,Nat.le_refl _⟩
def Aj (b:List UInt8) (n:Nat):List UInt8:=b ++ List.replicate (n-b.length) 0
def Cz (b:List UInt8) (a:Nat) (x:List UInt8):List UInt8:=(Aj b (a+x.length)).take a ++ x ++ (Aj b (a+x.length)).drop (a+x.length)
theorem Dg (b:List UInt8) (n:Nat):(Aj b n).length=max b.length n:=by unfold Aj;rw [List.length_append,List.length_replicate];omega
theorem zy (b:List UInt8) (a:Nat) (x:List UInt8):(Cz b a x).length=max b.length (a+x.length):=by
 unfold Cz
 rw [List.length_append,List.length_append,List.length_take,List.length_drop,Dg];omega
def cB (T:Wd) (n a:Int) (x:List UInt8):Int:=if bF T n≠0 then bF T n else if a<0 then 2 else if (200:Int)<x.length∨200-(x.length:Int)<a then 4 else 0
def eP (T:Wd) (n a:Int) (x:List UInt8):Wd:=if cB T n a x≠0∨x=[] then T else match T n with
 |some (.file b h)=>bN T n (.file (Cz b a.toNat x) h)
 |_=>T
theorem TrOk.add {T:Wd}(h:TrOk T) {d n:Int}{nm:Nm}{C:List (Nm×Int)}(hd:T d=some (.dir C)) (hl:C.lookup nm=none) (hnm:isName nm=true) (hn:(T n).isSome=true):TrOk (fI T d nm n):=by
 rw [jf hd]
 have hold:∀k D,bN T d (.dir ((nm,n) :: C)) k=some (.dir D)→(k=d∧D=(nm,n) :: C)∨(k≠d∧T k=some (.dir D)):=fun k D e=>by
  by_cases e1:k=d
  ·subst e1;rw [ak] at e;cases e;exact .inl ⟨rfl,rfl⟩
  ·rw [ag _ e1] at e;exact .inr ⟨e1,e⟩
 have hsome:∀k,(bN T d (.dir ((nm,n) :: C)) k).isSome=(T k).isSome:=fun k=>by
  by_cases e1:k=d
  ·subst e1;rw [ak,hd];rfl
  ·rw [ag _ e1]
 refine ⟨?_,fun k e=>h.key k (by rw [←hsome];exact e),fun k D e=>?_,fun k D s m e e2=>?_,fun k D x e e2=>?_,fun k b x e=>?_⟩
 ·obtain ⟨C0,e0⟩:=h.root
  by_cases e1:(0:Int)=d
  ·rw [←e1,ak];exact ⟨_,rfl⟩
  ·rw [ag _ e1];exact ⟨C0,e0⟩
 ·rcases hold k D e with ⟨_,rfl⟩|⟨_,e⟩
  ·rw [List.map_cons,List.nodup_cons];exact ⟨uL hl,h.nodup d C hd⟩
  ·exact h.nodup k D e
 ·rw [hsome]
  rcases hold k D e with ⟨_,rfl⟩|⟨_,e⟩
  ·by_cases es:s=nm
   ·subst es;simp [List.lookup] at e2;rw [←e2];exact hn
   ·have:(s == nm)=false:=by simp [es]
    simp only [List.lookup,this] at e2
    exact h.child d C s m hd e2
  ·exact h.child k D s m e e2
 ·rcases hold k D e with ⟨_,rfl⟩|⟨_,e⟩
  ·rcases List.mem_cons.1 e2 with rfl|e2
   ·exact hnm
   ·exact h.name d C x hd e2
  ·exact h.name k D x e e2
 ·by_cases e1:k=d
  ·subst e1;rw [ak] at e;cases e
  ·rw [ag _ e1] at e;exact h.small k b x e
theorem TrOk.new {T:Wd}(h:TrOk T) {k:Int}(hk:T k=none) (h0:0≤k) (h1:k<64) (dir:Bool):TrOk (bN T k (eH dir)):=by
 have hne:∀i nd,T i=some nd→i≠k:=fun i nd e e1=>by rw [e1,hk] at e;cases e
 have hold:∀i D,bN T k (eH dir) i=some (.dir D)→(i=k∧D=[])∨(i≠k∧T i=some (.dir D)):=fun i D e=>by
  by_cases e1:i=k
  ·subst e1;rw [ak] at e
   cases dir with
   |true=>simp [eH] at e;exact .inl ⟨rfl,e⟩
   |false=>simp [eH] at e
  ·rw [ag _ e1] at e;exact .inr ⟨e1,e⟩
 refine ⟨?_,fun i e=>?_,fun i D e=>?_,fun i D s m e e2=>?_,fun i D x e e2=>?_,fun i b x e=>?_⟩
 ·obtain ⟨C0,e0⟩:=h.root
  exact ⟨C0,by rw [ag _ (hne 0 _ e0)];exact e0⟩
 ·by_cases e1:i=k
  ·omega
  ·rw [ag _ e1] at e;exact h.key i e
 ·rcases hold i D e with ⟨_,rfl⟩|⟨_,e⟩
  ·simp
  ·exact h.nodup i D e
 ·rcases hold i D e with ⟨_,rfl⟩|⟨_,e⟩
  ·simp at e2
  ·have:=h.child i D s m e e2
   by_cases e1:m=k
   ·subst e1;rw [ak];rfl
   ·rw [ag _ e1];exact this
 ·rcases hold i D e with ⟨_,rfl⟩|⟨_,e⟩
  ·cases e2
  ·exact h.name i D x e e2
 ·by_cases e1:i=k
  ·subst e1;rw [ak] at e
   cases dir with
   |true=>simp [eH] at e
   |false=>simp [eH] at e;obtain ⟨rfl,rfl⟩:=e;simp
  ·rw [ag _ e1] at e;exact h.small i b x e
theorem K7 (T:Wd) (d:Int) (nm:Nm) (k:Int):(aW T d nm k).isSome=(T k).isSome:=by
 cases hd:T d with
 |none=>rw [show aW T d nm=T by unfold aW;rw [hd]]
 |some nd=>cases nd with
  |file b x=>rw [show aW T d nm=T by unfold aW;rw [hd]]
  |dir C=>
   rw [iJ hd]
   by_cases e1:k=d
   ·subst e1;rw [ak,hd];rfl
   ·rw [ag _ e1]
end
end Go.Proofs.YtcfhanoekniaaaaGreatDoor

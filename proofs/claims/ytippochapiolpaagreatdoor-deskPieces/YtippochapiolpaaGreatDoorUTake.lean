/- A tree plainly: how many names lead to a node; what no name leads to, and nobody holds, goes. -/
import Derived.Test.YtippochapiolpaaGreatDoorWAbs
import Derived.Test.YtippochapiolpaaGreatDoorJAbs
import Derived.ArgAppend
import Derived.Lib.ConvBytes
import Derived.Lib.LazyBuf
import Derived.Laws.IdiomStrings
import Derived.Test.YtippochapiolpaaGreatDoorUPath
import Derived.BigQuiet
import Derived.Deep.QuietTactic
set_option maxHeartbeats 4000000
set_option maxRecDepth 100000
namespace Go.Proofs.YtippochapiolpaaGreatDoor
open Go.RowKit Go.Maps
def cnt1:Option Nd→Int→Nat
 |some (.dir C),k=>(C.filter (fun x=>decide (x.2=k))).length
 |_,_=>0
def kX (T:Wd) (k:Int):Nat→Nat
 |0=>0
 |m+1=>kX T k m+cnt1 (T m) k
def aM (T:Wd) (k:Int):Nat:=kX T k 64
theorem tX {T T':Wd}{k:Int}:∀m:Nat,(∀i:Nat,i<m→cnt1 (T' i) k=cnt1 (T i) k)→kX T' k m=kX T k m
 |0,_=>rfl
 |m+1,h=>by rw [kX,kX,tX m (fun i hi=>h i (by omega)),h m (by omega)]
theorem De {T T':Wd}{k:Int}{d:Nat}(hd:∀i:Nat,i≠d→cnt1 (T' i) k=cnt1 (T i) k):∀m:Nat,d<m→kX T' k m+cnt1 (T d) k=kX T k m+cnt1 (T' d) k
 |0,h=>by omega
 |m+1,h=>by
  rw [kX,kX]
  by_cases e:m=d
  ·subst e
   rw [tX m (fun i hi=>hd i (by omega))];omega
  ·have:=De hd m (by omega)
   rw [hd m e];omega
theorem G7 {T T':Wd}{k d:Int}(h0:0≤d) (h1:d<64) (h:∀i,i≠d→cnt1 (T' i) k=cnt1 (T i) k):aM T' k+cnt1 (T d) k=aM T k+cnt1 (T' d) k:=by
 obtain ⟨e,rfl⟩:∃e:Nat,d=e:=⟨d.toNat,by omega⟩
 exact De (fun i hi=>h i (by omega)) 64 (by omega)
theorem wT {T T':Wd}{k:Int}(h:∀i,cnt1 (T' i) k=cnt1 (T i) k):aM T' k=aM T k:=tX 64 (fun i _=>h i)
theorem wS {T:Wd}{k:Int}:∀m:Nat,kX T k m≠0→∃i:Nat,i<m∧cnt1 (T i) k≠0
 |0,h=>absurd rfl h
 |m+1,h=>by
  rw [kX] at h
  by_cases e:cnt1 (T m) k=0
  ·obtain ⟨i,hi,h2⟩:=wS (T:=T) (k:=k) m (fun e0=>h (by rw [e0,e]))
   exact ⟨i,by omega,h2⟩
  ·exact ⟨m,by omega,e⟩
theorem G6 {T:Wd}{k:Int}{i:Nat}:∀m:Nat,i<m→cnt1 (T i) k≤kX T k m
 |0,h=>by omega
 |m+1,h=>by
  rw [kX]
  by_cases e:i=m
  ·subst e;omega
  ·have:=G6 (T:=T) (k:=k) m (show i<m by omega);omega
theorem UY {C:List (Nm×Int)}{k:Int}(h:cnt1 (some (.dir C)) k≠0):∃s,(s,k)∈C:=by
 unfold cnt1 at h
 obtain ⟨⟨s,n⟩,hx⟩:=List.exists_mem_of_length_pos (Nat.pos_of_ne_zero h)
 rw [List.mem_filter] at hx
 have e:n=k:=by simpa using hx.2
 exact ⟨s,by rw [←e];exact hx.1⟩
theorem UZ {C:List (Nm×Int)}{s:Nm}{k:Int}(h:(s,k)∈C):cnt1 (some (.dir C)) k≠0:=by
 unfold cnt1
 exact Nat.ne_of_gt (List.length_pos_of_mem (List.mem_filter.2 ⟨h,by simp⟩))
theorem tH:∀ {C:List (Nm×Int)}{s:Nm}{n:Int},(C.map (·.1)).Nodup→(s,n)∈C→C.lookup s=some n
 |(a,b) :: C,s,n,hn,h=>by
  rw [List.map_cons,List.nodup_cons] at hn
  rcases List.mem_cons.1 h with e|h
  ·cases e;simp [List.lookup]
  ·have hne:s≠a:=fun e=>hn.1 (by rw [←e];exact List.mem_map.2 ⟨(s,n),h,rfl⟩)
   have:(s == a)=false:=by simp [hne]
   rw [List.lookup,this]
   exact tH hn.2 h
theorem ny {T:Wd}(hT:TrOk T) (n:Int):Led T n↔n=0∨aM T n≠0:=by
 unfold Led
 constructor
 ·rintro (h|⟨k,C,s,hk,hl⟩)
  ·exact .inl h
  ·right
   have hkey:=hT.key k (by rw [hk];rfl)
   obtain ⟨e,rfl⟩:∃e:Nat,k=e:=⟨k.toNat,by omega⟩
   have h1:=UZ (pF hl)
   have h2:=G6 (T:=T) (k:=n) (i:=e) 64 (by omega)
   rw [hk] at h2
   unfold aM;omega
 ·rintro (h|h)
  ·exact .inl h
  ·right
   obtain ⟨i,_,hi⟩:=wS 64 h
   cases hd:T (i:Int) with
   |none=>rw [hd] at hi;exact absurd rfl hi
   |some nd=>cases nd with
    |file b x=>rw [hd] at hi;exact absurd rfl hi
    |dir C=>
     rw [hd] at hi
     obtain ⟨s,hs⟩:=UY hi
     exact ⟨i,C,s,hd,tH (hT.nodup _ _ hd) hs⟩
structure bu (T:Wd):Prop extends TrOk T where
 nr:aM T 0=0
 lv:∀k nd,T k=some nd→k=0∨aM T k≠0∨dZ nd≠0
def pY (T:Wd) (n:Int):Wd:=fun k=>if k=n then none else T k
theorem fw {T:Wd}{n k:Int}(h:k≠n):pY T n k=T k:=if_neg h
theorem jm (T:Wd) (n:Int):pY T n n=none:=if_pos rfl
theorem Ff {T:Wd}{n:Int}{x:Nd}(h:T n=none) (hx:∀k,cnt1 (some x) k=0) (k:Int):aM (cB T n x) k=aM T k:=wT (fun i=>by
 by_cases e:i=n
 ·subst e;rw [aj,h,hx];rfl
 ·rw [ag _ e])
theorem kJ {T:Wd}{n:Int}{b b':List UInt8}{x x':Nat}(h:T n=some (.file b x)) (k:Int):aM (cB T n (.file b' x')) k=aM T k:=wT (fun i=>by
 by_cases e:i=n
 ·subst e;rw [aj,h];rfl
 ·rw [ag _ e])
theorem EE {T:Wd}{n:Int}(h:∀k,cnt1 (T n) k=0) (k:Int):aM (pY T n) k=aM T k:=wT (fun i=>by
 by_cases e:i=n
 ·subst e;rw [jm,h];rfl
 ·rw [fw e])
theorem qM {T:Wd}(hT:TrOk T) {d n:Int}{nm:Nm}{C:List (Nm×Int)}(hd:T d=some (.dir C)) (k:Int):aM (gz T d nm n) k=aM T k+if k=n then 1 else 0:=by
 have hkey:=hT.key d (by rw [hd];rfl)
 rw [j5 hd]
 have h1:=G7 (T:=T) (T':=cB T d (.dir ((nm,n) :: C))) (k:=k) hkey.1 hkey.2 (fun i hi=>by rw [ag _ hi])
 rw [aj,hd] at h1
 have h2:cnt1 (some (.dir ((nm,n) :: C))) k=cnt1 (some (.dir C)) k+if k=n then 1 else 0:=by
  simp only [cnt1,List.filter_cons]
  by_cases e:n=k
  ·subst e;simp
  ·simp [e,Ne.symm e]
 omega
theorem AR {nm:Nm}{n:Int}:∀ {C:List (Nm×Int)},(C.map (·.1)).Nodup→C.lookup nm=some n→∀k,((C.filter (fun x=>x.1 != nm)).filter (fun x=>decide (x.2=k))).length+(if k=n then 1 else 0)=(C.filter (fun x=>decide (x.2=k))).length
 |(a,b) :: C,hn,hl,k=>by
  rw [List.map_cons,List.nodup_cons] at hn
  by_cases e:nm=a
  ·subst e
   have hb:b=n:=by simpa [List.lookup] using hl
   subst hb
   have hf:=qQ hn.1
   simp only [List.filter_cons,bne_self_eq_false,Bool.false_eq_true,if_false,hf]
   by_cases e2:b=k
   ·simp [e2]
   ·simp [e2,Ne.symm e2]
  ·have hne:(nm == a)=false:=by simp [e]
   rw [List.lookup,hne] at hl
   have ih:=AR hn.2 hl k
   have hbne:(a != nm)=true:=by simp [Ne.symm e]
   simp only [List.filter_cons,hbne,if_true]
   by_cases e2:b=k
   ·simp only [e2,decide_true,if_true,List.length_cons];omega
   ·simp only [e2,decide_false,Bool.false_eq_true,if_false];omega
theorem EF {T:Wd}(hT:TrOk T) {d n:Int}{nm:Nm}{C:List (Nm×Int)}(hd:T d=some (.dir C)) (hl:C.lookup nm=some n) (k:Int):aM (aZ T d nm) k+(if k=n then 1 else 0)=aM T k:=by
 have hkey:=hT.key d (by rw [hd];rfl)
 rw [jD hd]
 have h1:=G7 (T:=T) (T':=cB T d (.dir (C.filter (fun x=>x.1 != nm)))) (k:=k) hkey.1 hkey.2 (fun i hi=>by rw [ag _ hi])
 rw [aj,hd] at h1
 have h2:=AR (hT.nodup d C hd) hl k
 simp only [cnt1] at h1
 omega
theorem Ch {T:Wd}(hT:TrOk T) (n:Int) (hl:∀k nd,k≠n→T k=some nd→k=0∨aM T k≠0∨dZ nd≠0) (nd:Nd) (hn:T n=some nd) (h0:n≠0) :
 iQ T=if aM T n=0∧dZ nd=0 then pY T n else T:=by
 have hk:∀k,k≠n→iQ T k=T k:=fun k hk=>qN (fun nd h=>by
  rcases hl k nd hk h with e|e|e
  ·exact .inl ((ny hT k).2 (.inl e))
  ·exact .inl ((ny hT k).2 (.inr e))
  ·exact .inr e)
 funext k
 by_cases e:k=n
 ·subst e
  by_cases hz:aM T k=0∧dZ nd=0
  ·rw [if_pos hz,jm]
   exact N7 hn (fun h=>by
    rcases h with h|h
    ·rcases (ny hT k).1 h with e|e
     ·exact h0 e
     ·exact e hz.1
    ·exact h hz.2)
  ·rw [if_neg hz]
   refine qN (fun mP h'=>?_)
   rw [hn] at h';cases h'
   by_cases e1:aM T k=0
   ·exact .inr (fun e2=>hz ⟨e1,e2⟩)
   ·exact .inl ((ny hT k).2 (.inr e1))
 ·rw [hk k e]
  split
  ·rw [fw e]
  ·rfl
theorem zY {T:Wd}(hT:TrOk T) (hl:∀k nd,T k=some nd→k=0∨aM T k≠0∨dZ nd≠0):iQ T=T:=by
 funext k
 exact qN (fun nd h=>by
  rcases hl k nd h with e|e|e
  ·exact .inl ((ny hT k).2 (.inl e))
  ·exact .inl ((ny hT k).2 (.inr e))
  ·exact .inr e)
end Go.Proofs.YtippochapiolpaaGreatDoor
namespace Go.Proofs.YtippochapiolpaaGreatDoor
open Go.RowKit
def IP (l:List UInt8):List Value:=l.map fun x=>Value.int .u8 (x.toNat:Int)
def Vn (w:World) (B:Nat) (v:Value) (l:List UInt8):Prop:=
 ∃g cap,v=.slice (some ⟨g,0,none⟩) l.length cap∧B≤g∧g<w.heap.size∧l.length≤cap∧(∀j (h:j<l.length),w.cell? ⟨g,j,none⟩=some (.int .u8 (l[j].toNat:Int)))∧∀j,j<cap→(w.cell? ⟨g,j,none⟩).isSome=true∧w.frozen? ⟨g,j,none⟩=false
theorem V5 {l:List UInt8}{j:Nat}{u:Value}(h:(IP l)[j]? = some u):∃hj:j<l.length,u=.int .u8 (l[j].toNat:Int):=by
 unfold IP at h
 rw [List.getElem?_map] at h
 cases e:l[j]? with
 |none=>rw [e] at h;cases h
 |some x=>
  rw [e] at h
  obtain ⟨hj,hx⟩:=List.getElem?_eq_some_iff.1 e
  exact ⟨hj,by rw [hx];exact (Option.some.inj h).symm⟩
section
variable {w w':World}{B:Nat}{v:Value}{l:List UInt8}
end
theorem gD {B b:Nat}{a:World}(hb:B≤b):∀(vs:List Value) (o:Nat) (w:World),Below B a w→Below B a (w.setCells b o vs)
 | [],_,_,h=>h
 |v :: r,o,_,h=>gD hb r (o+1) _ (h.setCell (p:=⟨b,o,none⟩) hb v)
section
variable {w w':World}{B:Nat}{v:Value}{l:List UInt8}
end
end Go.Proofs.YtippochapiolpaaGreatDoor
namespace Go.Proofs.YtippochapiolpaaGreatDoor
open Go.RowKit Go.Maps
section
variable {w w':World}{B:Nat}{v:Value}{l:List UInt8}
theorem Vn.copy {g cap:Nat}(hv:v=.slice (some ⟨g,0,none⟩) l.length cap) (h:Vn w B v l) (a:Nat) (x:List UInt8) (hx:a+x.length≤l.length) (ty:TypeId) :
 (Builtin.copy_ #[34,9] ty #[.slice (some ⟨g,a,none⟩) (l.length-a) (cap-a),tx x]).run Tryz.prog w=.ok (.int .i64 (x.length:Int)) (w.setCells g a (IP x))∧Vn (w.setCells g a (IP x)) B v (l.take a ++ x ++ l.drop (a+x.length))∧B≤g:=by
 obtain ⟨g',cap',e,hB,hlt,hcap,h1,h2⟩:=h
 rw [hv] at e
 cases e
 have hs:(⟨x.toArray⟩:ByteArray).size=x.length:=by simp [ByteArray.size]
 have hu:(IP x).length=x.length:=by unfold IP;rw [List.length_map]
 have hc:∀j,j<(IP x).length→(w.cell? ⟨g,a+j,none⟩).isSome=true:=fun j hj=>(h2 _ (by omega)).1
 refine ⟨?_,⟨g,cap,?_,hB,Nat.lt_of_lt_of_le hlt (gD (B:=0) (a:=w) (Nat.zero_le _) _ _ _ (Below.refl _ _)).size,?_,fun j hj=>?_,fun j hj=>?_⟩,hB⟩
 ·have:=run_copy_string (P:=Tryz.prog) w 34 9 ty 5 g a (l.length-a) (cap-a) ⟨x.toArray⟩ Tryz.underlying34 (fun w=>by kernel_rfl) (by rw [hs];omega) (fun j hj=>(h2 _ (by rw [hs] at hj;omega)).1) (fun j hj=>(h2 _ (by rw [hs] at hj;omega)).2)
  rw [hs] at this
  exact this
 ·rw [hv,List.length_append,List.length_append,List.length_take,List.length_drop]
  congr 1;omega
 ·rw [List.length_append,List.length_append,List.length_take,List.length_drop];omega
 ·rw [List.length_append,List.length_append,List.length_take,List.length_drop] at hj
  by_cases e1:j<a
  ·rw [World.cell?_setCells_out _ _ _ _ _ (fun _ _=>.inl e1),List.getElem_append_left (by rw [List.length_append,List.length_take];omega),List.getElem_append_left (by rw [List.length_take];omega),List.getElem_take]
   exact h1 j (by omega)
  ·by_cases e2:j<a+x.length
   ·obtain ⟨k,rfl⟩:∃k,j=a+k:=⟨j-a,by omega⟩
    have hk:k<x.length:=by omega
    have e:(l.take a ++ x ++ l.drop (a+x.length))[a+k]? = some x[k]:=by
     rw [List.append_assoc,List.getElem?_append_right (by rw [List.length_take];omega),List.length_take,show a+k-min a l.length=k by omega,List.getElem?_append_left hk,List.getElem?_eq_getElem hk]
    obtain ⟨_,e'⟩:=List.getElem?_eq_some_iff.1 e
    rw [World.cell?_setCells_in g (IP x) a w hc k (by rw [hu];omega),e']
    simp only [IP,List.getElem_map]
   ·have hk:j<l.length:=by omega
    have e:(l.take a ++ x ++ l.drop (a+x.length))[j]? = some l[j]:=by
     rw [List.getElem?_append_right (by rw [List.length_append,List.length_take];omega),List.length_append,List.length_take,List.getElem?_drop,show a+x.length+(j-(min a l.length+x.length))=j by omega,List.getElem?_eq_getElem hk]
    obtain ⟨_,e'⟩:=List.getElem?_eq_some_iff.1 e
    rw [World.cell?_setCells_out _ _ _ _ _ (fun _ _=>.inr (by rw [hu];show _≤j;omega)),e']
    exact h1 j hk
 ·rw [World.frozen?_setCells]
  refine ⟨?_,(h2 j hj).2⟩
  by_cases e1:j<a∨a+x.length≤j
  ·rw [World.cell?_setCells_out _ _ _ _ _ (fun _ _=>by rw [hu];exact e1)];exact (h2 j hj).1
  ·obtain ⟨k,rfl⟩:∃k,j=a+k:=⟨j-a,by omega⟩
   rw [World.cell?_setCells_in g (IP x) a w hc k (by rw [hu];omega)];rfl
end
structure af3 (p:Prop):Prop where
 out:p
def Dat (w:World) (v:Value) (b:List UInt8):Prop:=
 (b=[]∧v=.slice none 0 0)∨∃g c,v=.slice (some ⟨g,0,none⟩) b.length c∧b.length≤c∧g<w.heap.size∧∀j (h:j<b.length),w.cell? ⟨g,j,none⟩=some (.int .u8 (b[j].toNat:Int))
def BN:Value→Option Nat
 |.slice (some a) _ _=>some a.block
 |_=>none
theorem Dat.keep {w w':World}{v:Value}{b:List UInt8}(h:Dat w v b) (hk:∀i,BN v=some i→w'.heap[i]? = w.heap[i]?) (hs:w.heap.size≤w'.heap.size):Dat w' v b:=by
 rcases h with h|⟨g,c,rfl,hc,hg,hi⟩
 ·exact .inl h
 ·exact .inr ⟨g,c,rfl,hc,by omega,fun j hj=>by rw [World.cell?_of_block (w:=w) (a:=⟨g,j,none⟩) (hk g rfl)];exact hi j hj⟩
theorem Dat.lt {w:World}{v:Value}{b:List UInt8}(h:Dat w v b) {i:Nat}(hi:BN v=some i):i<w.heap.size:=by
 rcases h with ⟨_,rfl⟩|⟨g,c,rfl,_,hg,_⟩
 ·cases hi
 ·cases hi;exact hg
def eF (G:Int→Nat) (V:Int→Value) (Z:Int→Nat) (k:Int):Nd→Array Value
 |.dir _=>#[.map (some (G k)),.slice none 0 0,.int .i64 (Z k:Int),.int .i64 0]
 |.file _ h=>#[.map none,V k,.int .i64 (Z k:Int),.int .i64 (h:Int)]
structure dL (w:World) (r gN s:Nat) (T:Wd) (Z:Int→Nat) (B G:Int→Nat) (V:Int→Value) (O:Nat→Prop):Prop where
 head:w.heap[r]? = some (.cells #[.map (some gN)] 104)
 map:aK w gN s (fun k=>(T k).map (fun _=>wp (B k)))
 node:∀k nd,T k=some nd→w.heap[B k]? = some (.cells (eF G V Z k nd) 162)
 ll:∀k C,T k=some (.dir C)→SMap w (G k) C.length (fun nm=>(C.lookup nm).map (.int .i64 ·))
 data:∀k b h,T k=some (.file b h)→Dat w (V k) b
 sep:∀k C,T k=some (.dir C)→G k≠gN
 inj:∀k k' C C',T k=some (.dir C)→T k'=some (.dir C')→G k=G k'→k=k'
 Nq:∀k k',(T k).isSome=true→(T k').isSome=true→B k=B k'→k=k'
 yE:O r
 sj:O gN
 ownB:∀k,(T k).isSome=true→O (B k)
 nT:∀k C,T k=some (.dir C)→O (G k)
 Fz:∀k b h i,T k=some (.file b h)→BN (V k)=some i→O i
 lt:∀i,O i→i<w.heap.size
section
variable {w w':World}{r gN s:Nat}{T:Wd}{Z:Int→Nat}{B G:Int→Nat}{V:Int→Value}{O:Nat→Prop}
theorem dL.keep (h:dL w r gN s T Z B G V O) (hk:∀i,O i→w'.heap[i]? = w.heap[i]?) (hs:w.heap.size≤w'.heap.size):dL w' r gN s T Z B G V O:=
 ⟨(hk r h.yE).trans h.head,h.map.keep (hk gN h.sj),fun k nd e=>(hk _ (h.ownB k (by rw [e];rfl))).trans (h.node k nd e),fun k C e=>(h.ll k C e).keep (hk _ (h.nT k C e)),fun k b x e=>(h.data k b x e).keep (fun i hi=>hk i (h.Fz k b x i e hi)) hs,h.sep,h.inj,h.Nq,h.yE,h.sj,h.ownB,h.nT,h.Fz,fun i hi=>Nat.lt_of_lt_of_le (h.lt i hi) hs⟩
theorem dL.below (h:dL w r gN s T Z B G V O) (hb:Below w.heap.size w w'):dL w' r gN s T Z B G V O:=h.keep (fun i ht=>hb.block i (h.lt i ht)) hb.size
theorem dL.drew (h:dL w r gN s T Z B G V O) (q:Nat):dL (w.drewN q) r gN s T Z B G V O:=h.keep (fun _ _=>rfl) (Nat.le_refl _)
theorem dL.c0 (h:dL w r gN s T Z B G V O):w.cell? ⟨r,0,none⟩=some (.map (some gN)):=by rw [cell_of_row w r 0 _ _ _ h.head];rfl
theorem dL.yK (h:dL w r gN s T Z B G V O) {k:Int}{C:List (Nm×Int)}(e:T k=some (.dir C)):w.cell? ⟨B k,0,none⟩=some (.map (some (G k)))∧w.cell? ⟨B k,1,none⟩=some (.slice none 0 0)∧w.cell? ⟨B k,2,none⟩=some (.int .i64 (Z k:Int))∧w.cell? ⟨B k,3,none⟩=some (.int .i64 0):=by
 refine ⟨?_,?_,?_,?_⟩<;>(rw [cell_of_row w (B k) _ _ _ _ (h.node k _ e)];rfl)
theorem dL.ql (h:dL w r gN s T Z B G V O) {k:Int}{b:List UInt8}{x:Nat}(e:T k=some (.file b x)):w.cell? ⟨B k,0,none⟩=some (.map none)∧w.cell? ⟨B k,1,none⟩=some (V k)∧w.cell? ⟨B k,2,none⟩=some (.int .i64 (Z k:Int))∧w.cell? ⟨B k,3,none⟩=some (.int .i64 (x:Int)):=by
 refine ⟨?_,?_,?_,?_⟩<;>(rw [cell_of_row w (B k) _ _ _ _ (h.node k _ e)];rfl)
theorem dL.ru (h:dL w r gN s T Z B G V O) {k:Int}{nd:Nd}(e:T k=some nd) (j:Nat):w.frozen? ⟨B k,j,none⟩=false:=by simp [World.frozen?,h.node k nd e]
theorem JJ (w:World):(zeroValue 100).run Tryz.prog w=.ok (.pointer none) w:=by kernel_rfl
theorem dL.look (h:dL w r gN s T Z B G V O) (n:Int) (hw:(Lit.int .i64 n).wf=true):(Instr.lookup 102 (.map (some gN)) (.int .i64 n) false).run Tryz.prog w=.ok (if (T n).isSome then wp (B n) else .pointer none) w:=by
 rw [h.map.look Tryz.underlying102 (JJ _) n hw]
 cases T n<;>rfl
theorem dL.oC (h:dL w r gN s T Z B G V O):Calls Tryz.prog 142 #[wp r] w fun e w'=>e=.returned (.int .i64 (s:Int))∧w'=w:=by
 have c0:=h.c0
 have hl:=h.map
 go_enter Tryz.func142,Tryz.ntmps142
 go_wp2_with (refine il rfl _ 102 rfl 100 Tryz.underlying102 gN _ _ rfl hl ?_)
 go_ret
 exact ⟨rfl,rfl⟩
theorem abf (g:Nat) (w:World):(binOp BinOp.neq 160 (.map (some g)) (.map none)).run Tryz.prog w=.ok (.bool true) w:=by kernel_rfl
theorem XW (w:World):(binOp BinOp.neq 160 (.map none) (.map none)).run Tryz.prog w=.ok (.bool false) w:=by kernel_rfl
theorem rH {b:Nat}{g:Nat}(h:w.cell? ⟨b,0,none⟩=some (.map (some g))):Calls Tryz.prog 237 #[wp b] w fun e w'=>e=.returned (.bool true)∧w'=w:=by
 have hne:=abf g w
 go_enter Tryz.func237,Tryz.ntmps237
 go_wp2_with fail
 go_ret
 exact ⟨rfl,rfl⟩
theorem u6 {b:Nat}(h:w.cell? ⟨b,0,none⟩=some (.map none)):Calls Tryz.prog 237 #[wp b] w fun e w'=>e=.returned (.bool false)∧w'=w:=by
 have hne:=XW w
 go_enter Tryz.func237,Tryz.ntmps237
 go_wp2_with fail
 go_ret
 exact ⟨rfl,rfl⟩
end
theorem aby (z:List UInt8) (hz:z.length<100000) (w:World) (m:Int) (hm:w.cell? ⟨4,0,none⟩=some (.int .i64 m)) :
 Calls Tryz.prog 334 #[tx z,.string ⟨#[47]⟩] w fun e w'=>e=.returned (.tuple #[tx (Lib.cut z [47]).1,tx (Lib.cut z [47]).2.1,.bool (Lib.cut z [47]).2.2])∧∃n,w'=w.drewN n:=by
 have hs:(⟨z.toArray⟩:ByteArray).size=z.length:=by simp [ByteArray.size]
 exact Any.strings_Cut Tryz.cutL ⟨z.toArray⟩ ⟨#[47]⟩ m w (by rw [hs];omega) hm
theorem Da (w:World) (k j:Nat):(w.drewN k).drewN j=w.drewN (k+j):=by simp [World.drewN,Nat.add_assoc]
theorem UT {q:List UInt8}(h:q≠[]):(Lib.cut q [47]).2.1.length<q.length:=by
 have hp:0<q.length:=List.length_pos_iff.2 h
 unfold Lib.cut
 split
 ·simp only [List.length_drop,List.length_cons,List.length_nil];omega
 ·exact hp
section
variable {w w':World}{r gN s:Nat}{T:Wd}{Z:Int→Nat}{B G:Int→Nat}{V:Int→Value}{O:Nat→Prop}
theorem dL.MI (h:dL w r gN s T Z B G V O) (hT:TrOk T) (hs:1≤s) (q:List UInt8) (l:List Nm) (hq:Jn q l) (hn:∀x∈l,isName x=true) (hql:q.length<100000) (m:Int) (hm:w.cell? ⟨4,0,none⟩=some (.int .i64 m)) :
 Calls Tryz.prog 299 #[wp r,tx q] w fun e w'=>e=.returned (.tuple #[.int .i64 (fJ T 0 l).1,aI (fJ T 0 l).2])∧∃n,w'=w.drewN n:=by
 have hN:=h.oC
 have hs0:((s:Int) == 0)=false:=by simp;omega
 obtain ⟨R,hR⟩:∃R,fJ T 0 l=R:=⟨_,rfl⟩
 rw [hR]
 go_enter Tryz.func299,Tryz.ntmps299
 go_wp2_with (go_at_call 142;refine hN.mono ?_;rintro e w' ⟨rfl,hw'⟩;subst w')
 go_loopg [1,6] q.length (fun mm s1 s6 wr=>∃(q':List UInt8) (l':List Nm) (n:Int) (k:Nat),mm=q'.length∧q'.length≤q.length∧s1=tx q'∧s6=.int .i64 n∧Jn q' l'∧(∀x∈l',isName x=true)∧(T n).isSome=true∧fJ T n l'=R∧wr=w.drewN k)
 case atStart=>exact ⟨q,l,0,0,rfl,Nat.le_refl _,rfl,rfl,hq,hn,by obtain ⟨C,e⟩:=hT.root;rw [e];rfl,hR,rfl⟩
 case round=>
  obtain ⟨q',l',n,k,hmm,hle,rfl,rfl,hj,hnn,hsm,hl,hw⟩:=hrel
  have h1:=h.drew k
  have hm1:(w.drewN k).cell? ⟨4,0,none⟩=some (.int .i64 m):=hm
  rw [←hw] at h1 hm1
  have HW:af3 (wr=w.drewN k):=⟨hw⟩
  clear hw
  have c0:=h1.c0
  have hkey:=hT.key n hsm
  have hwf:(Lit.int .i64 n).wf=true:=gU hkey.1 (by omega)
  have hlk:=h1.look n hwf
  rw [if_pos hsm] at hlk
  cases l' with
  |nil=>
   obtain rfl:=hj.nil
   rw [Po] at hl
   subst hl
   go_wp2_with fail
   go_ret2
   exact ⟨rfl,k,HW.out⟩
  |cons x t=>
   have hqe:(q' == [])=false:=by simp [hj.ne]
   have hx:=hnn x List.mem_cons_self
   obtain ⟨hc1,hc2⟩:=hj.cut (fun y hy=>CS (hnn y (List.mem_cons_of_mem _ hy)))
   have hless:=UT hj.ne
   have hcut:=aby q' (by omega) wr m hm1
   rw [hc1] at hcut
   generalize (Lib.cut q' [47]).2.1=q2 at *
   generalize (Lib.cut q' [47]).2.2=fnd at *
   have hxm:x.length≤maxLen:=by have:=dU hx;unfold maxLen;omega
   by_cases hd:∃C,T n=some (.dir C)
   ·obtain ⟨C,hC⟩:=hd
    obtain ⟨n0,_⟩:=h1.yK hC
    have QB:=rH n0
    have Be:∀j,SMap (wr.drewN j) (G n) C.length (fun nm=>(C.lookup nm).map (.int .i64 ·)):=fun j=>(h1.ll n C hC).keep rfl
    cases hlx:C.lookup x with
    |none=>
     rw [AA _ hC hlx] at hl
     subst hl
     go_wp2_with (first
      |(go_at_call 237;refine QB.mono ?_;rintro e w' ⟨rfl,hw'⟩;subst w')
      |(go_at_call 334;refine hcut.mono ?_;rintro e w' ⟨rfl,j,hw'⟩;subst w';have hSj:=Be j)
      |(at_lookup;refine fZ rfl _ _ 160 rfl 3 Tryz.underlying160 _ (zero_num _) (G n) _ _ rfl hSj x rfl hxm ?_;simp only [hlx,Option.map_none,Option.getD_none,Option.isSome_none]))
     go_ret2
     exact ⟨rfl,k+j,by rw [HW.out];exact Da w k j⟩
    |some n'=>
     rw [Az _ hC hlx] at hl
     have hn':=hT.child n C x n' hC hlx
     have hnt:∀y∈t,isName y=true:=fun y hy=>hnn y (List.mem_cons_of_mem _ hy)
     go_wp2_with (first
      |(go_at_call 237;refine QB.mono ?_;rintro e w' ⟨rfl,hw'⟩;subst w')
      |(go_at_call 334;refine hcut.mono ?_;rintro e w' ⟨rfl,j,hw'⟩;subst w';have hSj:=Be j)
      |(at_lookup;refine fZ rfl _ _ 160 rfl 3 Tryz.underlying160 _ (zero_num _) (G n) _ _ rfl hSj x rfl hxm ?_;simp only [hlx,Option.map_some,Option.getD_some,Option.isSome_some]))
     go_roundg (q2.length)
     case measure=>omega
     case rel=>exact ⟨q2,t,n',k+j,rfl,by omega,rfl,rfl,hc2,hnt,hn',hl,by rw [HW.out];exact Da w k j⟩
   ·rw [AB _ (fun C e=>hd ⟨C,e⟩)] at hl
    subst hl
    obtain ⟨fb,fh,hF⟩:∃fb fh,T n=some (.file fb fh):=by
     cases e:T n with
     |none=>rw [e] at hsm;cases hsm
     |some nd=>cases nd with
      |dir C=>exact absurd ⟨C,e⟩ hd
      |file fb fh=>exact ⟨fb,fh,rfl⟩
    obtain ⟨n0,_⟩:=h1.ql hF
    have QB:=u6 n0
    go_wp2_with (go_at_call 237;refine QB.mono ?_;rintro e w' ⟨rfl,hw'⟩;subst w')
    go_ret2
    exact ⟨rfl,k,HW.out⟩
end
theorem Br (z:List UInt8) (W:World):Calls Tryz.prog 336 #[tx z,.string ⟨#[47]⟩] W fun e w'=>e=.returned (tx (Lib.trimPrefix z [47]))∧w'=W:=
 Any.strings_TrimPrefix Tryz.trimPrefixL ⟨z.toArray⟩ ⟨#[47]⟩ W
theorem Iu (z:List UInt8) (hz:z.length<100000) (W:World):Calls Tryz.prog 335 #[tx z,.int .u8 47] W fun e w'=>e=.returned (.int .i64 (Lib.lastIndexByte ⟨z.toArray⟩ 47))∧w'=W:=by
 have hs:(⟨z.toArray⟩:ByteArray).size=z.length:=by simp [ByteArray.size]
 exact Any.strings_LastIndexByte Tryz.lastByteL ⟨z.toArray⟩ 47 (by rw [hs];omega) W
theorem SH (p:List UInt8) (i:Nat):(Lib.trimPrefix (p.take i) [47]).length≤p.length:=by
 unfold Lib.trimPrefix
 split
 ·simp;omega
 ·simp;omega
section
variable {w w':World}{r gN s:Nat}{T:Wd}{Z:Int→Nat}{B G:Int→Nat}{V:Int→Value}{O:Nat→Prop}
theorem xP {B:Nat}(h:Below B w w'):Below B w w'.drew:=⟨h.os,h.tape,h.output,h.size,h.block⟩
theorem pK {B:Nat}(h:Below B w w') (n:Nat):Below B w (w'.drewN n):=⟨h.os,h.tape,h.output,h.size,h.block⟩
theorem dL.find_ok (h:dL w r gN s T Z B G V O) (hT:TrOk T) (hs:1≤s) (p:List UInt8) (hp:p.length<100000) (m:Int) (hm:w.cell? ⟨4,0,none⟩=some (.int .i64 m)) :
 Calls Tryz.prog 233 #[wp r,tx p] w fun e w'=>e=.returned (.tuple #[.int .i64 (aF T p).1,aI (aF T p).2])∧Below w.heap.size w w':=by
 have hI:=CR p hp w
 cases hn:dW p with
 |none=>
  have e:aF T p=(0,1):=by unfold aF;rw [hn]
  rw [e]
  rw [hn] at hI
  go_enter Tryz.func233,Tryz.ntmps233
  go_wp2_with (go_at_call 298;refine hI.mono ?_;rintro e w1 ⟨rfl,b1⟩)
  go_ret2
  exact ⟨rfl,b1⟩
 |some l=>
  have e:aF T p=fJ T 0 l:=by unfold aF;rw [hn]
  obtain ⟨q,rfl,hj,hnm⟩:=EY hn
  rw [e]
  rw [hn] at hI
  have s1:=uE (47 :: q) 1 (by simp)
  have hd:(47 :: q).drop 1=q:=rfl
  rw [hd] at s1
  have hL:∀w1,Below w.heap.size w w1→_:=fun w1 b1=>(h.below b1).MI hT hs q l hj hnm (by simp at hp;omega) m (aU hm b1)
  have hlen:(1:Int)≤((47 :: q).length:Int):=by simp;omega
  have hex:=Rs (47 :: q) 1
  rw [List.length_cons] at hex
  go_enter Tryz.func233,Tryz.ntmps233
  go_wp2_with (go_at_call 298;refine hI.mono ?_;rintro e w1 ⟨rfl,b1⟩;have hL1:=hL w1 b1)
  refine hL1.mono ?_
  rintro e w2 ⟨rfl,n,hw2⟩
  subst w2
  clear hL1 hI hL
  go_wp2_with fail
  go_ret2
  exact ⟨rfl,pK b1 n⟩
abbrev uj (m:Option Nat) (nm:List UInt8):Value:=.agg #[.map m,tx nm]
theorem aN {W:World}{i:Nat}{a b:Value}(h:W.heap[i]? = some (.cells #[a,b] 283)):W.cell? ⟨i,0,none⟩=some a∧W.cell? ⟨i,1,none⟩=some b∧W.frozen? ⟨i,0,none⟩=false∧W.frozen? ⟨i,1,none⟩=false:=by
 refine ⟨?_,?_,by simp [World.frozen?,h],by simp [World.frozen?,h]⟩<;>(rw [cell_of_row W i _ _ _ _ h];rfl)
theorem jC {W:World}{i:Nat}{a b:Value}(h:W.heap[i]? = some (.cells #[a,b] 283)) (x y:Value):((W.setCell ⟨i,0,none⟩ x).setCell ⟨i,1,none⟩ y).heap[i]? = some (.cells #[x,y] 283):=by
 have h1:=aS W i 0 x _ _ _ h
 have h2:=aS _ i 1 y _ _ _ h1
 rw [h2];rfl
theorem dL.jU (h:dL w r gN s T Z B G V O) (hT:TrOk T) (hs:1≤s) (p:List UInt8) (hp:p.length<100000) (m:Int) (hm:w.cell? ⟨4,0,none⟩=some (.int .i64 m)) :
 Calls Tryz.prog 300 #[wp r,tx p] w fun e w'=>e=.returned (.tuple #[if (ae T p).2.2=0 then uj (some (G (ae T p).1)) (ae T p).2.1 else uj none [],aI (ae T p).2.2])∧Below w.heap.size w w':=by
 have hI:=CR p hp (w.alloc (.cells #[.map none,tx []] 283))
 have bA:Below w.heap.size w (w.alloc (.cells #[.map none,tx []] 283)):=(Below.refl _ _).alloc (Nat.le_refl _) _
 have VN:(w.alloc (.cells #[.map none,tx []] 283)).heap.size=w.heap.size+1:=by simp
 have hblk:∀w1,Below (w.alloc (.cells #[.map none,tx []] 283)).heap.size (w.alloc (.cells #[.map none,tx []] 283)) w1→w1.heap[w.heap.size]? = some (.cells #[.map none,tx []] 283):=fun w1 b1=>(b1.block _ (by rw [VN];omega)).trans (World.alloc_heap_new _ _)
 obtain ⟨R,hR⟩:∃R,ae T p=R:=⟨_,rfl⟩
 rw [hR]
 cases hn:dW p with
 |none=>
  have e:R=(0,[],1):=by rw [←hR];unfold ae;rw [hn]
  subst e
  rw [hn] at hI
  clear hn hR
  go_enter Tryz.func300,Tryz.ntmps300
  go_wp2_with (go_at_call 298;refine hI.mono ?_;rintro e w1 ⟨rfl,b1⟩;obtain ⟨c0,c1,f0,f1⟩:=aN (hblk w1 b1))
  obtain ⟨r0,r1,_,_⟩:=aN (jC (hblk w1 b1) (.map none) (tx []))
  have b9:Below w.heap.size w w1:=bA.trans (b1.mono (by omega))
  refine bodyPost_ret (v:=.tuple #[uj none [],eQ 1]) (by simp [results,Tryz.results300,go_sem,r0,r1]) rfl ⟨rfl,?_⟩
  repeat first|exact b9|refine Below.setCell ?_ (by first|omega|(simp<;>omega)) _
 |some l=>
  rw [hn] at hI
  by_cases h0:p=[47]
  ·have e:R=(0,[],1):=by rw [←hR];unfold ae;rw [h0,vF];rfl
   subst e
   have hq:(p == [47])=true:=by simp [h0]
   clear hn hR h0
   go_enter Tryz.func300,Tryz.ntmps300
   go_wp2_with (go_at_call 298;refine hI.mono ?_;rintro e w1 ⟨rfl,b1⟩;obtain ⟨c0,c1,f0,f1⟩:=aN (hblk w1 b1))
   obtain ⟨r0,r1,_,_⟩:=aN (jC (hblk w1 b1) (.map none) (tx []))
   have b9:Below w.heap.size w w1:=bA.trans (b1.mono (by omega))
   refine bodyPost_ret (v:=.tuple #[uj none [],eQ 1]) (by simp [results,Tryz.results300,go_sem,r0,r1]) rfl ⟨rfl,?_⟩
   repeat first|exact b9|refine Below.setCell ?_ (by first|omega|(simp<;>omega)) _
  ·have hq:(p == [47])=false:=by simp [h0]
   obtain ⟨i,hix,hi,hlast,hj⟩:=EX hn h0
   have hnm:∀x∈l.dropLast,isName x=true:=fun x hx=>rY hn x (List.dropLast_subset l hx)
   have hl0:l≠[]:=by
    obtain ⟨q,_,_,hl,_⟩:=lF hn h0
    exact hl
   have hLB:=Iu p hp
   rw [hix] at hLB
   have hTP:=Br (p.take i)
   have htl:=SH p i
   obtain ⟨N,hN⟩:∃N,fJ T 0 l.dropLast=N:=⟨_,rfl⟩
   have hBs:=hT.lead l.dropLast 0 (by obtain ⟨C,e⟩:=hT.root;rw [e];rfl)
   rw [hN] at hBs
   have hR':R=if N.2≠0 then (0,[],N.2) else match T N.1 with
    |some (.dir _)=>(N.1,p.drop (i+1),0)
    |_=>(0,[],6):=by
    rw [←hR];unfold ae;rw [hn,hlast];simp only [hl0,if_false,hN];rfl
   have hL:∀w1,Below w.heap.size w w1→Calls Tryz.prog 299 #[wp r,tx (Lib.trimPrefix (p.take i) [47])] w1 fun e w'=>e=.returned (.tuple #[.int .i64 N.1,aI N.2])∧∃n,w'=w1.drewN n:=fun w1 b1=>by
    have:=(h.below b1).MI hT hs _ _ hj hnm (by omega) m (aU hm b1)
    rw [hN] at this
    exact this
   have s1:=DZ p i (by omega)
   have s2:=uE p (i+1) (by omega)
   have hex:=ady p i
   have afL:=Rs p (i+1)
   generalize Lib.trimPrefix (p.take i) [47]=tq at *
   obtain ⟨N1,N2⟩:=N
   simp only at hR' hBs hL
   clear hj hnm hlast hix hn hR hN htl
   go_enter Tryz.func300,Tryz.ntmps300
   go_wp2_with (first
    |(go_at_call 298;refine hI.mono ?_;rintro e w1 ⟨rfl,b1⟩;have hb:=hblk w1 b1;have b9:Below w.heap.size w w1:=bA.trans (b1.mono (by omega));have hL1:=hL w1 b9)
    |(go_at_call 335;refine (hLB _).mono ?_;rintro e w' ⟨rfl,hw'⟩;subst w')
    |(go_at_call 336;refine (hTP _).mono ?_;rintro e w' ⟨rfl,hw'⟩;subst w'))
   refine hL1.mono ?_
   rintro e w2 ⟨rfl,nq,hw2⟩
   have hb2:w2.heap[w.heap.size]? = some (.cells #[.map none,tx []] 283):=by rw [hw2];exact hb
   have b2:Below w.heap.size w w2:=by rw [hw2];exact pK b9 nq
   have h2:=h.below b2
   obtain ⟨c0,c1,f0,f1⟩:=aN hb2
   clear hL1 hL hI hb b9 b1 hw2 hblk
   by_cases hz:N2=0
   ·subst hz
    rw [if_neg (fun e=>e rfl)] at hR'
    have hsm:=hBs rfl
    have hkey:=hT.key N1 hsm
    have hwf:(Lit.int .i64 N1).wf=true:=gU hkey.1 (by omega)
    have hlk:=h2.look N1 hwf
    rw [if_pos hsm] at hlk
    have t0:=h2.c0
    rw [aB]
    by_cases hd:∃C,T N1=some (.dir C)
    ·obtain ⟨C,hC⟩:=hd
     rw [hC] at hR'
     subst hR'
     obtain ⟨n0,_⟩:=h2.yK hC
     have QB:=rH n0
     have hile:(i:Int)+1≤(p.length:Int):=by omega
     have s3:∀q,(Instr.slice 9 (tx p) (some (.int .i64 ((i:Int)+1))) none none).run Tryz.prog (w2.drewN q)=.ok (tx (p.drop (i+1))) (w2.drewN q):=fun q=>uE p (i+1) (by omega) _
     clear s2 afL
     have e9:∀q,Below w.heap.size w (w2.drewN q):=fun q=>pK b2 q
     clear hT hm hBs
     go_wp2_with (go_at_call 237;refine QB.mono ?_;rintro e w' ⟨rfl,hw'⟩;subst w')
     have cq:∀q,(w2.drewN q).heap[w.heap.size]? = some (.cells #[.map none,tx []] 283):=fun q=>hb2
     go_region
     go_wp2_with fail
     rw [Rs p (i+1)]
     obtain ⟨r0,r1,_,_⟩:=aN (W:=((w2.setCell ⟨w.heap.size,0,none⟩ (.map (some (G N1)))).setCell ⟨w.heap.size,1,none⟩ (tx (p.drop (i+1)))).drew) (jC hb2 (.map (some (G N1))) (tx (p.drop (i+1))))
     refine bodyPost_ret (v:=.tuple #[uj (some (G N1)) (p.drop (i+1)),.nilIface]) (by simp [results,Tryz.results300,go_sem,r0,r1]) rfl ⟨rfl,xP ?_⟩
     repeat first|exact b2|refine Below.setCell ?_ (by first|omega|(simp<;>omega)) _
    ·obtain ⟨fb,fh,hF⟩:∃fb fh,T N1=some (.file fb fh):=by
      cases e:T N1 with
      |none=>rw [e] at hsm;cases hsm
      |some nd=>cases nd with
       |dir C=>exact absurd ⟨C,e⟩ hd
       |file fb fh=>exact ⟨fb,fh,rfl⟩
     rw [hF] at hR'
     subst hR'
     obtain ⟨n0,_⟩:=h2.ql hF
     have QB:=u6 n0
     go_wp2_with (go_at_call 237;refine QB.mono ?_;rintro e w' ⟨rfl,hw'⟩;subst w')
     obtain ⟨r0,r1,_,_⟩:=aN (jC hb2 (.map none) (tx []))
     refine bodyPost_ret (v:=.tuple #[uj none [],eQ 6]) (by simp [results,Tryz.results300,go_sem,r0,r1]) rfl ⟨rfl,?_⟩
     repeat first|exact b2|refine Below.setCell ?_ (by first|omega|(simp<;>omega)) _
   ·rw [if_pos hz] at hR'
    subst hR'
    have hue:=ax hz
    rw [hue]
    have hres:(if N2=0 then uj (some (G 0)) [] else uj none [])=uj none []:=if_neg hz
    simp only
    clear hres
    go_wp2_with fail
    obtain ⟨r0,r1,_,_⟩:=aN (jC hb2 (.map none) (tx []))
    refine bodyPost_ret (v:=.tuple #[uj none [],eQ N2]) (by simp [results,Tryz.results300,go_sem,r0,r1]) rfl ⟨rfl,?_⟩
    repeat first|exact b2|refine Below.setCell ?_ (by first|omega|(simp<;>omega)) _
end
section
variable {w w':World}{r gN s:Nat}{T:Wd}{Z:Int→Nat}{B G:Int→Nat}{V:Int→Value}{O:Nat→Prop}
theorem q9 {w1:World}(h:Below (w.alloc (.cells #[.map none,tx []] 283)).heap.size (w.alloc (.cells #[.map none,tx []] 283)) w1):w1.heap[w.heap.size]? = some (.cells #[.map none,tx []] 283)∧Below w.heap.size w w1∧w.heap.size<w1.heap.size:=by
 have VN:(w.alloc (.cells #[.map none,tx []] 283)).heap.size=w.heap.size+1:=by simp
 have bA:Below w.heap.size w (w.alloc (.cells #[.map none,tx []] 283)):=(Below.refl _ _).alloc (Nat.le_refl _) _
 exact ⟨(h.block _ (by rw [VN];omega)).trans (World.alloc_heap_new _ _),bA.trans (h.mono (by omega)),by have:=h.size;rw [VN] at this;omega⟩
theorem lZ {W:World}{i:Nat}{c:Array Value}{t:TypeId}(h:W.heap[i]? = some (.cells c t)) (o:Obj):(W.alloc o).heap[i]? = some (.cells c t):=(Below.heap_alloc _ _ _ (Array.getElem?_eq_some_iff.1 h).1).trans h
theorem dL.Cf (h:dL w r gN s T Z B G V O) (hT:TrOk T) (hs:1≤s) (p:List UInt8) (hp:p.length<100000) (m:Int) (hm:w.cell? ⟨4,0,none⟩=some (.int .i64 m)) (hz:(ae T p).2.2≠0) :
 Calls Tryz.prog 257 #[wp r,tx p] w fun e w'=>e=.returned (.tuple #[uj none [],.int .i64 0,eQ (ae T p).2.2])∧Below w.heap.size w w':=by
 have bA:Below w.heap.size w (w.alloc (.cells #[.map none,tx []] 283)):=(Below.refl _ _).alloc (Nat.le_refl _) _
 have hP:=(h.below bA).jU hT hs p hp m (aU hm bA)
 rw [if_neg hz,ax hz] at hP
 generalize (ae T p).2.2=z at *
 go_enter Tryz.func257,Tryz.ntmps257
 go_wp2_with (go_at_call 300;refine hP.mono ?_;rintro e w1 ⟨rfl,b1⟩;obtain ⟨hb,b9,hlt⟩:=q9 b1;obtain ⟨c0,c1,f0,f1⟩:=aN hb)
 obtain ⟨r0,r1,_,_⟩:=aN (lZ (jC hb (.map none) (tx [])) (.cells #[.map none,tx []] 283))
 refine bodyPost_ret (v:=.tuple #[uj none [],.int .i64 0,eQ z]) (by simp [results,Tryz.results257,go_sem,r0,r1]) rfl ⟨rfl,?_⟩
 repeat first|exact b9|refine Below.alloc ?_ (by first|omega|(simp<;>omega)) _|refine Below.setCell ?_ (by first|omega|(simp<;>omega)) _
theorem dL.zV (h:dL w r gN s T Z B G V O) (hT:TrOk T) (hs:1≤s) (p:List UInt8) (hp:p.length<100000) (m:Int) (hm:w.cell? ⟨4,0,none⟩=some (.int .i64 m)) (hz:(ae T p).2.2=0) (hh:og T (ae T p).1 (ae T p).2.1=none) :
 Calls Tryz.prog 257 #[wp r,tx p] w fun e w'=>e=.returned (.tuple #[uj none [],.int .i64 0,eQ 7])∧Below w.heap.size w w':=by
 have bA:Below w.heap.size w (w.alloc (.cells #[.map none,tx []] 283)):=(Below.refl _ _).alloc (Nat.le_refl _) _
 have hP:=(h.below bA).jU hT hs p hp m (aU hm bA)
 rw [if_pos hz,hz,aB] at hP
 obtain ⟨⟨C,hd⟩,hnm⟩:=fu hT hz
 rw [fe hd] at hh
 generalize (ae T p).1=d at *
 generalize (ae T p).2.1=nm at *
 have hnl:=dU hnm
 have hnx:nm.length≤maxLen:=by unfold maxLen;omega
 have Be:∀W,(∀i,O i→W.heap[i]? = w.heap[i]?)→SMap W (G d) C.length (fun nm=>(C.lookup nm).map (.int .i64 ·)):=fun W hk=>(h.ll d C hd).keep (hk _ (h.nT d C hd))
 have hGl:=h.lt _ (h.nT d C hd)
 go_enter Tryz.func257,Tryz.ntmps257
 go_wp2_with (first
  |(go_at_call 300;refine hP.mono ?_;rintro e w1 ⟨rfl,b1⟩;obtain ⟨hb,b9,hlt⟩:=q9 b1;obtain ⟨c0,c1,f0,f1⟩:=aN hb;have hS1:SMap (w1.alloc (.cells #[.map (some (G d)),tx nm] 283)) (G d) C.length (fun nm=>(C.lookup nm).map (.int .i64 ·)):=Be _ (fun i hi=>(Below.heap_alloc _ _ _ (Nat.lt_of_lt_of_le (h.lt i hi) b9.size)).trans (b9.block i (h.lt i hi))))
  |(at_lookup;refine fZ rfl _ _ 160 rfl 3 Tryz.underlying160 _ (zero_num _) (G d) _ _ rfl hS1 nm rfl hnx ?_;simp only [hh,Option.map_none,Option.getD_none,Option.isSome_none]))
 obtain ⟨r0,r1,_,_⟩:=aN (lZ (jC hb (.map none) (tx [])) (.cells #[.map (some (G d)),tx nm] 283))
 refine bodyPost_ret (v:=.tuple #[uj none [],.int .i64 0,eQ 7]) (by simp [results,Tryz.results257,go_sem,r0,r1]) rfl ⟨rfl,?_⟩
 repeat first|exact b9|refine Below.alloc ?_ (by first|omega|(simp<;>omega)) _|refine Below.setCell ?_ (by first|omega|(simp<;>omega)) _
theorem dL.pz (h:dL w r gN s T Z B G V O) (hT:TrOk T) (hs:1≤s) (p:List UInt8) (hp:p.length<100000) (m:Int) (hm:w.cell? ⟨4,0,none⟩=some (.int .i64 m)) (hz:(ae T p).2.2=0) {n:Int}(hh:og T (ae T p).1 (ae T p).2.1=some n) :
 Calls Tryz.prog 257 #[wp r,tx p] w fun e w'=>e=.returned (.tuple #[uj (some (G (ae T p).1)) (ae T p).2.1,.int .i64 n,.nilIface])∧Below w.heap.size w w':=by
 have bA:Below w.heap.size w (w.alloc (.cells #[.map none,tx []] 283)):=(Below.refl _ _).alloc (Nat.le_refl _) _
 have hP:=(h.below bA).jU hT hs p hp m (aU hm bA)
 rw [if_pos hz,hz,aB] at hP
 obtain ⟨⟨C,hd⟩,hnm⟩:=fu hT hz
 rw [fe hd] at hh
 generalize (ae T p).1=d at *
 generalize (ae T p).2.1=nm at *
 have hnl:=dU hnm
 have hnx:nm.length≤maxLen:=by unfold maxLen;omega
 have Be:∀W,(∀i,O i→W.heap[i]? = w.heap[i]?)→SMap W (G d) C.length (fun nm=>(C.lookup nm).map (.int .i64 ·)):=fun W hk=>(h.ll d C hd).keep (hk _ (h.nT d C hd))
 have hGl:=h.lt _ (h.nT d C hd)
 go_enter Tryz.func257,Tryz.ntmps257
 go_wp2_with (first
  |(go_at_call 300;refine hP.mono ?_;rintro e w1 ⟨rfl,b1⟩;obtain ⟨hb,b9,hlt⟩:=q9 b1;obtain ⟨c0,c1,f0,f1⟩:=aN hb;have hS1:SMap (w1.alloc (.cells #[.map (some (G d)),tx nm] 283)) (G d) C.length (fun nm=>(C.lookup nm).map (.int .i64 ·)):=Be _ (fun i hi=>(Below.heap_alloc _ _ _ (Nat.lt_of_lt_of_le (h.lt i hi) b9.size)).trans (b9.block i (h.lt i hi))))
  |(at_lookup;refine fZ rfl _ _ 160 rfl 3 Tryz.underlying160 _ (zero_num _) (G d) _ _ rfl hS1 nm rfl hnx ?_;simp only [hh,Option.map_some,Option.getD_some,Option.isSome_some]))
 obtain ⟨r0,r1,_,_⟩:=aN (lZ (jC hb (.map (some (G d))) (tx nm)) (.cells #[.map (some (G d)),tx nm] 283))
 refine bodyPost_ret (v:=.tuple #[uj (some (G (d))) nm,.int .i64 n,.nilIface]) (by simp [results,Tryz.results257,go_sem,r0,r1]) rfl ⟨rfl,?_⟩
 repeat first|exact b9|refine Below.alloc ?_ (by first|omega|(simp<;>omega)) _|refine Below.setCell ?_ (by first|omega|(simp<;>omega)) _
theorem dL.zK (h:dL w r gN s T Z B G V O) (hT:TrOk T) (hs:1≤s) (p:List UInt8) (hp:p.length<100000) (m:Int) (hm:w.cell? ⟨4,0,none⟩=some (.int .i64 m)) (hz:(ae T p).2.2≠0) :
 Calls Tryz.prog 235 #[wp r,tx p] w fun e w'=>e=.returned (.tuple #[uj none [],eQ (ae T p).2.2])∧Below w.heap.size w w':=by
 have bA:Below w.heap.size w (w.alloc (.cells #[.map none,tx []] 283)):=(Below.refl _ _).alloc (Nat.le_refl _) _
 have hP:=(h.below bA).jU hT hs p hp m (aU hm bA)
 rw [if_neg hz,ax hz] at hP
 generalize (ae T p).2.2=z at *
 go_enter Tryz.func235,Tryz.ntmps235
 go_wp2_with (go_at_call 300;refine hP.mono ?_;rintro e w1 ⟨rfl,b1⟩;obtain ⟨hb,b9,hlt⟩:=q9 b1;obtain ⟨c0,c1,f0,f1⟩:=aN hb)
 obtain ⟨r0,r1,_,_⟩:=aN (lZ (jC hb (.map none) (tx [])) (.cells #[.map none,tx []] 283))
 refine bodyPost_ret (v:=.tuple #[uj none [],eQ z]) (by simp [results,Tryz.results235,go_sem,r0,r1]) rfl ⟨rfl,?_⟩
 repeat first|exact b9|refine Below.alloc ?_ (by first|omega|(simp<;>omega)) _|refine Below.setCell ?_ (by first|omega|(simp<;>omega)) _
theorem dL.tQ (h:dL w r gN s T Z B G V O) (hT:TrOk T) (hs:1≤s) (p:List UInt8) (hp:p.length<100000) (m:Int) (hm:w.cell? ⟨4,0,none⟩=some (.int .i64 m)) (hz:(ae T p).2.2=0) {n:Int}(hh:og T (ae T p).1 (ae T p).2.1=some n) :
 Calls Tryz.prog 235 #[wp r,tx p] w fun e w'=>e=.returned (.tuple #[uj none [],eQ 9])∧Below w.heap.size w w':=by
 have bA:Below w.heap.size w (w.alloc (.cells #[.map none,tx []] 283)):=(Below.refl _ _).alloc (Nat.le_refl _) _
 have hP:=(h.below bA).jU hT hs p hp m (aU hm bA)
 rw [if_pos hz,hz,aB] at hP
 obtain ⟨⟨C,hd⟩,hnm⟩:=fu hT hz
 rw [fe hd] at hh
 generalize (ae T p).1=d at *
 generalize (ae T p).2.1=nm at *
 have hnl:=dU hnm
 have hnx:nm.length≤maxLen:=by unfold maxLen;omega
 have Be:∀W,(∀i,O i→W.heap[i]? = w.heap[i]?)→SMap W (G d) C.length (fun nm=>(C.lookup nm).map (.int .i64 ·)):=fun W hk=>(h.ll d C hd).keep (hk _ (h.nT d C hd))
 have hGl:=h.lt _ (h.nT d C hd)
 go_enter Tryz.func235,Tryz.ntmps235
 go_wp2_with (first
  |(go_at_call 300;refine hP.mono ?_;rintro e w1 ⟨rfl,b1⟩;obtain ⟨hb,b9,hlt⟩:=q9 b1;obtain ⟨c0,c1,f0,f1⟩:=aN hb;have hS1:SMap (w1.alloc (.cells #[.map (some (G d)),tx nm] 283)) (G d) C.length (fun nm=>(C.lookup nm).map (.int .i64 ·)):=Be _ (fun i hi=>(Below.heap_alloc _ _ _ (Nat.lt_of_lt_of_le (h.lt i hi) b9.size)).trans (b9.block i (h.lt i hi))))
  |(at_lookup;refine fZ rfl _ _ 160 rfl 3 Tryz.underlying160 _ (zero_num _) (G d) _ _ rfl hS1 nm rfl hnx ?_;simp only [hh,Option.map_some,Option.getD_some,Option.isSome_some]))
 obtain ⟨r0,r1,_,_⟩:=aN (lZ (jC hb (.map none) (tx [])) (.cells #[.map (some (G d)),tx nm] 283))
 refine bodyPost_ret (v:=.tuple #[uj none [],eQ 9]) (by simp [results,Tryz.results235,go_sem,r0,r1]) rfl ⟨rfl,?_⟩
 repeat first|exact b9|refine Below.alloc ?_ (by first|omega|(simp<;>omega)) _|refine Below.setCell ?_ (by first|omega|(simp<;>omega)) _
theorem dL.nC (h:dL w r gN s T Z B G V O) (hT:TrOk T) (hs:1≤s) (p:List UInt8) (hp:p.length<100000) (m:Int) (hm:w.cell? ⟨4,0,none⟩=some (.int .i64 m)) (hz:(ae T p).2.2=0) (hh:og T (ae T p).1 (ae T p).2.1=none) :
 Calls Tryz.prog 235 #[wp r,tx p] w fun e w'=>e=.returned (.tuple #[uj (some (G ((ae T p).1))) ((ae T p).2.1),.nilIface])∧Below w.heap.size w w':=by
 have bA:Below w.heap.size w (w.alloc (.cells #[.map none,tx []] 283)):=(Below.refl _ _).alloc (Nat.le_refl _) _
 have hP:=(h.below bA).jU hT hs p hp m (aU hm bA)
 rw [if_pos hz,hz,aB] at hP
 obtain ⟨⟨C,hd⟩,hnm⟩:=fu hT hz
 rw [fe hd] at hh
 generalize (ae T p).1=d at *
 generalize (ae T p).2.1=nm at *
 have hnl:=dU hnm
 have hnx:nm.length≤maxLen:=by unfold maxLen;omega
 have Be:∀W,(∀i,O i→W.heap[i]? = w.heap[i]?)→SMap W (G d) C.length (fun nm=>(C.lookup nm).map (.int .i64 ·)):=fun W hk=>(h.ll d C hd).keep (hk _ (h.nT d C hd))
 have hGl:=h.lt _ (h.nT d C hd)
 go_enter Tryz.func235,Tryz.ntmps235
 go_wp2_with (first
  |(go_at_call 300;refine hP.mono ?_;rintro e w1 ⟨rfl,b1⟩;obtain ⟨hb,b9,hlt⟩:=q9 b1;obtain ⟨c0,c1,f0,f1⟩:=aN hb;have hS1:SMap (w1.alloc (.cells #[.map (some (G d)),tx nm] 283)) (G d) C.length (fun nm=>(C.lookup nm).map (.int .i64 ·)):=Be _ (fun i hi=>(Below.heap_alloc _ _ _ (Nat.lt_of_lt_of_le (h.lt i hi) b9.size)).trans (b9.block i (h.lt i hi))))
  |(at_lookup;refine fZ rfl _ _ 160 rfl 3 Tryz.underlying160 _ (zero_num _) (G d) _ _ rfl hS1 nm rfl hnx ?_;simp only [hh,Option.map_none,Option.getD_none,Option.isSome_none]))
 obtain ⟨r0,r1,_,_⟩:=aN (lZ (jC hb (.map (some (G d))) (tx nm)) (.cells #[.map (some (G d)),tx nm] 283))
 refine bodyPost_ret (v:=.tuple #[uj (some (G (d))) (nm),.nilIface]) (by simp [results,Tryz.results235,go_sem,r0,r1]) rfl ⟨rfl,?_⟩
 repeat first|exact b9|refine Below.alloc ?_ (by first|omega|(simp<;>omega)) _|refine Below.setCell ?_ (by first|omega|(simp<;>omega)) _
end
end Go.Proofs.YtippochapiolpaaGreatDoor

/- Paths plainly: a text's parts between slashes; the names of a PATH. -/
import Derived.WalkKit
import Derived.Lib.SplitLaws
import Derived.Lib.IndexLaws
import Derived.Lib.IndexMore
import Derived.Lib.LastIndexByte
import Derived.Lib.FieldsP
import Derived.Lib.TrimU
namespace Go.Proofs.YtippochapiolpaaGreatDoor
open Go.RowKit
abbrev Nm:=List UInt8
abbrev tx (l:List UInt8):Value:=.string ⟨l.toArray⟩
def parts:List UInt8→List Nm
 | []=>[[]]
 |b :: l=>if b=47 then [] :: parts l else match parts l with
  | []=>[[b]]
  |h :: t=>(b :: h) :: t
theorem uX (l:List UInt8):parts l≠[]:=by
 cases l with
 |nil=>simp [parts]
 |cons b l=>
  unfold parts;split
  ·simp
  ·split<;>simp
theorem iw (l:List UInt8):parts (47 :: l)=[] :: parts l:=by simp [parts]
theorem nI {b:UInt8}(l:List UInt8) (h:b≠47) {x:Nm}{t:List Nm}(e:parts l=x :: t):parts (b :: l)=(b :: x) :: t:=by
 rw [parts,if_neg h,e]
def isName (s:Nm):Bool:=decide (1≤s.length) && decide (s.length≤12) && !(s == [46]) && !(s == [46,46])
def dW (p:List UInt8):Option (List Nm):=
 if p=[47] then some [] else match parts p with
 | [] :: x :: t=>if (x :: t).all isName then some (x :: t) else none
 |_=>none
theorem wH:∀(a b:List UInt8),parts (a ++ 47 :: b)=parts a ++ parts b
 | [],b=>by rw [List.nil_append,iw];rfl
 |c :: a,b=>by
  have ih:=wH a b
  by_cases h:c=47
  ·subst h;rw [List.cons_append,iw,iw,ih];rfl
  ·cases e:parts a with
   |nil=>exact absurd e (uX a)
   |cons x t=>
    rw [e] at ih
    rw [List.cons_append,nI _ h (x:=x) (t:=t ++ parts b) (by rw [ih];rfl),nI a h e];rfl
theorem rE:∀ {b:List UInt8},(47:UInt8)∉b→parts b=[b]
 | [],_=>rfl
 |c :: b,h=>by
  have hc:c≠47:=fun e=>h (by rw [e];exact List.mem_cons_self)
  exact nI b hc (rE (fun hm=>h (List.mem_cons_of_mem _ hm)))
theorem yX {l:List UInt8}{c:UInt8}(h:∀k:Nat,l[k]? ≠ some c):c∉l:=fun hm=>by
 obtain ⟨k,hk,e⟩:=List.getElem_of_mem hm
 exact h k (by rw [List.getElem?_eq_getElem hk,e])
theorem zy {l:List UInt8}{i:Nat}{c:UInt8}(h:l[i]? = some c):i<l.length∧l=l.take i ++ c :: l.drop (i+1):=by
 obtain ⟨hi,e⟩:=List.getElem?_eq_some_iff.1 h
 refine ⟨hi,?_⟩
 rw [←e,←List.drop_eq_getElem_cons hi,List.take_append_drop]
theorem Am {l:List UInt8}(h:Lib.indexByte l 47=-1):parts l=[l]:=rE (yX (Lib.indexByte_none h))
theorem Cu {l:List UInt8}{i:Nat}(h:Lib.indexByte l 47=i):i<l.length∧parts l=l.take i :: parts (l.drop (i+1)):=by
 obtain ⟨h1,h2⟩:=Lib.indexByte_some h
 obtain ⟨hi,e⟩:=zy h1
 refine ⟨hi,?_⟩
 have hn:(47:UInt8)∉l.take i:=yX (fun k=>by
  rw [List.getElem?_take]
  split
  ·exact h2 k (by assumption)
  ·simp)
 conv=>lhs;rw [e]
 rw [wH,rE hn];rfl
theorem AL:∀(l:List UInt8) (c:UInt8),Lib.index l [c]=Lib.indexByte l c
 | [],c=>by simp [Lib.index,Lib.indexByte]
 |b :: l,c=>by
  have ih:=AL l c
  by_cases h:b=c
  ·subst h;simp [Lib.index,Lib.indexByte,List.isPrefixOf]
  ·have h':(c == b)=false:=by simp [Ne.symm h]
   have h2:(b == c)=false:=by simp [h]
   rw [Lib.index,Lib.indexByte,ih,h2]
   simp [List.isPrefixOf,h']
def Jn (q:List UInt8) (l:List Nm):Prop:=(q=[]∧l=[])∨(q≠[]∧parts q=l)
theorem Jn.nil {q:List UInt8}(h:Jn q []):q=[]:=by
 rcases h with ⟨h,_⟩|⟨_,h⟩
 ·exact h
 ·exact absurd h (uX q)
theorem Jn.ne {q:List UInt8}{x:Nm}{t:List Nm}(h:Jn q (x :: t)):q≠[]:=by
 rcases h with ⟨_,h⟩|⟨h,_⟩
 ·cases h
 ·exact h
theorem Jn.cut {q:List UInt8}{x:Nm}{t:List Nm}(h:Jn q (x :: t)) (hn:∀y∈t,y≠[]):(Lib.cut q [47]).1=x∧Jn (Lib.cut q [47]).2.1 t:=by
 have hp:parts q=x :: t:=by
  rcases h with ⟨_,h⟩|⟨_,h⟩
  ·cases h
  ·exact h
 unfold Lib.cut
 rw [AL]
 by_cases hm:Lib.indexByte q 47=-1
 ·rw [hm,if_neg (by decide)]
  rw [Am hm] at hp
  cases hp
  exact ⟨rfl,.inl ⟨rfl,rfl⟩⟩
 ·have hge:=Lib.indexByte_ge q 47
  obtain ⟨i,hi⟩:∃i:Nat,Lib.indexByte q 47=i:=⟨(Lib.indexByte q 47).toNat,by omega⟩
  rw [hi,if_pos (by omega)]
  obtain ⟨_,e⟩:=Cu hi
  rw [hp] at e
  injection e with e1 e2
  simp only [Int.toNat_natCast,List.length_cons,List.length_nil]
  refine ⟨e1.symm,.inr ⟨fun h0=>?_,e2.symm⟩⟩
  rw [h0] at e2
  exact hn [] (by rw [e2];simp [parts]) rfl
theorem lF {p:List UInt8}{l:List Nm}(h:dW p=some l) (h0:p≠[47]):∃q,p=47 :: q∧parts q=l∧l≠[]∧∀x∈l,isName x=true:=by
 unfold dW at h
 rw [if_neg h0] at h
 split at h
 ·rename_i x t e
  split at h
  ·rename_i ha
   cases h
   cases p with
   |nil=>simp [parts] at e
   |cons c q=>
    by_cases hc:c=47
    ·subst hc
     rw [iw] at e
     injection e with _ e
     exact ⟨q,rfl,e,by simp,fun x hx=>List.all_eq_true.1 ha x hx⟩
    ·cases e2:parts q with
     |nil=>exact absurd e2 (uX q)
     |cons y s=>rw [nI q hc e2] at e;cases e
  ·cases h
 ·cases h
theorem vF:dW [47]=some []:=rfl
theorem CS {x:Nm}(h:isName x=true):x≠[]:=by
 rintro rfl
 simp [isName] at h
theorem EY {p:List UInt8}{l:List Nm}(h:dW p=some l):∃q,p=47 :: q∧Jn q l∧∀x∈l,isName x=true:=by
 by_cases h0:p=[47]
 ·subst h0
  rw [vF] at h
  cases h
  exact ⟨[],rfl,.inl ⟨rfl,rfl⟩,fun x hx=>by cases hx⟩
 ·obtain ⟨q,rfl,e,hl,hn⟩:=lF h h0
  exact ⟨q,rfl,.inr ⟨fun e0=>h0 (by rw [e0]),e⟩,hn⟩
theorem EX {p:List UInt8}{l:List Nm}(h:dW p=some l) (h0:p≠[47]):∃i:Nat,Lib.lastIndexByte ⟨p.toArray⟩ 47=i∧i<p.length∧p.drop (i+1)=l.getLastD []∧Jn (Lib.trimPrefix (p.take i) [47]) l.dropLast:=by
 obtain ⟨q,rfl,e,hl,hn⟩:=lF h h0
 have hsz:(⟨(47 :: q).toArray⟩:ByteArray).size=(47 :: q).length:=by simp [ByteArray.size]
 have hget:∀j,j<(47 :: q).length→(((⟨(47 :: q).toArray⟩:ByteArray).data[j]!).toNat:Int)=(((47 :: q)[j]?.getD 0).toNat:Int):=fun j hj=>by
  simp [getElem!_def]
  cases (47 :: q)[j]?<;>rfl
 rcases Lib.lastIndexByte_spec ⟨(47 :: q).toArray⟩ 47 with ⟨_,hno⟩|⟨i,hi,hix,hat,haft⟩
 ·exact absurd (by rw [hget 0 (by simp)];rfl) (hno 0 (by rw [hsz];simp))
 ·rw [hsz] at hi haft
  have h47:(47 :: q)[i]? = some 47:=by
   rw [hget i hi] at hat
   rw [List.getElem?_eq_getElem hi] at hat ⊢
   simp only [Option.getD_some] at hat
   congr 1
   exact UInt8.toNat_inj.1 (by have:((47:UInt8).toNat:Int)=47:=rfl;omega)
  obtain ⟨_,hsp⟩:=zy h47
  have hlast:(47:UInt8)∉(47 :: q).drop (i+1):=yX (fun k hk=>by
   rw [List.getElem?_drop] at hk
   have hlt:i+1+k<(47 :: q).length:=(List.getElem?_eq_some_iff.1 hk).1
   refine haft (i+1+k) (by omega) hlt ?_
   rw [hget _ hlt,hk];rfl)
  have hp:parts (47 :: q)=parts ((47 :: q).take i) ++ [(47 :: q).drop (i+1)]:=by
   conv=>lhs;rw [hsp]
   rw [wH,rE hlast]
  rw [iw,e] at hp
  refine ⟨i,hix,hi,?_⟩
  cases i with
  |zero=>
   simp only [List.take_zero,parts,List.singleton_append,List.cons.injEq,true_and] at hp
   rw [hp]
   exact ⟨rfl,.inl ⟨by simp [Lib.trimPrefix,Lib.hasPrefix],rfl⟩⟩
  |succ i=>
   rw [List.take_succ_cons,iw,List.cons_append,List.cons.injEq] at hp
   have hp2:=hp.2
   rw [hp2,List.take_succ_cons]
   rw [List.dropLast_concat,List.getLastD_eq_getLast?,List.getLast?_concat]
   refine ⟨rfl,.inr ⟨fun h0=>?_,?_⟩⟩
   ·have hq:q.take i=[]:=by simpa [Lib.trimPrefix,Lib.hasPrefix,List.isPrefixOf] using h0
    have:([]:Nm)∈l:=by rw [hp2,hq];simp [parts]
    exact CS (hn _ this) rfl
   ·simp [Lib.trimPrefix,Lib.hasPrefix,List.isPrefixOf]
end Go.Proofs.YtippochapiolpaaGreatDoor
namespace Go.Proofs.YtippochapiolpaaGreatDoor
def bL:List UInt8→List (List UInt8)
 | []=>[[]]
 |c :: l=>if c=10 then [] :: bL l else match bL l with
  |x :: t=>(c :: x) :: t
  | []=>[[c]]
theorem GA (l:List UInt8):bL l≠[]:=by
 cases l with
 |nil=>simp [bL]
 |cons c l=>
  unfold bL
  split
  ·simp
  ·split<;>simp
theorem nJ {c:UInt8}(l:List UInt8) (h:c≠10) {x:List UInt8}{t:List (List UInt8)}(e:bL l=x :: t):bL (c :: l)=(c :: x) :: t:=by
 rw [bL,if_neg h,e]
theorem uY (l:List UInt8):bL (10 :: l)=[] :: bL l:=by simp [bL]
theorem wM:∀(a b:List UInt8),bL (a ++ 10 :: b)=bL a ++ bL b
 | [],b=>by rw [List.nil_append,uY];rfl
 |c :: a,b=>by
  have ih:=wM a b
  by_cases h:c=10
  ·subst h;rw [List.cons_append,uY,ih,uY];rfl
  ·cases e:bL a with
   |nil=>exact absurd e (GA a)
   |cons x t=>
    rw [e] at ih
    rw [List.cons_append,nJ _ h (x:=x) (t:=t ++ bL b) (by rw [ih];rfl),nJ a h e];rfl
theorem wL:∀ {b:List UInt8},(10:UInt8)∉b→bL b=[b]
 | [],_=>rfl
 |c :: b,h=>by
  have hc:c≠10:=fun e=>h (by rw [e];exact List.mem_cons_self)
  exact nJ b hc (wL (fun hm=>h (List.mem_cons_of_mem _ hm)))
theorem Km {l:List UInt8}(h:Lib.indexByte l 10=-1):bL l=[l]:=wL (yX (Lib.indexByte_none h))
theorem Pe {l:List UInt8}{i:Nat}(h:Lib.indexByte l 10=i):i<l.length∧bL l=l.take i :: bL (l.drop (i+1)):=by
 obtain ⟨h1,h2⟩:=Lib.indexByte_some h
 obtain ⟨hi,e⟩:=zy h1
 refine ⟨hi,?_⟩
 have hn:(10:UInt8)∉l.take i:=yX (fun k=>by
  rw [List.getElem?_take]
  split
  ·exact h2 k (by assumption)
  ·simp)
 conv=>lhs;rw [e]
 rw [wM,wL hn];rfl
def oh (s:List UInt8):List (List UInt8):=bL (Lib.trimSuffix s [10])
theorem JU (x:List UInt8) (c:UInt8):Lib.hasSuffix (x ++ [c]) [10]=((10:UInt8) == c):=by
 simp [Lib.hasSuffix,List.isSuffixOf,List.isPrefixOf]
theorem zt (x:List UInt8) (c:UInt8):Lib.trimSuffix (x ++ [c]) [10]=if (10:UInt8) == c then x else x ++ [c]:=by
 unfold Lib.trimSuffix
 rw [JU]
 simp
theorem LW (a:List UInt8):Lib.trimSuffix (a ++ [10]) [10]=a:=by
 rw [zt];rfl
theorem SI (a b:List UInt8) (hb:b≠[]):Lib.trimSuffix (a ++ 10 :: b) [10]=a ++ 10 :: Lib.trimSuffix b [10]:=by
 obtain ⟨x,c,rfl⟩:∃x c,b=x ++ [c]:=⟨_,_,(List.dropLast_concat_getLast hb).symm⟩
 rw [show a ++ 10 :: (x ++ [c])=(a ++ 10 :: x) ++ [c] by simp,zt,zt]
 split<;>simp
theorem SN (a b:List UInt8):∃L,oh (a ++ [10] ++ b)=oh (a ++ [10]) ++ L:=by
 unfold oh
 rw [LW]
 by_cases hb:b=[]
 ·subst hb
  exact ⟨[],by rw [List.append_nil,LW,List.append_nil]⟩
 ·exact ⟨_,by rw [List.append_assoc,List.singleton_append,SI a b hb,wM]⟩
def nX (n:Nat):Bool:=n == 32
def yJ (l:List (Nat×Nat)):Nat:=(l.map fun x=>x.2-x.1+1).sum
theorem sW (l:List (Nat×Nat)) (a b:Nat):yJ (l ++ [(a,b)])=yJ l+(b-a+1):=by simp [yJ]
theorem oL (p:Nat→Bool) (s:ByteArray):∀(f pos:Nat) (st:Option Nat) (acc:List (Nat×Nat)),pos≤s.size→s.size≤pos+f→yJ acc≤st.getD pos→(∀a,st=some a→a≤pos)→
 yJ (Lib.closeSpans s (Lib.spansFromP p s f pos st acc))≤s.size+1
 |0,pos,st,acc=>by
  intro h1 h2 h3 h4
  cases st with
  |none=>simp only [Option.getD_none] at h3;simp only [Lib.spansFromP,Lib.closeSpans];omega
  |some a=>
   have:=h4 a rfl
   simp only [Option.getD_some] at h3
   simp only [Lib.spansFromP,Lib.closeSpans,sW];omega
 |f+1,pos,st,acc=>by
  intro h1 h2 h3 h4
  by_cases hlt:pos<s.size
  ·have w1:=Lib.width_pos s pos
   have w2:pos+(Utf8.decode s pos).2≤s.size:=by
    have:=Lib.decodeN_le_n' (s.size-pos) (s.get! pos).toNat (s.get! (pos+1)).toNat (s.get! (pos+2)).toNat (s.get! (pos+3)).toNat (by omega)
    rw [←Lib.decode_at] at this
    omega
   unfold Lib.spansFromP
   rw [if_pos hlt]
   split
   ·cases st with
    |none=>
     simp only [Option.getD_none] at h3
     exact oL p s f _ none acc w2 (by omega) (by simp only [Option.getD_none];omega) (fun a h=>by cases h)
    |some a=>
     have:=h4 a rfl
     simp only [Option.getD_some] at h3
     exact oL p s f _ none _ w2 (by omega) (by rw [sW];simp only [Option.getD_none];omega) (fun a h=>by cases h)
   ·cases st with
    |none=>
     simp only [Option.getD_none] at h3
     exact oL p s f _ (some pos) acc w2 (by omega) (by simp only [Option.getD_some];omega) (fun a h=>by cases h;omega)
    |some a=>
     have:=h4 a rfl
     exact oL p s f _ (some a) acc w2 (by omega) h3 (fun b h=>by cases h;omega)
  ·rw [Lib.spansFromP_end p s _ _ _ _ hlt]
   cases st with
   |none=>simp only [Option.getD_none] at h3;simp only [Lib.closeSpans];omega
   |some a=>
    have:=h4 a rfl
    simp only [Option.getD_some] at h3
    simp only [Lib.closeSpans,sW];omega
def bJ (s:List UInt8):List (List UInt8):=(Lib.goFieldsP nX ⟨s.toArray⟩).map (·.data.toList)
theorem BR (s:List UInt8):((bJ s).map fun w=>w.length+1).sum≤s.length+1:=by
 have hs:(⟨s.toArray⟩:ByteArray).size=s.length:=by simp [ByteArray.size]
 have h:=oL nX ⟨s.toArray⟩ s.length 0 none [] (Nat.zero_le _) (by rw [hs];omega) (by simp [yJ]) (fun a h=>by cases h)
 rw [hs] at h
 refine Nat.le_trans ?_ h
 have e:Lib.closeSpans ⟨s.toArray⟩ (Lib.spansFromP nX ⟨s.toArray⟩ s.length 0 none [])=Lib.spansOfP nX ⟨s.toArray⟩:=by unfold Lib.spansOfP;rw [hs]
 rw [e]
 unfold bJ Lib.goFieldsP yJ
 rw [List.map_map,List.map_map]
 generalize Lib.spansOfP nX ⟨s.toArray⟩=L
 induction L with
 |nil=>simp
 |cons x L ih=>
  simp only [List.map_cons,List.sum_cons]
  refine Nat.add_le_add ?_ ih
  simp only [Function.comp]
  have:((⟨s.toArray⟩:ByteArray).extract x.1 x.2).data.toList.length≤x.2-x.1:=by
   rw [Array.length_toList,ByteArray.data_extract,Array.size_extract]
   omega
  omega
theorem zl {s w:List UInt8}(h:w∈bJ s):w.length≤s.length:=by
 have h1:=BR s
 have h2:∀L:List (List UInt8),w∈L→w.length+1≤(L.map fun w=>w.length+1).sum:=fun L hL=>by
  induction L with
  |nil=>cases hL
  |cons x L ih=>
   simp only [List.map_cons,List.sum_cons]
   rcases List.mem_cons.1 hL with rfl|hL
   ·omega
   ·have:=ih hL;omega
 have:=h2 _ h
 omega
end Go.Proofs.YtippochapiolpaaGreatDoor
namespace Go.Proofs.YtippochapiolpaaGreatDoor
open Go.RowKit
inductive Nd where
 |dir (C:List (Nm×Int))
 |file (b:List UInt8) (h:Nat)
abbrev Wd:=Int→Option Nd
theorem gU {n:Int}(h0:0≤n) (h1:n<1000000):(Lit.int .i64 n).wf=true:=by
 have a:IntKind.max .i64=9223372036854775807:=rfl
 have b:IntKind.min .i64=-9223372036854775808:=rfl
 simp only [Lit.wf,a,b,Bool.and_eq_true,decide_eq_true_eq];omega
def fJ (T:Wd):Int→List Nm→Int×Int
 |a,[]=>(a,0)
 |a,s :: r=>match T a with
  |some (.dir C)=>match C.lookup s with
   |some n=>fJ T n r
   |none=>(0,7)
  |_=>(0,6)
theorem Po (T:Wd) (a:Int):fJ T a []=(a,0):=rfl
theorem Az {T:Wd}{a n:Int}{s:Nm}{C:List (Nm×Int)}(r:List Nm) (h:T a=some (.dir C)) (hl:C.lookup s=some n):fJ T a (s :: r)=fJ T n r:=by rw [fJ,h];simp only [hl]
theorem AA {T:Wd}{a:Int}{s:Nm}{C:List (Nm×Int)}(r:List Nm) (h:T a=some (.dir C)) (hl:C.lookup s=none):fJ T a (s :: r)=(0,7):=by rw [fJ,h];simp only [hl]
theorem AB {T:Wd}{a:Int}{s:Nm}(r:List Nm) (h:∀C,T a≠some (.dir C)):fJ T a (s :: r)=(0,6):=by
 rw [fJ]
 split
 ·rename_i C e;exact absurd e (h C)
 ·rfl
structure TrOk (T:Wd):Prop where
 root:∃C,T 0=some (.dir C)
 key:∀k,(T k).isSome=true→0≤k∧k<64
 nodup:∀k C,T k=some (.dir C)→(C.map (·.1)).Nodup
 child:∀k C s n,T k=some (.dir C)→C.lookup s=some n→(T n).isSome=true
 name:∀k C x,T k=some (.dir C)→x∈C→isName x.1=true
 small:∀k b h,T k=some (.file b h)→b.length≤256∧h≤1000
theorem TrOk.lead {T:Wd}(h:TrOk T):∀(l:List Nm) (a:Int),(T a).isSome=true→(fJ T a l).2=0→(T (fJ T a l).1).isSome=true
 | [],a,ha,_=>ha
 |s :: r,a,ha,he=>by
  by_cases hd:∃C,T a=some (.dir C)
  ·obtain ⟨C,hC⟩:=hd
   cases hl:C.lookup s with
   |none=>rw [AA r hC hl] at he;simp at he
   |some n=>
    rw [Az r hC hl] at he ⊢
    exact TrOk.lead h r n (h.child a C s n hC hl) he
  ·rw [AB r (fun C e=>hd ⟨C,e⟩)] at he;simp at he
end Go.Proofs.YtippochapiolpaaGreatDoor

/- Ours. -/
import Derived.WalkKit
import Derived.Lib.SplitLaws
import Derived.Lib.LastIndexByte
import Derived.Lib.FieldsP
namespace Go.Proofs.YtippochapiolpaaGreatDoor
open Option(getD_none getD_some)
open List(cons_append isPrefixOf map_cons map_map sum_cons)
section
open Go.RowKit
abbrev Nm:=List UInt8
abbrev tx(l:List UInt8):Value:=.string ⟨l.toArray⟩
def parts:List UInt8->List Nm
 | []=>[[]]
 |b::l=>if b=47 then []::parts l else match parts l with
  | []=>[[b]]
  |h::t=>(b::h)::t
theorem uX(l:List UInt8):parts l≠[]:=by
 cases l with
 |nil=>simp[parts]
 |cons b l=>
  unfold parts;split
  ·simp
  ·split<;>simp
theorem iq(l:List UInt8):parts (47::l)=[]::parts l:=by simp[parts]
theorem nI{b:UInt8}(l:List UInt8)(h:b≠47){x:Nm}{t:List Nm}(e:parts l=x::t):parts (b::l)=(b::x)::t:=by
 rw[parts,if_neg h,e]
def isName(s:Nm):Bool:=decide (1<=s.length)&&decide (s.length<=12) && !(s==[46]) && !(s==[46,46])
def dS(p:List UInt8):Option (List Nm):=
 if p=[47] then some [] else match parts p with
 | []::x::t=>if (x::t).all isName then some (x::t) else none
 |_=>none
theorem wH:∀(a b:List UInt8),parts (a++47::b)=parts a++parts b
 | [],b=>by rw[List.nil_append,iq];rfl
 |c::a,b=>by
  have d:=wH a b;by_cases h:c=47
  ·subst h;rw[cons_append,iq,iq,d];rfl
  ·cases e:parts a with
   |nil=>exact absurd e (uX a)
   |cons x t=>
    rw[e] at d;rw[cons_append,nI _ h (x:=x) (t:=t++parts b) (by rw[d];rfl),nI a h e];rfl
theorem rE:∀ {b:List UInt8},(47:UInt8)∉b->parts b=[b]
 | [],_=>rfl
 |c::b,h=>by
  have d:c≠47:=fun e=>h (by rw[e];exact List.mem_cons_self);exact nI b d (rE (fun a=>h (List.mem_cons_of_mem _ a)))
theorem yX{l:List UInt8}{c:UInt8}(h:∀k:Nat,l[k]? ≠ some c):c∉l:=fun a=>by
 obtain⟨k,b,e⟩:=List.getElem_of_mem a;exact h k (by rw[List.getElem?_eq_getElem b,e])
theorem zy{l:List UInt8}{i:Nat}{c:UInt8}(h:l[i]? = some c):i<l.length/\l=l.take i++c::l.drop (i+1):=by
 obtain⟨a,e⟩:=List.getElem?_eq_some_iff.1 h;refine⟨a,?_⟩;rw[<-e,<-List.drop_eq_getElem_cons a,List.take_append_drop]
theorem Am{l:List UInt8}(h:Lib.indexByte l 47=-1):parts l=[l]:=rE (yX (Lib.indexByte_none h))
theorem Cu{l:List UInt8}{i:Nat}(h:Lib.indexByte l 47=i):i<l.length/\parts l=l.take i::parts (l.drop (i+1)):=by
 obtain⟨d,c⟩:=Lib.indexByte_some h;obtain⟨b,e⟩:=zy d;refine⟨b,?_⟩;have a:(47:UInt8)∉l.take i:=yX (fun k=>by
  rw[List.getElem?_take];split
  ·exact c k (by assumption)
  ·simp)
 conv=>lhs;rw[e]
 rw[wH,rE a];rfl
theorem AL:∀(l:List UInt8) (c:UInt8),Lib.index l [c]=Lib.indexByte l c
 | [],c=>by simp[Lib.index,Lib.indexByte]
 |b::l,c=>by
  have a:=AL l c;by_cases h:b=c
  ·subst h;simp[Lib.index,Lib.indexByte,isPrefixOf]
  ·have e:(c==b)=false:=by simp[Ne.symm h]
   have d:(b==c)=false:=by simp[h]
   rw[Lib.index,Lib.indexByte,a,d];simp[isPrefixOf,e]
def Jn(q:List UInt8)(l:List Nm):Prop:=(q=[]/\l=[])\/(q≠[]/\parts q=l)
theorem Jn.nil{q:List UInt8}(h:Jn q []):q=[]:=by
 rcases h with⟨h,_⟩|⟨_,h⟩
 ·exact h
 ·exact absurd h (uX q)
theorem Jn.ne{q:List UInt8}{x:Nm}{t:List Nm}(h:Jn q (x::t)):q≠[]:=by
 rcases h with⟨_,h⟩|⟨h,_⟩
 ·cases h
 ·exact h
theorem Jn.cut{q:List UInt8}{x:Nm}{t:List Nm}(h:Jn q (x::t))(d:∀y∈t,y≠[]):(Lib.cut q [47]).1=x/\Jn (Lib.cut q [47]).2.1 t:=by
 have a:parts q=x::t:=by
  rcases h with⟨_,h⟩|⟨_,h⟩
  ·cases h
  ·exact h
 unfold Lib.cut;rw[AL];by_cases b:Lib.indexByte q 47=-1
 ·rw[b,if_neg (by decide)];rw[Am b] at a;cases a
  exact⟨rfl,.inl ⟨rfl,rfl⟩⟩
 ·have f:=Lib.indexByte_ge q 47;obtain⟨i,c⟩:∃i:Nat,Lib.indexByte q 47=i:=⟨(Lib.indexByte q 47).toNat,by omega⟩;rw[c,if_pos (by omega)];obtain⟨_,e⟩:=Cu c;rw[a] at e;injection e with e1 e2;simp only[Int.toNat_natCast,List.length_cons,List.length_nil];refine⟨e1.symm,.inr ⟨fun g=>?_,e2.symm⟩⟩;rw[g] at e2;exact d [] (by rw[e2];simp[parts]) rfl
theorem lF{p:List UInt8}{l:List Nm}(h:dS p=some l)(f:p≠[47]):∃q,p=47::q/\parts q=l/\l≠[]/\∀x∈l,isName x=true:=by
 unfold dS at h;rw[if_neg f] at h;split at h
 ·rename_i x t e
  split at h
  ·rename_i d
   cases h
   cases p with
   |nil=>simp[parts] at e
   |cons c q=>
    by_cases a:c=47
    ·subst a;rw[iq] at e;injection e with _ e;exact⟨q,rfl,e,by simp,fun x b=>List.all_eq_true.1 d x b⟩
    ·cases e2:parts q with
     |nil=>exact absurd e2 (uX q)
     |cons y s=>rw[nI q a e2] at e;cases e
  ·cases h
 ·cases h
theorem vF:dS [47]=some []:=rfl
theorem CS{x:Nm}(h:isName x=true):x≠[]:=by
 rintro rfl;simp[isName] at h
theorem EY{p:List UInt8}{l:List Nm}(h:dS p=some l):∃q,p=47::q/\Jn q l/\∀x∈l,isName x=true:=by
 by_cases a:p=[47]
 ·subst a;rw[vF] at h;cases h
  exact⟨[],rfl,.inl ⟨rfl,rfl⟩,fun x b=>by cases b⟩
 ·obtain⟨q,rfl,e,f,c⟩:=lF h a;exact⟨q,rfl,.inr ⟨fun d=>a (by rw[d]),e⟩,c⟩
theorem EX{p:List UInt8}{l:List Nm}(h:dS p=some l)(w:p≠[47]):∃i:Nat,Lib.lastIndexByte ⟨p.toArray⟩ 47=i/\i<p.length/\p.drop (i+1)=l.getLastD []/\Jn (Lib.trimPrefix (p.take i) [47]) l.dropLast:=by
 obtain⟨q,rfl,e,z,y⟩:=lF h w;have f:(⟨(47::q).toArray⟩:ByteArray).size=(47::q).length:=by simp[ByteArray.size]
 have a:∀j,j<(47::q).length->(((⟨(47::q).toArray⟩:ByteArray).data[j]!).toNat:Int)=(((47::q)[j]?.getD 0).toNat:Int):=fun j A=>by
  simp[getElem!_def];cases (47::q)[j]?<;>rfl
 rcases Lib.lastIndexByte_spec ⟨(47::q).toArray⟩ 47 with⟨_,s⟩|⟨i,o,u,d,b⟩
 ·exact absurd (by rw[a 0 (by simp)];rfl) (s 0 (by rw[f];simp))
 ·rw[f] at o b;have v:(47::q)[i]? = some 47:=by
   rw[a i o] at d;rw[List.getElem?_eq_getElem o] at d ⊢;simp only[getD_some] at d;congr 1
   exact UInt8.toNat_inj.1 (by have:((47:UInt8).toNat:Int)=47:=rfl;omega)
  obtain⟨_,r⟩:=zy v;have c:(47:UInt8)∉(47::q).drop (i+1):=yX (fun k t=>by
   rw[List.getElem?_drop] at t;have n:i+1+k<(47::q).length:=(List.getElem?_eq_some_iff.1 t).1;refine b (i+1+k) (by omega) n ?_;rw[a _ n,t];rfl)
  have m:parts (47::q)=parts ((47::q).take i)++[(47::q).drop (i+1)]:=by
   conv=>lhs;rw[r]
   rw[wH,rE c]
  rw[iq,e] at m;refine⟨i,u,o,?_⟩;cases i with
  |zero=>
   simp only[List.take_zero,parts,List.singleton_append,List.cons.injEq,true_and] at m;rw[m];exact⟨rfl,.inl ⟨by simp[Lib.trimPrefix,Lib.hasPrefix],rfl⟩⟩
  |succ i=>
   rw[List.take_succ_cons,iq,cons_append,List.cons.injEq] at m;have g:=m.2;rw[g,List.take_succ_cons];rw[List.dropLast_concat,List.getLastD_eq_getLast?,List.getLast?_concat];refine⟨rfl,.inr ⟨fun w=>?_,?_⟩⟩
   ·have x:q.take i=[]:=by simpa[Lib.trimPrefix,Lib.hasPrefix,isPrefixOf] using w
    have:([]:Nm)∈l:=by rw[g,x];simp[parts]
    exact CS (y _ this) rfl
   ·simp[Lib.trimPrefix,Lib.hasPrefix,isPrefixOf]
end
section
def bL:List UInt8->List (List UInt8)
 | []=>[[]]
 |c::l=>if c=10 then []::bL l else match bL l with
  |x::t=>(c::x)::t
  | []=>[[c]]
theorem GA(l:List UInt8):bL l≠[]:=by
 cases l with
 |nil=>simp[bL]
 |cons c l=>
  unfold bL;split
  ·simp
  ·split<;>simp
theorem nJ{c:UInt8}(l:List UInt8)(h:c≠10){x:List UInt8}{t:List (List UInt8)}(e:bL l=x::t):bL (c::l)=(c::x)::t:=by
 rw[bL,if_neg h,e]
theorem uY(l:List UInt8):bL (10::l)=[]::bL l:=by simp[bL]
theorem wM:∀(a b:List UInt8),bL (a++10::b)=bL a++bL b
 | [],b=>by rw[List.nil_append,uY];rfl
 |c::a,b=>by
  have d:=wM a b;by_cases h:c=10
  ·subst h;rw[cons_append,uY,d,uY];rfl
  ·cases e:bL a with
   |nil=>exact absurd e (GA a)
   |cons x t=>
    rw[e] at d;rw[cons_append,nJ _ h (x:=x) (t:=t++bL b) (by rw[d];rfl),nJ a h e];rfl
theorem wL:∀ {b:List UInt8},(10:UInt8)∉b->bL b=[b]
 | [],_=>rfl
 |c::b,h=>by
  have d:c≠10:=fun e=>h (by rw[e];exact List.mem_cons_self);exact nJ b d (wL (fun a=>h (List.mem_cons_of_mem _ a)))
theorem Km{l:List UInt8}(h:Lib.indexByte l 10=-1):bL l=[l]:=wL (yX (Lib.indexByte_none h))
theorem Pd{l:List UInt8}{i:Nat}(h:Lib.indexByte l 10=i):i<l.length/\bL l=l.take i::bL (l.drop (i+1)):=by
 obtain⟨d,c⟩:=Lib.indexByte_some h;obtain⟨b,e⟩:=zy d;refine⟨b,?_⟩;have a:(10:UInt8)∉l.take i:=yX (fun k=>by
  rw[List.getElem?_take];split
  ·exact c k (by assumption)
  ·simp)
 conv=>lhs;rw[e]
 rw[wM,wL a];rfl
def oh(s:List UInt8):List (List UInt8):=bL (Lib.trimSuffix s [10])
theorem JU(x:List UInt8)(c:UInt8):Lib.hasSuffix (x++[c]) [10]=((10:UInt8)==c):=by
 simp[Lib.hasSuffix,List.isSuffixOf,isPrefixOf]
theorem zt(x:List UInt8)(c:UInt8):Lib.trimSuffix (x++[c]) [10]=if (10:UInt8)==c then x else x++[c]:=by
 unfold Lib.trimSuffix;rw[JU];simp
theorem LV(a:List UInt8):Lib.trimSuffix (a++[10]) [10]=a:=by
 rw[zt];rfl
theorem SH(a b:List UInt8)(d:b≠[]):Lib.trimSuffix (a++10::b) [10]=a++10::Lib.trimSuffix b [10]:=by
 obtain⟨x,c,rfl⟩:∃x c,b=x++[c]:=⟨_,_,(List.dropLast_concat_getLast d).symm⟩;rw[show a++10::(x++[c])=(a++10::x)++[c] by simp,zt,zt];split<;>simp
theorem SL(a b:List UInt8):∃L,oh (a++[10]++b)=oh (a++[10])++L:=by
 unfold oh;rw[LV];by_cases c:b=[]
 ·subst c;exact⟨[],by rw[List.append_nil,LV,List.append_nil]⟩
 ·exact⟨_,by rw[List.append_assoc,List.singleton_append,SH a b c,wM]⟩
def nX(n:Nat):Bool:=n==32
def yJ(l:List (Nat×Nat)):Nat:=(l.map fun x=>x.2-x.1+1).sum
theorem sW(l:List (Nat×Nat))(a b:Nat):yJ (l++[(a,b)])=yJ l+(b-a+1):=by simp[yJ]
theorem oL(p:Nat->Bool)(s:ByteArray):∀(f c:Nat) (st:Option Nat) (d:List (Nat×Nat)),c<=s.size->s.size<=c+f->yJ d<=st.getD c->(∀a,st=some a->a<=c)->
 yJ (Lib.closeSpans s (Lib.spansFromP p s f c st d))<=s.size+1
 |0,c,st,d=>by
  intro l k e i;cases st with
  |none=>simp only[getD_none] at e;simp only[Lib.spansFromP,Lib.closeSpans];omega
  |some a=>
   have:=i a rfl;simp only[getD_some] at e;simp only[Lib.spansFromP,Lib.closeSpans,sW];omega
 |f+1,c,st,d=>by
  intro l k e i;by_cases g:c<s.size
  ·have m:=Lib.width_pos s c;have j:c+(Utf8.decode s c).2<=s.size:=by
    have:=Lib.decodeN_le_n' (s.size-c) (s.get! c).toNat (s.get! (c+1)).toNat (s.get! (c+2)).toNat (s.get! (c+3)).toNat (by omega);rw[<-Lib.decode_at] at this;omega
   unfold Lib.spansFromP;rw[if_pos g];split
   ·cases st with
    |none=>
     simp only[getD_none] at e;exact oL p s f _ none d j (by omega) (by simp only[getD_none];omega) (fun a h=>by cases h)
    |some a=>
     have:=i a rfl;simp only[getD_some] at e;exact oL p s f _ none _ j (by omega) (by rw[sW];simp only[getD_none];omega) (fun a h=>by cases h)
   ·cases st with
    |none=>
     simp only[getD_none] at e;exact oL p s f _ (some c) d j (by omega) (by simp only[getD_some];omega) (fun a h=>by cases h;omega)
    |some a=>
     have:=i a rfl;exact oL p s f _ (some a) d j (by omega) e (fun b h=>by cases h;omega)
  ·rw[Lib.spansFromP_end p s _ _ _ _ g];cases st with
   |none=>simp only[getD_none] at e;simp only[Lib.closeSpans];omega
   |some a=>
    have:=i a rfl;simp only[getD_some] at e;simp only[Lib.closeSpans,sW];omega
def bJ(s:List UInt8):List (List UInt8):=(Lib.goFieldsP nX ⟨s.toArray⟩).map (·.data.toList)
theorem BR(s:List UInt8):((bJ s).map fun w=>w.length+1).sum<=s.length+1:=by
 have b:(⟨s.toArray⟩:ByteArray).size=s.length:=by simp[ByteArray.size]
 have h:=oL nX ⟨s.toArray⟩ s.length 0 none [] (Nat.zero_le _) (by rw[b];omega) (by simp[yJ]) (fun a h=>by cases h);rw[b] at h;refine Nat.le_trans ?_ h;have e:Lib.closeSpans ⟨s.toArray⟩ (Lib.spansFromP nX ⟨s.toArray⟩ s.length 0 none [])=Lib.spansOfP nX ⟨s.toArray⟩:=by unfold Lib.spansOfP;rw[b]
 rw[e];unfold bJ Lib.goFieldsP yJ;rw[map_map,map_map];generalize Lib.spansOfP nX ⟨s.toArray⟩=L;induction L with
 |nil=>simp
 |cons x L ih=>
  simp only[map_cons,sum_cons];refine Nat.add_le_add ?_ ih;simp only[Function.comp];have:((⟨s.toArray⟩:ByteArray).extract x.1 x.2).data.toList.length<=x.2-x.1:=by
   rw[Array.length_toList,ByteArray.data_extract,Array.size_extract];omega
  omega
theorem zl{s w:List UInt8}(h:w∈bJ s):w.length<=s.length:=by
 have c:=BR s;have b:∀L:List (List UInt8),w∈L->w.length+1<=(L.map fun w=>w.length+1).sum:=fun L a=>by
  induction L with
  |nil=>cases a
  |cons x L ih=>
   simp only[map_cons,sum_cons];rcases List.mem_cons.1 a with rfl|a
   ·omega
   ·have:=ih a;omega
 have:=b _ h;omega
end
section
open Go.RowKit
inductive Nd where
 |dir (C:List (Nm×Int))
 |file (b:List UInt8) (h:Nat)
abbrev Wd:=Int->Option Nd
theorem gT{n:Int}(d:0<=n)(c:n<1000000):(Lit.int .i64 n).wf=true:=by
 have a:IntKind.max .i64=9223372036854775807:=rfl;have b:IntKind.min .i64=-9223372036854775808:=rfl;simp only[Lit.wf,a,b,Bool.and_eq_true,decide_eq_true_eq];omega
def fG(T:Wd):Int->List Nm->Int×Int
 |a,[]=>(a,0)
 |a,s::r=>match T a with
  |some (.dir C)=>match C.lookup s with
   |some n=>fG T n r
   |none=>(0,7)
  |_=>(0,6)
theorem Pn(T:Wd)(a:Int):fG T a []=(a,0):=rfl
theorem Az{T:Wd}{a n:Int}{s:Nm}{C:List (Nm×Int)}(r:List Nm)(h:T a=some (.dir C))(b:C.lookup s=some n):fG T a (s::r)=fG T n r:=by rw[fG,h];simp only[b]
theorem AA{T:Wd}{a:Int}{s:Nm}{C:List (Nm×Int)}(r:List Nm)(h:T a=some (.dir C))(b:C.lookup s=none):fG T a (s::r)=(0,7):=by rw[fG,h];simp only[b]
theorem AB{T:Wd}{a:Int}{s:Nm}(r:List Nm)(h:∀C,T a≠some (.dir C)):fG T a (s::r)=(0,6):=by
 rw[fG];split
 ·rename_i C e;exact absurd e (h C)
 ·rfl
structure TrOk (T:Wd):Prop where
 root:∃C,T 0=some (.dir C)
 key:∀k,(T k).isSome=true->0<=k/\k<64
 nodup:∀k C,T k=some (.dir C)->(C.map (·.1)).Nodup
 child:∀k C s n,T k=some (.dir C)->C.lookup s=some n->(T n).isSome=true
 name:∀k C x,T k=some (.dir C)->x∈C->isName x.1=true
 small:∀k b h,T k=some (.file b h)->b.length<=256/\h<=1000
theorem TrOk.lead{T:Wd}(h:TrOk T):∀(l:List Nm) (a:Int),(T a).isSome=true->(fG T a l).2=0->(T (fG T a l).1).isSome=true
 | [],a,ha,_=>ha
 |s::r,a,ha,he=>by
  by_cases c:∃C,T a=some (.dir C)
  ·obtain⟨C,b⟩:=c;cases hl:C.lookup s with
   |none=>rw[AA r b hl] at he;simp at he
   |some n=>
    rw[Az r b hl] at he ⊢;exact TrOk.lead h r n (h.child a C s n b hl) he
  ·rw[AB r (fun C e=>c ⟨C,e⟩)] at he;simp at he
end
end Go.Proofs.YtippochapiolpaaGreatDoor
